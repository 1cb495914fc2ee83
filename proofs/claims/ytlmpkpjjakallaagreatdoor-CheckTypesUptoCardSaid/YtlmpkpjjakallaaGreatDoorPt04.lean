import Derived.Test.YtlmpkpjjakallaaGreatDoorPt02
import Derived.Test.YtlmpkpjjakallaaGreatDoorPt03
import Derived.Maps.AppendAt
import Derived.Deep.AppendLies
import Derived.Deep.RegionLaw
import Derived.RangeFuncRecord
import Derived.Deep.WholeRow
import Derived.Great.BuildSlice
import Derived.WalkLawsBesides
namespace Go.Proofs.YtlmpkpjjakallaaGreatDoor
namespace Char
open Go.RowKit Go.Lib
open Go.Proofs.YtlmpkpjjakallaaGreatDoor.Fig (Nm outT outV decV)
theorem cell_lt {w:World}{a:Addr}{v:Value}(h:w.cell? a=some v):a.block<w.heap.size:=by
 unfold World.cell? at h
 split at h
 ·rename_i hh;exact(Array.getElem?_eq_some_iff.1 hh).1
 ·cases h
theorem heap_set_ne {w:World}{a:Addr}{u:Value}{k:Nat}(h:k≠a.block):(w.setCell a u).heap[k]? =w.heap[k]? :=Below.heap_setCell w a u k h
theorem heap_set_at {w:World}{b i:Nat}{cs:Array Value}{T:TypeId}{u:Value}(h:w.heap[b]? =some (.cells cs T (0,0))):(w.setCell ⟨b,i,none⟩ u).heap[b]? =some (.cells (cs.setIfInBounds i u) T (0,0)):=by
 unfold World.setCell
 dsimp only
 rw[Array.getElem?_modify,if_pos rfl,h]
 rfl
def wdC (w:Wd):List Value:=[.int .i64 (w.k:Int),.string (bs w.s),.int .i64 (outT w.n),.int .i64 (outV w.n)]
def wdV (w:Wd):Value:= .agg #[.int .i64 (w.k:Int),.string (bs w.s),.int .i64 (outT w.n),.int .i64 (outV w.n)]
def wdB (w:Wd):Obj:= .cells #[.int .i64 (w.k:Int),.string (bs w.s),.int .i64 (outT w.n),.int .i64 (outV w.n)] 89
def wd0:Wd:=⟨0,[],.num 0⟩
theorem wd_blk {w:World}{b:Nat}{x:Wd}(h:w.heap[b]? =some (wdB x)):
 (w.cell? ⟨b,0,none⟩=some (.int .i64 (x.k:Int))∧w.cell? ⟨b,1,none⟩=some (.string (bs x.s))∧w.cell? ⟨b,2,none⟩=some (.int .i64 (outT x.n))∧w.cell? ⟨b,3,none⟩=some (.int .i64 (outV x.n)))∧∀i,w.frozen? ⟨b,i,none⟩=false:=by
 unfold wdB at h
 exact⟨⟨by simp[World.cell?,h],by simp[World.cell?,h],by simp[World.cell?,h],by simp[World.cell?,h]⟩,fun i=>by simp[World.frozen?,h]⟩
def set4 (w:World)(b:Nat)(x:Wd):World:=
 (((w.setCell ⟨b,0,none⟩ (.int .i64 (x.k:Int))).setCell ⟨b,1,none⟩ (.string (bs x.s))).setCell ⟨b,2,none⟩ (.int .i64 (outT x.n))).setCell ⟨b,3,none⟩ (.int .i64 (outV x.n))
theorem set4_at {w:World}{b:Nat}{x y:Wd}(h:w.heap[b]? =some (wdB y)):(set4 w b x).heap[b]? =some (wdB x):=by
 unfold set4
 unfold wdB at h ⊢
 have h1:=heap_set_at (i:=0) (u:= .int .i64 (x.k:Int)) h
 have h2:=heap_set_at (i:=1) (u:= .string (bs x.s)) h1
 have h3:=heap_set_at (i:=2) (u:= .int .i64 (outT x.n)) h2
 have h4:=heap_set_at (i:=3) (u:= .int .i64 (outV x.n)) h3
 exact h4.trans (by simp)
theorem set4_ne {w:World}{b k:Nat}{x:Wd}(h:k≠b):(set4 w b x).heap[k]? =w.heap[k]? :=by
 unfold set4
 rw[heap_set_ne (a:=⟨b,3,none⟩) h,heap_set_ne (a:=⟨b,2,none⟩) h,heap_set_ne (a:=⟨b,1,none⟩) h,heap_set_ne (a:=⟨b,0,none⟩) h]
theorem set4_size {w:World}{b:Nat}{x:Wd}:(set4 w b x).heap.size=w.heap.size:=by simp[set4]
theorem set4_below {B b:Nat}{w w':World}{x:Wd}(h:Below B w w')(hb:B≤b):Below B w (set4 w' b x):=
 (((h.setCell (p:=⟨b,0,none⟩) hb _).setCell (p:=⟨b,1,none⟩) hb _).setCell (p:=⟨b,2,none⟩) hb _).setCell (p:=⟨b,3,none⟩) hb _
theorem end_wd2 {fn:Func}{p q:Tmp}(h:fn.results= #[.cell p 89,.tmp q]){a:Act}{R:Ending→World→Prop}(w1:World)(g:Nat){x:Wd}{c:Value}(hk:w1.heap[g]? =some (wdB x))
 (hp:a.tmps.getD p undef= .pointer (some ⟨g,0,none⟩)) (hq:a.tmps.getD q undef=c) (hd:a.defers=[]) (hR:R (.returned (.tuple #[wdV x,c])) w1):bodyPost Tryz.prog fn R .ret a w1:=by
 have hp':a.tmps[p]?.getD undef= .pointer (some ⟨g,0,none⟩):=by simpa using hp
 have hq':a.tmps[q]?.getD undef=c:=by simpa using hq
 obtain⟨⟨a0,a1,a2,a3⟩,_⟩:=wd_blk hk
 unfold wdV at hR
 exact bodyPost_ret (by simp[results,h,hp',hq',go_sem,a0,a1,a2,a3]) hd hR
def WdPost (w:World)(o:Option (Wd×Nat))(e:Ending)(w':World):Prop:=e= .returned (.tuple #[wdV (o.getD (wd0,0)).1,.int .i64 ((o.getD (wd0,0)).2:Int)])∧Below w.heap.size w w'
theorem below_box {w:World}(o:Obj):Below w.heap.size w (w.alloc o):=(Below.refl _ _).alloc (Nat.le_refl _) _
theorem end_word {fn:Func}{p q:Tmp}(h:fn.results= #[.cell p 89,.tmp q]){a:Act}(w w1:World)(o:Option (Wd×Nat)){x y:Wd}{k:Int}(hk:w1.heap[w.heap.size]? =some (wdB y))(hb:Below w.heap.size w w1)
 (hx:(o.getD (wd0,0)).1=x) (hn:((o.getD (wd0,0)).2:Int)=k)
 (hp:a.tmps.getD p undef= .pointer (some ⟨w.heap.size,0,none⟩)) (hq:a.tmps.getD q undef= .int .i64 k) (hd:a.defers=[]):bodyPost Tryz.prog fn (WdPost w o) .ret a (set4 w1 w.heap.size x):=
 end_wd2 h _ w.heap.size (c:= .int .i64 k) (set4_at hk) hp hq hd ⟨by rw[hx,hn],set4_below hb (Nat.le_refl _)⟩
def wdsC (xs:List Wd):List Value:=xs.flatMap wdC
theorem wdsC_snoc (xs:List Wd)(x:Wd):wdsC (xs++[x])=wdsC xs++wdC x:=by simp[wdsC]
theorem wdsC_at:∀(xs:List Wd) (k i:Nat) (h:k<xs.length) (_:i<4),(wdsC xs)[k*4+i]? =(wdC xs[k])[i]?
 |[],k,_,h,_=>by simp at h
 |x::r,0,i,_,hi=>by
  show(wdC x++wdsC r)[0*4+i]? =_
  rw[show 0*4+i=i by omega,List.getElem?_append_left (by show i<4;exact hi)]
  rfl
 |x::r,k+1,i,h,hi=>by
  have ih:=wdsC_at r k i (by simpa using h) hi
  show(wdC x++wdsC r)[(k+1)*4+i]? =_
  rw[List.getElem?_append_right (by show 4≤_;omega),show(k+1)*4+i-(wdC x).length=k*4+i by show(k+1)*4+i-4=_;omega,ih]
  rfl
def OwnsWd (B:Nat)(w:World)(v:Value)(xs:List Wd):Prop:=w.ownsRow B 89 4 v xs.length (wdsC xs)
theorem OwnsWd.nil (B:Nat)(w:World):OwnsWd B w (.slice none 0 0) []:=World.ownsRow_nil _ _ _ _
theorem OwnsWd.keep {B:Nat}{w w':World}{v:Value}{xs:List Wd}(h:OwnsWd B w v xs)(hk:∀g,v.ownBlock=some g→w'.heap[g]? =w.heap[g]?):OwnsWd B w' v xs:=by
 obtain⟨h1,h2⟩:=h
 refine⟨h1,?_⟩
 rcases h2 with h0|⟨g,cap,cur,e1,e2,hg,e3⟩
 ·exact .inl h0
 ·exact .inr ⟨g,cap,cur,e1,e2,(hk g (by rw[e1];rfl)).trans hg,e3⟩
theorem OwnsWd.blk {B:Nat}{w:World}{v:Value}{xs:List Wd}(h:OwnsWd B w v xs){g:Nat}(hg:v.ownBlock=some g):B≤g∧g<w.heap.size:=World.ownsRow.lt h g hg
theorem OwnsWd.below {B:Nat}{w w':World}{v:Value}{xs:List Wd}(h:OwnsWd B w v xs)(hb:Below w.heap.size w w'):OwnsWd B w' v xs:=h.keep fun g hg=>hb.block g (h.blk hg).2
theorem OwnsWd.form {B:Nat}{w:World}{v:Value}{xs:List Wd}(h:OwnsWd B w v xs):∃o j,v= .slice o xs.length j:=by
 rcases h.2 with⟨h0,h1⟩|⟨g,cap,cur,e1,_⟩
 ·exact⟨none,0,by rw[h0,←h1]⟩
 ·exact⟨_,_,e1⟩
theorem OwnsWd.reads {B:Nat}{w:World}{o:Option Addr}{j:Nat}{xs:List Wd}(h:OwnsWd B w (.slice o xs.length j) xs)(k:Nat)(hk:k<xs.length):
 ∃g,o=some ⟨g,0,none⟩∧g<w.heap.size∧w.cell? ⟨g,k*4,none⟩=some (.int .i64 (xs[k].k:Int))∧w.cell? ⟨g,k*4+1,none⟩=some (.string (bs xs[k].s))∧w.cell? ⟨g,k*4+2,none⟩=some (.int .i64 (outT xs[k].n))∧w.cell? ⟨g,k*4+3,none⟩=some (.int .i64 (outV xs[k].n)):=by
 have h0:=h
 rcases h.2 with⟨h1,h2⟩|⟨g,cap,cur,e1,e2,hg,e3⟩
 ·omega
 ·have ho:o=some ⟨g,0,none⟩:=by cases e1;rfl
  have hc:=World.ownsRow.cells h0 (g:=g) (by rw[e1];rfl)
  have key:∀n,n<4→∀u,(wdC xs[k])[n]? =some u→w.cell? ⟨g,k*4+n,none⟩=some u:=fun n hn u hu=>by
   have :=hc (k*4+n) u ((wdsC_at xs k n hk hn).trans hu)
   rwa [Addr.add_lit,Nat.zero_add]at this
  exact⟨g,ho,(Array.getElem?_eq_some_iff.1 hg).1,key 0 (by omega) _ rfl,key 1 (by omega) _ rfl,key 2 (by omega) _ rfl,key 3 (by omega) _ rfl⟩
theorem info_wd:(Tryz.prog.info? 89).map (fun i=>(i.zero,i.size,i.bytes))=some (some (.agg #[.int .i64 0,.string ⟨#[]⟩,.int .i64 0,.int .i64 0]),4,40):=by kernel_rfl
theorem wpList_push {ops:Array Oper}{rest:List Oper}{o:Oper}{a:Act}{Q:Exit→Act→World→Prop}{B:Nat}{W:World}{v:Value}{n size bytes:Nat}{xs:List Value}{e st:TypeId}{z:Value}
 (hi:(Tryz.prog.info? e).map (fun i=>(i.zero,i.size,i.bytes))=some (some z,size,bytes)) (hst:Tryz.prog.underlying st=some (.slice e)) (hzs:z.cells.size=size) (hsz:0<size) (hby:bytes≤1000)
 (hgd:o.guard=none) (s x:Operand) (ho:o.op= .call {callee:= .builtin .append,args:= #[s,x],argTypes:= #[st,st]})
 (cs:List Value) (hcs:cs.length=size) (h1:∀u∈cs,u.oneCell'=true) (hown:W.ownsRow B e size v n xs) (hs:a.eval s=v) (hx:a.eval x= .slice (some ⟨W.heap.size,0,none⟩) 1 1) (hB:B≤W.heap.size) (hlen:n≤10000000)
 (h:∀v' w1,w1.ownsRow B e size v' (n+1) (xs++cs)→Below B W w1→(∀k,k<W.heap.size→some k≠v.ownBlock→w1.heap[k]? =W.heap[k]?)→(∀g,v'.ownBlock=some g→v.ownBlock=some g∨W.heap.size≤g)→wpList Tryz.prog ops Q rest (a.put o.dst v') w1):
 wpList Tryz.prog ops Q (o::rest) a (W.alloc (.cells cs.toArray e)):=by
 obtain⟨i0,hi,hz0,hz1,hz2⟩:=info_parts hi
 refine wpList_append_own_at _ hgd s x st ho B e i0 z size bytes hst hi hz0 hz1 hz2 hzs hsz v n xs hs (World.ownsRow.alloc hown _) ⟨W.heap.size,0,none⟩ 1 1 cs hx (by rw[hcs,Nat.one_mul]) ?_ h1 ?_ ?_ ?_ ?_
 ·intro j u hj
  have hb:=World.alloc_heap_new W (.cells cs.toArray e)
  rw[Addr.add_lit,Nat.zero_add]
  simp only[World.cell?,hb]
  simpa using hj
 ·unfold maxLen;omega
 ·have :(n+1)*bytes≤(n+1)*1000:=Nat.mul_le_mul_left _ hby
  omega
 ·simp;omega
 ·intro v' w1 hown' hgrow _ hloc
  have hsz:=hgrow.size
  rw[World.size_alloc]at hsz
  refine h v' w1 hown' (((Below.refl _ _).alloc hB _).grown hgrow (by simp;omega) (fun k hk=>by
   rcases hown.2 with⟨rfl,_⟩|⟨g,cap,cur,rfl,hg,_⟩
   ·simp[Value.ownBlock]at hk
   ·simp[Value.ownBlock]at hk;omega)) (fun k hk hne=> ?_) (fun g hg=> ?_)
  ·rw[hgrow.block k (by simp;omega) (fun e=>hne e)]
   exact Below.heap_alloc W _ k hk
  ·rcases hloc with hl|hl
   ·exact .inl (by rw[←hl];exact hg)
   ·rw[hl]at hg
    simp at hg
    exact .inr (by omega)
theorem wpList_pushWd {ops:Array Oper}{rest:List Oper}{o:Oper}{a:Act}{Q:Exit→Act→World→Prop}{B:Nat}{W:World}{v:Value}{xs:List Wd}
 (hgd:o.guard=none) (s x:Operand) (ho:o.op= .call {callee:= .builtin .append,args:= #[s,x],argTypes:= #[38,38]})
 (y:Wd) (hown:OwnsWd B W v xs) (hs:a.eval s=v) (hx:a.eval x= .slice (some ⟨W.heap.size,0,none⟩) 1 1) (hB:B≤W.heap.size) (hlen:xs.length≤1000000)
 (h:∀v' w1,OwnsWd B w1 v' (xs++[y])→Below B W w1→(∀k,k<W.heap.size→some k≠v.ownBlock→w1.heap[k]? =W.heap[k]?)→(∀g,v'.ownBlock=some g→v.ownBlock=some g∨W.heap.size≤g)→wpList Tryz.prog ops Q rest (a.put o.dst v') w1):
 wpList Tryz.prog ops Q (o::rest) a (W.alloc (.cells #[.int .i64 (y.k:Int),.string (bs y.s),.int .i64 (outT y.n),.int .i64 (outV y.n)] 89)):=by
 refine wpList_push info_wd Tryz.underlying38 rfl (by decide) (by decide) hgd s x ho (wdC y) rfl ?_ hown hs hx hB (by omega) fun v' w1 h1 h2 h3 h4=> ?_
 ·intro u hu
  simp[wdC]at hu
  rcases hu with rfl|rfl|rfl|rfl<;>rfl
 ·refine h v' w1 ?_ h2 h3 h4
  unfold OwnsWd
  rw[List.length_append,wdsC_snoc]
  exact h1
end Char
namespace Char
open Go.RowKit Go.Lib
def But (R:Nat)(w w':World):Prop:=Below R w w'∧∀k,k<w.heap.size→k≠R→w'.heap[k]? =w.heap[k]?
theorem But.refl (R:Nat)(w:World):But R w w:=⟨Below.refl _ _,fun _ _ _=>rfl⟩
theorem But.trans {R:Nat}{a b c:World}(h:But R a b)(k:But R b c):But R a c:=
 ⟨h.1.trans k.1,fun i hi hr=>(k.2 i (Nat.lt_of_lt_of_le hi h.1.size) hr).trans (h.2 i hi hr)⟩
theorem But.set (R o:Nat)(w:World)(u:Value):But R w (w.setCell ⟨R,o,none⟩ u):=⟨(Below.refl R w).setCell (p:=⟨R,o,none⟩) (Nat.le_refl R) u,fun k _ hr=>Below.heap_setCell w _ u k hr⟩
theorem But.of {R:Nat}{w w':World}(h:Below w.heap.size w w')(hR:R<w.heap.size):But R w w':=⟨h.mono (by omega),fun k hk _=>h.block k hk⟩
theorem But.size {R:Nat}{w w':World}(h:But R w w'):w.heap.size≤w'.heap.size:=h.1.size
theorem But.cell {R:Nat}{w w':World}(h:But R w w'){a:Addr}{v:Value}(hc:w.cell? a=some v)(hr:a.block≠R):w'.cell? a=some v:=
 (World.cell?_of_block (w:=w) (h.2 a.block (cell_lt hc) hr)).trans hc
end Char
namespace Char
open Go.RowKit Go.Lib
mutual
inductive Ex where
 |mk (op:Int) (s:List UInt8) (tg vl:Int) (abs:Bool) (ks:List Ex) (ss:List St)
inductive St where
 |mk (ax tk:Int) (nm:List UInt8) (has:Bool) (ps:List Ex)
end
def Ex.op:Ex→Int| .mk o _ _ _ _ _ _=>o
def Ex.s:Ex→List UInt8| .mk _ s _ _ _ _ _=>s
def Ex.tg:Ex→Int| .mk _ _ t _ _ _ _=>t
def Ex.vl:Ex→Int| .mk _ _ _ v _ _ _=>v
def Ex.abs:Ex→Bool| .mk _ _ _ _ a _ _=>a
def Ex.ks:Ex→List Ex| .mk _ _ _ _ _ k _=>k
def Ex.ss:Ex→List St| .mk _ _ _ _ _ _ s=>s
def St.ax:St→Int| .mk a _ _ _ _=>a
def St.tk:St→Int| .mk _ t _ _ _=>t
def St.nm:St→List UInt8| .mk _ _ n _ _=>n
def St.has:St→Bool| .mk _ _ _ h _=>h
def St.ps:St→List Ex| .mk _ _ _ _ p=>p
def ex0:Ex:= .mk 0 [] 0 0 false [] []
def exC (x:Ex)(vk vs:Value):List Value:=[.int .i64 x.op,.string (bs x.s),.int .i64 x.tg,.int .i64 x.vl,.bool x.abs,vk,vs]
def exV (x:Ex)(vk vs:Value):Value:= .agg #[.int .i64 x.op,.string (bs x.s),.int .i64 x.tg,.int .i64 x.vl,.bool x.abs,vk,vs]
def stpC (x:St)(vp:Value):List Value:=[.int .i64 x.ax,.int .i64 x.tk,.string (bs x.nm),.bool x.has,vp]
def stpV (x:St)(vp:Value):Value:= .agg #[.int .i64 x.ax,.int .i64 x.tk,.string (bs x.nm),.bool x.has,vp]
def ExAt (w:World)(g off:Nat)(x:Ex)(vk vs:Value):Prop:=∀i u,(exC x vk vs)[i]? =some u→w.cell? ⟨g,off+i,none⟩=some u
def StAt (w:World)(g off:Nat)(x:St)(vp:Value):Prop:=∀i u,(stpC x vp)[i]? =some u→w.cell? ⟨g,off+i,none⟩=some u
mutual
def ExOn (w:World)(F:Nat→Prop):Ex→Value→Value→Prop
 | .mk _ _ _ _ _ ks ss,vk,vs=>(∃o j,vk= .slice o ks.length j∧(ks=[]∨∃g off,o=some ⟨g,off,none⟩∧(F g∧ks.length≤j)∧KsOn w F g off ks))∧
   (∃o j,vs= .slice o ss.length j∧(ss=[]∨∃g off,o=some ⟨g,off,none⟩∧(F g∧ss.length≤j)∧SsOn w F g off ss))
def KsOn (w:World)(F:Nat→Prop)(g:Nat):Nat→List Ex→Prop
 |_,[]=>True
 |off,k::ks=>(∃vk vs,ExAt w g off k vk vs∧ExOn w F k vk vs)∧KsOn w F g (off+7) ks
def SsOn (w:World)(F:Nat→Prop)(g:Nat):Nat→List St→Prop
 |_,[]=>True
 |off,k::ks=>(∃vp,StAt w g off k vp∧StOn w F k vp)∧SsOn w F g (off+5) ks
def StOn (w:World)(F:Nat→Prop):St→Value→Prop
 | .mk _ _ _ _ ps,vp=>∃o j,vp= .slice o ps.length j∧(ps=[]∨∃g off,o=some ⟨g,off,none⟩∧(F g∧ps.length≤j)∧KsOn w F g off ps)
end
theorem ExAt.move {w w':World}{g off:Nat}(h:w'.heap[g]? =w.heap[g]?){x:Ex}{vk vs:Value}(hx:ExAt w g off x vk vs):ExAt w' g off x vk vs:=
 fun i u hu=>(World.cell?_of_block (w:=w) (w':=w') (a:=⟨g,off+i,none⟩) h).trans (hx i u hu)
theorem StAt.move {w w':World}{g off:Nat}(h:w'.heap[g]? =w.heap[g]?){x:St}{vp:Value}(hx:StAt w g off x vp):StAt w' g off x vp:=
 fun i u hu=>(World.cell?_of_block (w:=w) (w':=w') (a:=⟨g,off+i,none⟩) h).trans (hx i u hu)
theorem KsOn.lt {w:World}{F:Nat→Prop}{g off:Nat}{ks:List Ex}(hn:ks≠[])(h:KsOn w F g off ks):g<w.heap.size:=by
 cases ks with
 |nil=>exact absurd rfl hn
 |cons k r=>
  rw[KsOn]at h
  obtain⟨⟨vk,vs,h0,_⟩,_⟩:=h
  exact cell_lt (h0 0 _ rfl)
theorem SsOn.lt {w:World}{F:Nat→Prop}{g off:Nat}{ks:List St}(hn:ks≠[])(h:SsOn w F g off ks):g<w.heap.size:=by
 cases ks with
 |nil=>exact absurd rfl hn
 |cons k r=>
  rw[SsOn]at h
  obtain⟨⟨vp,h0,_⟩,_⟩:=h
  exact cell_lt (h0 0 _ rfl)
mutual
theorem ExOn.move {w w':World}{F F':Nat→Prop}(h:∀b,b<w.heap.size→F b→F' b∧w'.heap[b]? =w.heap[b]?):∀(x:Ex) (vk vs:Value),ExOn w F x vk vs→ExOn w' F' x vk vs
 | .mk _ _ _ _ _ ks ss,vk,vs,hn=>by
   rw[ExOn]at hn ⊢
   obtain⟨⟨o,j,e1,e2⟩,⟨o2,j2,e3,e4⟩⟩:=hn
   refine⟨⟨o,j,e1,?_⟩,⟨o2,j2,e3,?_⟩⟩
   ·rcases Classical.em (ks=[]) with hk|hk
    ·exact .inl hk
    ·rcases e2 with e2|⟨g,off,q1,⟨q2,qj⟩,q3⟩
     ·exact .inl e2
     ·obtain⟨k1,k2⟩:=h g (KsOn.lt hk q3) q2
      exact .inr ⟨g,off,q1,⟨k1,qj⟩,KsOn.move h k2 off ks q3⟩
   ·rcases Classical.em (ss=[]) with hk|hk
    ·exact .inl hk
    ·rcases e4 with e4|⟨g,off,q1,⟨q2,qj⟩,q3⟩
     ·exact .inl e4
     ·obtain⟨k1,k2⟩:=h g (SsOn.lt hk q3) q2
      exact .inr ⟨g,off,q1,⟨k1,qj⟩,SsOn.move h k2 off ss q3⟩
theorem KsOn.move {w w':World}{F F':Nat→Prop}(h:∀b,b<w.heap.size→F b→F' b∧w'.heap[b]? =w.heap[b]?){g:Nat}(hg:w'.heap[g]? =w.heap[g]?):∀(off:Nat) (ks:List Ex),KsOn w F g off ks→KsOn w' F' g off ks
 |_,[],_=>by rw[KsOn];trivial
 |off,k::r,hk=>by
  rw[KsOn]at hk ⊢
  obtain⟨⟨va,vk,h1,h2⟩,h3⟩:=hk
  exact⟨⟨va,vk,h1.move hg,ExOn.move h k va vk h2⟩,KsOn.move h hg (off+7) r h3⟩
theorem SsOn.move {w w':World}{F F':Nat→Prop}(h:∀b,b<w.heap.size→F b→F' b∧w'.heap[b]? =w.heap[b]?){g:Nat}(hg:w'.heap[g]? =w.heap[g]?):∀(off:Nat) (ks:List St),SsOn w F g off ks→SsOn w' F' g off ks
 |_,[],_=>by rw[SsOn];trivial
 |off,k::r,hk=>by
  rw[SsOn]at hk ⊢
  obtain⟨⟨va,h1,h2⟩,h3⟩:=hk
  exact⟨⟨va,h1.move hg,StOn.move h k va h2⟩,SsOn.move h hg (off+5) r h3⟩
theorem StOn.move {w w':World}{F F':Nat→Prop}(h:∀b,b<w.heap.size→F b→F' b∧w'.heap[b]? =w.heap[b]?):∀(x:St) (vp:Value),StOn w F x vp→StOn w' F' x vp
 | .mk _ _ _ _ ps,vp,hn=>by
   rw[StOn]at hn ⊢
   obtain⟨o,j,e1,e2⟩:=hn
   refine⟨o,j,e1,?_⟩
   rcases Classical.em (ps=[]) with hk|hk
   ·exact .inl hk
   ·rcases e2 with e2|⟨g,off,q1,⟨q2,qj⟩,q3⟩
    ·exact .inl e2
    ·obtain⟨k1,k2⟩:=h g (KsOn.lt hk q3) q2
     exact .inr ⟨g,off,q1,⟨k1,qj⟩,KsOn.move h k2 off ps q3⟩
end
theorem KsOn.at {w:World}{F:Nat→Prop}{g:Nat}:∀{off:Nat} {ks:List Ex},KsOn w F g off ks→∀k (h:k<ks.length),∃vk vs,ExAt w g (off+k*7) ks[k] vk vs∧ExOn w F ks[k] vk vs
 |_,[],_,k,h=>by cases h
 |off,x::r,hk,0,_=>by
  rw[KsOn]at hk
  simpa using hk.1
 |off,x::r,hk,k+1,h=>by
  rw[KsOn]at hk
  have :=hk.2.at k (by simpa using h)
  rw[show off+(k+1)*7=off+7+k*7 by omega]
  exact this
theorem KsOn.of {w:World}{F:Nat→Prop}{g:Nat}:∀{off:Nat} {ks:List Ex},(∀k (h:k<ks.length),∃vk vs,ExAt w g (off+k*7) ks[k] vk vs∧ExOn w F ks[k] vk vs)→KsOn w F g off ks
 |_,[],_=>by rw[KsOn];trivial
 |off,x::r,h=>by
  rw[KsOn]
  refine⟨by have h0:=h 0 (by simp);simp only[Nat.zero_mul,Nat.add_zero,List.getElem_cons_zero]at h0;exact h0,KsOn.of fun k hk=> ?_⟩
  have :=h (k+1) (by simpa using hk)
  rw[show off+(k+1)*7=off+7+k*7 by omega]at this
  exact this
theorem SsOn.at {w:World}{F:Nat→Prop}{g:Nat}:∀{off:Nat} {ks:List St},SsOn w F g off ks→∀k (h:k<ks.length),∃vp,StAt w g (off+k*5) ks[k] vp∧StOn w F ks[k] vp
 |_,[],_,k,h=>by cases h
 |off,x::r,hk,0,_=>by
  rw[SsOn]at hk
  simpa using hk.1
 |off,x::r,hk,k+1,h=>by
  rw[SsOn]at hk
  have :=hk.2.at k (by simpa using h)
  rw[show off+(k+1)*5=off+5+k*5 by omega]
  exact this
theorem SsOn.of {w:World}{F:Nat→Prop}{g:Nat}:∀{off:Nat} {ks:List St},(∀k (h:k<ks.length),∃vp,StAt w g (off+k*5) ks[k] vp∧StOn w F ks[k] vp)→SsOn w F g off ks
 |_,[],_=>by rw[SsOn];trivial
 |off,x::r,h=>by
  rw[SsOn]
  refine⟨by have h0:=h 0 (by simp);simp only[Nat.zero_mul,Nat.add_zero,List.getElem_cons_zero]at h0;exact h0,SsOn.of fun k hk=> ?_⟩
  have :=h (k+1) (by simpa using hk)
  rw[show off+(k+1)*5=off+5+k*5 by omega]at this
  exact this
def KdOn (w:World)(F:Nat→Prop)(v:Value)(ks:List Ex):Prop:=∃o j,v= .slice o ks.length j∧(ks=[]∨∃g off,o=some ⟨g,off,none⟩∧(F g∧ks.length≤j)∧KsOn w F g off ks)
def SdOn (w:World)(F:Nat→Prop)(v:Value)(ss:List St):Prop:=∃o j,v= .slice o ss.length j∧(ss=[]∨∃g off,o=some ⟨g,off,none⟩∧(F g∧ss.length≤j)∧SsOn w F g off ss)
theorem ExOn.iff {w:World}{F:Nat→Prop}{x:Ex}{vk vs:Value}:ExOn w F x vk vs↔KdOn w F vk x.ks∧SdOn w F vs x.ss:=by
 cases x
 rw[ExOn]
 rfl
theorem StOn.iff {w:World}{F:Nat→Prop}{x:St}{vp:Value}:StOn w F x vp↔KdOn w F vp x.ps:=by
 cases x
 rw[StOn]
 rfl
theorem KdOn.nil (w:World)(F:Nat→Prop):KdOn w F (.slice none 0 0) []:=⟨none,0,rfl,.inl rfl⟩
theorem SdOn.nil (w:World)(F:Nat→Prop):SdOn w F (.slice none 0 0) []:=⟨none,0,rfl,.inl rfl⟩
theorem KdOn.move {w w':World}{F F':Nat→Prop}(h:∀b,b<w.heap.size→F b→F' b∧w'.heap[b]? =w.heap[b]?){v:Value}{ks:List Ex}(hk:KdOn w F v ks):KdOn w' F' v ks:=
 StOn.iff.1 (StOn.move h (.mk 0 0 [] false ks) v (StOn.iff.2 hk))
theorem SdOn.move {w w':World}{F F':Nat→Prop}(h:∀b,b<w.heap.size→F b→F' b∧w'.heap[b]? =w.heap[b]?){v:Value}{ss:List St}(hk:SdOn w F v ss):SdOn w' F' v ss:=
 (ExOn.iff.1 (ExOn.move h (.mk 0 [] 0 0 false [] ss) (.slice none 0 0) v (ExOn.iff.2 ⟨KdOn.nil _ _,hk⟩))).2
theorem ExOn.below {w w':World}{F:Nat→Prop}{x:Ex}{vk vs:Value}(h:ExOn w F x vk vs)(hb:Below w.heap.size w w'):ExOn w' F x vk vs:=
 ExOn.move (fun b hb0 hF=>⟨hF,hb.block b hb0⟩) x vk vs h
theorem ExOn.but {R B:Nat}{w w':World}{x:Ex}{vk vs:Value}(h:ExOn w (B≤ ·) x vk vs)(hb:But R w w')(hR:R<B):ExOn w' (B≤ ·) x vk vs:=
 ExOn.move (fun b hb0 hF=>⟨hF,hb.2 b hb0 (by omega)⟩) x vk vs h
theorem KdOn.but {R B:Nat}{w w':World}{v:Value}{ks:List Ex}(h:KdOn w (B≤ ·) v ks)(hb:But R w w')(hR:R<B):KdOn w' (B≤ ·) v ks:=
 KdOn.move (fun b hb0 hF=>⟨hF,hb.2 b hb0 (by omega)⟩) h
theorem SdOn.but {R B:Nat}{w w':World}{v:Value}{ks:List St}(h:SdOn w (B≤ ·) v ks)(hb:But R w w')(hR:R<B):SdOn w' (B≤ ·) v ks:=
 SdOn.move (fun b hb0 hF=>⟨hF,hb.2 b hb0 (by omega)⟩) h
theorem ExOn.low {B B':Nat}{w:World}{x:Ex}{vk vs:Value}(h:ExOn w (B≤ ·) x vk vs)(hB:B'≤B):ExOn w (B'≤ ·) x vk vs:=
 ExOn.move (fun _ _ hF=>⟨Nat.le_trans hB hF,rfl⟩) x vk vs h
theorem KdOn.low {B B':Nat}{w:World}{v:Value}{ks:List Ex}(h:KdOn w (B≤ ·) v ks)(hB:B'≤B):KdOn w (B'≤ ·) v ks:=
 KdOn.move (fun _ _ hF=>⟨Nat.le_trans hB hF,rfl⟩) h
theorem SdOn.low {B B':Nat}{w:World}{v:Value}{ks:List St}(h:SdOn w (B≤ ·) v ks)(hB:B'≤B):SdOn w (B'≤ ·) v ks:=
 SdOn.move (fun _ _ hF=>⟨Nat.le_trans hB hF,rfl⟩) h
theorem KdOn.form {w:World}{F:Nat→Prop}{v:Value}{ks:List Ex}(h:KdOn w F v ks):∃o j,v= .slice o ks.length j:=by
 obtain⟨o,j,h1,_⟩:=h
 exact⟨o,j,h1⟩
theorem SdOn.form {w:World}{F:Nat→Prop}{v:Value}{ks:List St}(h:SdOn w F v ks):∃o j,v= .slice o ks.length j:=by
 obtain⟨o,j,h1,_⟩:=h
 exact⟨o,j,h1⟩
end Char
namespace Char
open Go.RowKit Go.Lib
mutual
def eqE:Ex→Ex→Bool
 | .mk op s tg vl ab ks ss,b=>(decide (op=b.op)&&decide (s=b.s)&&decide (tg=b.tg∧vl=b.vl)&&decide (ab=b.abs))&&(eqEs ks b.ks&&eqSs ss b.ss)
def eqEs:List Ex→List Ex→Bool
 |[],[]=>true
 |[],_::_=>false
 |_::_,[]=>false
 |k::r,l::s=>eqE k l&&eqEs r s
def eqSs:List St→List St→Bool
 |[],[]=>true
 |[],_::_=>false
 |_::_,[]=>false
 |k::r,l::s=>eqS k l&&eqSs r s
def eqS:St→St→Bool
 | .mk ax tk nm has ps,b=>(decide (ax=b.ax)&&decide (tk=b.tk∧nm=b.nm∧has=b.has))&&eqEs ps b.ps
end
theorem eqE_def (a b:Ex):eqE a b=((decide (a.op=b.op)&&decide (a.s=b.s)&&decide (a.tg=b.tg∧a.vl=b.vl)&&decide (a.abs=b.abs))&&(eqEs a.ks b.ks&&eqSs a.ss b.ss)):=by
 cases a
 rw[eqE]
 rfl
theorem eqS_def (a b:St):eqS a b=((decide (a.ax=b.ax)&&decide (a.tk=b.tk∧a.nm=b.nm∧a.has=b.has))&&eqEs a.ps b.ps):=by
 cases a
 rw[eqS]
 rfl
theorem eqEs_len:∀(k l:List Ex),k.length≠l.length→eqEs k l=false
 |[],[],h=>absurd rfl h
 |[],_::_,_=>by rw[eqEs]
 |_::_,[],_=>by rw[eqEs]
 |k::r,l::s,h=>by
  rw[eqEs,eqEs_len r s (by simpa using h),Bool.and_false]
theorem eqSs_len:∀(k l:List St),k.length≠l.length→eqSs k l=false
 |[],[],h=>absurd rfl h
 |[],_::_,_=>by rw[eqSs]
 |_::_,[],_=>by rw[eqSs]
 |k::r,l::s,h=>by
  rw[eqSs,eqSs_len r s (by simpa using h),Bool.and_false]
theorem eqEs_drop (k l:List Ex)(j:Nat)(h1:j<k.length)(h2:j<l.length):eqEs (k.drop j) (l.drop j)=(eqE k[j] l[j]&&eqEs (k.drop (j+1)) (l.drop (j+1))):=by
 rw[List.drop_eq_getElem_cons h1,List.drop_eq_getElem_cons h2,eqEs]
theorem eqSs_drop (k l:List St)(j:Nat)(h1:j<k.length)(h2:j<l.length):eqSs (k.drop j) (l.drop j)=(eqS k[j] l[j]&&eqSs (k.drop (j+1)) (l.drop (j+1))):=by
 rw[List.drop_eq_getElem_cons h1,List.drop_eq_getElem_cons h2,eqSs]
theorem eqEs_end (k l:List Ex)(h:k.length=l.length):eqEs (k.drop k.length) (l.drop k.length)=true:=by
 rw[List.drop_length,h,List.drop_length,eqEs]
theorem eqSs_end (k l:List St)(h:k.length=l.length):eqSs (k.drop k.length) (l.drop k.length)=true:=by
 rw[List.drop_length,h,List.drop_length,eqSs]
mutual
theorem eqE_self:∀a:Ex,eqE a a=true
 | .mk op s tg vl ab ks ss=>by
   have h1:=eqEs_self ks
   have h2:=eqSs_self ss
   rw[eqE_def]
   simp[Ex.ks,Ex.ss,h1,h2]
theorem eqEs_self:∀k:List Ex,eqEs k k=true
 |[]=>by rw[eqEs]
 |k::r=>by rw[eqEs,eqE_self k,eqEs_self r];rfl
theorem eqSs_self:∀k:List St,eqSs k k=true
 |[]=>by rw[eqSs]
 |k::r=>by rw[eqSs,eqS_self k,eqSs_self r];rfl
theorem eqS_self:∀a:St,eqS a a=true
 | .mk ax tk nm has ps=>by
   have h1:=eqEs_self ps
   rw[eqS_def]
   simp[St.ps,h1]
end
mutual
theorem eqE_eq:∀a b:Ex,eqE a b=true→a=b
 | .mk op s tg vl ab ks ss,.mk op' s' tg' vl' ab' ks' ss',h=>by
   rw[eqE_def]at h
   simp only[Ex.op,Ex.s,Ex.tg,Ex.vl,Ex.abs,Ex.ks,Ex.ss,Bool.and_eq_true]at h
   obtain⟨⟨⟨⟨q1,q2⟩,q3⟩,q4⟩,h1,h2⟩:=h
   obtain rfl:=of_decide_eq_true q1
   obtain rfl:=of_decide_eq_true q2
   obtain⟨rfl,rfl⟩:=of_decide_eq_true q3
   obtain rfl:=of_decide_eq_true q4
   rw[eqEs_eq ks ks' h1,eqSs_eq ss ss' h2]
theorem eqEs_eq:∀k l:List Ex,eqEs k l=true→k=l
 |[],[],_=>rfl
 |[],_::_,h=>by rw[eqEs]at h;cases h
 |_::_,[],h=>by rw[eqEs]at h;cases h
 |k::r,l::s,h=>by
  rw[eqEs,Bool.and_eq_true]at h
  rw[eqE_eq k l h.1,eqEs_eq r s h.2]
theorem eqSs_eq:∀k l:List St,eqSs k l=true→k=l
 |[],[],_=>rfl
 |[],_::_,h=>by rw[eqSs]at h;cases h
 |_::_,[],h=>by rw[eqSs]at h;cases h
 |k::r,l::s,h=>by
  rw[eqSs,Bool.and_eq_true]at h
  rw[eqS_eq k l h.1,eqSs_eq r s h.2]
theorem eqS_eq:∀a b:St,eqS a b=true→a=b
 | .mk ax tk nm has ps,.mk ax' tk' nm' has' ps',h=>by
   rw[eqS_def]at h
   simp only[St.ax,St.tk,St.nm,St.has,St.ps,Bool.and_eq_true]at h
   obtain⟨⟨q1,q2⟩,h1⟩:=h
   obtain rfl:=of_decide_eq_true q1
   obtain⟨rfl,rfl,rfl⟩:=of_decide_eq_true q2
   rw[eqEs_eq ps ps' h1]
end
mutual
def cntE:Ex→Nat
 | .mk _ _ _ _ _ ks ss=>1+cntEs ks+cntSs ss
def cntEs:List Ex→Nat
 |[]=>0
 |k::r=>cntE k+cntEs r
def cntSs:List St→Nat
 |[]=>0
 |k::r=>cntS k+cntSs r
def cntS:St→Nat
 | .mk _ _ _ _ ps=>1+cntEs ps
end
theorem cntE_def (a:Ex):cntE a=1+cntEs a.ks+cntSs a.ss:=by cases a;rw[cntE];rfl
theorem cntS_def (a:St):cntS a=1+cntEs a.ps:=by cases a;rw[cntS];rfl
theorem cntE_pos (a:Ex):1≤cntE a:=by rw[cntE_def];omega
theorem cntEs_at:∀(ks:List Ex) (j:Nat) (h:j<ks.length),cntE ks[j]≤cntEs ks
 |[],j,h=>by cases h
 |x::r,0,_=>by rw[cntEs];simp only[List.getElem_cons_zero];omega
 |x::r,j+1,h=>by
  have :=cntEs_at r j (by simpa using h)
  rw[cntEs]
  simp only[List.getElem_cons_succ]
  omega
theorem cntSs_at:∀(ks:List St) (j:Nat) (h:j<ks.length),cntS ks[j]≤cntSs ks
 |[],j,h=>by cases h
 |x::r,0,_=>by rw[cntSs];simp only[List.getElem_cons_zero];omega
 |x::r,j+1,h=>by
  have :=cntSs_at r j (by simpa using h)
  rw[cntSs]
  simp only[List.getElem_cons_succ]
  omega
theorem cntEs_len:∀ks:List Ex,ks.length≤cntEs ks
 |[]=>by simp
 |x::r=>by
  have :=cntEs_len r
  have :=cntE_pos x
  rw[cntEs,List.length_cons]
  omega
theorem cntSs_len:∀ks:List St,ks.length≤cntSs ks
 |[]=>by simp
 |x::r=>by
  have :=cntSs_len r
  have :=cntS_def x
  rw[cntSs,List.length_cons]
  omega
def okI (i:Int):Prop:= -9223372036854775808≤i∧i<9223372036854775808
mutual
def wfE (N:Nat):Ex→Prop
 | .mk op s tg vl _ ks ss=>(okI op∧okI tg∧okI vl∧s.length≤N∧ks.length≤N∧ss.length≤N)∧wfEs N ks∧wfSs N ss
def wfEs (N:Nat):List Ex→Prop
 |[]=>True
 |k::r=>wfE N k∧wfEs N r
def wfSs (N:Nat):List St→Prop
 |[]=>True
 |k::r=>wfS N k∧wfSs N r
def wfS (N:Nat):St→Prop
 | .mk ax tk nm _ ps=>(okI ax∧okI tk∧nm.length≤N∧ps.length≤N)∧wfEs N ps
end
theorem wfE_def (N:Nat)(a:Ex):wfE N a↔(okI a.op∧okI a.tg∧okI a.vl∧a.s.length≤N∧a.ks.length≤N∧a.ss.length≤N)∧wfEs N a.ks∧wfSs N a.ss:=by cases a;rw[wfE];rfl
theorem wfS_def (N:Nat)(a:St):wfS N a↔(okI a.ax∧okI a.tk∧a.nm.length≤N∧a.ps.length≤N)∧wfEs N a.ps:=by cases a;rw[wfS];rfl
theorem wfEs_at {N:Nat}:∀{ks:List Ex},wfEs N ks→∀(j:Nat) (h:j<ks.length),wfE N ks[j]
 |[],_,j,h=>by cases h
 |x::r,hw,0,_=>by rw[wfEs]at hw;exact hw.1
 |x::r,hw,j+1,h=>by rw[wfEs]at hw;exact wfEs_at hw.2 j (by simpa using h)
theorem wfSs_at {N:Nat}:∀{ks:List St},wfSs N ks→∀(j:Nat) (h:j<ks.length),wfS N ks[j]
 |[],_,j,h=>by cases h
 |x::r,hw,0,_=>by rw[wfSs]at hw;exact hw.1
 |x::r,hw,j+1,h=>by rw[wfSs]at hw;exact wfSs_at hw.2 j (by simpa using h)
theorem wfEs_of {N:Nat}:∀{ks:List Ex},(∀j (h:j<ks.length),wfE N ks[j])→wfEs N ks
 |[],_=>by rw[wfEs];trivial
 |x::r,h=>by
  rw[wfEs]
  exact⟨h 0 (by simp),wfEs_of fun j hj=>h (j+1) (by simpa using hj)⟩
theorem wfSs_of {N:Nat}:∀{ks:List St},(∀j (h:j<ks.length),wfS N ks[j])→wfSs N ks
 |[],_=>by rw[wfSs];trivial
 |x::r,h=>by
  rw[wfSs]
  exact⟨h 0 (by simp),wfSs_of fun j hj=>h (j+1) (by simpa using hj)⟩
mutual
def fewE:Ex→Nat→Int→Option Int
 | .mk _ _ _ _ _ ks ss,d,l=>if d=0∨l≤0 then none else (fewEs ks (d-1) (l-1)).bind fun l1=>(fewSs ss (d-1) l1).bind fun l2=>if 0≤l2 then some l2 else none
def fewEs:List Ex→Nat→Int→Option Int
 |[],_,l=>some l
 |k::r,d,l=>(fewE k d l).bind (fewEs r d)
def fewSs:List St→Nat→Int→Option Int
 |[],_,l=>some l
 |k::r,d,l=>(fewS k d l).bind (fewSs r d)
def fewS:St→Nat→Int→Option Int
 | .mk _ _ _ _ ps,d,l=>fewEs ps d (l-1)
end
theorem fewE_no {x:Ex}{d:Nat}{l:Int}(h:d=0∨l≤0):fewE x d l=none:=by
 cases x
 rw[fewE,if_pos h]
theorem fewE_go {x:Ex}{d:Nat}{l:Int}(h:¬(d=0∨l≤0)):fewE x d l=(fewEs x.ks (d-1) (l-1)).bind fun l1=>(fewSs x.ss (d-1) l1).bind fun l2=>if 0≤l2 then some l2 else none:=by
 cases x
 rw[fewE,if_neg h]
 rfl
theorem fewS_def (x:St)(d:Nat)(l:Int):fewS x d l=fewEs x.ps d (l-1):=by cases x;rw[fewS];rfl
mutual
theorem fewE_cnt:∀(x:Ex) (d:Nat) (l l':Int),fewE x d l=some l'→l'+cntE x=l∧0≤l'
 | .mk op s tg vl ab ks ss,d,l,l',h=>by
   rw[fewE]at h
   split at h
   ·cases h
   ·obtain⟨a,ha,hb⟩:=Option.bind_eq_some_iff.1 h
    obtain⟨b,hc,hd⟩:=Option.bind_eq_some_iff.1 hb
    have h1:=fewEs_cnt ks _ _ _ ha
    have h2:=fewSs_cnt ss _ _ _ hc
    split at hd
    ·cases hd
     rw[cntE]
     omega
    ·cases hd
theorem fewEs_cnt:∀(ks:List Ex) (d:Nat) (l l':Int),fewEs ks d l=some l'→l'+cntEs ks=l∧(l'=l∨0≤l')
 |[],d,l,l',h=>by
  rw[fewEs]at h
  cases h
  rw[cntEs]
  omega
 |k::r,d,l,l',h=>by
  rw[fewEs]at h
  obtain⟨a,ha,hb⟩:=Option.bind_eq_some_iff.1 h
  have h1:=fewE_cnt k _ _ _ ha
  have h2:=fewEs_cnt r _ _ _ hb
  rw[cntEs]
  omega
theorem fewSs_cnt:∀(ks:List St) (d:Nat) (l l':Int),fewSs ks d l=some l'→l'+cntSs ks=l
 |[],d,l,l',h=>by
  rw[fewSs]at h
  cases h
  rw[cntSs]
  omega
 |k::r,d,l,l',h=>by
  rw[fewSs]at h
  obtain⟨a,ha,hb⟩:=Option.bind_eq_some_iff.1 h
  have h1:=fewS_cnt k _ _ _ ha
  have h2:=fewSs_cnt r _ _ _ hb
  rw[cntSs]
  omega
theorem fewS_cnt:∀(x:St) (d:Nat) (l l':Int),fewS x d l=some l'→l'+cntS x=l∧(l'=l-1∨0≤l')
 | .mk _ _ _ _ ps,d,l,l',h=>by
   rw[fewS]at h
   have h1:=fewEs_cnt ps _ _ _ h
   rw[cntS]
   omega
end
def fewB (x:Ex):Bool:=(fewE x 200 1000).isSome
theorem fewB_cnt {x:Ex}(h:fewB x=true):cntE x≤1000:=by
 obtain⟨m,hm⟩:=Option.isSome_iff_exists.1 h
 have :=fewE_cnt x _ _ _ hm
 omega
end Char
namespace Char
open Go.RowKit Go.Lib
def nmAx:List (List UInt8):=[[],[99,104,105,108,100],[100,101,115,99,101,110,100,97,110,116],[112,97,114,101,110,116],[97,110,99,101,115,116,111,114],[102,111,108,108,111,119,105,110,103,45,115,105,98,108,105,110,103],[112,114,101,99,101,100,105,110,103,45,115,105,98,108,105,110,103],[102,111,108,108,111,119,105,110,103],[112,114,101,99,101,100,105,110,103],[97,116,116,114,105,98,117,116,101],[115,101,108,102],[100,101,115,99,101,110,100,97,110,116,45,111,114,45,115,101,108,102],[97,110,99,101,115,116,111,114,45,111,114,45,115,101,108,102]]
def nmX (a:Int):List UInt8:=if a<0 then [] else nmAx.getD a.toNat []
def nmCx:Array Value:=(nmAx.map fun l=>Value.string (bs l)).toArray
def nmDx:Array Value:=(nmAx.tail.map fun l=>Value.string (bs l)).toArray
theorem nmX_no {a:Int}(h:a<0∨13≤a):nmX a=[]:=by
 unfold nmX
 split
 ·rfl
 ·rw[List.getD_eq_getElem?_getD,List.getElem?_eq_none (by show 13≤_;omega)]
  rfl
theorem nmCx_at {a:Int}(h0:0≤a)(h1:a<13):nmCx[a.toNat]? =some (.string (bs (nmX a))):=by
 have hl:a.toNat<nmAx.length:=by show _<13;omega
 unfold nmCx nmX
 rw[if_neg (by omega),List.getElem?_toArray,List.getElem?_map,List.getElem?_eq_getElem hl,List.getD_eq_getElem?_getD,List.getElem?_eq_getElem hl]
 rfl
theorem nmDx_at {a:Int}(h0:1≤a)(h1:a≤12):nmDx[(a-1).toNat]? =some (.string (bs (nmX a))):=by
 have hl:a.toNat<nmAx.length:=by show _<13;omega
 have ht:(a-1).toNat+1=a.toNat:=by omega
 unfold nmDx nmX
 rw[if_neg (by omega),List.getElem?_toArray,List.getElem?_map,List.getElem?_tail,ht,List.getElem?_eq_getElem hl,List.getD_eq_getElem?_getD,List.getElem?_eq_getElem hl]
 rfl
set_option maxRecDepth 100000 in
set_option maxHeartbeats 4000000 in
theorem nameX_any (a:Int)(w:World):
 Calls Tryz.prog 71 #[.int .i64 a] w fun e w'=>e= .returned (.string (bs (nmX a)))∧Below w.heap.size w w':=by
 have hb:=(Below.refl w.heap.size w).alloc (Nat.le_refl _) (.cells nmCx 141)
 have HB:=Lib.hid hb
 clear hb
 by_cases h0:a<0
 ·have k0:decide (a<0)=true:=decide_eq_true h0
  have HX:=Lib.hid (nmX_no (.inl h0))
  go_enter Tryz.func71,Tryz.ntmps71
  go_wp2_with (first
   |((with_reducible refine wpList_buildTo rfl 141 _ rfl _ rfl nmCx (by kernel_rfl) ?_))
   |((with_reducible refine wpList_store_row rfl 141 _ _ rfl w.heap.size nmCx rfl rfl 141 _ (heap_alloc_last w _) (by kernel_rfl) rfl (by kernel_rfl) ?_);rw[World.setRow_alloc_new]))
  go_ret
  exact⟨by rw[HX.out];rfl,HB.out⟩
 ·have k0:decide (a<0)=false:=decide_eq_false h0
  by_cases h1:13≤a
  ·have k1:decide (13≤a)=true:=decide_eq_true h1
   have HX:=Lib.hid (nmX_no (.inr h1))
   go_enter Tryz.func71,Tryz.ntmps71
   go_wp2_with (first
    |((with_reducible refine wpList_buildTo rfl 141 _ rfl _ rfl nmCx (by kernel_rfl) ?_))
    |((with_reducible refine wpList_store_row rfl 141 _ _ rfl w.heap.size nmCx rfl rfl 141 _ (heap_alloc_last w _) (by kernel_rfl) rfl (by kernel_rfl) ?_);rw[World.setRow_alloc_new]))
   go_ret
   exact⟨by rw[HX.out];rfl,HB.out⟩
  ·have k1:decide (13≤a)=false:=decide_eq_false h1
   have hc:(w.alloc (.cells nmCx 141)).cell? ⟨w.heap.size,a.toNat,none⟩=some (.string (bs (nmX a))):=by
    rw[World.cell?_alloc_new]
    exact nmCx_at (by omega) (by omega)
   have hz:0≤a:=by omega
   have hz1:a<13:=by omega
   generalize nmX a=X at *
   go_enter Tryz.func71,Tryz.ntmps71
   go_wp2_with (first
    |((with_reducible refine wpList_buildTo rfl 141 _ rfl _ rfl nmCx (by kernel_rfl) ?_))
    |((with_reducible refine wpList_store_row rfl 141 _ _ rfl w.heap.size nmCx rfl rfl 141 _ (heap_alloc_last w _) (by kernel_rfl) rfl (by kernel_rfl) ?_);rw[World.setRow_alloc_new]))
   go_ret
   exact⟨rfl,HB.out⟩
end Char
namespace Char
open Go.RowKit Go.Lib
def teW (k:Int)(nm:List UInt8)(hs:Bool):Value:= .agg #[.int .i64 k,.string (bs nm),.bool hs]
def rightT (k:Int)(nm:List UInt8)(hs:Bool):Bool:=
 if k=1 then !nm.isEmpty&& !hs else if k=6 then nm.isEmpty||hs else if 2≤k∧k≤5 then nm.isEmpty&& !hs else false
theorem bs_emp (a:List UInt8)(v:Bool)(h:a.isEmpty=v):(bs a).toList.isEmpty=v:=by rw[bs_tl,h]
set_option maxRecDepth 100000 in
set_option maxHeartbeats 4000000 in
theorem rightT_any (k:Int)(nm:List UInt8)(hs:Bool)(w:World):
 Calls Tryz.prog 122 #[teW k nm hs] w fun e w'=>e= .returned (.bool (rightT k nm hs))∧Below w.heap.size w w':=by
 have HB:=Lib.hid fun ob=>(Below.refl _ w).alloc (Nat.le_refl _) ob
 unfold teW
 obtain⟨R,hR⟩:∃R,rightT k nm hs=R:=⟨_,rfl⟩
 rw[hR]
 unfold rightT at hR
 obtain⟨E,hE⟩:∃E,nm.isEmpty=E:=⟨_,rfl⟩
 rw[hE]at hR
 have he:=bs_emp _ _ hE
 clear hE
 by_cases h1:k=1
 ·subst h1
  rw[if_pos rfl]at hR
  have HR:=Lib.hid hR
  clear hR
  cases E<;>cases hs<;>
  ·go_enter Tryz.func122,Tryz.ntmps122
   go_wp2_with fail
   go_ret
   exact⟨by rw[←HR.out];rfl,HB.out _⟩
 ·rw[if_neg h1]at hR
  have k1:(k==1)=false:=beq_eq_false_iff_ne.2 h1
  by_cases h6:k=6
  ·subst h6
   rw[if_pos rfl]at hR
   have HR:=Lib.hid hR
   clear hR h1 k1
   cases E<;>cases hs<;>
   ·go_enter Tryz.func122,Tryz.ntmps122
    go_wp2_with fail
    go_ret
    exact⟨by rw[←HR.out];rfl,HB.out _⟩
  ·rw[if_neg h6]at hR
   have k6:(k==6)=false:=beq_eq_false_iff_ne.2 h6
   by_cases h25:2≤k∧k≤5
   ·rw[if_pos h25]at hR
    have HR:=Lib.hid hR
    have h:k=2∨k=3∨k=4∨k=5:=by omega
    clear hR h1 k1 h6 k6 h25
    rcases h with rfl|rfl|rfl|rfl<;>cases E<;>cases hs<;>
    ·go_enter Tryz.func122,Tryz.ntmps122
     go_wp2_with fail
     go_ret
     exact⟨by rw[←HR.out];rfl,HB.out _⟩
   ·rw[if_neg h25]at hR
    have k2:(k==2)=false:=beq_eq_false_iff_ne.2 (by omega)
    have k3:(k==3)=false:=beq_eq_false_iff_ne.2 (by omega)
    have k4:(k==4)=false:=beq_eq_false_iff_ne.2 (by omega)
    have k5:(k==5)=false:=beq_eq_false_iff_ne.2 (by omega)
    have HR:=Lib.hid hR
    clear hR h1 h6 h25
    go_enter Tryz.func122,Tryz.ntmps122
    go_wp2_with fail
    go_ret
    exact⟨by rw[←HR.out];rfl,HB.out _⟩
end Char
namespace Fig
open Go.Proofs.YtlmpkpjjakallaaGreatDoor.Char Go.RowKit
set_option maxRecDepth 100000 in
set_option maxHeartbeats 2000000 in
theorem sortOf_any (t v:Int)(w:World):
 Calls Tryz.prog 119 #[aggV t v] w fun e w'=>e= .returned (.int .i64 (srt (toD t v):Int))∧Below w.heap.size w w':=by
 have hb:=(Below.refl w.heap.size w).alloc (Nat.le_refl _) (Obj.cells #[.int .i64 t,.int .i64 v] 24)
 unfold aggV
 rcases toD_cases t v with⟨rfl,h2,e,_⟩|⟨rfl,rfl,e,_⟩|⟨rfl,rfl,e,_⟩|⟨rfl,rfl,e,_⟩|⟨h1,h2,h3,h4,e,_⟩
 ·rw[e]
  have hvb:(v== -9223372036854775808)=false:=by rw[beq_eq_false_iff_ne];exact h2
  clear h2 e
  rcases Int.lt_trichotomy v 0 with h|rfl|h
  ·have hs:=srt_neg h
   rw[hs]
   clear hs
   go_enter Tryz.func119,Tryz.ntmps119
   go_wp2_with fail
   go_ret
   exact⟨rfl,hb⟩
  ·go_enter Tryz.func119,Tryz.ntmps119
   go_wp2_with fail
   go_ret
   exact⟨rfl,hb⟩
  ·have hs:=srt_pos h
   rw[hs]
   have hn:¬v<0:=by omega
   clear hs
   go_enter Tryz.func119,Tryz.ntmps119
   go_wp2_with fail
   go_ret
   exact⟨rfl,hb⟩
 ·rw[e]
  clear e
  go_enter Tryz.func119,Tryz.ntmps119
  go_wp2_with fail
  go_ret
  exact⟨rfl,hb⟩
 ·rw[e]
  clear e
  go_enter Tryz.func119,Tryz.ntmps119
  go_wp2_with fail
  go_ret
  exact⟨rfl,hb⟩
 ·rw[e]
  clear e
  go_enter Tryz.func119,Tryz.ntmps119
  go_wp2_with fail
  go_ret
  exact⟨rfl,hb⟩
 ·rw[e]
  clear e
  by_cases ht:t=0
  ·have hv:v= -9223372036854775808:=by omega
   subst ht hv
   clear h1 h2 h3 h4
   go_enter Tryz.func119,Tryz.ntmps119
   go_wp2_with fail
   go_ret
   exact⟨rfl,hb⟩
  ·have htb:(t==0)=false:=by rw[beq_eq_false_iff_ne];exact ht
   have htn:(t != 0)=true:=by simp[ht]
   by_cases ht3:t=3
   ·have hvb:(v==0)=false:=by rw[beq_eq_false_iff_ne];omega
    subst ht3
    clear h1 h2 h3 h4 ht htb htn
    go_enter Tryz.func119,Tryz.ntmps119
    go_wp2_with fail
    go_ret
    exact⟨rfl,hb⟩
   ·by_cases ht2:t=2
    ·have hvb:(v==0)=false:=by rw[beq_eq_false_iff_ne];omega
     subst ht2
     clear h1 h2 h3 h4 ht htb htn ht3
     go_enter Tryz.func119,Tryz.ntmps119
     go_wp2_with fail
     go_ret
     exact⟨rfl,hb⟩
    ·have hb3:(t==3)=false:=by rw[beq_eq_false_iff_ne];exact ht3
     have hb2:(t==2)=false:=by rw[beq_eq_false_iff_ne];exact ht2
     clear h1 h2 h3 h4 ht ht3 ht2
     go_enter Tryz.func119,Tryz.ntmps119
     go_wp2_with fail
     go_ret
     exact⟨rfl,hb⟩
end Fig
namespace Fig
open Go.Proofs.YtlmpkpjjakallaaGreatDoor.Char Go.RowKit
set_option maxRecDepth 100000 in
set_option maxHeartbeats 2000000 in
theorem right_any (t v:Int)(w:World):
 Calls Tryz.prog 67 #[aggV t v] w fun e w'=>e= .returned (.bool (rightB t v))∧Below w.heap.size w w':=by
 have hb:=(Below.refl w.heap.size w).alloc (Nat.le_refl _) (Obj.cells #[.int .i64 t,.int .i64 v] 24)
 have CS:=Lib.hid (sortOf_any t v (w.alloc (Obj.cells #[.int .i64 t,.int .i64 v] 24)))
 have hsz:(w.alloc (Obj.cells #[.int .i64 t,.int .i64 v] 24)).heap.size=w.heap.size+1:=by simp
 have HSZ:=Lib.hid hsz
 clear hsz
 have fin:∀w1,Below (w.alloc (Obj.cells #[.int .i64 t,.int .i64 v] 24)).heap.size (w.alloc (Obj.cells #[.int .i64 t,.int .i64 v] 24)) w1→Below w.heap.size w w1:=fun w1 h=>hb.trans (h.mono (by rw[HSZ.out];omega))
 have HC:∀w1,Below (w.alloc (Obj.cells #[.int .i64 t,.int .i64 v] 24)).heap.size (w.alloc (Obj.cells #[.int .i64 t,.int .i64 v] 24)) w1→
  w1.cell? ⟨w.heap.size,0,none⟩=some (.int .i64 t)∧w1.cell? ⟨w.heap.size,1,none⟩=some (.int .i64 v):=fun w1 h=>
  ⟨(h.cell (p:=⟨w.heap.size,0,none⟩) (by rw[HSZ.out];show w.heap.size<w.heap.size+1;omega)).trans (by rw[World.cell?_alloc_new];rfl),
   (h.cell (p:=⟨w.heap.size,1,none⟩) (by rw[HSZ.out];show w.heap.size<w.heap.size+1;omega)).trans (by rw[World.cell?_alloc_new];rfl)⟩
 have HHC:=Lib.hid HC
 have FIN:=Lib.hid fin
 clear HC fin hb
 unfold aggV at CS ⊢
 rcases toD_cases t v with⟨rfl,h2,e,er⟩|⟨rfl,rfl,e,er⟩|⟨rfl,rfl,e,er⟩|⟨rfl,rfl,e,er⟩|⟨h1,h2,h3,h4,e,er⟩
 ·rw[e]at CS
  rw[er]
  have hs5:((srt (.num v):Nat):Int)≠5:=by
   show(((if v<0 then 1 else if 0<v then 3 else 2:Nat)):Int)≠5
   split
   ·omega
   ·split<;>omega
  have hs:(((srt (.num v):Nat):Int) != 5)=true:=by simpa using hs5
  generalize srt (.num v)=s at CS hs
  clear h2 e er hs5
  go_enter Tryz.func67,Tryz.ntmps67
  go_wp2_with fail
  refine CS.out.mono ?_
  rintro e w1 ⟨rfl,h1⟩
  go_wp2_with fail
  go_ret
  exact⟨rfl,FIN.out _ h1⟩
 ·rw[e]at CS
  rw[er]
  clear e er
  go_enter Tryz.func67,Tryz.ntmps67
  go_wp2_with fail
  refine CS.out.mono ?_
  rintro e w1 ⟨rfl,h1⟩
  have hs:((srt .over:Nat):Int)=4:=rfl
  go_wp2_with fail
  go_ret
  exact⟨rfl,FIN.out _ h1⟩
 ·rw[e]at CS
  rw[er]
  clear e er
  go_enter Tryz.func67,Tryz.ntmps67
  go_wp2_with fail
  refine CS.out.mono ?_
  rintro e w1 ⟨rfl,h1⟩
  have hs:((srt .under:Nat):Int)=0:=rfl
  go_wp2_with fail
  go_ret
  exact⟨rfl,FIN.out _ h1⟩
 ·rw[e]at CS
  rw[er]
  clear e er
  go_enter Tryz.func67,Tryz.ntmps67
  go_wp2_with fail
  refine CS.out.mono ?_
  rintro e w1 ⟨rfl,h1⟩
  have hs:((srt .nan:Nat):Int)=5:=rfl
  obtain⟨hc0,hc1⟩:=HHC.out _ h1
  go_wp2_with fail
  go_ret
  exact⟨rfl,FIN.out _ h1⟩
 ·rw[e]at CS
  rw[er]
  have hs:((srt .nan:Nat):Int)=5:=rfl
  by_cases ht:t=1
  ·have hvb:(v==0)=false:=by rw[beq_eq_false_iff_ne];omega
   subst ht
   clear h1 h2 h3 h4 e er
   go_enter Tryz.func67,Tryz.ntmps67
   go_wp2_with fail
   refine CS.out.mono ?_
   rintro e w1 ⟨rfl,h1⟩
   obtain⟨hc0,hc1⟩:=HHC.out _ h1
   go_wp2_with fail
   go_ret
   exact⟨rfl,FIN.out _ h1⟩
  ·have htb:(t==1)=false:=by rw[beq_eq_false_iff_ne];exact ht
   clear h1 h2 h3 h4 e er ht
   go_enter Tryz.func67,Tryz.ntmps67
   go_wp2_with fail
   refine CS.out.mono ?_
   rintro e w1 ⟨rfl,h1⟩
   obtain⟨hc0,hc1⟩:=HHC.out _ h1
   go_wp2_with fail
   go_ret
   exact⟨rfl,FIN.out _ h1⟩
end Fig
namespace Char
open Go.RowKit Go.Lib
open Go.Proofs.YtlmpkpjjakallaaGreatDoor.Fig (rightB)
def litD (s:List UInt8):Bool:=txD s&& !(s.contains 34&&s.contains 39)
def fnD (s:List UInt8):Bool:= !typesL.contains s&&nmD (bs s)
def testD (k:Int)(nm:List UInt8)(hs:Bool):Bool:=rightT k nm hs&&(if k=1 then nmD (bs nm) else litD nm)
def numD (tg vl:Int):Bool:=rightB tg vl&&(decide (tg=0)&&decide (0≤vl))
def signT:List (List UInt8×Int):=[([],0),([111,114],1),([97,110,100],2),([61],3),([33,61],3),([60],4),([60,61],4),([62],4),([62,61],4),([43],5),([45],5),([42],6),([100,105,118],6),([109,111,100],6),([124],8)]
def signE (op:Int):List UInt8×Int:=if op<0 then ([],0) else signT.getD op.toNat ([],0)
def opB (op:Int):Bool:=decide (1≤op∧op≤14)
theorem sign_no {op:Int}(h:op<0∨15≤op):signE op=([],0):=by
 unfold signE
 split
 ·rfl
 ·rw[List.getD_eq_getElem?_getD,List.getElem?_eq_none (by show 15≤_;omega)]
  rfl
theorem sign_op (op:Int):decide ((signE op).1=[]∧(signE op).2=0)= !opB op:=by
 by_cases h:op<0∨15≤op
 ·have hn:¬(1≤op∧op≤14):=by omega
  rw[sign_no h]
  unfold opB
  rw[decide_eq_false hn]
  rfl
 ·obtain⟨n,rfl⟩:∃n:Nat,op=n:=⟨op.toNat,by omega⟩
  have hn:n<15:=by omega
  have key:∀k:Fin 15,decide ((signE ((k.val:Nat):Int)).1=[]∧(signE ((k.val:Nat):Int)).2=0)= !opB ((k.val:Nat):Int):=by decide+kernel
  exact key ⟨n,hn⟩
def way0 (ab:Bool)(ns:Nat):Bool:= !ab&&decide (ns=0)
def leadsB (ab:Bool)(nk ns:Nat):Bool:=if ns=0 then ab&&decide (nk=0) else !ab||decide (nk=0)
def fieldsB (op tg vl:Int)(s:List UInt8)(ab:Bool)(nk ns:Nat):Bool:=
 if op=15 then (s.isEmpty&&(decide (tg=0∧vl=0)&&(decide (nk=1)&&way0 ab ns)))
 else if op=16 then (s.isEmpty&&(decide (tg=0∧vl=0)&&(decide (nk≤1)&&leadsB ab nk ns)))
 else if op=17 then (s.isEmpty&&(decide (tg=0∧vl=0)&&(decide (2≤nk)&&way0 ab ns)))
 else if op=18 then (litD s&&(decide (tg=0∧vl=0)&&(decide (nk=0)&&way0 ab ns)))
 else if op=19 then (s.isEmpty&&(numD tg vl&&(decide (nk=0)&&way0 ab ns)))
 else if op=20 then (fnD s&&(decide (tg=0∧vl=0)&&(true&&way0 ab ns)))
 else if op=21 then (nmD (bs s)&&(decide (tg=0∧vl=0)&&(decide (nk=0)&&way0 ab ns)))
 else (s.isEmpty&&(decide (tg=0∧vl=0)&&((opB op&&decide (nk=2))&&way0 ab ns)))
def fieldsE (x:Ex):Bool:=fieldsB x.op x.tg x.vl x.s x.abs x.ks.length x.ss.length
def stepD (x:St):Bool:=decide (1≤x.ax∧x.ax≤12)&&testD x.tk x.nm x.has
mutual
def rightE:Ex→Bool
 | .mk op s tg vl ab ks ss=>fieldsB op tg vl s ab ks.length ss.length&&(rightEs ks&&rightSs ss)
def rightEs:List Ex→Bool
 |[]=>true
 |k::r=>rightE k&&rightEs r
def rightSs:List St→Bool
 |[]=>true
 |k::r=>rightS k&&rightSs r
def rightS:St→Bool
 | .mk ax tk nm has ps=>(decide (1≤ax∧ax≤12)&&testD tk nm has)&&rightEs ps
end
theorem rightE_def (x:Ex):rightE x=(fieldsE x&&(rightEs x.ks&&rightSs x.ss)):=by cases x;rw[rightE];rfl
theorem rightS_def (x:St):rightS x=(stepD x&&rightEs x.ps):=by cases x;rw[rightS];rfl
theorem rightEs_drop {ks:List Ex}{k:Nat}(h:k<ks.length):rightEs (ks.drop k)=(rightE ks[k]&&rightEs (ks.drop (k+1))):=by
 rw[List.drop_eq_getElem_cons h,rightEs]
theorem rightSs_drop {ks:List St}{k:Nat}(h:k<ks.length):rightSs (ks.drop k)=(rightS ks[k]&&rightSs (ks.drop (k+1))):=by
 rw[List.drop_eq_getElem_cons h,rightSs]
theorem rightEs_end (ks:List Ex):rightEs (ks.drop ks.length)=true:=by rw[List.drop_length,rightEs]
theorem rightSs_end (ks:List St):rightSs (ks.drop ks.length)=true:=by rw[List.drop_length,rightSs]
theorem nmX_ax (a:Int):(nmX a).isEmpty= !decide (1≤a∧a≤12):=by
 by_cases h:a<0∨13≤a
 ·have hn:¬(1≤a∧a≤12):=by omega
  rw[nmX_no h,decide_eq_false hn]
  rfl
 ·obtain⟨n,rfl⟩:∃n:Nat,a=n:=⟨a.toNat,by omega⟩
  have hn:n<13:=by omega
  have key:∀k:Fin 13,(nmX ((k.val:Nat):Int)).isEmpty= !decide (1≤((k.val:Nat):Int)∧((k.val:Nat):Int)≤12):=by decide+kernel
  exact key ⟨n,hn⟩
end Char
end Go.Proofs.YtlmpkpjjakallaaGreatDoor
