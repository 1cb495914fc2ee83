import Derived.Test.YtlmpkpjjakallaaGreatDoorPk02
import Derived.Test.YtlmpkpjjakallaaGreatDoorPk03
import Derived.Maps.AppendAt
import Derived.Deep.AppendLies
import Derived.Deep.RegionLaw
import Derived.RangeFuncRecord
namespace Go.Proofs.YtlmpkpjjakallaaGreatDoor
namespace Char
open Go.RowKit Go.Lib
open Go.Proofs.YtlmpkpjjakallaaGreatDoor.Fig (Nm outT outV decV)
theorem cell_lt {w:World}{a:Addr}{v:Value}(h:w.cell? a=some v):a.block<w.heap.size:=by
 unfold World.cell? at h
 split at h
 ·rename_i hh;exact(Array.getElem?_eq_some_iff.1 hh).1
 ·cases h
theorem heap_set_ne {w:World}{a:Addr}{u:Value}{k:Nat}(h:k≠a.block):(w.setCell a u).heap[k]? =w.heap[k]? :=Below.heap_setCell w a u k h
theorem heap_set_at {w:World}{b i:Nat}{cs:Array Value}{T:TypeId}{u:Value}(h:w.heap[b]? =some (.cells cs T (0,0))):(w.setCell ⟨b,i,none⟩ u).heap[b]? =some (.cells (cs.setIfInBounds i u) T (0,0)):=by
 unfold World.setCell
 dsimp only
 rw[Array.getElem?_modify,if_pos rfl,h]
 rfl
def wdC (w:Wd):List Value:=[.int .i64 (w.k:Int),.string (bs w.s),.int .i64 (outT w.n),.int .i64 (outV w.n)]
def wdV (w:Wd):Value:= .agg #[.int .i64 (w.k:Int),.string (bs w.s),.int .i64 (outT w.n),.int .i64 (outV w.n)]
def wdB (w:Wd):Obj:= .cells #[.int .i64 (w.k:Int),.string (bs w.s),.int .i64 (outT w.n),.int .i64 (outV w.n)] 89
def wd0:Wd:=⟨0,[],.num 0⟩
theorem wd_blk {w:World}{b:Nat}{x:Wd}(h:w.heap[b]? =some (wdB x)):
 (w.cell? ⟨b,0,none⟩=some (.int .i64 (x.k:Int))∧w.cell? ⟨b,1,none⟩=some (.string (bs x.s))∧w.cell? ⟨b,2,none⟩=some (.int .i64 (outT x.n))∧w.cell? ⟨b,3,none⟩=some (.int .i64 (outV x.n)))∧∀i,w.frozen? ⟨b,i,none⟩=false:=by
 unfold wdB at h
 exact⟨⟨by simp[World.cell?,h],by simp[World.cell?,h],by simp[World.cell?,h],by simp[World.cell?,h]⟩,fun i=>by simp[World.frozen?,h]⟩
def set4 (w:World)(b:Nat)(x:Wd):World:=
 (((w.setCell ⟨b,0,none⟩ (.int .i64 (x.k:Int))).setCell ⟨b,1,none⟩ (.string (bs x.s))).setCell ⟨b,2,none⟩ (.int .i64 (outT x.n))).setCell ⟨b,3,none⟩ (.int .i64 (outV x.n))
theorem set4_at {w:World}{b:Nat}{x y:Wd}(h:w.heap[b]? =some (wdB y)):(set4 w b x).heap[b]? =some (wdB x):=by
 unfold set4
 unfold wdB at h ⊢
 have h1:=heap_set_at (i:=0) (u:= .int .i64 (x.k:Int)) h
 have h2:=heap_set_at (i:=1) (u:= .string (bs x.s)) h1
 have h3:=heap_set_at (i:=2) (u:= .int .i64 (outT x.n)) h2
 have h4:=heap_set_at (i:=3) (u:= .int .i64 (outV x.n)) h3
 exact h4.trans (by simp)
theorem set4_below {B b:Nat}{w w':World}{x:Wd}(h:Below B w w')(hb:B≤b):Below B w (set4 w' b x):=
 (((h.setCell (p:=⟨b,0,none⟩) hb _).setCell (p:=⟨b,1,none⟩) hb _).setCell (p:=⟨b,2,none⟩) hb _).setCell (p:=⟨b,3,none⟩) hb _
theorem end_wd2 {fn:Func}{p q:Tmp}(h:fn.results= #[.cell p 89,.tmp q]){a:Act}{R:Ending→World→Prop}(w1:World)(g:Nat){x:Wd}{c:Value}(hk:w1.heap[g]? =some (wdB x))
 (hp:a.tmps.getD p undef= .pointer (some ⟨g,0,none⟩)) (hq:a.tmps.getD q undef=c) (hd:a.defers=[]) (hR:R (.returned (.tuple #[wdV x,c])) w1):bodyPost Tryz.prog fn R .ret a w1:=by
 have hp':a.tmps[p]?.getD undef= .pointer (some ⟨g,0,none⟩):=by simpa using hp
 have hq':a.tmps[q]?.getD undef=c:=by simpa using hq
 obtain⟨⟨a0,a1,a2,a3⟩,_⟩:=wd_blk hk
 unfold wdV at hR
 exact bodyPost_ret (by simp[results,h,hp',hq',go_sem,a0,a1,a2,a3]) hd hR
def WdPost (w:World)(o:Option (Wd×Nat))(e:Ending)(w':World):Prop:=e= .returned (.tuple #[wdV (o.getD (wd0,0)).1,.int .i64 ((o.getD (wd0,0)).2:Int)])∧Below w.heap.size w w'
theorem below_box {w:World}(o:Obj):Below w.heap.size w (w.alloc o):=(Below.refl _ _).alloc (Nat.le_refl _) _
theorem end_word {fn:Func}{p q:Tmp}(h:fn.results= #[.cell p 89,.tmp q]){a:Act}(w w1:World)(o:Option (Wd×Nat)){x y:Wd}{k:Int}(hk:w1.heap[w.heap.size]? =some (wdB y))(hb:Below w.heap.size w w1)
 (hx:(o.getD (wd0,0)).1=x) (hn:((o.getD (wd0,0)).2:Int)=k)
 (hp:a.tmps.getD p undef= .pointer (some ⟨w.heap.size,0,none⟩)) (hq:a.tmps.getD q undef= .int .i64 k) (hd:a.defers=[]):bodyPost Tryz.prog fn (WdPost w o) .ret a (set4 w1 w.heap.size x):=
 end_wd2 h _ w.heap.size (c:= .int .i64 k) (set4_at hk) hp hq hd ⟨by rw[hx,hn],set4_below hb (Nat.le_refl _)⟩
def wdsC (xs:List Wd):List Value:=xs.flatMap wdC
theorem wdsC_snoc (xs:List Wd)(x:Wd):wdsC (xs++[x])=wdsC xs++wdC x:=by simp[wdsC]
theorem wdsC_at:∀(xs:List Wd) (k i:Nat) (h:k<xs.length) (_:i<4),(wdsC xs)[k*4+i]? =(wdC xs[k])[i]?
 |[],k,_,h,_=>by simp at h
 |x::r,0,i,_,hi=>by
  show(wdC x++wdsC r)[0*4+i]? =_
  rw[show 0*4+i=i by omega,List.getElem?_append_left (by show i<4;exact hi)]
  rfl
 |x::r,k+1,i,h,hi=>by
  have ih:=wdsC_at r k i (by simpa using h) hi
  show(wdC x++wdsC r)[(k+1)*4+i]? =_
  rw[List.getElem?_append_right (by show 4≤_;omega),show(k+1)*4+i-(wdC x).length=k*4+i by show(k+1)*4+i-4=_;omega,ih]
  rfl
def OwnsWd (B:Nat)(w:World)(v:Value)(xs:List Wd):Prop:=w.ownsRow B 89 4 v xs.length (wdsC xs)
theorem OwnsWd.nil (B:Nat)(w:World):OwnsWd B w (.slice none 0 0) []:=World.ownsRow_nil _ _ _ _
theorem OwnsWd.keep {B:Nat}{w w':World}{v:Value}{xs:List Wd}(h:OwnsWd B w v xs)(hk:∀g,v.ownBlock=some g→w'.heap[g]? =w.heap[g]?):OwnsWd B w' v xs:=by
 obtain⟨h1,h2⟩:=h
 refine⟨h1,?_⟩
 rcases h2 with h0|⟨g,cap,cur,e1,e2,hg,e3⟩
 ·exact .inl h0
 ·exact .inr ⟨g,cap,cur,e1,e2,(hk g (by rw[e1];rfl)).trans hg,e3⟩
theorem OwnsWd.blk {B:Nat}{w:World}{v:Value}{xs:List Wd}(h:OwnsWd B w v xs){g:Nat}(hg:v.ownBlock=some g):B≤g∧g<w.heap.size:=World.ownsRow.lt h g hg
theorem OwnsWd.below {B:Nat}{w w':World}{v:Value}{xs:List Wd}(h:OwnsWd B w v xs)(hb:Below w.heap.size w w'):OwnsWd B w' v xs:=h.keep fun g hg=>hb.block g (h.blk hg).2
theorem OwnsWd.form {B:Nat}{w:World}{v:Value}{xs:List Wd}(h:OwnsWd B w v xs):∃o j,v= .slice o xs.length j:=by
 rcases h.2 with⟨h0,h1⟩|⟨g,cap,cur,e1,_⟩
 ·exact⟨none,0,by rw[h0,←h1]⟩
 ·exact⟨_,_,e1⟩
theorem OwnsWd.reads {B:Nat}{w:World}{o:Option Addr}{j:Nat}{xs:List Wd}(h:OwnsWd B w (.slice o xs.length j) xs)(k:Nat)(hk:k<xs.length):
 ∃g,o=some ⟨g,0,none⟩∧g<w.heap.size∧w.cell? ⟨g,k*4,none⟩=some (.int .i64 (xs[k].k:Int))∧w.cell? ⟨g,k*4+1,none⟩=some (.string (bs xs[k].s))∧w.cell? ⟨g,k*4+2,none⟩=some (.int .i64 (outT xs[k].n))∧w.cell? ⟨g,k*4+3,none⟩=some (.int .i64 (outV xs[k].n)):=by
 have h0:=h
 rcases h.2 with⟨h1,h2⟩|⟨g,cap,cur,e1,e2,hg,e3⟩
 ·omega
 ·have ho:o=some ⟨g,0,none⟩:=by cases e1;rfl
  have hc:=World.ownsRow.cells h0 (g:=g) (by rw[e1];rfl)
  have key:∀n,n<4→∀u,(wdC xs[k])[n]? =some u→w.cell? ⟨g,k*4+n,none⟩=some u:=fun n hn u hu=>by
   have :=hc (k*4+n) u ((wdsC_at xs k n hk hn).trans hu)
   rwa [Addr.add_lit,Nat.zero_add]at this
  exact⟨g,ho,(Array.getElem?_eq_some_iff.1 hg).1,key 0 (by omega) _ rfl,key 1 (by omega) _ rfl,key 2 (by omega) _ rfl,key 3 (by omega) _ rfl⟩
theorem info_wd:(Tryz.prog.info? 89).map (fun i=>(i.zero,i.size,i.bytes))=some (some (.agg #[.int .i64 0,.string ⟨#[]⟩,.int .i64 0,.int .i64 0]),4,40):=by kernel_rfl
theorem wpList_push {ops:Array Oper}{rest:List Oper}{o:Oper}{a:Act}{Q:Exit→Act→World→Prop}{B:Nat}{W:World}{v:Value}{n size bytes:Nat}{xs:List Value}{e st:TypeId}{z:Value}
 (hi:(Tryz.prog.info? e).map (fun i=>(i.zero,i.size,i.bytes))=some (some z,size,bytes)) (hst:Tryz.prog.underlying st=some (.slice e)) (hzs:z.cells.size=size) (hsz:0<size) (hby:bytes≤1000)
 (hgd:o.guard=none) (s x:Operand) (ho:o.op= .call {callee:= .builtin .append,args:= #[s,x],argTypes:= #[st,st]})
 (cs:List Value) (hcs:cs.length=size) (h1:∀u∈cs,u.oneCell'=true) (hown:W.ownsRow B e size v n xs) (hs:a.eval s=v) (hx:a.eval x= .slice (some ⟨W.heap.size,0,none⟩) 1 1) (hB:B≤W.heap.size) (hlen:n≤10000000)
 (h:∀v' w1,w1.ownsRow B e size v' (n+1) (xs++cs)→Below B W w1→(∀k,k<W.heap.size→some k≠v.ownBlock→w1.heap[k]? =W.heap[k]?)→(∀g,v'.ownBlock=some g→v.ownBlock=some g∨W.heap.size≤g)→wpList Tryz.prog ops Q rest (a.put o.dst v') w1):
 wpList Tryz.prog ops Q (o::rest) a (W.alloc (.cells cs.toArray e)):=by
 obtain⟨i0,hi,hz0,hz1,hz2⟩:=info_parts hi
 refine wpList_append_own_at _ hgd s x st ho B e i0 z size bytes hst hi hz0 hz1 hz2 hzs hsz v n xs hs (World.ownsRow.alloc hown _) ⟨W.heap.size,0,none⟩ 1 1 cs hx (by rw[hcs,Nat.one_mul]) ?_ h1 ?_ ?_ ?_ ?_
 ·intro j u hj
  have hb:=World.alloc_heap_new W (.cells cs.toArray e)
  rw[Addr.add_lit,Nat.zero_add]
  simp only[World.cell?,hb]
  simpa using hj
 ·unfold maxLen;omega
 ·have :(n+1)*bytes≤(n+1)*1000:=Nat.mul_le_mul_left _ hby
  omega
 ·simp;omega
 ·intro v' w1 hown' hgrow _ hloc
  have hsz:=hgrow.size
  rw[World.size_alloc]at hsz
  refine h v' w1 hown' (((Below.refl _ _).alloc hB _).grown hgrow (by simp;omega) (fun k hk=>by
   rcases hown.2 with⟨rfl,_⟩|⟨g,cap,cur,rfl,hg,_⟩
   ·simp[Value.ownBlock]at hk
   ·simp[Value.ownBlock]at hk;omega)) (fun k hk hne=> ?_) (fun g hg=> ?_)
  ·rw[hgrow.block k (by simp;omega) (fun e=>hne e)]
   exact Below.heap_alloc W _ k hk
  ·rcases hloc with hl|hl
   ·exact .inl (by rw[←hl];exact hg)
   ·rw[hl]at hg
    simp at hg
    exact .inr (by omega)
theorem wpList_pushWd {ops:Array Oper}{rest:List Oper}{o:Oper}{a:Act}{Q:Exit→Act→World→Prop}{B:Nat}{W:World}{v:Value}{xs:List Wd}
 (hgd:o.guard=none) (s x:Operand) (ho:o.op= .call {callee:= .builtin .append,args:= #[s,x],argTypes:= #[38,38]})
 (y:Wd) (hown:OwnsWd B W v xs) (hs:a.eval s=v) (hx:a.eval x= .slice (some ⟨W.heap.size,0,none⟩) 1 1) (hB:B≤W.heap.size) (hlen:xs.length≤1000000)
 (h:∀v' w1,OwnsWd B w1 v' (xs++[y])→Below B W w1→(∀k,k<W.heap.size→some k≠v.ownBlock→w1.heap[k]? =W.heap[k]?)→(∀g,v'.ownBlock=some g→v.ownBlock=some g∨W.heap.size≤g)→wpList Tryz.prog ops Q rest (a.put o.dst v') w1):
 wpList Tryz.prog ops Q (o::rest) a (W.alloc (.cells #[.int .i64 (y.k:Int),.string (bs y.s),.int .i64 (outT y.n),.int .i64 (outV y.n)] 89)):=by
 refine wpList_push info_wd Tryz.underlying38 rfl (by decide) (by decide) hgd s x ho (wdC y) rfl ?_ hown hs hx hB (by omega) fun v' w1 h1 h2 h3 h4=> ?_
 ·intro u hu
  simp[wdC]at hu
  rcases hu with rfl|rfl|rfl|rfl<;>rfl
 ·refine h v' w1 ?_ h2 h3 h4
  unfold OwnsWd
  rw[List.length_append,wdsC_snoc]
  exact h1
end Char
namespace Char
open Go.RowKit Go.Lib
def But (R:Nat)(w w':World):Prop:=Below R w w'∧∀k,k<w.heap.size→k≠R→w'.heap[k]? =w.heap[k]?
theorem But.refl (R:Nat)(w:World):But R w w:=⟨Below.refl _ _,fun _ _ _=>rfl⟩
theorem But.trans {R:Nat}{a b c:World}(h:But R a b)(k:But R b c):But R a c:=
 ⟨h.1.trans k.1,fun i hi hr=>(k.2 i (Nat.lt_of_lt_of_le hi h.1.size) hr).trans (h.2 i hi hr)⟩
theorem But.set (R o:Nat)(w:World)(u:Value):But R w (w.setCell ⟨R,o,none⟩ u):=⟨(Below.refl R w).setCell (p:=⟨R,o,none⟩) (Nat.le_refl R) u,fun k _ hr=>Below.heap_setCell w _ u k hr⟩
theorem But.of {R:Nat}{w w':World}(h:Below w.heap.size w w')(hR:R<w.heap.size):But R w w':=⟨h.mono (by omega),fun k hk _=>h.block k hk⟩
theorem But.size {R:Nat}{w w':World}(h:But R w w'):w.heap.size≤w'.heap.size:=h.1.size
theorem But.cell {R:Nat}{w w':World}(h:But R w w'){a:Addr}{v:Value}(hc:w.cell? a=some v)(hr:a.block≠R):w'.cell? a=some v:=
 (World.cell?_of_block (w:=w) (h.2 a.block (cell_lt hc) hr)).trans hc
end Char
namespace Char
open Go.RowKit Go.Lib
mutual
inductive Ex where
 |mk (op:Int) (s:List UInt8) (tg vl:Int) (abs:Bool) (ks:List Ex) (ss:List St)
inductive St where
 |mk (ax tk:Int) (nm:List UInt8) (has:Bool) (ps:List Ex)
end
def Ex.op:Ex→Int| .mk o _ _ _ _ _ _=>o
def Ex.s:Ex→List UInt8| .mk _ s _ _ _ _ _=>s
def Ex.tg:Ex→Int| .mk _ _ t _ _ _ _=>t
def Ex.vl:Ex→Int| .mk _ _ _ v _ _ _=>v
def Ex.abs:Ex→Bool| .mk _ _ _ _ a _ _=>a
def Ex.ks:Ex→List Ex| .mk _ _ _ _ _ k _=>k
def Ex.ss:Ex→List St| .mk _ _ _ _ _ _ s=>s
def St.ax:St→Int| .mk a _ _ _ _=>a
def St.tk:St→Int| .mk _ t _ _ _=>t
def St.nm:St→List UInt8| .mk _ _ n _ _=>n
def St.has:St→Bool| .mk _ _ _ h _=>h
def St.ps:St→List Ex| .mk _ _ _ _ p=>p
def ex0:Ex:= .mk 0 [] 0 0 false [] []
def exC (x:Ex)(vk vs:Value):List Value:=[.int .i64 x.op,.string (bs x.s),.int .i64 x.tg,.int .i64 x.vl,.bool x.abs,vk,vs]
def exV (x:Ex)(vk vs:Value):Value:= .agg #[.int .i64 x.op,.string (bs x.s),.int .i64 x.tg,.int .i64 x.vl,.bool x.abs,vk,vs]
def stpC (x:St)(vp:Value):List Value:=[.int .i64 x.ax,.int .i64 x.tk,.string (bs x.nm),.bool x.has,vp]
def stpV (x:St)(vp:Value):Value:= .agg #[.int .i64 x.ax,.int .i64 x.tk,.string (bs x.nm),.bool x.has,vp]
def ExAt (w:World)(g off:Nat)(x:Ex)(vk vs:Value):Prop:=∀i u,(exC x vk vs)[i]? =some u→w.cell? ⟨g,off+i,none⟩=some u
def StAt (w:World)(g off:Nat)(x:St)(vp:Value):Prop:=∀i u,(stpC x vp)[i]? =some u→w.cell? ⟨g,off+i,none⟩=some u
mutual
def ExOn (w:World)(F:Nat→Prop):Ex→Value→Value→Prop
 | .mk _ _ _ _ _ ks ss,vk,vs=>(∃o j,vk= .slice o ks.length j∧(ks=[]∨∃g off,o=some ⟨g,off,none⟩∧(F g∧ks.length≤j)∧KsOn w F g off ks))∧
  (∃o j,vs= .slice o ss.length j∧(ss=[]∨∃g off,o=some ⟨g,off,none⟩∧(F g∧ss.length≤j)∧SsOn w F g off ss))
def KsOn (w:World)(F:Nat→Prop)(g:Nat):Nat→List Ex→Prop
 |_,[]=>True
 |off,k::ks=>(∃vk vs,ExAt w g off k vk vs∧ExOn w F k vk vs)∧KsOn w F g (off+7) ks
def SsOn (w:World)(F:Nat→Prop)(g:Nat):Nat→List St→Prop
 |_,[]=>True
 |off,k::ks=>(∃vp,StAt w g off k vp∧StOn w F k vp)∧SsOn w F g (off+5) ks
def StOn (w:World)(F:Nat→Prop):St→Value→Prop
 | .mk _ _ _ _ ps,vp=>∃o j,vp= .slice o ps.length j∧(ps=[]∨∃g off,o=some ⟨g,off,none⟩∧(F g∧ps.length≤j)∧KsOn w F g off ps)
end
theorem ExAt.move {w w':World}{g off:Nat}(h:w'.heap[g]? =w.heap[g]?){x:Ex}{vk vs:Value}(hx:ExAt w g off x vk vs):ExAt w' g off x vk vs:=
 fun i u hu=>(World.cell?_of_block (w:=w) (w':=w') (a:=⟨g,off+i,none⟩) h).trans (hx i u hu)
theorem StAt.move {w w':World}{g off:Nat}(h:w'.heap[g]? =w.heap[g]?){x:St}{vp:Value}(hx:StAt w g off x vp):StAt w' g off x vp:=
 fun i u hu=>(World.cell?_of_block (w:=w) (w':=w') (a:=⟨g,off+i,none⟩) h).trans (hx i u hu)
theorem KsOn.lt {w:World}{F:Nat→Prop}{g off:Nat}{ks:List Ex}(hn:ks≠[])(h:KsOn w F g off ks):g<w.heap.size:=by
 cases ks with
 |nil=>exact absurd rfl hn
 |cons k r=>
  rw[KsOn]at h
  obtain⟨⟨vk,vs,h0,_⟩,_⟩:=h
  exact cell_lt (h0 0 _ rfl)
theorem SsOn.lt {w:World}{F:Nat→Prop}{g off:Nat}{ks:List St}(hn:ks≠[])(h:SsOn w F g off ks):g<w.heap.size:=by
 cases ks with
 |nil=>exact absurd rfl hn
 |cons k r=>
  rw[SsOn]at h
  obtain⟨⟨vp,h0,_⟩,_⟩:=h
  exact cell_lt (h0 0 _ rfl)
mutual
theorem ExOn.move {w w':World}{F F':Nat→Prop}(h:∀b,b<w.heap.size→F b→F' b∧w'.heap[b]? =w.heap[b]?):∀(x:Ex) (vk vs:Value),ExOn w F x vk vs→ExOn w' F' x vk vs
 | .mk _ _ _ _ _ ks ss,vk,vs,hn=>by
  rw[ExOn]at hn ⊢
  obtain⟨⟨o,j,e1,e2⟩,⟨o2,j2,e3,e4⟩⟩:=hn
  refine⟨⟨o,j,e1,?_⟩,⟨o2,j2,e3,?_⟩⟩
  ·rcases Classical.em (ks=[]) with hk|hk
   ·exact .inl hk
   ·rcases e2 with e2|⟨g,off,q1,⟨q2,qj⟩,q3⟩
    ·exact .inl e2
    ·obtain⟨k1,k2⟩:=h g (KsOn.lt hk q3) q2
     exact .inr ⟨g,off,q1,⟨k1,qj⟩,KsOn.move h k2 off ks q3⟩
  ·rcases Classical.em (ss=[]) with hk|hk
   ·exact .inl hk
   ·rcases e4 with e4|⟨g,off,q1,⟨q2,qj⟩,q3⟩
    ·exact .inl e4
    ·obtain⟨k1,k2⟩:=h g (SsOn.lt hk q3) q2
     exact .inr ⟨g,off,q1,⟨k1,qj⟩,SsOn.move h k2 off ss q3⟩
theorem KsOn.move {w w':World}{F F':Nat→Prop}(h:∀b,b<w.heap.size→F b→F' b∧w'.heap[b]? =w.heap[b]?){g:Nat}(hg:w'.heap[g]? =w.heap[g]?):∀(off:Nat) (ks:List Ex),KsOn w F g off ks→KsOn w' F' g off ks
 |_,[],_=>by rw[KsOn];trivial
 |off,k::r,hk=>by
  rw[KsOn]at hk ⊢
  obtain⟨⟨va,vk,h1,h2⟩,h3⟩:=hk
  exact⟨⟨va,vk,h1.move hg,ExOn.move h k va vk h2⟩,KsOn.move h hg (off+7) r h3⟩
theorem SsOn.move {w w':World}{F F':Nat→Prop}(h:∀b,b<w.heap.size→F b→F' b∧w'.heap[b]? =w.heap[b]?){g:Nat}(hg:w'.heap[g]? =w.heap[g]?):∀(off:Nat) (ks:List St),SsOn w F g off ks→SsOn w' F' g off ks
 |_,[],_=>by rw[SsOn];trivial
 |off,k::r,hk=>by
  rw[SsOn]at hk ⊢
  obtain⟨⟨va,h1,h2⟩,h3⟩:=hk
  exact⟨⟨va,h1.move hg,StOn.move h k va h2⟩,SsOn.move h hg (off+5) r h3⟩
theorem StOn.move {w w':World}{F F':Nat→Prop}(h:∀b,b<w.heap.size→F b→F' b∧w'.heap[b]? =w.heap[b]?):∀(x:St) (vp:Value),StOn w F x vp→StOn w' F' x vp
 | .mk _ _ _ _ ps,vp,hn=>by
  rw[StOn]at hn ⊢
  obtain⟨o,j,e1,e2⟩:=hn
  refine⟨o,j,e1,?_⟩
  rcases Classical.em (ps=[]) with hk|hk
  ·exact .inl hk
  ·rcases e2 with e2|⟨g,off,q1,⟨q2,qj⟩,q3⟩
   ·exact .inl e2
   ·obtain⟨k1,k2⟩:=h g (KsOn.lt hk q3) q2
    exact .inr ⟨g,off,q1,⟨k1,qj⟩,KsOn.move h k2 off ps q3⟩
end
theorem KsOn.at {w:World}{F:Nat→Prop}{g:Nat}:∀{off:Nat} {ks:List Ex},KsOn w F g off ks→∀k (h:k<ks.length),∃vk vs,ExAt w g (off+k*7) ks[k] vk vs∧ExOn w F ks[k] vk vs
 |_,[],_,k,h=>by cases h
 |off,x::r,hk,0,_=>by
  rw[KsOn]at hk
  simpa using hk.1
 |off,x::r,hk,k+1,h=>by
  rw[KsOn]at hk
  have :=hk.2.at k (by simpa using h)
  rw[show off+(k+1)*7=off+7+k*7 by omega]
  exact this
theorem KsOn.of {w:World}{F:Nat→Prop}{g:Nat}:∀{off:Nat} {ks:List Ex},(∀k (h:k<ks.length),∃vk vs,ExAt w g (off+k*7) ks[k] vk vs∧ExOn w F ks[k] vk vs)→KsOn w F g off ks
 |_,[],_=>by rw[KsOn];trivial
 |off,x::r,h=>by
  rw[KsOn]
  refine⟨by have h0:=h 0 (by simp);simp only[Nat.zero_mul,Nat.add_zero,List.getElem_cons_zero]at h0;exact h0,KsOn.of fun k hk=> ?_⟩
  have :=h (k+1) (by simpa using hk)
  rw[show off+(k+1)*7=off+7+k*7 by omega]at this
  exact this
theorem SsOn.at {w:World}{F:Nat→Prop}{g:Nat}:∀{off:Nat} {ks:List St},SsOn w F g off ks→∀k (h:k<ks.length),∃vp,StAt w g (off+k*5) ks[k] vp∧StOn w F ks[k] vp
 |_,[],_,k,h=>by cases h
 |off,x::r,hk,0,_=>by
  rw[SsOn]at hk
  simpa using hk.1
 |off,x::r,hk,k+1,h=>by
  rw[SsOn]at hk
  have :=hk.2.at k (by simpa using h)
  rw[show off+(k+1)*5=off+5+k*5 by omega]
  exact this
theorem SsOn.of {w:World}{F:Nat→Prop}{g:Nat}:∀{off:Nat} {ks:List St},(∀k (h:k<ks.length),∃vp,StAt w g (off+k*5) ks[k] vp∧StOn w F ks[k] vp)→SsOn w F g off ks
 |_,[],_=>by rw[SsOn];trivial
 |off,x::r,h=>by
  rw[SsOn]
  refine⟨by have h0:=h 0 (by simp);simp only[Nat.zero_mul,Nat.add_zero,List.getElem_cons_zero]at h0;exact h0,SsOn.of fun k hk=> ?_⟩
  have :=h (k+1) (by simpa using hk)
  rw[show off+(k+1)*5=off+5+k*5 by omega]at this
  exact this
def KdOn (w:World)(F:Nat→Prop)(v:Value)(ks:List Ex):Prop:=∃o j,v= .slice o ks.length j∧(ks=[]∨∃g off,o=some ⟨g,off,none⟩∧(F g∧ks.length≤j)∧KsOn w F g off ks)
def SdOn (w:World)(F:Nat→Prop)(v:Value)(ss:List St):Prop:=∃o j,v= .slice o ss.length j∧(ss=[]∨∃g off,o=some ⟨g,off,none⟩∧(F g∧ss.length≤j)∧SsOn w F g off ss)
theorem ExOn.iff {w:World}{F:Nat→Prop}{x:Ex}{vk vs:Value}:ExOn w F x vk vs↔KdOn w F vk x.ks∧SdOn w F vs x.ss:=by
 cases x
 rw[ExOn]
 rfl
theorem StOn.iff {w:World}{F:Nat→Prop}{x:St}{vp:Value}:StOn w F x vp↔KdOn w F vp x.ps:=by
 cases x
 rw[StOn]
 rfl
theorem KdOn.nil (w:World)(F:Nat→Prop):KdOn w F (.slice none 0 0) []:=⟨none,0,rfl,.inl rfl⟩
theorem SdOn.nil (w:World)(F:Nat→Prop):SdOn w F (.slice none 0 0) []:=⟨none,0,rfl,.inl rfl⟩
theorem KdOn.move {w w':World}{F F':Nat→Prop}(h:∀b,b<w.heap.size→F b→F' b∧w'.heap[b]? =w.heap[b]?){v:Value}{ks:List Ex}(hk:KdOn w F v ks):KdOn w' F' v ks:=
 StOn.iff.1 (StOn.move h (.mk 0 0 [] false ks) v (StOn.iff.2 hk))
theorem SdOn.move {w w':World}{F F':Nat→Prop}(h:∀b,b<w.heap.size→F b→F' b∧w'.heap[b]? =w.heap[b]?){v:Value}{ss:List St}(hk:SdOn w F v ss):SdOn w' F' v ss:=
 (ExOn.iff.1 (ExOn.move h (.mk 0 [] 0 0 false [] ss) (.slice none 0 0) v (ExOn.iff.2 ⟨KdOn.nil _ _,hk⟩))).2
theorem ExOn.below {w w':World}{F:Nat→Prop}{x:Ex}{vk vs:Value}(h:ExOn w F x vk vs)(hb:Below w.heap.size w w'):ExOn w' F x vk vs:=
 ExOn.move (fun b hb0 hF=>⟨hF,hb.block b hb0⟩) x vk vs h
theorem ExOn.but {R B:Nat}{w w':World}{x:Ex}{vk vs:Value}(h:ExOn w (B≤ ·) x vk vs)(hb:But R w w')(hR:R<B):ExOn w' (B≤ ·) x vk vs:=
 ExOn.move (fun b hb0 hF=>⟨hF,hb.2 b hb0 (by omega)⟩) x vk vs h
theorem KdOn.but {R B:Nat}{w w':World}{v:Value}{ks:List Ex}(h:KdOn w (B≤ ·) v ks)(hb:But R w w')(hR:R<B):KdOn w' (B≤ ·) v ks:=
 KdOn.move (fun b hb0 hF=>⟨hF,hb.2 b hb0 (by omega)⟩) h
theorem SdOn.but {R B:Nat}{w w':World}{v:Value}{ks:List St}(h:SdOn w (B≤ ·) v ks)(hb:But R w w')(hR:R<B):SdOn w' (B≤ ·) v ks:=
 SdOn.move (fun b hb0 hF=>⟨hF,hb.2 b hb0 (by omega)⟩) h
theorem ExOn.low {B B':Nat}{w:World}{x:Ex}{vk vs:Value}(h:ExOn w (B≤ ·) x vk vs)(hB:B'≤B):ExOn w (B'≤ ·) x vk vs:=
 ExOn.move (fun _ _ hF=>⟨Nat.le_trans hB hF,rfl⟩) x vk vs h
theorem KdOn.low {B B':Nat}{w:World}{v:Value}{ks:List Ex}(h:KdOn w (B≤ ·) v ks)(hB:B'≤B):KdOn w (B'≤ ·) v ks:=
 KdOn.move (fun _ _ hF=>⟨Nat.le_trans hB hF,rfl⟩) h
theorem SdOn.low {B B':Nat}{w:World}{v:Value}{ks:List St}(h:SdOn w (B≤ ·) v ks)(hB:B'≤B):SdOn w (B'≤ ·) v ks:=
 SdOn.move (fun _ _ hF=>⟨Nat.le_trans hB hF,rfl⟩) h
theorem KdOn.form {w:World}{F:Nat→Prop}{v:Value}{ks:List Ex}(h:KdOn w F v ks):∃o j,v= .slice o ks.length j:=by
 obtain⟨o,j,h1,_⟩:=h
 exact⟨o,j,h1⟩
theorem SdOn.form {w:World}{F:Nat→Prop}{v:Value}{ks:List St}(h:SdOn w F v ks):∃o j,v= .slice o ks.length j:=by
 obtain⟨o,j,h1,_⟩:=h
 exact⟨o,j,h1⟩
end Char
namespace Char
open Go.RowKit Go.Lib
def exsC (xs:List (Ex×Value×Value)):List Value:=xs.flatMap fun x=>exC x.1 x.2.1 x.2.2
theorem exsC_snoc (xs:List (Ex×Value×Value))(x:Ex×Value×Value):exsC (xs++[x])=exsC xs++exC x.1 x.2.1 x.2.2:=by simp[exsC]
theorem exsC_app (xs ys:List (Ex×Value×Value)):exsC (xs++ys)=exsC xs++exsC ys:=by simp[exsC]
theorem exsC_len:∀(xs:List (Ex×Value×Value)),(exsC xs).length=xs.length*7
 |[]=>rfl
 |x::r=>by
  show(exC x.1 x.2.1 x.2.2++exsC r).length=(r.length+1)*7
  rw[List.length_append,exsC_len r]
  show 7+r.length*7=_
  omega
theorem exsC_at:∀(xs:List (Ex×Value×Value)) (k i:Nat) (h:k<xs.length) (_:i<7),(exsC xs)[k*7+i]? =(exC xs[k].1 xs[k].2.1 xs[k].2.2)[i]?
 |[],k,_,h,_=>by simp at h
 |x::r,0,i,_,hi=>by
  show(exC x.1 x.2.1 x.2.2++exsC r)[0*7+i]? =_
  rw[show 0*7+i=i by omega,List.getElem?_append_left (by show i<7;exact hi)]
  rfl
 |x::r,k+1,i,h,hi=>by
  have ih:=exsC_at r k i (by simpa using h) hi
  show(exC x.1 x.2.1 x.2.2++exsC r)[(k+1)*7+i]? =_
  rw[List.getElem?_append_right (by show 7≤_;omega),show(k+1)*7+i-(exC x.1 x.2.1 x.2.2).length=k*7+i by show(k+1)*7+i-7=_;omega,ih]
  rfl
def RowEx (B:Nat)(w:World)(v:Value)(xs:List (Ex×Value×Value)):Prop:=
 w.ownsRow B 28 7 v xs.length (exsC xs)∧∀x∈xs,ExOn w (fun b=>B≤b∧v.ownBlock≠some b) x.1 x.2.1 x.2.2
theorem RowEx.nil (B:Nat)(w:World):RowEx B w (.slice none 0 0) []:=⟨World.ownsRow_nil _ _ _ _,fun _ h=>by cases h⟩
theorem RowEx.blk {B:Nat}{w:World}{v:Value}{xs:List (Ex×Value×Value)}(h:RowEx B w v xs){g:Nat}(hg:v.ownBlock=some g):B≤g∧g<w.heap.size:=World.ownsRow.lt h.1 g hg
theorem RowEx.form {B:Nat}{w:World}{v:Value}{xs:List (Ex×Value×Value)}(h:RowEx B w v xs):∃o j,v= .slice o xs.length j:=by
 rcases h.1.2 with⟨h0,h1⟩|⟨g,cap,cur,e1,_⟩
 ·exact⟨none,0,by rw[h0,←h1]⟩
 ·exact⟨_,_,e1⟩
theorem RowEx.keep {B:Nat}{w w':World}{v:Value}{xs:List (Ex×Value×Value)}(h:RowEx B w v xs)(hk:∀b,B≤b→b<w.heap.size→w'.heap[b]? =w.heap[b]?):RowEx B w' v xs:=by
 refine⟨⟨h.1.1,?_⟩,fun x hx=>ExOn.move (fun b hb hF=>⟨hF,hk b hF.1 hb⟩) _ _ _ (h.2 x hx)⟩
 rcases h.1.2 with h0|⟨g,cap,cur,e1,e2,hg,e3⟩
 ·exact .inl h0
 ·exact .inr ⟨g,cap,cur,e1,e2,(hk g e2 (h.blk (g:=g) (by rw[e1];rfl)).2).trans hg,e3⟩
theorem RowEx.but {R B:Nat}{w w':World}{v:Value}{xs:List (Ex×Value×Value)}(h:RowEx B w v xs)(hb:But R w w')(hR:R<B):RowEx B w' v xs:=
 h.keep fun b h1 h2=>hb.2 b h2 (by omega)
theorem RowEx.below {B:Nat}{w w':World}{v:Value}{xs:List (Ex×Value×Value)}(h:RowEx B w v xs)(hb:Below w.heap.size w w'):RowEx B w' v xs:=
 h.keep fun b _ h2=>hb.block b h2
theorem RowEx.on {B:Nat}{w:World}{v:Value}{xs:List (Ex×Value×Value)}(h:RowEx B w v xs):KdOn w (B≤ ·) v (xs.map (·.1)):=by
 have h0:=h.1
 rcases h.1.2 with⟨h1,h2⟩|⟨g,cap,cur,e1,e2,hg,e3⟩
 ·have :xs=[]:=List.length_eq_zero_iff.1 h2
  subst this
  rw[h1]
  exact KdOn.nil _ _
 ·have hc:=World.ownsRow.cells h0 (g:=g) (by rw[e1];rfl)
  refine⟨some ⟨g,0,none⟩,cap,by rw[e1,List.length_map],.inr ⟨g,0,rfl,⟨e2,by simpa using e3.1⟩,KsOn.of fun k hk=> ?_⟩⟩
  have hk':k<xs.length:=by simpa using hk
  refine⟨xs[k].2.1,xs[k].2.2,?_,?_⟩
  ·rw[List.getElem_map]
   intro i u hu
   have hi:i<7:=by
    have :=(List.getElem?_eq_some_iff.1 hu).1
    exact this
   have :=hc (k*7+i) u ((exsC_at xs k i hk' hi).trans hu)
   rw[Addr.add_lit]at this
   rwa [show 0+k*7+i=0+(k*7+i) by omega]
  ·rw[List.getElem_map]
   exact ExOn.move (fun _ _ hF=>⟨hF.1,rfl⟩) _ _ _ (h.2 _ (List.getElem_mem hk'))
theorem info_ex:(Tryz.prog.info? 28).map (fun i=>(i.zero,i.size,i.bytes))=some (some (.agg #[.int .i64 0,.string ⟨#[]⟩,.int .i64 0,.int .i64 0,.bool false,.slice none 0 0,.slice none 0 0]),7,96):=by kernel_rfl
theorem wpList_pushEx {ops:Array Oper}{rest:List Oper}{o:Oper}{a:Act}{Q:Exit→Act→World→Prop}{B:Nat}{W:World}{v:Value}{xs:List (Ex×Value×Value)}
 (hgd:o.guard=none) (s x:Operand) (ho:o.op= .call {callee:= .builtin .append,args:= #[s,x],argTypes:= #[25,25]})
 (y:Ex) (vk vs:Value) (hown:RowEx B W v xs) (hy:ExOn W (fun b=>B≤b∧v.ownBlock≠some b) y vk vs) (hs:a.eval s=v) (hx:a.eval x= .slice (some ⟨W.heap.size,0,none⟩) 1 1) (hB:B≤W.heap.size) (hlen:xs.length≤1000)
 (h:∀v' w1,RowEx B w1 v' (xs++[(y,vk,vs)])→Below B W w1→wpList Tryz.prog ops Q rest (a.put o.dst v') w1):
 wpList Tryz.prog ops Q (o::rest) a (W.alloc (.cells #[.int .i64 y.op,.string (bs y.s),.int .i64 y.tg,.int .i64 y.vl,.bool y.abs,vk,vs] 28)):=by
 refine wpList_push info_ex Tryz.underlying25 rfl (by decide) (by decide) hgd s x ho (exC y vk vs) rfl ?_ hown.1 hs hx hB (by omega) fun v' w1 h1 h2 h3 h4=> ?_
 ·intro u hu
  obtain⟨⟨o1,j1,rfl,_⟩,⟨o2,j2,rfl,_⟩⟩:=ExOn.iff.1 hy
  simp[exC]at hu
  rcases hu with rfl|rfl|rfl|rfl|rfl|rfl|rfl<;>rfl
 ·refine h v' w1 ⟨?_,fun z hz=> ?_⟩ h2
  ·rw[List.length_append,exsC_snoc]
   exact h1
  ·have hmv:∀b,b<W.heap.size→(B≤b∧v.ownBlock≠some b)→(B≤b∧v'.ownBlock≠some b)∧w1.heap[b]? =W.heap[b]? :=fun b hb hF=>by
    refine⟨⟨hF.1,fun hv=> ?_⟩,h3 b hb (fun e=>hF.2 e.symm)⟩
    rcases h4 b hv with h5|h5
    ·exact hF.2 h5
    ·omega
   rw[List.mem_append,List.mem_singleton]at hz
   rcases hz with hz|rfl
   ·exact ExOn.move hmv _ _ _ (hown.2 z hz)
   ·exact ExOn.move hmv _ _ _ hy
theorem RowEx.one {B:Nat}{W:World}(y:Ex)(vk vs:Value)(hy:ExOn W (B≤ ·) y vk vs)(hB:B≤W.heap.size):
 RowEx B (W.alloc (.cells #[.int .i64 y.op,.string (bs y.s),.int .i64 y.tg,.int .i64 y.vl,.bool y.abs,vk,vs] 28)) (.slice (some ⟨W.heap.size,0,none⟩) 1 1) [(y,vk,vs)]:=by
 refine⟨⟨rfl,.inr ⟨W.heap.size,1,_,rfl,hB,World.alloc_heap_new W _,Nat.le_refl _,by unfold maxLen;omega,rfl,rfl⟩⟩,fun z hz=> ?_⟩
 rw[List.mem_singleton]at hz
 subst hz
 refine ExOn.move (fun b hb hF=>⟨⟨hF,?_⟩,Below.heap_alloc W _ b hb⟩) _ _ _ hy
 simp only[Value.ownBlock,ne_eq,Option.some.injEq]
 omega
def stsC (xs:List (St×Value)):List Value:=xs.flatMap fun x=>stpC x.1 x.2
theorem stsC_snoc (xs:List (St×Value))(x:St×Value):stsC (xs++[x])=stsC xs++stpC x.1 x.2:=by simp[stsC]
theorem stsC_at:∀(xs:List (St×Value)) (k i:Nat) (h:k<xs.length) (_:i<5),(stsC xs)[k*5+i]? =(stpC xs[k].1 xs[k].2)[i]?
 |[],k,_,h,_=>by simp at h
 |x::r,0,i,_,hi=>by
  show(stpC x.1 x.2++stsC r)[0*5+i]? =_
  rw[show 0*5+i=i by omega,List.getElem?_append_left (by show i<5;exact hi)]
  rfl
 |x::r,k+1,i,h,hi=>by
  have ih:=stsC_at r k i (by simpa using h) hi
  show(stpC x.1 x.2++stsC r)[(k+1)*5+i]? =_
  rw[List.getElem?_append_right (by show 5≤_;omega),show(k+1)*5+i-(stpC x.1 x.2).length=k*5+i by show(k+1)*5+i-5=_;omega,ih]
  rfl
def RowSt (B:Nat)(w:World)(v:Value)(xs:List (St×Value)):Prop:=
 w.ownsRow B 62 5 v xs.length (stsC xs)∧∀x∈xs,StOn w (fun b=>B≤b∧v.ownBlock≠some b) x.1 x.2
theorem RowSt.nil (B:Nat)(w:World):RowSt B w (.slice none 0 0) []:=⟨World.ownsRow_nil _ _ _ _,fun _ h=>by cases h⟩
theorem RowSt.blk {B:Nat}{w:World}{v:Value}{xs:List (St×Value)}(h:RowSt B w v xs){g:Nat}(hg:v.ownBlock=some g):B≤g∧g<w.heap.size:=World.ownsRow.lt h.1 g hg
theorem RowSt.form {B:Nat}{w:World}{v:Value}{xs:List (St×Value)}(h:RowSt B w v xs):∃o j,v= .slice o xs.length j:=by
 rcases h.1.2 with⟨h0,h1⟩|⟨g,cap,cur,e1,_⟩
 ·exact⟨none,0,by rw[h0,←h1]⟩
 ·exact⟨_,_,e1⟩
theorem RowSt.keep {B:Nat}{w w':World}{v:Value}{xs:List (St×Value)}(h:RowSt B w v xs)(hk:∀b,B≤b→b<w.heap.size→w'.heap[b]? =w.heap[b]?):RowSt B w' v xs:=by
 refine⟨⟨h.1.1,?_⟩,fun x hx=>StOn.move (fun b hb hF=>⟨hF,hk b hF.1 hb⟩) _ _ (h.2 x hx)⟩
 rcases h.1.2 with h0|⟨g,cap,cur,e1,e2,hg,e3⟩
 ·exact .inl h0
 ·exact .inr ⟨g,cap,cur,e1,e2,(hk g e2 (h.blk (g:=g) (by rw[e1];rfl)).2).trans hg,e3⟩
theorem RowSt.but {R B:Nat}{w w':World}{v:Value}{xs:List (St×Value)}(h:RowSt B w v xs)(hb:But R w w')(hR:R<B):RowSt B w' v xs:=
 h.keep fun b h1 h2=>hb.2 b h2 (by omega)
theorem RowSt.below {B:Nat}{w w':World}{v:Value}{xs:List (St×Value)}(h:RowSt B w v xs)(hb:Below w.heap.size w w'):RowSt B w' v xs:=
 h.keep fun b _ h2=>hb.block b h2
theorem RowSt.on {B:Nat}{w:World}{v:Value}{xs:List (St×Value)}(h:RowSt B w v xs):SdOn w (B≤ ·) v (xs.map (·.1)):=by
 have h0:=h.1
 rcases h.1.2 with⟨h1,h2⟩|⟨g,cap,cur,e1,e2,hg,e3⟩
 ·have :xs=[]:=List.length_eq_zero_iff.1 h2
  subst this
  rw[h1]
  exact SdOn.nil _ _
 ·have hc:=World.ownsRow.cells h0 (g:=g) (by rw[e1];rfl)
  refine⟨some ⟨g,0,none⟩,cap,by rw[e1,List.length_map],.inr ⟨g,0,rfl,⟨e2,by simpa using e3.1⟩,SsOn.of fun k hk=> ?_⟩⟩
  have hk':k<xs.length:=by simpa using hk
  refine⟨xs[k].2,?_,?_⟩
  ·rw[List.getElem_map]
   intro i u hu
   have hi:i<5:=by
    have :=(List.getElem?_eq_some_iff.1 hu).1
    exact this
   have :=hc (k*5+i) u ((stsC_at xs k i hk' hi).trans hu)
   rw[Addr.add_lit]at this
   rwa [show 0+k*5+i=0+(k*5+i) by omega]
  ·rw[List.getElem_map]
   exact StOn.move (fun _ _ hF=>⟨hF.1,rfl⟩) _ _ (h.2 _ (List.getElem_mem hk'))
theorem info_st:(Tryz.prog.info? 62).map (fun i=>(i.zero,i.size,i.bytes))=some (some (.agg #[.int .i64 0,.int .i64 0,.string ⟨#[]⟩,.bool false,.slice none 0 0]),5,64):=by kernel_rfl
theorem wpList_pushSt {ops:Array Oper}{rest:List Oper}{o:Oper}{a:Act}{Q:Exit→Act→World→Prop}{B:Nat}{W:World}{v:Value}{xs:List (St×Value)}
 (hgd:o.guard=none) (s x:Operand) (ho:o.op= .call {callee:= .builtin .append,args:= #[s,x],argTypes:= #[26,26]})
 (y:St) (vp:Value) (hown:RowSt B W v xs) (hy:StOn W (fun b=>B≤b∧v.ownBlock≠some b) y vp) (hs:a.eval s=v) (hx:a.eval x= .slice (some ⟨W.heap.size,0,none⟩) 1 1) (hB:B≤W.heap.size) (hlen:xs.length≤1000)
 (h:∀v' w1,RowSt B w1 v' (xs++[(y,vp)])→Below B W w1→wpList Tryz.prog ops Q rest (a.put o.dst v') w1):
 wpList Tryz.prog ops Q (o::rest) a (W.alloc (.cells #[.int .i64 y.ax,.int .i64 y.tk,.string (bs y.nm),.bool y.has,vp] 62)):=by
 refine wpList_push info_st Tryz.underlying26 rfl (by decide) (by decide) hgd s x ho (stpC y vp) rfl ?_ hown.1 hs hx hB (by omega) fun v' w1 h1 h2 h3 h4=> ?_
 ·intro u hu
  obtain⟨o1,j1,rfl,_⟩:=StOn.iff.1 hy
  simp[stpC]at hu
  rcases hu with rfl|rfl|rfl|rfl|rfl<;>rfl
 ·refine h v' w1 ⟨?_,fun z hz=> ?_⟩ h2
  ·rw[List.length_append,stsC_snoc]
   exact h1
  ·have hmv:∀b,b<W.heap.size→(B≤b∧v.ownBlock≠some b)→(B≤b∧v'.ownBlock≠some b)∧w1.heap[b]? =W.heap[b]? :=fun b hb hF=>by
    refine⟨⟨hF.1,fun hv=> ?_⟩,h3 b hb (fun e=>hF.2 e.symm)⟩
    rcases h4 b hv with h5|h5
    ·exact hF.2 h5
    ·omega
   rw[List.mem_append,List.mem_singleton]at hz
   rcases hz with hz|rfl
   ·exact StOn.move hmv _ _ (hown.2 z hz)
   ·exact StOn.move hmv _ _ hy
theorem RowSt.one {B:Nat}{W:World}(y:St)(vp:Value)(hy:StOn W (B≤ ·) y vp)(hB:B≤W.heap.size):
 RowSt B (W.alloc (.cells #[.int .i64 y.ax,.int .i64 y.tk,.string (bs y.nm),.bool y.has,vp] 62)) (.slice (some ⟨W.heap.size,0,none⟩) 1 1) [(y,vp)]:=by
 refine⟨⟨rfl,.inr ⟨W.heap.size,1,_,rfl,hB,World.alloc_heap_new W _,Nat.le_refl _,by unfold maxLen;omega,rfl,rfl⟩⟩,fun z hz=> ?_⟩
 rw[List.mem_singleton]at hz
 subst hz
 refine StOn.move (fun b hb hF=>⟨⟨hF,?_⟩,Below.heap_alloc W _ b hb⟩) _ _ hy
 simp only[Value.ownBlock,ne_eq,Option.some.injEq]
 omega
end Char
namespace Char
open Go.RowKit Go.Lib
open Go.Proofs.YtlmpkpjjakallaaGreatDoor.Fig (outT outV)
def WdsAt (w:World)(g off:Nat)(ts:List Wd):Prop:=∀k (h:k<ts.length),∀i u,(wdC ts[k])[i]? =some u→w.cell? ⟨g,off+k*4+i,none⟩=some u
theorem WdsAt.tail {w:World}{g off:Nat}{x:Wd}{ts:List Wd}(h:WdsAt w g off (x::ts)):WdsAt w g (off+4) ts:=fun k hk i u hu=>by
 have :=h (k+1) (by simpa using hk) i u (by simpa using hu)
 rwa [show off+(k+1)*4+i=off+4+k*4+i by omega]at this
theorem WdsAt.head {w:World}{g off:Nat}{x:Wd}{ts:List Wd}(h:WdsAt w g off (x::ts)):w.cell? ⟨g,off,none⟩=some (.int .i64 (x.k:Int))∧w.cell? ⟨g,off+1,none⟩=some (.string (bs x.s))∧w.cell? ⟨g,off+2,none⟩=some (.int .i64 (outT x.n))∧w.cell? ⟨g,off+3,none⟩=some (.int .i64 (outV x.n)):=by
 have h0:=h 0 (by simp)
 simp only[Nat.zero_mul,Nat.add_zero,List.getElem_cons_zero]at h0
 exact⟨h0 0 _ rfl,h0 1 _ rfl,h0 2 _ rfl,h0 3 _ rfl⟩
theorem WdsAt.move {w w':World}{g off:Nat}{ts:List Wd}(h:WdsAt w g off ts)(hb:w'.heap[g]? =w.heap[g]?):WdsAt w' g off ts:=fun k hk i u hu=>
 (World.cell?_of_block (w:=w) (w':=w') (a:=⟨g,off+k*4+i,none⟩) hb).trans (h k hk i u hu)
def LfB (R:Nat)(ts:List Wd)(w:World):Prop:=∃o c,w.cell? ⟨R,0,none⟩=some (.slice o ts.length c)∧w.frozen? ⟨R,0,none⟩=false∧R<w.heap.size∧ts.length≤c∧
 (ts=[]∨∃g off,o=some ⟨g,off,none⟩∧g<R∧WdsAt w g off ts)
theorem LfB.lt {R:Nat}{ts:List Wd}{w:World}(h:LfB R ts w):R<w.heap.size:=by
 obtain⟨_,_,_,_,h,_⟩:=h
 exact h
theorem LfB.below {R:Nat}{ts:List Wd}{w w':World}(h:LfB R ts w)(hb:Below w.heap.size w w'):LfB R ts w':=by
 obtain⟨o,c,h1,h2,h3,h4,h5⟩:=h
 refine⟨o,c,(hb.cell (p:=⟨R,0,none⟩) h3).trans h1,(hb.frozen (p:=⟨R,0,none⟩) h3).trans h2,Nat.lt_of_lt_of_le h3 hb.size,h4,?_⟩
 rcases h5 with h5|⟨g,off,e1,e2,e4⟩
 ·exact .inl h5
 ·exact .inr ⟨g,off,e1,e2,e4.move (hb.block g (Nat.lt_trans e2 h3))⟩
theorem LfB.keep {R:Nat}{ts:List Wd}{w w':World}(h:LfB R ts w)(hk:∀k,k≤R→w'.heap[k]? =w.heap[k]?)(hs:w.heap.size≤w'.heap.size):LfB R ts w':=by
 obtain⟨o,c,h1,h2,h3,h4,h5⟩:=h
 have hR:=hk R (Nat.le_refl _)
 refine⟨o,c,(World.cell?_of_block (w:=w) (a:=⟨R,0,none⟩) hR).trans h1,(World.frozen?_of_block (w:=w) (a:=⟨R,0,none⟩) hR).trans h2,Nat.lt_of_lt_of_le h3 hs,h4,?_⟩
 rcases h5 with h5|⟨g,off,e1,e2,e4⟩
 ·exact .inl h5
 ·exact .inr ⟨g,off,e1,e2,e4.move (hk g (Nat.le_of_lt e2))⟩
set_option maxRecDepth 100000 in
theorem word_size (wx:World):((sizeOf (Tryz.prog.elem 38)).run Tryz.prog wx)= .ok 4 wx:=by kernel_rfl
theorem word_under:Tryz.prog.underlying 38=some (.slice (Tryz.prog.elem 38)):=by kernel_rfl
theorem LfB.cons {R:Nat}{x:Wd}{ts:List Wd}{w:World}(h:LfB R (x::ts) w):∃g off c,w.cell? ⟨R,0,none⟩=some (.slice (some ⟨g,off,none⟩) (ts.length+1) c)∧w.frozen? ⟨R,0,none⟩=false∧
 (w.cell? ⟨g,off,none⟩=some (.int .i64 (x.k:Int))∧w.cell? ⟨g,off+1,none⟩=some (.string (bs x.s))∧w.cell? ⟨g,off+2,none⟩=some (.int .i64 (outT x.n))∧w.cell? ⟨g,off+3,none⟩=some (.int .i64 (outV x.n)))∧
 ∃o',(∀wx,(Instr.slice 38 (.slice (some ⟨g,off,none⟩) (ts.length+1) c) (some (.int .i64 1)) none none).run Tryz.prog wx= .ok (.slice o' ts.length (c-1)) wx)∧
  LfB R ts (w.setCell ⟨R,0,none⟩ (.slice o' ts.length (c-1))):=by
 obtain⟨o,c,h1,h2,h3,h4,h5⟩:=h
 rcases h5 with h5|⟨g,off,rfl,e2,e4⟩
 ·cases h5
 ·rw[List.length_cons]at h4
  have hlt:R<w.heap.size:=h3
  have q1:∀z,(w.setCell ⟨R,0,none⟩ z).cell? ⟨R,0,none⟩=some z:=fun z=>by go_simp
  have q2:∀z,(w.setCell ⟨R,0,none⟩ z).frozen? ⟨R,0,none⟩=false:=fun z=>by go_simp
  have q3:∀z,(w.setCell ⟨R,0,none⟩ z).heap.size=w.heap.size:=fun z=>by go_simp
  obtain⟨o',ho'⟩:∃o',o'=if c=1 then some (⟨g,off,none⟩:Addr) else some ⟨g,off+4,none⟩:=⟨_,rfl⟩
  refine⟨g,off,c,h1,h2,e4.head,o',fun wx=> ?_,?_⟩
  ·have hz:=word_size wx
   have :=run_slice_l (P:=Tryz.prog) wx 38 (some ⟨g,off,none⟩) (ts.length+1) c word_under .i64 1 (by omega) (by omega)
   rw[this,hz]
   simp only[Result.andThen,sliced]
   rw[ho']
   by_cases hc:c=1
   ·rw[hc]
    simp
   ·simp[hc,Addr.add]
  ·refine⟨_,c-1,q1 _,q2 _,by rw[q3];exact h3,by omega,?_⟩
   cases ts with
   |nil=>exact .inl rfl
   |cons y r=>
    have hc:¬c=1:=by rw[List.length_cons]at h4;omega
    rw[if_neg hc]at ho'
    exact .inr ⟨g,off+4,ho',e2,(WdsAt.tail e4).move (Below.heap_setCell _ _ _ _ (by show g≠R;omega))⟩
theorem LfB.nil {R:Nat}{w:World}(h:LfB R [] w):∃o c,w.cell? ⟨R,0,none⟩=some (.slice o 0 c)∧w.frozen? ⟨R,0,none⟩=false:=by
 obtain⟨o,c,h1,h2,_⟩:=h
 exact⟨o,c,h1,h2⟩
def atL (k:Int):List Wd→Bool
 |[]=>false
 |x::_=>(x.k:Int)==k
def aheadL (k:Int)(m:List UInt8):List Wd→Bool
 |[]=>false
 |x::_=>if (x.k:Int)==k then x.s==m else false
set_option maxHeartbeats 2000000 in
theorem at_any (R:Nat)(k:Int)(ts:List Wd)(w:World)(h:LfB R ts w):
 Calls Tryz.prog 214 #[.pointer (some ⟨R,0,none⟩),.int .i64 k] w fun e w'=>e= .returned (.bool (atL k ts))∧w'=w:=by
 cases ts with
 |nil=>
  obtain⟨o,c,h1,h2⟩:=h.nil
  clear h
  go_enter Tryz.func214,Tryz.ntmps214
  go_wp2_with fail
  go_ret
  exact⟨rfl,rfl⟩
 |cons x r=>
  obtain⟨g,off,c,h1,h2,⟨x0,_⟩,_⟩:=h.cons
  clear h
  simp only[atL]
  have k0:decide ((0:Int)<((r.length+1:Nat):Int))=true:=decide_eq_true (by omega)
  generalize (x.k:Int)=c0 at *
  generalize r.length+1=n at *
  have k1:decide (0<n)=true:=decide_eq_true (by have :=of_decide_eq_true k0;omega)
  have k2:(0:Int)<(n:Int):=of_decide_eq_true k0
  clear k0
  go_enter Tryz.func214,Tryz.ntmps214
  go_wp2_with fail
  go_ret
  exact⟨rfl,rfl⟩
end Char
namespace Char
open Go.RowKit Go.Lib
open Go.Proofs.YtlmpkpjjakallaaGreatDoor.Fig (outT outV)
def pan31:Ending:= .panicked [{v:= .iface 29 (.int .i64 31),recovered:=false}]
def TkP (R:Nat)(v:Value)(ts:List Wd)(w:World)(e:Ending)(w':World):Prop:=e= .returned v∧LfB R ts w'∧But R w w'
def PaP (R:Nat)(w:World)(e:Ending)(w':World):Prop:=e=pan31∧But R w w'
set_option maxHeartbeats 2000000 in
theorem ahead_any (R:Nat)(k:Int)(m:List UInt8)(ts:List Wd)(w:World)(h:LfB R ts w):
 Calls Tryz.prog 196 #[.pointer (some ⟨R,0,none⟩),.int .i64 k,.string (bs m)] w fun e w'=>e= .returned (.bool (aheadL k m ts))∧w'=w:=by
 have HA:=Lib.hid (at_any R k ts w h)
 cases ts with
 |nil=>
  simp only[atL]at HA
  simp only[aheadL]
  clear h
  go_enter Tryz.func196,Tryz.ntmps196
  go_wp2_with (first
   |(go_at_call 214
     refine HA.out.mono ?_
     rintro e w1 ⟨rfl,rfl⟩))
  go_ret
  exact⟨rfl,rfl⟩
 |cons x r=>
  obtain⟨g,off,c,h1,h2,⟨_,x1,_⟩,_⟩:=h.cons
  clear h
  simp only[atL]at HA
  simp only[aheadL]
  have k2:(0:Int)<((r.length+1:Nat):Int):=by omega
  generalize ((x.k:Int)==k)=b at *
  generalize r.length+1=n at *
  have k3:((bs x.s).toList==(bs m).toList)=(x.s==m):=by rw[bs_tl,bs_tl]
  generalize (x.s==m)=b2 at *
  generalize bs x.s=S at *
  generalize bs m=M at *
  cases b
  all_goals
   go_enter Tryz.func196,Tryz.ntmps196
   go_wp2_with (first
    |(go_at_call 214
      refine HA.out.mono ?_
      rintro e w1 ⟨rfl,rfl⟩))
   go_ret
   exact⟨rfl,rfl⟩
def takeL (k:Int)(m:List UInt8)(ts:List Wd):List Wd:=if aheadL k m ts then ts.tail else ts
set_option maxHeartbeats 2000000 in
theorem take_any (R:Nat)(k:Int)(m:List UInt8)(ts:List Wd)(w:World)(h:LfB R ts w):
 Calls Tryz.prog 180 #[.pointer (some ⟨R,0,none⟩),.int .i64 k,.string (bs m)] w (TkP R (.bool (aheadL k m ts)) (takeL k m ts) w):=by
 have HA:=Lib.hid (ahead_any R k m ts w h)
 unfold takeL
 cases hb:aheadL k m ts with
 |false=>
  rw[hb]at HA
  have HL:=Lib.hid h
  rw[if_neg (by simp)]
  clear h hb
  unfold TkP
  go_enter Tryz.func180,Tryz.ntmps180
  go_wp2_with (first
   |(go_at_call 196
     refine HA.out.mono ?_
     rintro e w1 ⟨rfl,rfl⟩))
  go_ret
  exact⟨rfl,HL.out,But.refl _ _⟩
 |true=>
  rw[hb]at HA
  rw[if_pos rfl]
  cases ts with
  |nil=>cases hb
  |cons x r=>
   obtain⟨g,off,c,h1,h2,_,o',hs,h3⟩:=h.cons
   have hlt:=h.lt
   have HL:=Lib.hid h3
   clear h hb h3
   show Calls _ _ _ _ (TkP R _ r w)
   unfold TkP
   generalize r.length+1=n at *
   generalize bs m=M at *
   go_enter Tryz.func180,Tryz.ntmps180
   go_wp2_with (first
    |(go_at_call 196
      refine HA.out.mono ?_
      rintro e w1 ⟨rfl,rfl⟩))
   go_ret
   exact⟨rfl,HL.out,But.set _ _ _ _⟩
set_option maxHeartbeats 2000000 in
theorem must_ok (R:Nat)(m:List UInt8)(ts:List Wd)(w:World)(h:LfB R ts w)(ha:aheadL 1 m ts=true):
 Calls Tryz.prog 230 #[.pointer (some ⟨R,0,none⟩),.string (bs m)] w (TkP R (.tuple #[]) ts.tail w):=by
 have HT:=take_any R 1 m ts w h
 unfold takeL at HT
 rw[if_pos ha,ha]at HT
 have HT:=Lib.hid HT
 unfold TkP at HT ⊢
 clear h ha
 generalize bs m=M at *
 go_enter Tryz.func230,Tryz.ntmps230
 go_wp2_with (first
  |(go_at_call 180
    refine HT.out.mono ?_
    rintro e w1 ⟨rfl,h1,h2⟩
    have H1:=Lib.hid h1
    have H2:=Lib.hid h2
    clear h1 h2 HT))
 exact⟨rfl,.tuple #[],by simp[results,go_sem],rfl,H1.out,H2.out⟩
set_option maxHeartbeats 2000000 in
theorem must_no (R:Nat)(m:List UInt8)(ts:List Wd)(w:World)(h:LfB R ts w)(ha:aheadL 1 m ts=false):
 Calls Tryz.prog 230 #[.pointer (some ⟨R,0,none⟩),.string (bs m)] w (PaP R w):=by
 have HT:=take_any R 1 m ts w h
 unfold takeL at HT
 rw[if_neg (by rw[ha];simp),ha]at HT
 have HT:=Lib.hid HT
 unfold TkP at HT
 unfold PaP
 clear h ha
 generalize bs m=M at *
 go_enter Tryz.func230,Tryz.ntmps230
 go_wp2_with (first
  |(go_at_call 180
    refine HT.out.mono ?_
    rintro e w1 ⟨rfl,h1,h2⟩
    have H1:=Lib.hid h1
    have H2:=Lib.hid h2
    clear h1 h2 HT))
 exact⟨rfl,rfl,H2.out⟩
def MuP (R:Nat)(x:Option (List Wd))(w:World)(e:Ending)(w':World):Prop:=match x with
 |none=>PaP R w e w'
 |some ts=>TkP R (.tuple #[]) ts w e w'
def mustW (m:List UInt8)(ts:List Wd):Option (List Wd):=if aheadL 1 m ts then some ts.tail else none
theorem must_any (R:Nat)(m:List UInt8)(ts:List Wd)(w:World)(h:LfB R ts w):
 Calls Tryz.prog 230 #[.pointer (some ⟨R,0,none⟩),.string (bs m)] w (MuP R (mustW m ts) w):=by
 unfold mustW
 cases ha:aheadL 1 m ts with
 |false=>
  rw[if_neg (by simp)]
  exact must_no R m ts w h ha
 |true=>
  rw[if_pos rfl]
  exact must_ok R m ts w h ha
set_option maxHeartbeats 2000000 in
theorem next_no (R:Nat)(w:World)(h:LfB R [] w):Calls Tryz.prog 228 #[.pointer (some ⟨R,0,none⟩)] w (PaP R w):=by
 obtain⟨o,c,h1,h2⟩:=h.nil
 have hlt:=h.lt
 have HB:=Lib.hid (But.of (below_box (w:=w) (.cells #[.int .i64 0,.string ⟨#[]⟩,.int .i64 0,.int .i64 0] 89)) hlt)
 unfold PaP
 clear h
 go_enter Tryz.func228,Tryz.ntmps228
 go_wp2_with fail
 exact⟨rfl,rfl,HB.out⟩
end Char
end Go.Proofs.YtlmpkpjjakallaaGreatDoor
