import Derived.Test.YtlmpkpjjakallaaGreatDoorPk22
import Derived.Test.YtlmpkpjjakallaaGreatDoorPk23
import Derived.Test.YtlmpkpjjakallaaGreatDoorPk07
import Derived.Test.YtlmpkpjjakallaaGreatDoorPk18
import Derived.Deep.RegionHeld
namespace Go.Proofs.YtlmpkpjjakallaaGreatDoor
namespace Char
open Go.RowKit Go.Lib
open Go.Proofs.YtlmpkpjjakallaaGreatDoor.Fig (outT outV)
theorem kd_row {w:World}{B:Nat}{F:Nat→Prop}{v:Value}{xs:List (Ex×Value×Value)}(h:w.ownsRow B 28 7 v xs.length (exsC xs))(hx:∀x∈xs,ExOn w F x.1 x.2.1 x.2.2)(hF:∀g,v.ownBlock=some g→F g):KdOn w F v (xs.map (·.1)):=by
 have h0:=h
 rcases h.2 with⟨h1,h2⟩|⟨g,cap,cur,e1,e2,hg,e3⟩
 ·have :xs=[]:=List.length_eq_zero_iff.1 h2
  subst this
  rw[h1]
  exact KdOn.nil _ _
 ·have hc:=World.ownsRow.cells h0 (g:=g) (by rw[e1];rfl)
  refine⟨some ⟨g,0,none⟩,cap,by rw[e1,List.length_map],.inr ⟨g,0,rfl,⟨hF g (by rw[e1];rfl),by simpa using e3.1⟩,KsOn.of fun k hk=> ?_⟩⟩
  have hk':k<xs.length:=by simpa using hk
  refine⟨xs[k].2.1,xs[k].2.2,?_,?_⟩
  ·rw[List.getElem_map]
   intro i u hu
   have hi:i<7:=(List.getElem?_eq_some_iff.1 hu).1
   have :=hc (k*7+i) u ((exsC_at xs k i hk' hi).trans hu)
   rw[Addr.add_lit]at this
   rwa [show 0+k*7+i=0+(k*7+i) by omega]
  ·rw[List.getElem_map]
   exact hx _ (List.getElem_mem hk')
theorem wpList_catK {ops:Array Oper}{rest:List Oper}{o:Oper}{a:Act}{Q:Exit→Act→World→Prop}{B C:Nat}{F:Nat→Prop}{W:World}{v u:Value}{xs ys:List (Ex×Value×Value)}
 (hgd:o.guard=none) (s x:Operand) (ho:o.op= .call {callee:= .builtin .append,args:= #[s,x],argTypes:= #[25,25]})
 (hown:W.ownsRow B 28 7 v xs.length (exsC xs)) (hsrc:W.ownsRow C 28 7 u ys.length (exsC ys)) (hxs:∀y∈xs++ys,ExOn W F y.1 y.2.1 y.2.2) (hFv:∀b,F b→v.ownBlock≠some b) (hne:ys≠[]) (hs:a.eval s=v) (hx:a.eval x=u) (hB:B≤W.heap.size) (hlen:xs.length+ys.length≤1000)
 (h:∀v' w1,KdOn w1 (fun b=>F b∨v.ownBlock=some b∨W.heap.size≤b) v' ((xs++ys).map (·.1))→(∀k,k<W.heap.size→v.ownBlock≠some k→w1.heap[k]? =W.heap[k]?)→Below B W w1→wpList Tryz.prog ops Q rest (a.put o.dst v') w1):
 wpList Tryz.prog ops Q (o::rest) a W:=by
 rcases hsrc.2 with⟨_,h0⟩|⟨g,cap,cur,rfl,_⟩
 ·exact absurd (List.length_eq_zero_iff.1 h0) hne
 obtain⟨i0,hi,hz0,hz1,hz2⟩:=info_parts info_ex
 refine wpList_append_own_at _ hgd s x 25 ho B 28 i0 _ 7 96 Tryz.underlying25 hi hz0 hz1 hz2 rfl (by decide) v xs.length (exsC xs) hs hown ⟨g,0,none⟩ ys.length cap (exsC ys) hx (exsC_len ys) (hsrc.cells rfl) ?_ ?_ ?_ hB ?_
 ·intro z hz
  obtain⟨y,hy,hz⟩:=List.mem_flatMap.1 hz
  obtain⟨⟨o1,j1,e1,_⟩,⟨o2,j2,e2,_⟩⟩:=ExOn.iff.1 (hxs y (List.mem_append_right _ hy))
  simp[exC,e1,e2]at hz
  rcases hz with rfl|rfl|rfl|rfl|rfl|rfl|rfl<;>rfl
 ·unfold maxLen;omega
 ·omega
 ·intro v' w' h2 h3 _ h5
  have hgr:Below B W w':=(Below.refl B W).grown h3 hB (fun k hk=>(World.ownsRow.lt hown k hk).1)
  refine h v' w' (kd_row (B:=B) ?_ (fun z hz=> ?_) (fun g hg=> ?_)) (fun k hk hn=>h3.block k hk (fun e=>hn e.symm)) hgr
  ·rw[List.length_append,exsC_app]
   exact h2
  ·exact ExOn.move (fun b hb hF=>⟨.inl hF,h3.block b hb (fun e=>hFv b hF e.symm)⟩) _ _ _ (hxs z hz)
  ·rcases h5 with h5|h5
   ·rw[h5]at hg
    exact .inr (.inl hg)
   ·rw[h5]at hg
    simp at hg
    exact .inr (.inr (by omega))
theorem predsD_acc {O:List Wd→Option Ex}:∀(f:Nat) (l:List Wd) (acc ps:List Ex) (r:List Wd),predsD O f l acc=some (ps,r)→∃t,ps=acc++t
 |0,_,_,_,_,h=>by rw[predsD]at h;cases h
 |f+1,l,acc,ps,r,h=>by
  rw[predsD]at h
  split at h
  ·cases hp:partR [[91]] l.tail with
   |none=>rw[hp]at h;cases h
   |some q=>
    obtain⟨u,v⟩:=q
    rw[hp]at h
    dsimp only at h
    cases ho:O u with
    |none=>rw[ho]at h;cases h
    |some y=>
     rw[ho]at h
     dsimp only at h
     obtain⟨t,ht⟩:=predsD_acc f v _ ps r h
     exact⟨y::t,by rw[ht];simp⟩
  ·cases h
   exact⟨[],by simp⟩
theorem predsD_zero {O:List Wd→Option Ex}{f:Nat}{l:List Wd}{ps:List Ex}{m:Nat}(h:predsD O f l []=some (ps,l.drop m))(hm:m≤l.length):ps=[]↔m=0:=by
 cases f with
 |zero=>rw[predsD]at h;cases h
 |succ f=>
  rw[predsD]at h
  split at h
  ·rename_i ha
   obtain⟨x,t,rfl,hx⟩:=ahead1_inv ha
   rw[List.tail_cons]at h
   cases hp:partR [[91]] t with
   |none=>rw[hp]at h;cases h
   |some q=>
    obtain⟨u,v⟩:=q
    rw[hp]at h
    dsimp only at h
    cases ho:O u with
    |none=>rw[ho]at h;cases h
    |some y=>
     rw[ho]at h
     dsimp only at h
     obtain⟨t',ht⟩:=predsD_acc f v _ ps _ h
     obtain⟨m',hm',hv⟩:=predsD_suf f v _ ps _ h
     obtain⟨c,hsp⟩:=par_split hp
     have h1:=congrArg List.length hv
     have h2:=congrArg List.length hsp
     rw[List.length_drop,List.length_drop,List.length_cons]at h1
     rw[List.length_append,List.length_cons]at h2
     rw[List.length_cons]at hm
     constructor
     ·intro e
      rw[e]at ht
      simp at ht
     ·intro e
      omega
  ·rw[Option.some.injEq,Prod.mk.injEq]at h
   obtain⟨h1,h2⟩:=h
   have :=congrArg List.length h2
   rw[List.length_drop]at this
   exact⟨fun _=>by omega,fun _=>h1.symm⟩
structure Q1 (w W:World)(be:Nat)(y:Ex)(vk vs:Value):Prop where
 res:W.heap[w.heap.size]? =some (boxEx ex0 (.slice none 0 0) (.slice none 0 0))
 box:W.heap[be]? =some (boxEx y vk vs)
 lt:w.heap.size<be
 bel:Below w.heap.size w W
 on:ExOn W (fun b=>w.heap.size+1≤b∧b≠be) y vk vs
theorem Q1.sz {w W:World}{be:Nat}{y:Ex}{vk vs:Value}(h:Q1 w W be y vk vs):be<W.heap.size:=(Array.getElem?_eq_some_iff.1 h.box).1
theorem Q1.call {w W W':World}{be:Nat}{y:Ex}{vk vs:Value}(h:Q1 w W be y vk vs)(hb:Below W.heap.size W W'):Q1 w W' be y vk vs:=
 ⟨(hb.block _ (Nat.lt_trans h.lt h.sz)).trans h.res,(hb.block _ h.sz).trans h.box,h.lt,h.bel.trans (hb.mono h.bel.size),h.on.below hb⟩
theorem Q1.new {w w1:World}{y:Ex}{vk vs:Value}(hr:w1.heap[w.heap.size]? =some (boxEx ex0 (.slice none 0 0) (.slice none 0 0)))(hb:Below w.heap.size w w1)(ho:ExOn w1 (w.heap.size+1≤ ·) y vk vs):Q1 w (w1.alloc (boxEx y vk vs)) w1.heap.size y vk vs:=by
 have hlt:=(Array.getElem?_eq_some_iff.1 hr).1
 exact⟨(Below.heap_alloc _ _ _ hlt).trans hr,World.alloc_heap_new _ _,hlt,hb.alloc hb.size _,ExOn.move (fun b hb hF=>⟨⟨hF,by omega⟩,Below.heap_alloc _ _ _ hb⟩) _ _ _ ho⟩
theorem Q1.facts {w W:World}{be:Nat}{y:Ex}{vk vs:Value}(h:Q1 w W be y vk vs):
 (W.cell? ⟨w.heap.size,0,none⟩=some (.int .i64 0)∧W.cell? ⟨w.heap.size,1,none⟩=some (.string (bs []))∧W.cell? ⟨w.heap.size,2,none⟩=some (.int .i64 0)∧W.cell? ⟨w.heap.size,3,none⟩=some (.int .i64 0)∧W.cell? ⟨w.heap.size,4,none⟩=some (.bool false)∧W.cell? ⟨w.heap.size,5,none⟩=some (.slice none 0 0)∧W.cell? ⟨w.heap.size,6,none⟩=some (.slice none 0 0))∧(∀i,W.frozen? ⟨w.heap.size,i,none⟩=false)∧
 (W.cell? ⟨be,0,none⟩=some (.int .i64 y.op)∧W.cell? ⟨be,1,none⟩=some (.string (bs y.s))∧W.cell? ⟨be,2,none⟩=some (.int .i64 y.tg)∧W.cell? ⟨be,3,none⟩=some (.int .i64 y.vl)∧W.cell? ⟨be,4,none⟩=some (.bool y.abs)∧W.cell? ⟨be,5,none⟩=some vk∧W.cell? ⟨be,6,none⟩=some vs)∧(∀i,W.frozen? ⟨be,i,none⟩=false)∧be<W.heap.size∧w.heap.size<W.heap.size∧w.heap.size<be:=
 ⟨(boxEx_blk h.res).1,(boxEx_blk h.res).2,(boxEx_blk h.box).1,(boxEx_blk h.box).2,h.sz,Nat.lt_trans h.lt h.sz,h.lt⟩
theorem Q1.set {w W W':World}{be:Nat}{y z:Ex}{vk vs wk ws:Value}(h:Q1 w W be y vk vs)(hb:Below w.heap.size w W')(h1:W'.heap[w.heap.size]? =W.heap[w.heap.size]?)(h2:W'.heap[be]? =W.heap[be]?)(ho:ExOn W' (fun b=>w.heap.size+1≤b∧b≠be) z wk ws):Q1 w (setEx W' be z wk ws) be z wk ws:=
 ⟨(setEx_ne (by have :=h.lt;omega)).trans (h1.trans h.res),setEx_at (h2.trans h.box),h.lt,setEx_below hb (Nat.le_of_lt h.lt),ExOn.move (fun b _ hF=>⟨hF,setEx_ne hF.2⟩) _ _ _ ho⟩
theorem path_ok {fn:Func}(h:fn.results= #[.cell 2 28,.tmp 3]){a:Act}{w:World}(W:World){be:Nat}{y:Ex}{vk vs:Value}{r:Option Ex}(hq:Q1 w W be y vk vs)(hr:r=some y)
 (hp:a.tmps.getD 2 undef= .pointer (some ⟨w.heap.size,0,none⟩)) (ht:a.tmps.getD 3 undef= .bool true) (hd:a.defers=[]):bodyPost Tryz.prog fn (OrP w r) .ret a (setEx W w.heap.size y vk vs):=
 endOr h W y vk vs true hq.res hq.bel (ExOn.move (fun _ _ hF=>⟨hF.1,rfl⟩) _ _ _ hq.on) hr hp ht hd
theorem path_no {fn:Func}(h:fn.results= #[.cell 2 28,.tmp 3]){a:Act}{w:World}(W:World){be:Nat}{y:Ex}{vk vs:Value}{r:Option Ex}(hq:Q1 w W be y vk vs)(hr:r=none)
 (hp:a.tmps.getD 2 undef= .pointer (some ⟨w.heap.size,0,none⟩)) (ht:a.tmps.getD 3 undef= .bool false) (hd:a.defers=[]):bodyPost Tryz.prog fn (OrP w r) .ret a (setEx W w.heap.size ex0 (.slice none 0 0) (.slice none 0 0)):=
 endOr h W ex0 _ _ false hq.res hq.bel (ExOn.iff.2 ⟨KdOn.nil _ _,SdOn.nil _ _⟩) hr hp ht hd
theorem path_st {fn:Func}(h:fn.results= #[.cell 2 28,.tmp 3]){a:Act}{w:World}(W:World){be:Nat}{y:Ex}{vk vs:Value}{b:Bool}{ss:List St}{o:Option Addr}{j:Nat}{r:Option Ex}(hq:Q1 w W be y vk vs)(hs:SdOn W (w.heap.size+1≤ ·) (.slice o ss.length j) ss)(hr:r=if b=true then some (.mk 16 [] 0 0 false [y] ss) else none)
 (hp:a.tmps.getD 2 undef= .pointer (some ⟨w.heap.size,0,none⟩)) (ht:a.tmps.getD 3 undef= .bool b) (hd:a.defers=[]):bodyPost Tryz.prog fn (OrP w r) .ret a ((setEx W w.heap.size (.mk 16 [] 0 0 false [y] ss) (.slice (some ⟨W.heap.size,0,none⟩) 1 1) (.slice o ss.length j)).alloc (boxEx y vk vs)):=by
 have hz:(setEx W w.heap.size (.mk 16 [] 0 0 false [y] ss) (.slice (some ⟨W.heap.size,0,none⟩) 1 1) (.slice o ss.length j)).heap.size=W.heap.size:=setEx_size
 have hne:∀k,w.heap.size+1≤k→(setEx W w.heap.size (.mk 16 [] 0 0 false [y] ss) (.slice (some ⟨W.heap.size,0,none⟩) 1 1) (.slice o ss.length j)).heap[k]? =W.heap[k]? :=fun k hk=>setEx_ne (by omega)
 have hat:=setEx_at (x:= .mk 16 [] 0 0 false [y] ss) (vk:= .slice (some ⟨W.heap.size,0,none⟩) 1 1) (vs:= .slice o ss.length j) hq.res
 have hbl:=setEx_below (x:= .mk 16 [] 0 0 false [y] ss) (vk:= .slice (some ⟨W.heap.size,0,none⟩) 1 1) (vs:= .slice o ss.length j) hq.bel (Nat.le_refl _)
 have hlt:=Nat.lt_trans hq.lt hq.sz
 have hsz:=hq.bel.size
 generalize setEx W w.heap.size (.mk 16 [] 0 0 false [y] ss) (.slice (some ⟨W.heap.size,0,none⟩) 1 1) (.slice o ss.length j)=X at *
 have ho2:ExOn X (w.heap.size+1≤ ·) y vk vs:=ExOn.move (fun b _ hF=>⟨hF.1,hne b hF.1⟩) _ _ _ hq.on
 have hrow:=RowEx.one (B:=w.heap.size+1) y vk vs ho2 (by omega)
 refine endOrB h _ (.mk 16 [] 0 0 false [y] ss) _ _ b ((Below.heap_alloc _ _ _ (by omega)).trans hat) (hbl.alloc (by omega) _) (ExOn.iff.2 ⟨?_,?_⟩) hr hp ht hd
 ·have :=hrow.on
  rw[hz]at this
  exact this
 ·exact hs.move fun k hk hF=>⟨hF,(Below.heap_alloc _ _ _ (by omega)).trans (hne k hF)⟩
theorem path_noA {fn:Func}(h:fn.results= #[.cell 2 28,.tmp 3]){a:Act}{w:World}(W:World)(o:Obj){r:Option Ex}(hk:W.heap[w.heap.size]? =some (boxEx ex0 (.slice none 0 0) (.slice none 0 0)))(hb:Below w.heap.size w W)(hr:r=none)
 (hp:a.tmps.getD 2 undef= .pointer (some ⟨w.heap.size,0,none⟩)) (ht:a.tmps.getD 3 undef= .bool false) (hd:a.defers=[]):bodyPost Tryz.prog fn (OrP w r) .ret a ((setEx W w.heap.size ex0 (.slice none 0 0) (.slice none 0 0)).alloc o):=
 have hlt:=(Array.getElem?_eq_some_iff.1 hk).1
 endOrB h _ ex0 _ _ false ((Below.heap_alloc _ _ _ (by rw[setEx_size];exact hlt)).trans (setEx_at hk)) ((setEx_below hb (Nat.le_refl _)).alloc (by rw[setEx_size];exact hb.size) _) (ExOn.iff.2 ⟨KdOn.nil _ _,SdOn.nil _ _⟩) hr hp ht hd
theorem PrP.no {w w':World}{l:List Wd}{e:Ending}(h:PrP w l none e w'):e= .returned (.tuple #[exV ex0 (.slice none 0 0) (.slice none 0 0),.int .i64 0])∧Below w.heap.size w w':=by
 obtain⟨hb,⟨_,he⟩|⟨x,vk,vs,m,hq,_⟩⟩:=h
 ·exact⟨he,hb⟩
 ·cases hq
theorem PrP.yes {w w':World}{l:List Wd}{y:Ex}{m:Nat}{e:Ending}(h:PrP w l (some (y,l.drop m)) e w')(hm:m≤l.length):∃(o1 o2:Option Addr) (j1 j2:Nat),e= .returned (.tuple #[exV y (.slice o1 y.ks.length j1) (.slice o2 y.ss.length j2),.int .i64 (m:Int)])∧ExOn w' (w.heap.size≤ ·) y (.slice o1 y.ks.length j1) (.slice o2 y.ss.length j2)∧Below w.heap.size w w':=by
 obtain⟨hb,⟨hq,_⟩|⟨x,vk,vs,k,hq,h1,h2,ho,he⟩⟩:=h
 ·cases hq
 ·rw[Option.some.injEq,Prod.mk.injEq]at hq
  obtain⟨rfl,hq⟩:=hq
  have hl:=congrArg List.length hq
  rw[List.length_drop,List.length_drop]at hl
  have :k=m:=by omega
  subst this
  obtain⟨⟨o1,j1,rfl,_⟩,⟨o2,j2,rfl,_⟩⟩:=ExOn.iff.1 ho
  exact⟨o1,o2,j1,j2,he,ho,hb⟩
theorem own_one (w:World)(y:Ex)(vk vs:Value):(w.alloc (boxEx y vk vs)).ownsRow w.heap.size 28 7 (.slice (some ⟨w.heap.size,0,none⟩) 1 1) [(y,vk,vs)].length (exsC [(y,vk,vs)]):=
 ⟨rfl,.inr ⟨w.heap.size,1,_,rfl,Nat.le_refl _,World.alloc_heap_new w _,Nat.le_refl _,by unfold maxLen;omega,rfl,rfl⟩⟩
def PWay (x:Wd):Prop:=((x.k:Int) != 10)=false∨(((x.k:Int) != 10)=true∧((x.k:Int) != 8)=false)∨(((x.k:Int) != 10)=true∧((x.k:Int) != 8)=true∧((x.k:Int) != 9)=false)∨(((x.k:Int) != 10)=true∧((x.k:Int) != 8)=true∧((x.k:Int) != 9)=true∧((x.k:Int) != 6)=false)∨(((x.k:Int) != 10)=true∧((x.k:Int) != 8)=true∧((x.k:Int) != 9)=true∧((x.k:Int) != 6)=true∧mkW [40] x=true)
def RB (w W:World):Prop:=W.heap[w.heap.size]? =some (boxEx ex0 (.slice none 0 0) (.slice none 0 0))∧Below w.heap.size w W
theorem RB.new (w:World):RB w (w.alloc (boxEx ex0 (.slice none 0 0) (.slice none 0 0))):=⟨World.alloc_heap_new w _,below_box _⟩
theorem RB.lt {w W:World}(h:RB w W):w.heap.size<W.heap.size:=(Array.getElem?_eq_some_iff.1 h.1).1
theorem RB.call {w W W':World}(h:RB w W)(hb:Below W.heap.size W W'):RB w W':=⟨(hb.block _ h.lt).trans h.1,h.2.trans (hb.mono h.2.size)⟩
theorem RB.facts {w W:World}(h:RB w W):
 (W.cell? ⟨w.heap.size,0,none⟩=some (.int .i64 0)∧W.cell? ⟨w.heap.size,1,none⟩=some (.string (bs []))∧W.cell? ⟨w.heap.size,2,none⟩=some (.int .i64 0)∧W.cell? ⟨w.heap.size,3,none⟩=some (.int .i64 0)∧W.cell? ⟨w.heap.size,4,none⟩=some (.bool false)∧W.cell? ⟨w.heap.size,5,none⟩=some (.slice none 0 0)∧W.cell? ⟨w.heap.size,6,none⟩=some (.slice none 0 0))∧(∀i,W.frozen? ⟨w.heap.size,i,none⟩=false)∧w.heap.size<W.heap.size:=
 ⟨(boxEx_blk h.1).1,(boxEx_blk h.1).2,h.lt⟩
end Char
namespace Char
open Go.RowKit Go.Lib
open Go.Proofs.YtlmpkpjjakallaaGreatDoor.Fig (outT outV)
theorem alloc_old {w:World}{k:Nat}{B:Obj}(A:Obj)(h:w.heap[k]? =some B):(w.alloc A).heap[k]? =some B:=(Below.heap_alloc _ _ _ (Array.getElem?_eq_some_iff.1 h).1).trans h
theorem alloc_new {w:World}{k:Nat}(A:Obj)(h:w.heap.size=k):(w.alloc A).heap[k]? =some A:=h▸World.alloc_heap_new w A
set_option maxRecDepth 100000 in
set_option maxHeartbeats 1000000 in
theorem ops_0 (w:World):Calls Tryz.prog 63 #[.int .i64 0] w fun e w'=>e= .returned (.slice (some ⟨w.heap.size+0,0,none⟩) 1 1)∧StSl w' (w.heap.size+0) (namesO (sgs 0))∧Below w.heap.size w w':=by
 go_enter Tryz.func63,Tryz.ntmps63
 go_wp2_with fail
 go_ret
 refine⟨rfl,stSl_of ?_,?_⟩
 ·exact alloc_old _ (alloc_old _ (alloc_old _ (alloc_old _ (alloc_old _ (alloc_old _ (alloc_new _ (by simp)))))))
 ·exact((((((below_box _).alloc (by simp) _).alloc (by simp;omega) _).alloc (by simp;omega) _).alloc (by simp;omega) _).alloc (by simp;omega) _).alloc (by simp;omega) _
set_option maxRecDepth 100000 in
set_option maxHeartbeats 1000000 in
theorem ops_1 (w:World):Calls Tryz.prog 63 #[.int .i64 1] w fun e w'=>e= .returned (.slice (some ⟨w.heap.size+1,0,none⟩) 1 1)∧StSl w' (w.heap.size+1) (namesO (sgs 1))∧Below w.heap.size w w':=by
 go_enter Tryz.func63,Tryz.ntmps63
 go_wp2_with fail
 go_ret
 refine⟨rfl,stSl_of ?_,?_⟩
 ·exact alloc_old _ (alloc_old _ (alloc_old _ (alloc_old _ (alloc_old _ (alloc_new _ (by simp))))))
 ·exact((((((below_box _).alloc (by simp) _).alloc (by simp;omega) _).alloc (by simp;omega) _).alloc (by simp;omega) _).alloc (by simp;omega) _).alloc (by simp;omega) _
set_option maxRecDepth 100000 in
set_option maxHeartbeats 1000000 in
theorem ops_2 (w:World):Calls Tryz.prog 63 #[.int .i64 2] w fun e w'=>e= .returned (.slice (some ⟨w.heap.size+2,0,none⟩) 2 2)∧StSl w' (w.heap.size+2) (namesO (sgs 2))∧Below w.heap.size w w':=by
 go_enter Tryz.func63,Tryz.ntmps63
 go_wp2_with fail
 go_ret
 refine⟨rfl,stSl_of ?_,?_⟩
 ·exact alloc_old _ (alloc_old _ (alloc_old _ (alloc_old _ (alloc_new _ (by simp)))))
 ·exact((((((below_box _).alloc (by simp) _).alloc (by simp;omega) _).alloc (by simp;omega) _).alloc (by simp;omega) _).alloc (by simp;omega) _).alloc (by simp;omega) _
set_option maxRecDepth 100000 in
set_option maxHeartbeats 1000000 in
theorem ops_3 (w:World):Calls Tryz.prog 63 #[.int .i64 3] w fun e w'=>e= .returned (.slice (some ⟨w.heap.size+3,0,none⟩) 4 4)∧StSl w' (w.heap.size+3) (namesO (sgs 3))∧Below w.heap.size w w':=by
 go_enter Tryz.func63,Tryz.ntmps63
 go_wp2_with fail
 go_ret
 refine⟨rfl,stSl_of ?_,?_⟩
 ·exact alloc_old _ (alloc_old _ (alloc_old _ (alloc_new _ (by simp))))
 ·exact((((((below_box _).alloc (by simp) _).alloc (by simp;omega) _).alloc (by simp;omega) _).alloc (by simp;omega) _).alloc (by simp;omega) _).alloc (by simp;omega) _
set_option maxRecDepth 100000 in
set_option maxHeartbeats 1000000 in
theorem ops_4 (w:World):Calls Tryz.prog 63 #[.int .i64 4] w fun e w'=>e= .returned (.slice (some ⟨w.heap.size+4,0,none⟩) 2 2)∧StSl w' (w.heap.size+4) (namesO (sgs 4))∧Below w.heap.size w w':=by
 go_enter Tryz.func63,Tryz.ntmps63
 go_wp2_with fail
 go_ret
 refine⟨rfl,stSl_of ?_,?_⟩
 ·exact alloc_old _ (alloc_old _ (alloc_new _ (by simp)))
 ·exact((((((below_box _).alloc (by simp) _).alloc (by simp;omega) _).alloc (by simp;omega) _).alloc (by simp;omega) _).alloc (by simp;omega) _).alloc (by simp;omega) _
set_option maxRecDepth 100000 in
set_option maxHeartbeats 1000000 in
theorem ops_5 (w:World):Calls Tryz.prog 63 #[.int .i64 5] w fun e w'=>e= .returned (.slice (some ⟨w.heap.size+5,0,none⟩) 3 3)∧StSl w' (w.heap.size+5) (namesO (sgs 5))∧Below w.heap.size w w':=by
 go_enter Tryz.func63,Tryz.ntmps63
 go_wp2_with fail
 go_ret
 refine⟨rfl,stSl_of ?_,?_⟩
 ·exact alloc_old _ (alloc_new _ (by simp))
 ·exact((((((below_box _).alloc (by simp) _).alloc (by simp;omega) _).alloc (by simp;omega) _).alloc (by simp;omega) _).alloc (by simp;omega) _).alloc (by simp;omega) _
end Char
namespace Char
open Go.RowKit Go.Lib
open Go.Proofs.YtlmpkpjjakallaaGreatDoor.Fig (outT outV)
theorem lastD_lt {os:List (List UInt8)}{l:List Wd}{k:Nat}(h:lastD os l=some k):k<l.length:=by
 rcases last_at os l 0 false 0 k none h with h|⟨a,x,b,rfl,e,_⟩
 ·cases h
 ·simp
  omega
def opN:List Sg→List UInt8→Int
 |[],_=>0
 |p::r,s=>if s=p.1 then p.2 else opN r s
theorem opC_of {x:Wd}{b:List Wd}(hx:x.k=5):∀(sg:List Sg),opC sg (x::b)=opN sg x.s
 |[]=>rfl
 |p::r=>by
  have ih:=opC_of hx (b:=b) r
  unfold opC at ih ⊢
  rw[opL,opN]
  by_cases h:x.s=p.1
  ·rw[if_pos (by rw[ahead_op];exact opMk_iff.2 ⟨hx,h⟩),if_pos h]
  ·rw[if_neg (by rw[ahead_op];intro e;exact h (opMk_iff.1 e).2),if_neg h]
   exact ih
theorem opN_kd:∀r,r<6→∀s,s∈namesO (sgs r)→opN (sgs r) s=kdD s:=by
 intro r hr s hs
 have :r=0∨r=1∨r=2∨r=3∨r=4∨r=5:=by omega
 rcases this with rfl|rfl|rfl|rfl|rfl|rfl
 all_goals
  simp only[namesO,sgs,sgsL,List.getD_cons_zero,List.getD_cons_succ,List.map_cons,List.map_nil,List.mem_cons,List.not_mem_nil,or_false]at hs
 ·subst hs;decide+kernel
 ·subst hs;decide+kernel
 ·rcases hs with rfl|rfl<;>decide+kernel
 ·rcases hs with rfl|rfl|rfl|rfl<;>decide+kernel
 ·rcases hs with rfl|rfl<;>decide+kernel
 ·rcases hs with rfl|rfl|rfl<;>decide+kernel
def row2 (x1 x2:Ex)(a1 b1 a2 b2:Value):Obj:= .cells (exC x1 a1 b1++exC x2 a2 b2).toArray 28
theorem row2_kd {w:World}{F:Nat→Prop}{x1 x2:Ex}{a1 b1 a2 b2:Value}(h1:ExOn w F x1 a1 b1)(h2:ExOn w F x2 a2 b2)(hF:F w.heap.size):
 KdOn (w.alloc (row2 x1 x2 a1 b1 a2 b2)) F (.slice (some ⟨w.heap.size,0,none⟩) 2 2) [x1,x2]:=by
 have hb:Below w.heap.size w (w.alloc (row2 x1 x2 a1 b1 a2 b2)):=below_box _
 have hk:(w.alloc (row2 x1 x2 a1 b1 a2 b2)).heap[w.heap.size]? =some (.cells (exC x1 a1 b1++exC x2 a2 b2).toArray 28 (0,0)):=World.alloc_heap_new w _
 have hc:∀i,(w.alloc (row2 x1 x2 a1 b1 a2 b2)).cell? ⟨w.heap.size,i,none⟩=(exC x1 a1 b1++exC x2 a2 b2)[i]? :=fun i=>by
  have h:=Lib.cell_of_heap hk i
  rw[h]
  simp
 refine⟨some ⟨w.heap.size,0,none⟩,2,rfl,.inr ⟨w.heap.size,0,rfl,⟨hF,Nat.le_refl _⟩,?_⟩⟩
 rw[KsOn,KsOn,KsOn]
 refine⟨⟨a1,b1,fun i u hu=> ?_,ExOn.below h1 hb⟩,⟨a2,b2,fun i u hu=> ?_,ExOn.below h2 hb⟩,trivial⟩
 ·have hi:=(List.getElem?_eq_some_iff.1 hu).1
  rw[hc,Nat.zero_add,List.getElem?_append_left hi]
  exact hu
 ·rw[hc,Nat.zero_add,List.getElem?_append_right (by show 7≤7+i;omega),show 7+i-(exC x1 a1 b1).length=i by show 7+i-7=i;omega]
  exact hu
theorem endOrG {fn:Func}{p q:Tmp}(h:fn.results= #[.cell p 28,.tmp q]){a:Act}{w:World}(w3:World)(x:Ex)(vk vs:Value)(b:Bool){r:Option Ex}(hk:w3.heap[w.heap.size]? =some (boxEx x vk vs))(hb:Below w.heap.size w w3)(ho:ExOn w3 (w.heap.size+1≤ ·) x vk vs)(hr:r=if b=true then some x else none)
 (hp:a.tmps.getD p undef= .pointer (some ⟨w.heap.size,0,none⟩)) (hq:a.tmps.getD q undef= .bool b) (hd:a.defers=[]):bodyPost Tryz.prog fn (OrP w r) .ret a w3:=by
 have hp':a.tmps[p]?.getD undef= .pointer (some ⟨w.heap.size,0,none⟩):=by simpa using hp
 have hq':a.tmps[q]?.getD undef= .bool b:=by simpa using hq
 obtain⟨⟨a0,a1,a2,a3,a4,a5,a6⟩,_⟩:=boxEx_blk hk
 exact bodyPost_ret (by simp[results,h,hp',hq',go_sem,a0,a1,a2,a3,a4,a5,a6,exV]) hd ⟨hb,x,vk,vs,b,rfl,ExOn.move (fun k _ hF=>⟨Nat.le_of_succ_le hF,rfl⟩) _ _ _ ho,hr⟩
theorem one_endG {fn:Func}{p q:Tmp}(h:fn.results= #[.cell p 28,.tmp q]){a:Act}{w:World}(W:World)(x:Ex)(vk vs:Value)(b:Bool){r:Option Ex}(hk:RB w W)(ho:ExOn W (w.heap.size+1≤ ·) x vk vs)(hr:r=if b=true then some x else none)
 (hp:a.tmps.getD p undef= .pointer (some ⟨w.heap.size,0,none⟩)) (hq:a.tmps.getD q undef= .bool b) (hd:a.defers=[]):bodyPost Tryz.prog fn (OrP w r) .ret a (setEx W w.heap.size x vk vs):=
 endOrG h _ x vk vs b (setEx_at hk.1) (setEx_below hk.2 (Nat.le_refl _)) (ExOn.move (fun k _ hF=>⟨hF,setEx_ne (by omega)⟩) _ _ _ ho) hr hp hq hd
theorem two_endG {fn:Func}{p q:Tmp}(h:fn.results= #[.cell p 28,.tmp q]){a:Act}{w:World}(W:World){ba:Nat}(op:Int){x1 x2:Ex}{a1 b1 a2 b2:Value}(b:Bool){r:Option Ex}(hk:Q1 w W ba x1 a1 b1)(ho:ExOn W (w.heap.size+1≤ ·) x2 a2 b2)(hr:r=if b=true then some (.mk op [] 0 0 false [x1,x2] []) else none)
 (hp:a.tmps.getD p undef= .pointer (some ⟨w.heap.size,0,none⟩)) (hq:a.tmps.getD q undef= .bool b) (hd:a.defers=[]):
 bodyPost Tryz.prog fn (OrP w r) .ret a (((setEx W w.heap.size (.mk op [] 0 0 false [x1,x2] []) (.slice (some ⟨W.heap.size+1,0,none⟩) 2 2) (.slice none 0 0)).alloc (boxEx x2 a2 b2)).alloc (row2 x1 x2 a1 b1 a2 b2)):=by
 have hz:(setEx W w.heap.size (.mk op [] 0 0 false [x1,x2] []) (.slice (some ⟨W.heap.size+1,0,none⟩) 2 2) (.slice none 0 0)).heap.size=W.heap.size:=setEx_size
 have hne:∀k,w.heap.size+1≤k→(setEx W w.heap.size (.mk op [] 0 0 false [x1,x2] []) (.slice (some ⟨W.heap.size+1,0,none⟩) 2 2) (.slice none 0 0)).heap[k]? =W.heap[k]? :=fun k hk=>setEx_ne (by omega)
 have hat:=setEx_at (x:= .mk op [] 0 0 false [x1,x2] []) (vk:= .slice (some ⟨W.heap.size+1,0,none⟩) 2 2) (vs:= .slice none 0 0) hk.res
 have hbl:=setEx_below (x:= .mk op [] 0 0 false [x1,x2] []) (vk:= .slice (some ⟨W.heap.size+1,0,none⟩) 2 2) (vs:= .slice none 0 0) hk.bel (Nat.le_refl _)
 have hlt:=Nat.lt_trans hk.lt hk.sz
 have hsz:=hk.bel.size
 generalize setEx W w.heap.size (.mk op [] 0 0 false [x1,x2] []) (.slice (some ⟨W.heap.size+1,0,none⟩) 2 2) (.slice none 0 0)=X at *
 have hX:Below X.heap.size X (X.alloc (boxEx x2 a2 b2)):=below_box _
 have ho1:ExOn (X.alloc (boxEx x2 a2 b2)) (w.heap.size+1≤ ·) x1 a1 b1:=ExOn.below (ExOn.move (fun b _ hF=>⟨hF.1,hne b hF.1⟩) _ _ _ hk.on) hX
 have ho2:ExOn (X.alloc (boxEx x2 a2 b2)) (w.heap.size+1≤ ·) x2 a2 b2:=ExOn.below (ExOn.move (fun b _ hF=>⟨hF,hne b hF⟩) _ _ _ ho) hX
 have hkd:=row2_kd ho1 ho2 (by rw[World.size_alloc];omega)
 rw[World.size_alloc,hz]at hkd
 refine endOrG h _ (.mk op [] 0 0 false [x1,x2] []) _ _ b ?_ ((hbl.alloc (by omega) _).alloc (by rw[World.size_alloc];omega) _) (ExOn.iff.2 ⟨hkd,SdOn.nil _ _⟩) hr hp hq hd
 exact(Below.heap_alloc _ _ _ (by rw[World.size_alloc];omega)).trans ((Below.heap_alloc _ _ _ (by omega)).trans hat)
theorem OrP.any {w w':World}{r:Option Ex}{e:Ending}(h:OrP w r e w'):∃(x:Ex) (o1 o2:Option Addr) (j1 j2:Nat) (b:Bool),e= .returned (.tuple #[exV x (.slice o1 x.ks.length j1) (.slice o2 x.ss.length j2),.bool b])∧ExOn w' (w.heap.size≤ ·) x (.slice o1 x.ks.length j1) (.slice o2 x.ss.length j2)∧r=(if b=true then some x else none)∧Below w.heap.size w w':=by
 obtain⟨hb,x,vk,vs,b,rfl,ho,hr⟩:=h
 obtain⟨⟨o1,j1,rfl,_⟩,⟨o2,j2,rfl,_⟩⟩:=ExOn.iff.1 ho
 exact⟨x,o1,o2,j1,j2,b,rfl,ho,hr,hb⟩
theorem OrP.noX {w w':World}{e:Ending}(h:OrP w none e w'):∃(y:Ex) (o1 o2:Option Addr) (j1 j2:Nat),e= .returned (.tuple #[exV y (.slice o1 y.ks.length j1) (.slice o2 y.ss.length j2),.bool false])∧ExOn w' (w.heap.size≤ ·) y (.slice o1 y.ks.length j1) (.slice o2 y.ss.length j2)∧Below w.heap.size w w':=by
 obtain⟨y,o1,o2,j1,j2,b,rfl,ho,hr,hb⟩:=OrP.any h
 cases b with
 |true=>cases hr
 |false=>exact⟨y,o1,o2,j1,j2,rfl,ho,hb⟩
theorem OrP.yesX {w w':World}{y:Ex}{e:Ending}(h:OrP w (some y) e w'):∃(o1 o2:Option Addr) (j1 j2:Nat),e= .returned (.tuple #[exV y (.slice o1 y.ks.length j1) (.slice o2 y.ss.length j2),.bool true])∧ExOn w' (w.heap.size≤ ·) y (.slice o1 y.ks.length j1) (.slice o2 y.ss.length j2)∧Below w.heap.size w w':=by
 obtain⟨z,o1,o2,j1,j2,b,rfl,ho,hr,hb⟩:=OrP.any h
 cases b with
 |false=>cases hr
 |true=>
  cases hr
  exact⟨o1,o2,j1,j2,rfl,ho,hb⟩
end Char
namespace Char
open Go.RowKit Go.Lib
open Go.Proofs.YtlmpkpjjakallaaGreatDoor.Fig (outT outV)
theorem ops_any (r:Nat)(hr:r<6)(W:World):Calls Tryz.prog 63 #[.int .i64 (r:Int)] W fun e w'=>∃g2,e= .returned (.slice (some ⟨g2,0,none⟩) (namesO (sgs r)).length (namesO (sgs r)).length)∧StSl w' g2 (namesO (sgs r))∧Below W.heap.size W w':=by
 have :r=0∨r=1∨r=2∨r=3∨r=4∨r=5:=by omega
 rcases this with rfl|rfl|rfl|rfl|rfl|rfl
 ·exact(ops_0 W).mono fun e w' h=>⟨_,h⟩
 ·exact(ops_1 W).mono fun e w' h=>⟨_,h⟩
 ·exact(ops_2 W).mono fun e w' h=>⟨_,h⟩
 ·exact(ops_3 W).mono fun e w' h=>⟨_,h⟩
 ·exact(ops_4 W).mono fun e w' h=>⟨_,h⟩
 ·exact(ops_5 W).mono fun e w' h=>⟨_,h⟩
def Cells7 (W:World)(b:Nat)(x:Ex)(vk vs:Value):Prop:=W.cell? ⟨b,0,none⟩=some (.int .i64 x.op)∧W.cell? ⟨b,1,none⟩=some (.string (bs x.s))∧W.cell? ⟨b,2,none⟩=some (.int .i64 x.tg)∧W.cell? ⟨b,3,none⟩=some (.int .i64 x.vl)∧W.cell? ⟨b,4,none⟩=some (.bool x.abs)∧W.cell? ⟨b,5,none⟩=some vk∧W.cell? ⟨b,6,none⟩=some vs
theorem Cells7.move {W W':World}{b:Nat}{x:Ex}{vk vs:Value}(h:Cells7 W b x vk vs)(hm:W'.heap[b]? =W.heap[b]?):Cells7 W' b x vk vs:=by
 obtain⟨h0,h1,h2,h3,h4,h5,h6⟩:=h
 have key:∀i,W'.cell? ⟨b,i,none⟩=W.cell? ⟨b,i,none⟩:=fun i=>World.cell?_of_block (w:=W) hm
 exact⟨(key 0).trans h0,(key 1).trans h1,(key 2).trans h2,(key 3).trans h3,(key 4).trans h4,(key 5).trans h5,(key 6).trans h6⟩
def OrS (g i:Nat)(xs:List UInt8)(ba bb:Nat)(y z:Ex)(v1 v2 v3 v4:Value)(W:World):Prop:=W.cell? ⟨g,i,none⟩=some (.string (bs xs))∧Cells7 W ba y v1 v2∧Cells7 W bb z v3 v4
theorem OrS.set {g i:Nat}{xs:List UInt8}{ba bb b:Nat}{y z x:Ex}{v1 v2 v3 v4 vk vs:Value}{W:World}(h:OrS g i xs ba bb y z v1 v2 v3 v4 W)(hg:g≠b)(ha:ba≠b)(hb:bb≠b):OrS g i xs ba bb y z v1 v2 v3 v4 (setEx W b x vk vs):=
 ⟨(World.cell?_of_block (w:=W) (setEx_ne hg)).trans h.1,h.2.1.move (setEx_ne ha),h.2.2.move (setEx_ne hb)⟩
theorem OrS.call {g i:Nat}{xs:List UInt8}{ba bb:Nat}{y z:Ex}{v1 v2 v3 v4:Value}{W W':World}(h:OrS g i xs ba bb y z v1 v2 v3 v4 W)(hg:g<W.heap.size)(ha:ba<W.heap.size)(hb:bb<W.heap.size)(hw:Below W.heap.size W W'):OrS g i xs ba bb y z v1 v2 v3 v4 W':=
 ⟨(hw.cell (p:=⟨g,i,none⟩) hg).trans h.1,h.2.1.move (hw.block _ ha),h.2.2.move (hw.block _ hb)⟩
theorem two_endH {fn:Func}{p q:Tmp}(h:fn.results= #[.cell p 28,.tmp q]){a:Act}{w:World}(W:World)(op:Int){x1 x2:Ex}{v:Value}(b:Bool){r:Option Ex}(hk:RB w W)(ho:KdOn W (w.heap.size+1≤ ·) v [x1,x2])(hr:r=if b=true then some (.mk op [] 0 0 false [x1,x2] []) else none)
 (hp:a.tmps.getD p undef= .pointer (some ⟨w.heap.size,0,none⟩)) (hq:a.tmps.getD q undef= .bool b) (hd:a.defers=[]):bodyPost Tryz.prog fn (OrP w r) .ret a (setEx W w.heap.size (.mk op [] 0 0 false [x1,x2] []) v (.slice none 0 0)):=
 one_endG h W (.mk op [] 0 0 false [x1,x2] []) v (.slice none 0 0) b hk (ExOn.iff.2 ⟨ho,SdOn.nil _ _⟩) hr hp hq hd
theorem two_endK {fn:Func}{p q:Tmp}(h:fn.results= #[.cell p 28,.tmp q]){a:Act}{w:World}(W:World)(op:Int){x1 x2:Ex}{a1 b1 a2 b2:Value}(b:Bool){r:Option Ex}(hk:RB w W)(h1:ExOn W (w.heap.size+1≤ ·) x1 a1 b1)(h2:ExOn W (w.heap.size+1≤ ·) x2 a2 b2)(hr:r=if b=true then some (.mk op [] 0 0 false [x1,x2] []) else none)
 (hp:a.tmps.getD p undef= .pointer (some ⟨w.heap.size,0,none⟩)) (hq:a.tmps.getD q undef= .bool b) (hd:a.defers=[]):
 bodyPost Tryz.prog fn (OrP w r) .ret a ((setEx W w.heap.size (.mk op [] 0 0 false [x1,x2] []) (.slice (some ⟨W.heap.size,0,none⟩) 2 2) (.slice none 0 0)).alloc (row2 x1 x2 a1 b1 a2 b2)):=by
 have hz:(setEx W w.heap.size (.mk op [] 0 0 false [x1,x2] []) (.slice (some ⟨W.heap.size,0,none⟩) 2 2) (.slice none 0 0)).heap.size=W.heap.size:=setEx_size
 have hne:∀k,w.heap.size+1≤k→(setEx W w.heap.size (.mk op [] 0 0 false [x1,x2] []) (.slice (some ⟨W.heap.size,0,none⟩) 2 2) (.slice none 0 0)).heap[k]? =W.heap[k]? :=fun k hk=>setEx_ne (by omega)
 have hat:=setEx_at (x:= .mk op [] 0 0 false [x1,x2] []) (vk:= .slice (some ⟨W.heap.size,0,none⟩) 2 2) (vs:= .slice none 0 0) hk.1
 have hbl:=setEx_below (x:= .mk op [] 0 0 false [x1,x2] []) (vk:= .slice (some ⟨W.heap.size,0,none⟩) 2 2) (vs:= .slice none 0 0) hk.2 (Nat.le_refl _)
 have hlt:=hk.lt
 generalize setEx W w.heap.size (.mk op [] 0 0 false [x1,x2] []) (.slice (some ⟨W.heap.size,0,none⟩) 2 2) (.slice none 0 0)=X at *
 have ho1:ExOn X (w.heap.size+1≤ ·) x1 a1 b1:=ExOn.move (fun b _ hF=>⟨hF,hne b hF⟩) _ _ _ h1
 have ho2:ExOn X (w.heap.size+1≤ ·) x2 a2 b2:=ExOn.move (fun b _ hF=>⟨hF,hne b hF⟩) _ _ _ h2
 have hkd:=row2_kd ho1 ho2 (by omega)
 rw[hz]at hkd
 exact endOrG h _ (.mk op [] 0 0 false [x1,x2] []) _ _ b ((Below.heap_alloc _ _ _ (by omega)).trans hat) (hbl.alloc (by omega) _) (ExOn.iff.2 ⟨hkd,SdOn.nil _ _⟩) hr hp hq hd
set_option maxRecDepth 100000 in
set_option maxHeartbeats 2000000 in
theorem refOr_six (w:World)(o:Option Addr)(n c:Nat)(q:Option Ex)(hsg:∀W,Below w.heap.size w W→Calls Tryz.prog 61 #[.slice o n c] W (OrP W q)):
 Calls Tryz.prog 29 #[.slice o n c,.int .i64 6] w (OrP w q):=by
 have HS:=Lib.hid hsg
 clear hsg
 go_enter Tryz.func29,Tryz.ntmps29
 go_wp2_with (first
  |(go_at_call 61
    refine(HS.out _ (RB.new w).2).mono ?_
    intro e w2 h
    obtain⟨y,o1,o2,j1,j2,b,rfl,ho,hr2,hb⟩:=OrP.any h
    have A2:=Lib.hid ((RB.new w).call hb)
    have HY:=Lib.hid (ho.low (Nat.succ_le_of_lt (RB.new w).lt))
    have HR2:=Lib.hid hr2
    unfold exV
    obtain⟨⟨r0,r1,r2,r3,r4,r5,r6⟩,rf,rl⟩:=A2.out.facts
    clear HS h hb ho hr2))
 exact one_endG Tryz.results29 w2 y _ _ b A2.out HY.out HR2.out rfl rfl rfl
set_option maxRecDepth 100000 in
set_option maxHeartbeats 2000000 in
theorem refOr_none (w:World)(o:Option Addr)(n c r L:Nat)(os:List (List UInt8))(hr6:r<6)(hops:∀W,Calls Tryz.prog 63 #[.int .i64 (r:Int)] W fun e w'=>∃g2,e= .returned (.slice (some ⟨g2,0,none⟩) L L)∧StSl w' g2 os∧Below W.heap.size W w')(v:Int)(hla:∀g2 W,Below w.heap.size w W→StSl W g2 os→Calls Tryz.prog 62 #[.slice o n c,.slice (some ⟨g2,0,none⟩) L L] W fun e w'=>e= .returned (.int .i64 v)∧Below W.heap.size W w')(hv:v<0)(q:Option Ex)(hor:∀W,Below w.heap.size w W→Calls Tryz.prog 29 #[.slice o n c,.int .i64 ((r:Int)+1)] W (OrP W q)):
 Calls Tryz.prog 29 #[.slice o n c,.int .i64 (r:Int)] w (OrP w q):=by
 have HOPS:=Lib.hid hops
 have HLA:=Lib.hid hla
 have r60:((r:Int)==6)=false:=by rw[beq_eq_false_iff_ne];omega
 clear hops hla
 have HP:=Lib.hid hor
 have v0:decide (v<0)=true:=decide_eq_true hv
 clear hor hv
 go_enter Tryz.func29,Tryz.ntmps29
 go_wp2_with (first
  |(go_at_call 63
    refine(HOPS.out _).mono ?_
    rintro e w0 ⟨g2,rfl,hst,hb⟩
    have A0:=Lib.hid ((RB.new w).call hb)
    have HST:=Lib.hid hst
    clear HOPS hb hst)
  |(go_at_call 62
    refine(HLA.out g2 w0 A0.out.2 HST.out).mono ?_
    rintro e w1 ⟨rfl,hb⟩
    have A1:=Lib.hid (A0.out.call hb)
    obtain⟨⟨r0,r1,r2,r3,r4,r5,r6⟩,rf,rl⟩:=A1.out.facts
    clear HLA hb)
  |(go_at_call 29
    refine(HP.out _ A1.out.2).mono ?_
    intro e w2 h
    obtain⟨y,o1,o2,j1,j2,b,rfl,ho,hr2,hb⟩:=OrP.any h
    have A2:=Lib.hid (A1.out.call hb)
    have HY:=Lib.hid (ho.low (Nat.succ_le_of_lt A1.out.lt))
    have HR2:=Lib.hid hr2
    unfold exV
    clear r0 r1 r2 r3 r4 r5 r6 rf rl
    obtain⟨⟨r0,r1,r2,r3,r4,r5,r6⟩,rf,rl⟩:=A2.out.facts
    clear HP h hb ho hr2))
 exact one_endG Tryz.results29 w2 y _ _ b A2.out HY.out HR2.out rfl rfl rfl
end Char
end Go.Proofs.YtlmpkpjjakallaaGreatDoor
