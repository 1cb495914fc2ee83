import Derived.Test.YtlmpkpjjakallaaGreatDoorPt08
import Derived.Test.YtlmpkpjjakallaaGreatDoorPt09
import Derived.Test.YtlmpkpjjakallaaGreatDoorPt11
import Derived.Defers
import Derived.Recover
import Derived.Test.YtlmpkpjjakallaaGreatDoorPt10
import Derived.Deep.LoopGhost
namespace Go.Proofs.YtlmpkpjjakallaaGreatDoor
namespace Char
open Go.RowKit Go.Lib Go.Shelf
theorem right_op {op tg vl:Int}{s:List UInt8}{ab:Bool}{nk ns:Nat}(h:fieldsB op tg vl s ab nk ns=true):1≤op∧op≤21∧(op=17→2≤nk):=by
 unfold fieldsB at h
 split at h
 ·omega
 ·split at h
  ·omega
  ·split at h
   ·simp only[Bool.and_eq_true,decide_eq_true_eq]at h
    exact⟨by omega,by omega,fun _=>h.2.2.1⟩
   ·split at h
    ·omega
    ·split at h
     ·omega
     ·split at h
      ·omega
      ·split at h
       ·omega
       ·simp only[Bool.and_eq_true,decide_eq_true_eq]at h
        have h1:=h.2.2.1.1
        unfold opB at h1
        have :=of_decide_eq_true h1
        exact⟨by omega,by omega,fun e=>by omega⟩
theorem chC_of (c:Nat)(hS:ChC c)(hcm:c≤1001):ChC (c+1):=by
 intro n x vk vs w F hn hc hr hx
 obtain⟨op,s,tg,vl,ab,ks,ss⟩:=x
 rw[rightE,Bool.and_eq_true,Bool.and_eq_true]at hr
 obtain⟨hf,hk,hs⟩:=hr
 obtain⟨h1,h2,h3⟩:=right_op hf
 rw[cntE]at hc
 have hc2:cntEs ks+cntSs ss≤c:=by omega
 have ho:op=1∨op=2∨op=3∨op=4∨op=5∨op=6∨op=7∨op=8∨op=9∨op=10∨op=11∨op=12∨op=13∨op=14∨op=15∨op=16∨op=17∨op=18∨op=19∨op=20∨op=21:=by omega
 rcases ho with rfl|rfl|rfl|rfl|rfl|rfl|rfl|rfl|rfl|rfl|rfl|rfl|rfl|rfl|rfl|rfl|rfl|rfl|rfl|rfl|rfl
 ·exact exprC_1 c hS hcm n s tg vl ab ks ss vk vs w F hn hc2 hk hs hx
 ·exact exprC_2 c hS hcm n s tg vl ab ks ss vk vs w F hn hc2 hk hs hx
 ·exact exprC_3 c hS hcm n s tg vl ab ks ss vk vs w F hn hc2 hk hs hx
 ·exact exprC_4 c hS hcm n s tg vl ab ks ss vk vs w F hn hc2 hk hs hx
 ·exact exprC_5 c hS hcm n s tg vl ab ks ss vk vs w F hn hc2 hk hs hx
 ·exact exprC_6 c hS hcm n s tg vl ab ks ss vk vs w F hn hc2 hk hs hx
 ·exact exprC_7 c hS hcm n s tg vl ab ks ss vk vs w F hn hc2 hk hs hx
 ·exact exprC_8 c hS hcm n s tg vl ab ks ss vk vs w F hn hc2 hk hs hx
 ·exact exprC_9 c hS hcm n s tg vl ab ks ss vk vs w F hn hc2 hk hs hx
 ·exact exprC_10 c hS hcm n s tg vl ab ks ss vk vs w F hn hc2 hk hs hx
 ·exact exprC_11 c hS hcm n s tg vl ab ks ss vk vs w F hn hc2 hk hs hx
 ·exact exprC_12 c hS hcm n s tg vl ab ks ss vk vs w F hn hc2 hk hs hx
 ·exact exprC_13 c hS hcm n s tg vl ab ks ss vk vs w F hn hc2 hk hs hx
 ·exact exprC_14 c hS hcm n s tg vl ab ks ss vk vs w F hn hc2 hk hs hx
 ·exact exprC_15 c hS hcm n s tg vl ab ks ss vk vs w F hn hc2 hk hs hx
 ·exact exprC_16 c hS hcm n s tg vl ab ks ss vk vs w F hn hc2 hk hs hx
 ·exact exprC_17 c hS hcm n s tg vl ab ks ss vk vs w F hn hc2 (h3 rfl) hk hs hx
 ·exact exprC_18 c hS hcm n s tg vl ab ks ss vk vs w F hn hc2 hk hs hx
 ·exact exprC_19 c hS hcm n s tg vl ab ks ss vk vs w F hn hc2 hk hs hx
 ·exact exprC_20 c hS hcm n s tg vl ab ks ss vk vs w F hn hc2 hk hs hx
 ·exact exprC_21 c hS hcm n s tg vl ab ks ss vk vs w F hn hc2 hk hs hx
theorem chC_any:∀c,c≤1001→ChC c
 |0,_=>fun _ x _ _ _ _ _ hc=>by have :=cntE_pos x;omega
 |c+1,h=>chC_of c (chC_any c (by omega)) (by omega)
set_option maxRecDepth 100000 in
set_option maxHeartbeats 4000000 in
theorem catchC_idle (p q:Addr)(w:World):
 CallsD Tryz.prog 90 #[.pointer (some p),.pointer (some q)] .returning w fun e u' w'=>e= .returned (.tuple #[])∧u'= .returning∧w'=w:=by
 refine callsD_of_wpS Tryz.func90 rfl fun c₀ cs hu=> ?_
 apply wpS_seq
 apply wpS_region
 simp[wpOpsS,go_sem,recoverD,hu,Tryz.ntmps90,Exit.thenS]
 apply wpS_seq
 apply wpS_region
 simp[wpOpsS,go_sem,Exit.thenS]
 refine wpS_cond (t:=false) (by simp[Act.eval,Array.replicate]) ?_
 simp only[Bool.false_eq_true,if_false]
 refine wpS_of_wp (wp_skip ?_)
 cases c₀
 simp_all [bodyPostS,results,Tryz.results90]
set_option maxRecDepth 100000 in
set_option maxHeartbeats 4000000 in
theorem catchC_panicking (A:Nat)(k:Int)(older:List PanicEntry)(w:World)(v0 v1:Value)(hp:w.cell? ⟨A,0,none⟩=some v0)(hfp:w.frozen? ⟨A,0,none⟩=false)(hq:w.cell? ⟨A+1,0,none⟩=some v1)(hfq:w.frozen? ⟨A+1,0,none⟩=false):
 CallsD Tryz.prog 90 #[.pointer (some ⟨A,0,none⟩),.pointer (some ⟨A+1,0,none⟩)] (.panicking ({v:= .iface 29 (.int .i64 k),recovered:=false}::older)) w fun e u' w'=>
  e= .returned (.tuple #[])∧u'= .panicking ({v:= .iface 29 (.int .i64 k),recovered:=true}::older)∧w'=((w.setCell ⟨A,0,none⟩ (.int .i64 0)).setCell ⟨A+1,0,none⟩ (.int .i64 k)).drew:=by
 refine callsD_of_wpS Tryz.func90 rfl fun c₀ cs hu=> ?_
 apply wpS_seq
 apply wpS_region
 simp[wpOpsS,go_sem,recoverD,hu,Tryz.ntmps90,Exit.thenS]
 apply wpS_seq
 apply wpS_region
 simp[wpOpsS,go_sem,Exit.thenS]
 refine wpS_cond (t:=true) (by simp[Act.eval,Array.replicate]) ?_
 simp only[if_true]
 refine wpS_of_wp ?_
 generalize hQ:(fun(e:Exit) (a':Act) (w':World)=>bodyPostS Tryz.prog Tryz.f90 c₀ cs _ e a' _ w')=Q
 change Code.wp _ _ _ {tmps:= #[.pointer (some ⟨A,0,none⟩),.pointer (some ⟨A+1,0,none⟩),.iface 29 (.int .i64 k),.iface 29 (.int .i64 k),.iface 29 (.int .i64 k),.bool true,undef,undef],defers:=[]} w
 have hta:∀w:World,(Instr.typeAssert (.iface 29 (.int .i64 k)) 20 29 false).run Tryz.prog w= .ok (.int .i64 k) w:=fun _=>by kernel_rfl
 go_region
 all_goals
  subst hQ
  simp[bodyPostS,results,Tryz.results90]
end Char
namespace Char
open Go.RowKit Go.Lib Go.Shelf
theorem setTwo {w:World}{A:Nat}{u0 u1:Value}(a b:Value)(hp:w.cell? ⟨A,0,none⟩=some u0)(hq:w.cell? ⟨A+1,0,none⟩=some u1)(n:Nat)(hn:n≤A)(hb:Below n w w):
 ∃Y,Y=(w.setCell ⟨A,0,none⟩ a).setCell ⟨A+1,0,none⟩ b∧Y.cell? ⟨A,0,none⟩=some a∧Y.cell? ⟨A+1,0,none⟩=some b∧Below n w Y:=by
 refine⟨_,rfl,?_,?_,?_⟩
 ·go_simp
 ·go_simp
 ·exact(hb.setCell (p:=⟨A,0,none⟩) hn _).setCell (p:=⟨A+1,0,none⟩) (by show n≤A+1;omega) _
def TyP (w:World)(r:Int×Int)(e:Ending)(w':World):Prop:=Below w.heap.size w w'∧e= .returned (.tuple #[.int .i64 r.1,.int .i64 r.2])
def ckR (r:Int ⊕ Int):Int×Int:=match r with
 | .inl e=>(0,e)
 | .inr t=>(t,0)
set_option maxRecDepth 100000 in
set_option maxHeartbeats 16000000 in
theorem wholeC_any (x:Ex)(vk vs:Value)(w:World)(F:Nat→Prop)(hc:cntE x≤1001)(hr:rightE x=true)(hx:ExOn w F x vk vs):
 Calls Tryz.prog 55 #[exV x vk vs] w (TyP w (ckR (ckE x 0))):=by
 have hmf:∀(fn:Fn) (first cap:Array Value) (w:World),(Instr.makeFunc fn first cap).run Tryz.prog w= .ok (.func fn first cap) w:=fun _ _ _ _=>rfl
 obtain⟨h1,h2⟩:=ExOn.iff.1 hx
 obtain⟨o1,j1,rfl⟩:=h1.form
 obtain⟨o2,j2,rfl⟩:=h2.form
 obtain⟨W0,hW0⟩:∃W0,W0=((w.alloc (boxEx x (.slice o1 x.ks.length j1) (.slice o2 x.ss.length j2))).alloc (.cells #[.int .i64 0] 3)).alloc (.cells #[.int .i64 0] 29):=⟨_,rfl⟩
 have b0:Below w.heap.size w W0:=by rw[hW0];exact(((Below.refl _ _).alloc (Nat.le_refl _) _).alloc (by simp) _).alloc (by simp;omega) _
 have s0:W0.heap.size=w.heap.size+3:=by rw[hW0];simp
 have z1:W0.heap[w.heap.size+1]? =some (.cells #[.int .i64 0] 3 (0,0)):=by
  rw[hW0]
  have h:=World.alloc_heap_new (w.alloc (boxEx x (.slice o1 x.ks.length j1) (.slice o2 x.ss.length j2))) (.cells #[.int .i64 0] 3)
  have e:(w.alloc (boxEx x (.slice o1 x.ks.length j1) (.slice o2 x.ss.length j2))).heap.size=w.heap.size+1:=by simp
  rw[e]at h
  exact(Below.heap_alloc _ _ _ (by simp)).trans h
 have z2:W0.heap[w.heap.size+2]? =some (.cells #[.int .i64 0] 29 (0,0)):=by
  rw[hW0]
  have h:=World.alloc_heap_new ((w.alloc (boxEx x (.slice o1 x.ks.length j1) (.slice o2 x.ss.length j2))).alloc (.cells #[.int .i64 0] 3)) (.cells #[.int .i64 0] 29)
  have e:((w.alloc (boxEx x (.slice o1 x.ks.length j1) (.slice o2 x.ss.length j2))).alloc (.cells #[.int .i64 0] 3)).heap.size=w.heap.size+2:=by simp
  rwa [e]at h
 have HZ:=Lib.hid fun W (hW:Below W0.heap.size W0 W)=>show(W.cell? ⟨w.heap.size+1,0,none⟩=some (.int .i64 0)∧W.frozen? ⟨w.heap.size+1,0,none⟩=false)∧(W.cell? ⟨w.heap.size+2,0,none⟩=some (.int .i64 0)∧W.frozen? ⟨w.heap.size+2,0,none⟩=false) from by
  have y1:=(hW.block (w.heap.size+1) (by omega)).trans z1
  have y2:=(hW.block (w.heap.size+2) (by omega)).trans z2
  exact⟨⟨by simp[World.cell?,y1],by simp[World.frozen?,y1]⟩,⟨by simp[World.cell?,y2],by simp[World.frozen?,y2]⟩⟩
 have hX:=chC_any 1001 (by omega) 0 x _ _ W0 F (by omega) hc hr (hx.below b0)
 unfold exV at hX
 have HX:=Lib.hid hX
 have HB0:=Lib.hid b0
 unfold boxEx at hW0
 have HW0:=Lib.hid hW0
 obtain⟨R,hR⟩:∃R,ckE x 0=R:=⟨_,rfl⟩
 rw[hR]at HX ⊢
 unfold exV
 clear hc hr hx h1 h2 b0 s0 z1 z2 hW0 hX hR
 cases R with
 |inl k=>
  go_enter_defers Tryz.func55,Tryz.ntmps55
  go_wp2_with fail
  rw[←HW0.out]
  refine HX.out.mono ?_
  rintro e w4 ⟨hb4,rfl⟩
  obtain⟨⟨c1,f1⟩,c2,f2⟩:=HZ.out w4 hb4
  have HB4:=Lib.hid (HB0.out.trans (hb4.mono HB0.out.size))
  clear hb4
  unfold panE
  go_wp2_with fail
  refine leaves_cons (u:= .panicking [{v:= .iface 29 (.int .i64 k),recovered:=false}]) (f:=90) (args:= #[.pointer (some ⟨w.heap.size+1,0,none⟩),.pointer (some ⟨w.heap.size+1+1,0,none⟩)]) (by simp) (by simp[go_sem]) ?_
  refine(catchC_panicking (w.heap.size+1) k [] w4 _ _ c1 f1 c2 f2).mono ?_
  rintro e u' w5 ⟨rfl,rfl,hw5⟩
  obtain⟨Y,hY,hY1,hY2,hY3⟩:=setTwo (.int .i64 0) (.int .i64 k) c1 c2 w.heap.size (by omega) (Below.refl _ _)
  rw[←hY]at hw5
  subst hw5
  have HY3:=Lib.hid (HB4.out.trans (hY3.trans ((Below.refl w.heap.size Y).drew)))
  have e1:Y.drew.cell? ⟨w.heap.size+1,0,none⟩=some (.int .i64 0):=hY1
  have e2:Y.drew.cell? ⟨w.heap.size+2,0,none⟩=some (.int .i64 k):=hY2
  clear hY hY1 hY2 hY3 c1 c2 f1 f2
  simp[Leaves,settle,results,Tryz.results55,go_sem,e1,e2]
  exact⟨HY3.out,rfl⟩
 |inr t=>
  go_enter_defers Tryz.func55,Tryz.ntmps55
  go_wp2_with fail
  rw[←HW0.out]
  refine HX.out.mono ?_
  rintro e w4 ⟨hb4,rfl⟩
  obtain⟨⟨c1,f1⟩,c2,f2⟩:=HZ.out w4 hb4
  have HB4:=Lib.hid (HB0.out.trans (hb4.mono HB0.out.size))
  obtain⟨Y,hY,hY1,hY2,hY3⟩:=setTwo (.int .i64 t) (.int .i64 0) c1 c2 w.heap.size (by omega) (Below.refl _ _)
  have HY:=Lib.hid hY
  have HY3:=Lib.hid (HB4.out.trans hY3)
  have HY1:=Lib.hid hY1
  have HY2:=Lib.hid hY2
  clear hb4 hY hY1 hY2 hY3
  go_wp2_with fail
  change bodyPostD _ _ _ _ _ ((w4.setCell ⟨w.heap.size+1,0,none⟩ (.int .i64 t)).setCell ⟨w.heap.size+1+1,0,none⟩ (.int .i64 0))
  rw[←HY.out]
  refine leaves_cons (f:=90) (args:= #[.pointer (some ⟨w.heap.size+1,0,none⟩),.pointer (some ⟨w.heap.size+1+1,0,none⟩)]) (by simp) (by simp[go_sem]) ?_
  refine(catchC_idle _ _ _).mono ?_
  rintro e u' w'' ⟨rfl,rfl,hw⟩
  have hw:=hw.symm
  subst hw
  have e1:Y.cell? ⟨w.heap.size+1,0,none⟩=some (.int .i64 t):=HY1.out
  have e2:Y.cell? ⟨w.heap.size+2,0,none⟩=some (.int .i64 0):=HY2.out
  simp[Leaves,settle,results,Tryz.results55,go_sem,e1,e2]
  exact⟨HY3.out,rfl⟩
set_option maxRecDepth 100000 in
set_option maxHeartbeats 4000000 in
theorem typeC_any (x:Ex)(vk vs:Value)(w:World)(F:Nat→Prop)(hc:cntE x≤1001)(hw:wfE 1048576 x)(hx:ExOn w F x vk vs)(hG:Gl w):
 Calls Tryz.prog 22 #[exV x vk vs] w (TyP w (typD x)):=by
 obtain⟨h1,h2⟩:=ExOn.iff.1 hx
 obtain⟨o1,j1,rfl⟩:=h1.form
 obtain⟨o2,j2,rfl⟩:=h2.form
 obtain⟨W1,hW1⟩:∃W1,W1=w.alloc (boxEx x (.slice o1 x.ks.length j1) (.slice o2 x.ss.length j2)):=⟨_,rfl⟩
 have b1:Below w.heap.size w W1:=by rw[hW1];exact below_box _
 have hcl:∀W,Below W1.heap.size W1 W→W.heap[w.heap.size]? =some (boxEx x (.slice o1 x.ks.length j1) (.slice o2 x.ss.length j2)):=fun W hW=>by
  refine(hW.block w.heap.size (by rw[hW1];simp)).trans ?_
  rw[hW1]
  exact World.alloc_heap_new w _
 have HCL:=Lib.hid hcl
 have hri:=rightX_any 1001 (by omega) x _ _ W1 F hc hw (hx.below b1) (hG.below b1)
 unfold exV at hri
 have HRI:=Lib.hid hri
 have HB1:=Lib.hid b1
 unfold boxEx at hW1
 have HW1:=Lib.hid hW1
 unfold typD
 cases hr:rightE x with
 |false=>
  rw[hr]at HRI
  rw[if_neg (by simp)]
  unfold exV
  clear hcl hri hx h1 h2 b1 hW1 hG hc hw hr
  go_enter Tryz.func22,Tryz.ntmps22
  go_wp2_with fail
  rw[←HW1.out]
  refine HRI.out.mono ?_
  rintro e w2 ⟨rfl,hb2⟩
  go_wp2_with fail
  exact bodyPost_ret (by simp[results,Tryz.results22]) rfl ⟨HB1.out.trans (hb2.mono HB1.out.size),rfl⟩
 |true=>
  rw[hr]at HRI
  rw[if_pos rfl]
  have hwh:=fun W (hW:Below w.heap.size w W)=>wholeC_any x _ _ W F hc hr (hx.below hW)
  unfold exV at hwh
  have HWH:=Lib.hid hwh
  show Calls _ _ _ _ (TyP w (ckR (ckE x 0)))
  generalize ckR (ckE x 0)=R at *
  unfold exV
  clear hcl hri hwh hx h1 h2 b1 hW1 hG hc hw hr
  go_enter Tryz.func22,Tryz.ntmps22
  go_wp2_with fail
  rw[←HW1.out]
  refine HRI.out.mono ?_
  rintro e w2 ⟨rfl,hb2⟩
  obtain⟨⟨a0,a1,a2,a3,a4,a5,a6⟩,_⟩:=boxEx_blk (HCL.out w2 hb2)
  have HB2:=Lib.hid (HB1.out.trans (hb2.mono HB1.out.size))
  clear hb2
  go_wp2_with fail
  refine(HWH.out w2 HB2.out).mono ?_
  rintro e w3 ⟨hb3,rfl⟩
  go_wp2_with fail
  exact bodyPost_ret (by simp[results,Tryz.results22]) rfl ⟨HB2.out.trans (hb3.mono HB2.out.size),rfl⟩
end Char
namespace Char
open Go.RowKit Go.Lib
open Go.Proofs.YtlmpkpjjakallaaGreatDoor.Fig (outT outV)
theorem typed_any (R:Nat)(s:List UInt8)(ts:List Wd)(w:World)(h:LfB R ts w):Calls Tryz.prog 233 #[.pointer (some ⟨R,0,none⟩),.string (bs s)] w (TeP R w (typL s ts)):=by
 by_cases e5:s=comL
 ·exact typed_5 R s ts w h e5
 by_cases e4:s=txtL
 ·exact typed_4 R s ts w h e5 e4
 by_cases e6:s=pinL
 ·exact typed_6 R s ts w h e5 e4 e6
 ·exact typed_3 R s ts w h e5 e4 e6
def testL (ts:List Wd):Option (Te3×List Wd):=match ts with
 |[]=>none
 |x::r=>if x.k=2 then some ((1,x.s,false),r) else if x.k=3 then some ((2,[],false),r) else if x.k=4 then typL x.s r else none
set_option maxRecDepth 100000 in
set_option maxHeartbeats 4000000 in
theorem test_any (R:Nat)(ts:List Wd)(w:World)(h:LfB R ts w):Calls Tryz.prog 227 #[.pointer (some ⟨R,0,none⟩)] w (TeP R w (testL ts)):=by
 have hlt:=h.lt
 have L0:=Lib.hid (h.box (boxTe 0 [] false))
 have A0:=Lib.hid (Bx.new hlt (boxTe 0 [] false))
 have C0:=Lib.hid (But.new R w hlt (boxTe 0 [] false))
 cases ts with
 |nil=>
  have HN:=Lib.hid fun(W:World) (hl:LfB R [] W)=>next_no R W hl
  unfold PaP at HN
  show Calls _ _ _ _ (PaP R w)
  unfold PaP
  clear h
  go_enter Tryz.func227,Tryz.ntmps227
  go_wp2_with (first
   |(go_at_call 228
     refine(HN.out _ L0.out).mono ?_
     rintro e w1 ⟨rfl,q2⟩
     have C1:=Lib.hid (C0.out.trans q2)
     clear q2
     unfold pan31))
  exact⟨rfl,rfl,C1.out⟩
 |cons x r=>
  have HN:=Lib.hid fun(W:World) (hl:LfB R (x::r) W)=>next_ok R x r W hl
  have HT:=Lib.hid fun(W:World) (hl:LfB R r W)=>typed_any R x.s r W hl
  unfold TkP wdV at HN
  simp only[testL]
  clear h
  by_cases h2:x.k=2
  ·rw[if_pos h2]
   have k2:((x.k:Int)==2)=true:=by rw[h2];rfl
   clear h2 HT
   go_enter Tryz.func227,Tryz.ntmps227
   go_wp2_with (first
    |(go_at_call 228
      refine(HN.out _ L0.out).mono ?_
      rintro e w1 ⟨rfl,q1,q2⟩
      have L1:=Lib.hid q1
      have A1:=Lib.hid (A0.out.next q2)
      have C1:=Lib.hid (C0.out.trans q2)
      obtain⟨_,gf⟩:=boxTe_blk (A0.out.next q2).2
      have ga:=(A0.out.next q2).lt
      clear q1 q2 HN))
   exact endTePb Tryz.results227 (x:=(1,x.s,false)) (boxWd x) A1.out.2 L1.out C1.out hlt rfl rfl
  rw[if_neg h2]
  have k2:((x.k:Int)==2)=false:=by rw[beq_eq_false_iff_ne];omega
  clear h2
  by_cases h3:x.k=3
  ·rw[if_pos h3]
   have k3:((x.k:Int)==3)=true:=by rw[h3];rfl
   clear h3 HT
   go_enter Tryz.func227,Tryz.ntmps227
   go_wp2_with (first
    |(go_at_call 228
      refine(HN.out _ L0.out).mono ?_
      rintro e w1 ⟨rfl,q1,q2⟩
      have L1:=Lib.hid q1
      have A1:=Lib.hid (A0.out.next q2)
      have C1:=Lib.hid (C0.out.trans q2)
      obtain⟨_,gf⟩:=boxTe_blk (A0.out.next q2).2
      have ga:=(A0.out.next q2).lt
      clear q1 q2 HN))
   exact endTePb Tryz.results227 (x:=(2,[],false)) (boxWd x) A1.out.2 L1.out C1.out hlt rfl rfl
  rw[if_neg h3]
  have k3:((x.k:Int)==3)=false:=by rw[beq_eq_false_iff_ne];omega
  clear h3
  by_cases h4:x.k=4
  ·rw[if_pos h4]
   have k4:((x.k:Int)==4)=true:=by rw[h4];rfl
   clear h4
   cases h5:typL x.s r with
   |none=>
    rw[h5]at HT
    unfold TeP at HT
    dsimp only at HT
    unfold PaP at HT
    show Calls _ _ _ _ (PaP R w)
    unfold PaP
    clear h5
    go_enter Tryz.func227,Tryz.ntmps227
    go_wp2_with (first
     |(go_at_call 228
       refine(HN.out _ L0.out).mono ?_
       rintro e w1 ⟨rfl,q1,q2⟩
       have L1:=Lib.hid q1
       have A1:=Lib.hid (A0.out.next q2)
       have C1:=Lib.hid (C0.out.trans q2)
       obtain⟨_,gf⟩:=boxTe_blk (A0.out.next q2).2
       have ga:=(A0.out.next q2).lt
       clear q1 q2 HN)
     |(go_at_call 233
       refine(HT.out _ (L1.out.box (boxWd x))).mono ?_
       rintro e w2 ⟨rfl,q2⟩
       have C2:=Lib.hid ((C1.out.box hlt (boxWd x)).trans q2)
       clear q2 HT
       unfold pan31))
    exact⟨rfl,rfl,C2.out⟩
   |some p=>
    obtain⟨t,u⟩:=p
    rw[h5]at HT
    unfold TeP at HT
    dsimp only at HT
    unfold teV at HT
    clear h5
    go_enter Tryz.func227,Tryz.ntmps227
    go_wp2_with (first
     |(go_at_call 228
       refine(HN.out _ L0.out).mono ?_
       rintro e w1 ⟨rfl,q1,q2⟩
       have L1:=Lib.hid q1
       have A1:=Lib.hid (A0.out.next q2)
       have C1:=Lib.hid (C0.out.trans q2)
       obtain⟨_,gf⟩:=boxTe_blk (A0.out.next q2).2
       have ga:=(A0.out.next q2).lt
       clear q1 q2 HN)
     |(go_at_call 233
       refine(HT.out _ (L1.out.box (boxWd x))).mono ?_
       rintro e w2 ⟨rfl,q1,q2⟩
       have L2:=Lib.hid q1
       have A2:=Lib.hid ((A1.out.box (boxWd x)).next q2)
       have C2:=Lib.hid ((C1.out.box hlt (boxWd x)).trans q2)
       obtain⟨_,hf⟩:=boxTe_blk A2.out.2
       clear q1 q2 HT))
    exact endTeP Tryz.results227 (x:=t) A2.out.2 L2.out C2.out hlt rfl rfl
  ·rw[if_neg h4]
   have k4:((x.k:Int)==4)=false:=by rw[beq_eq_false_iff_ne];omega
   show Calls _ _ _ _ (PaP R w)
   unfold PaP
   clear h4 HT
   go_enter Tryz.func227,Tryz.ntmps227
   go_wp2_with (first
    |(go_at_call 228
      refine(HN.out _ L0.out).mono ?_
      rintro e w1 ⟨rfl,q1,q2⟩
      have L1:=Lib.hid q1
      have A1:=Lib.hid (A0.out.next q2)
      have C1:=Lib.hid (C0.out.trans q2)
      obtain⟨_,gf⟩:=boxTe_blk (A0.out.next q2).2
      have ga:=(A0.out.next q2).lt
      clear q1 q2 HN))
   exact⟨rfl,rfl,C1.out.box hlt (boxWd x)⟩
end Char
namespace Char
open Go.RowKit Go.Lib
open Go.Proofs.YtlmpkpjjakallaaGreatDoor.Fig (outT outV)
def SubE (R N:Nat)(E:List Wd→Option (Ex×List Wd)):Prop:=∀(l:List Wd) (W:World),LfB R l W→l.length<N→Calls Tryz.prog 60 #[.pointer (some ⟨R,0,none⟩)] W (ExP R W (E l))
def ShrE (E:List Wd→Option (Ex×List Wd)):Prop:=∀l e r,E l=some (e,r)→r.length<l.length
def leftN (R:Nat)(w:World):Nat:=match w.cell? ⟨R,0,none⟩ with
 |some (.slice _ n _)=>n
 |_=>0
theorem leftN_of {R:Nat}{ts:List Wd}{w:World}(h:LfB R ts w):leftN R w=ts.length:=by
 obtain⟨o,c,h1,_⟩:=h
 simp[leftN,h1]
def predsL (E:List Wd→Option (Ex×List Wd)):Nat→List Wd→List Ex→Option (List Ex×List Wd)
 |0,_,_=>none
 |f+1,ts,acc=>if aheadL 1 [91] ts then (match E ts.tail with
   |none=>none
   |some (x,r)=>match mustW [93] r with
    |none=>none
    |some t=>predsL E f t (acc++[x])) else some (acc,ts)
theorem ahead_len {k:Int}{m:List UInt8}{ts:List Wd}(h:aheadL k m ts=true):ts.tail.length+1=ts.length:=by
 cases ts with
 |nil=>cases h
 |cons x r=>simp
theorem must_len {m:List UInt8}{ts t:List Wd}(h:mustW m ts=some t):t.length+1=ts.length:=by
 unfold mustW at h
 split at h
 ·rename_i h1
  cases h
  exact ahead_len h1
 ·cases h
theorem row_apart {B:Nat}{w W0 W1:World}{v:Value}{xs:List (Ex×Value×Value)}{x:Ex}{vk vs:Value}(h:RowEx B w v xs)(hs:w.heap.size≤W0.heap.size)(hB:B≤W0.heap.size)(ho:ExOn W1 (W0.heap.size≤ ·) x vk vs):ExOn W1 (fun b=>B≤b∧v.ownBlock≠some b) x vk vs:=
 ExOn.move (fun b _ hF=>⟨⟨Nat.le_trans hB hF,fun hv=>by have :=(h.blk hv).2;omega⟩,rfl⟩) _ _ _ ho
set_option maxRecDepth 100000 in
set_option maxHeartbeats 8000000 in
theorem preds_any (R N:Nat)(E:List Wd→Option (Ex×List Wd))(ts:List Wd)(w:World)(hE:SubE R N E)(hS:ShrE E)(h:LfB R ts w)(hn:ts.length≤N)(hl:ts.length≤1000):
 Calls Tryz.prog 218 #[.pointer (some ⟨R,0,none⟩)] w (EsP R w (predsL E (ts.length+1) ts [])):=by
 have hlt:=h.lt
 obtain⟨G,hG⟩:∃G,predsL E (ts.length+1) ts []=G:=⟨_,rfl⟩
 rw[hG]
 have HG:=Lib.hid hG
 have H0:=Lib.hid h
 have HE:=Lib.hid hE
 have HS:=Lib.hid hS
 have HN:=Lib.hid hn
 have HL:=Lib.hid hl
 clear hG h hE hS hn hl
 go_enter Tryz.func218,Tryz.ntmps218
 go_wp2_with fail
 go_loopw [3] (fun v wr=>∃(f:Nat) (cur:List Wd) (xs:List (Ex×Value×Value)) (o:Option Addr) (j:Nat),v= .slice o xs.length j∧Hid (LfB R cur wr∧RowEx w.heap.size wr v xs∧But R w wr∧cur.length<f∧predsL E f cur (xs.map (·.1))=G∧xs.length+cur.length≤ts.length)) (fun _ wr=>leftN R wr)
 case atStart=>exact⟨ts.length+1,ts,[],none,0,rfl,Lib.hid ⟨H0.out,RowEx.nil _ _,But.refl _ _,by omega,HG.out,by simp⟩⟩
 case round=>
  obtain⟨f,cur,xs,o,j,rfl,HI⟩:=hrel
  have HT:=Lib.hid (take_any R 1 [91] cur wr HI.out.1)
  unfold takeL TkP at HT
  have HMZ:=Lib.hid (leftN_of HI.out.1)
  cases f with
  |zero=>exact absurd HI.out.2.2.2.1 (by omega)
  |succ f=>
  cases h1:aheadL 1 [91] cur with
  |false=>
   rw[h1]at HT
   rw[if_neg (by simp)]at HT
   have hg:=HI.out.2.2.2.2.1
   unfold predsL at hg
   rw[if_neg (by rw[h1];simp)]at hg
   have HGE:=Lib.hid hg
   clear hg h1
   go_wp2_with (first
    |(go_at_call 180
      refine HT.out.mono ?_
      rintro e w1 ⟨rfl,q1,q2⟩
      have Q1:=Lib.hid q1
      have Q2:=Lib.hid q2
      clear q1 q2 HT))
   go_ret
   rw[←HGE.out]
   exact⟨_,xs,rfl,rfl,HI.out.2.1.but Q2.out hlt,Q1.out,HI.out.2.2.1.trans Q2.out⟩
  |true=>
   rw[h1]at HT
   rw[if_pos rfl]at HT
   have hcl:=ahead_len h1
   have hg:=HI.out.2.2.2.2.1
   unfold predsL at hg
   rw[if_pos h1]at hg
   have hsz:=HI.out.2.2.1.size
   have hlen:=HI.out.2.2.2.2.2
   have hnn:=HN.out
   have hll:=HL.out
   have hfl:=HI.out.2.2.2.1
   have HX:=Lib.hid fun(W:World) (hw:LfB R cur.tail W)=>HE.out cur.tail W hw (by omega)
   generalize hct:cur.tail=ct at *
   cases h2:E ct with
   |none=>
    rw[h2]at HX hg
    have HGE:=Lib.hid hg
    unfold ExP PaP at HX
    dsimp only at HX
    clear h1 h2 hg hct
    go_wp2_with (first
     |(go_at_call 180
       refine HT.out.mono ?_
       rintro e w1 ⟨rfl,q1,q2⟩
       have Q1:=Lib.hid q1
       have Q2:=Lib.hid q2
       clear q1 q2 HT)
     |(go_at_call 60
       refine(HX.out _ Q1.out).mono ?_
       rintro e w2 ⟨rfl,q2⟩
       have Q3:=Lib.hid q2
       clear q2 HX
       unfold pan31))
    refine⟨rfl,?_⟩
    rw[←HGE.out]
    exact⟨rfl,(HI.out.2.2.1.trans Q2.out).trans Q3.out⟩
   |some p=>
    obtain⟨x,r⟩:=p
    rw[h2]at HX hg
    unfold ExP at HX
    dsimp only at HX hg
    unfold exV at HX
    have hrl:=HS.out _ _ _ h2
    have HM:=Lib.hid fun(W:World) (hw:LfB R r W)=>must_any R [93] r W hw
    cases h3:mustW [93] r with
    |none=>
     rw[h3]at HM hg
     have HGE:=Lib.hid hg
     unfold MuP PaP at HM
     dsimp only at HM
     clear h1 h2 h3 hg hct
     go_wp2_with (first
      |(go_at_call 180
        refine HT.out.mono ?_
        rintro e w1 ⟨rfl,q1,q2⟩
        have Q1:=Lib.hid q1
        have Q2:=Lib.hid q2
        clear q1 q2 HT)
      |(go_at_call 60
        refine(HX.out _ Q1.out).mono ?_
        rintro e w2 ⟨vk,vs,rfl,q1,q2,q3⟩
        have Q3:=Lib.hid q3
        have Q4:=Lib.hid q2
        have Q5:=Lib.hid ((HI.out.2.1.but Q2.out hlt).but q3 hlt)
        have Q6:=Lib.hid (row_apart (HI.out.2.1.but Q2.out hlt) (Nat.le_refl _) (by have :=Q2.out.size;omega) q1)
        clear q1 q2 q3 HX)
      |(at_builtin
        refine wpList_pushEx rfl (.tmp 6) (.tmp 9) rfl x vk vs Q5.out Q6.out rfl (by simp[Act.eval]) (by have :=Q2.out.size;have :=Q3.out.size;omega) (by omega) ?_
        intro v' w3 hr3 hb3
        obtain⟨o',j',hv⟩:=hr3.form
        have hv2:v'= .slice o' (xs.length+1) j':=by rw[hv];simp
        subst hv2
        clear hv
        have P1:=Lib.hid hr3
        have P2:=Lib.hid (((HI.out.2.2.1.trans Q2.out).trans Q3.out).up hb3 hlt)
        have P3:=Lib.hid (Q4.out.keep (fun k hk=>hb3.block k (by omega)) hb3.size)
        clear hr3 hb3)
      |(go_at_call 230
        refine(HM.out _ P3.out).mono ?_
        rintro e w4 ⟨rfl,q2⟩
        have P4:=Lib.hid q2
        clear q2 HM
        unfold pan31))
     refine⟨rfl,?_⟩
     rw[←HGE.out]
     exact⟨rfl,P2.out.trans P4.out⟩
    |some t=>
     rw[h3]at HM hg
     have hml:=must_len h3
     have HGE:=Lib.hid hg
     unfold MuP TkP at HM
     dsimp only at HM
     clear h1 h2 h3 hg hct
     go_wp2_with (first
      |(go_at_call 180
        refine HT.out.mono ?_
        rintro e w1 ⟨rfl,q1,q2⟩
        have Q1:=Lib.hid q1
        have Q2:=Lib.hid q2
        clear q1 q2 HT)
      |(go_at_call 60
        refine(HX.out _ Q1.out).mono ?_
        rintro e w2 ⟨vk,vs,rfl,q1,q2,q3⟩
        have Q3:=Lib.hid q3
        have Q4:=Lib.hid q2
        have Q5:=Lib.hid ((HI.out.2.1.but Q2.out hlt).but q3 hlt)
        have Q6:=Lib.hid (row_apart (HI.out.2.1.but Q2.out hlt) (Nat.le_refl _) (by have :=Q2.out.size;omega) q1)
        clear q1 q2 q3 HX)
      |(at_builtin
        refine wpList_pushEx rfl (.tmp 6) (.tmp 9) rfl x vk vs Q5.out Q6.out rfl (by simp[Act.eval]) (by have :=Q2.out.size;have :=Q3.out.size;omega) (by omega) ?_
        intro v' w3 hr3 hb3
        obtain⟨o',j',hv⟩:=hr3.form
        have hv2:v'= .slice o' (xs.length+1) j':=by rw[hv];simp
        subst hv2
        clear hv
        have P1:=Lib.hid hr3
        have P2:=Lib.hid (((HI.out.2.2.1.trans Q2.out).trans Q3.out).up hb3 hlt)
        have P3:=Lib.hid (Q4.out.keep (fun k hk=>hb3.block k (by omega)) hb3.size)
        clear hr3 hb3)
      |(go_at_call 230
        refine(HM.out _ P3.out).mono ?_
        rintro e w4 ⟨rfl,q1,q2⟩
        have P4:=Lib.hid q2
        have P5:=Lib.hid q1
        clear q1 q2 HM))
     have hln:(xs++[(x,vk,vs)]).length=xs.length+1:=by simp
     have HLN:=Lib.hid hln
     clear hln
     go_roundw
     case rel=>
      refine⟨f,t,xs++[(x,vk,vs)],o',j',by rw[HLN.out],Lib.hid ⟨P5.out,P1.out.but P4.out hlt,P2.out.trans P4.out,by omega,?_,?_⟩⟩
      ·rw[←HGE.out,List.map_append]
       rfl
      ·rw[HLN.out]
       omega
     case measure=>
      rw[leftN_of P5.out,HMZ.out]
      omega
end Char
namespace Char
open Go.RowKit Go.Lib
open Go.Proofs.YtlmpkpjjakallaaGreatDoor.Fig (outT outV)
def argsT (E:List Wd→Option (Ex×List Wd)):Nat→List Wd→List Ex→Option (List Ex×List Wd)
 |0,_,_=>none
 |f+1,ts,acc=>if aheadL 1 [44] ts then (match E ts.tail with
   |none=>none
   |some (x,r)=>argsT E f r (acc++[x])) else (mustW [41] ts).map fun t=>(acc,t)
def argsL (E:List Wd→Option (Ex×List Wd))(ts:List Wd):Option (List Ex×List Wd):=match mustW [40] ts with
 |none=>none
 |some t=>if aheadL 1 [41] t then some ([],t.tail) else match E t with
  |none=>none
  |some (x,r)=>argsT E (r.length+1) r [x]
set_option maxRecDepth 100000 in
set_option maxHeartbeats 8000000 in
theorem args_any (R N:Nat)(E:List Wd→Option (Ex×List Wd))(ts:List Wd)(w:World)(hE:SubE R N E)(hS:ShrE E)(h:LfB R ts w)(hn:ts.length≤N)(hl:ts.length≤900):
 Calls Tryz.prog 229 #[.pointer (some ⟨R,0,none⟩)] w (EsP R w (argsL E ts)):=by
 have hlt:=h.lt
 have H0:=Lib.hid h
 have HE:=Lib.hid hE
 have HS:=Lib.hid hS
 unfold argsL
 have HM:=Lib.hid fun(W:World) (hw:LfB R ts W)=>must_any R [40] ts W hw
 clear h hE hS
 cases h1:mustW [40] ts with
 |none=>
  rw[h1]at HM
  unfold MuP PaP at HM
  dsimp only at HM ⊢
  unfold EsP PaP
  dsimp only
  clear h1
  go_enter Tryz.func229,Tryz.ntmps229
  go_wp2_with (first
   |(go_at_call 230
     refine(HM.out _ H0.out).mono ?_
     rintro e w1 ⟨rfl,q2⟩
     have Q2:=Lib.hid q2
     clear q2 HM
     unfold pan31))
  exact⟨rfl,rfl,Q2.out⟩
 |some t=>
  have hml:=must_len h1
  rw[h1]at HM
  unfold MuP TkP at HM
  dsimp only at HM ⊢
  clear h1
  have HT:=Lib.hid fun(W:World) (hw:LfB R t W)=>take_any R 1 [41] t W hw
  unfold takeL TkP at HT
  cases h2:aheadL 1 [41] t with
  |true=>
   rw[h2]at HT
   simp only[if_true]at HT ⊢
   clear h2
   go_enter Tryz.func229,Tryz.ntmps229
   go_wp2_with (first
    |(go_at_call 230
      refine(HM.out _ H0.out).mono ?_
      rintro e w1 ⟨rfl,q1,q2⟩
      have Q1:=Lib.hid q1
      have Q2:=Lib.hid q2
      clear q1 q2 HM)
    |(go_at_call 180
      refine(HT.out _ Q1.out).mono ?_
      rintro e w2 ⟨rfl,q1,q2⟩
      have Q3:=Lib.hid q1
      have Q4:=Lib.hid (Q2.out.trans q2)
      clear q1 q2 HT))
   go_ret
   exact⟨_,[],rfl,rfl,RowEx.nil _ _,Q3.out,Q4.out⟩
  |false=>
   rw[h2]at HT
   simp only[Bool.false_eq_true,if_false]at HT ⊢
   have hX:=fun(W:World) (hw:LfB R t W)=>HE.out t W hw (by omega)
   clear h2
   cases h3:E t with
   |none=>
    rw[h3]at hX
    have HX:=Lib.hid hX
    unfold ExP PaP at HX
    dsimp only at HX ⊢
    unfold EsP PaP
    dsimp only
    clear h3 hX
    go_enter Tryz.func229,Tryz.ntmps229
    go_wp2_with (first
     |(go_at_call 230
       refine(HM.out _ H0.out).mono ?_
       rintro e w1 ⟨rfl,q1,q2⟩
       have Q1:=Lib.hid q1
       have Q2:=Lib.hid q2
       clear q1 q2 HM)
     |(go_at_call 180
       refine(HT.out _ Q1.out).mono ?_
       rintro e w2 ⟨rfl,q1,q2⟩
       have Q3:=Lib.hid q1
       have Q4:=Lib.hid (Q2.out.trans q2)
       clear q1 q2 HT)
     |(go_at_call 60
       refine(HX.out _ Q3.out).mono ?_
       rintro e w3 ⟨rfl,q2⟩
       have Q5:=Lib.hid (Q4.out.trans q2)
       clear q2 HX
       unfold pan31))
    exact⟨rfl,rfl,Q5.out⟩
   |some p=>
    obtain⟨y,r⟩:=p
    have hrl:=HS.out _ _ _ h3
    rw[h3]at hX
    have HX:=Lib.hid hX
    unfold ExP at HX
    dsimp only at HX ⊢
    unfold exV at HX
    obtain⟨G,hG⟩:∃G,argsT E (r.length+1) r [y]=G:=⟨_,rfl⟩
    rw[hG]
    have HG:=Lib.hid hG
    clear h3 hX hG
    go_enter Tryz.func229,Tryz.ntmps229
    go_wp2_with (first
     |(go_at_call 230
       refine(HM.out _ H0.out).mono ?_
       rintro e w1 ⟨rfl,q1,q2⟩
       have Q1:=Lib.hid q1
       have Q2:=Lib.hid q2
       clear q1 q2 HM)
     |(go_at_call 180
       refine(HT.out _ Q1.out).mono ?_
       rintro e w2 ⟨rfl,q1,q2⟩
       have Q3:=Lib.hid q1
       have Q4:=Lib.hid (Q2.out.trans q2)
       clear q1 q2 HT)
     |(go_at_call 60
       refine(HX.out _ Q3.out).mono ?_
       rintro e w3 ⟨vk,vs,rfl,q1,q2,q3⟩
       have Q5:=Lib.hid (Q4.out.trans q3)
       have Q6:=Lib.hid q2
       have Q7:=Lib.hid (q1.low Q4.out.size)
       clear q1 q2 q3 HX))
    go_loopw [3] (fun v wr=>∃(f:Nat) (cur:List Wd) (xs:List (Ex×Value×Value)) (o:Option Addr) (j:Nat),v= .slice o xs.length j∧Hid (LfB R cur wr∧RowEx w.heap.size wr v xs∧But R w wr∧cur.length<f∧argsT E f cur (xs.map (·.1))=G∧xs.length+cur.length≤ts.length)) (fun _ wr=>leftN R wr)
    case atStart=>exact⟨r.length+1,r,[(y,vk,vs)],some ⟨w3.heap.size,0,none⟩,1,rfl,Lib.hid ⟨Q6.out.box _,RowEx.one y vk vs Q7.out Q5.out.size,Q5.out.box hlt _,by omega,HG.out,by simp;omega⟩⟩
    case round=>
     clear HG Q5 Q6 Q7 Q3 Q4 Q1 Q2 H0
     obtain⟨f,cur,xs,o,j,rfl,HI⟩:=hrel
     have HT:=Lib.hid (take_any R 1 [44] cur wr HI.out.1)
     unfold takeL TkP at HT
     have HMZ:=Lib.hid (leftN_of HI.out.1)
     cases f with
     |zero=>exact absurd HI.out.2.2.2.1 (by omega)
     |succ f=>
     cases h1:aheadL 1 [44] cur with
     |false=>
      rw[h1]at HT
      rw[if_neg (by simp)]at HT
      have hg:=HI.out.2.2.2.2.1
      unfold argsT at hg
      rw[if_neg (by rw[h1];simp)]at hg
      have HM:=Lib.hid fun(W:World) (hw:LfB R cur W)=>must_any R [41] cur W hw
      cases h2:mustW [41] cur with
      |none=>
       rw[h2]at HM hg
       have HGE:=Lib.hid hg
       unfold MuP PaP at HM
       dsimp only at HM
       clear hg h1 h2
       go_wp2_with (first
        |(go_at_call 180
          refine HT.out.mono ?_
          rintro e w4 ⟨rfl,q1,q2⟩
          have Q1:=Lib.hid q1
          have Q2:=Lib.hid (HI.out.2.2.1.trans q2)
          clear q1 q2 HT)
        |(go_at_call 230
          refine(HM.out _ Q1.out).mono ?_
          rintro e w5 ⟨rfl,q2⟩
          have Q3:=Lib.hid (Q2.out.trans q2)
          clear q2 HM
          unfold pan31))
       refine⟨rfl,?_⟩
       rw[←HGE.out]
       exact⟨rfl,Q3.out⟩
      |some t2=>
       rw[h2]at HM hg
       have HGE:=Lib.hid hg
       unfold MuP TkP at HM
       dsimp only at HM
       clear hg h1 h2
       go_wp2_with (first
        |(go_at_call 180
          refine HT.out.mono ?_
          rintro e w4 ⟨rfl,q1,q2⟩
          have Q1:=Lib.hid q1
          have Q2:=Lib.hid (HI.out.2.2.1.trans q2)
          have Q4:=Lib.hid (HI.out.2.1.but q2 hlt)
          clear q1 q2 HT)
        |(go_at_call 230
          refine(HM.out _ Q1.out).mono ?_
          rintro e w5 ⟨rfl,q1,q2⟩
          have Q3:=Lib.hid (Q2.out.trans q2)
          have Q5:=Lib.hid q1
          have Q6:=Lib.hid (Q4.out.but q2 hlt)
          clear q1 q2 HM))
       go_ret
       rw[←HGE.out]
       exact⟨_,xs,rfl,rfl,Q6.out,Q5.out,Q3.out⟩
     |true=>
      rw[h1]at HT
      rw[if_pos rfl]at HT
      have hcl:=ahead_len h1
      have hg:=HI.out.2.2.2.2.1
      unfold argsT at hg
      rw[if_pos h1]at hg
      have hsz:=HI.out.2.2.1.size
      have hlen:=HI.out.2.2.2.2.2
      have hfl:=HI.out.2.2.2.1
      have hX:=fun(W:World) (hw:LfB R cur.tail W)=>HE.out cur.tail W hw (by omega)
      generalize hct:cur.tail=ct at *
      cases h2:E ct with
      |none=>
       rw[h2]at hX hg
       have HGE:=Lib.hid hg
       have HX:=Lib.hid hX
       unfold ExP PaP at HX
       dsimp only at HX
       clear h1 h2 hg hct hX
       go_wp2_with (first
        |(go_at_call 180
          refine HT.out.mono ?_
          rintro e w4 ⟨rfl,q1,q2⟩
          have Q1:=Lib.hid q1
          have Q2:=Lib.hid q2
          clear q1 q2 HT)
        |(go_at_call 60
          refine(HX.out _ Q1.out).mono ?_
          rintro e w5 ⟨rfl,q2⟩
          have Q3:=Lib.hid q2
          clear q2 HX
          unfold pan31))
       refine⟨rfl,?_⟩
       rw[←HGE.out]
       exact⟨rfl,(HI.out.2.2.1.trans Q2.out).trans Q3.out⟩
      |some p=>
       obtain⟨x,r2⟩:=p
       rw[h2]at hX hg
       have HX:=Lib.hid hX
       unfold ExP at HX
       dsimp only at HX hg
       unfold exV at HX
       have hrl2:=HS.out _ _ _ h2
       have HGE:=Lib.hid hg
       clear h1 h2 hg hct hX
       go_wp2_with (first
        |(go_at_call 180
          refine HT.out.mono ?_
          rintro e w4 ⟨rfl,q1,q2⟩
          have Q1:=Lib.hid q1
          have Q2:=Lib.hid q2
          clear q1 q2 HT)
        |(go_at_call 60
          refine(HX.out _ Q1.out).mono ?_
          rintro e w5 ⟨vk2,vs2,rfl,q1,q2,q3⟩
          have Q3:=Lib.hid q3
          have Q4:=Lib.hid q2
          have Q5:=Lib.hid ((HI.out.2.1.but Q2.out hlt).but q3 hlt)
          have Q6:=Lib.hid (row_apart (HI.out.2.1.but Q2.out hlt) (Nat.le_refl _) (by have :=Q2.out.size;omega) q1)
          clear q1 q2 q3 HX)
        |(at_builtin
          refine wpList_pushEx rfl (.tmp 13) (.tmp 16) rfl x vk2 vs2 Q5.out Q6.out rfl (by simp[Act.eval]) (by have :=Q2.out.size;have :=Q3.out.size;omega) (by omega) ?_
          intro v' w6 hr3 hb3
          obtain⟨o',j',hv⟩:=hr3.form
          have hv2:v'= .slice o' (xs.length+1) j':=by rw[hv];simp
          subst hv2
          clear hv
          have P1:=Lib.hid hr3
          have P2:=Lib.hid (((HI.out.2.2.1.trans Q2.out).trans Q3.out).up hb3 hlt)
          have P3:=Lib.hid (Q4.out.keep (fun k hk=>hb3.block k (by omega)) hb3.size)
          clear hr3 hb3))
       have hln:(xs++[(x,vk2,vs2)]).length=xs.length+1:=by simp
       have HLN:=Lib.hid hln
       clear hln
       go_roundw
       case rel=>
        refine⟨f,r2,xs++[(x,vk2,vs2)],o',j',by rw[HLN.out],Lib.hid ⟨P3.out,P1.out,P2.out,by omega,?_,?_⟩⟩
        ·rw[←HGE.out,List.map_append]
         rfl
        ·rw[HLN.out]
         omega
       case measure=>
        rw[leftN_of P3.out,HMZ.out]
        omega
end Char
end Go.Proofs.YtlmpkpjjakallaaGreatDoor
