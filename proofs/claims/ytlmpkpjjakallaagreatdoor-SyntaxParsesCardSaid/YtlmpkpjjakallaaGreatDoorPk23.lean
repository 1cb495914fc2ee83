import Derived.Test.YtlmpkpjjakallaaGreatDoorPk20
import Derived.Test.YtlmpkpjjakallaaGreatDoorPk18
import Derived.Test.YtlmpkpjjakallaaGreatDoorPk22
namespace Go.Proofs.YtlmpkpjjakallaaGreatDoor
namespace Char
open Go.RowKit Go.Lib
open Go.Proofs.YtlmpkpjjakallaaGreatDoor.Fig (outT outV)
set_option maxRecDepth 100000 in
set_option maxHeartbeats 2000000 in
theorem refPrim_var (w:World)(g off n c:Nat)(ts:List Wd)(x:Wd)(hcx:∀W,Below w.heap.size w W→Wc W g off x)(n0:0<n)(h10:x.k=10)(q:Option (Ex×List Wd))(hq:q=some ((.mk 21 x.s 0 0 false [] []),ts.drop 1))(hl:1≤ts.length):
 Calls Tryz.prog 184 #[.slice (some ⟨g,off,none⟩) n c] w (PrP w ts q):=by
 have HCX:=Lib.hid hcx
 obtain⟨hgl,x0,x1,x2,x3⟩:=hcx w (Below.refl _ _)
 have n2:(0:Int)<(n:Int):=by omega
 clear hcx
 have k10:((x.k:Int)==10)=true:=by rw[h10];rfl
 have HQ:=Lib.hid hq
 clear hq h10
 go_enter Tryz.func184,Tryz.ntmps184
 go_wp2_with fail
 exact endExI Tryz.results184 (x:=(.mk 21 x.s 0 0 false [] [])) (vk:= .slice none 0 0) (vs:= .slice none 0 0) _ w.heap.size ((Below.heap_alloc _ _ _ (by simp)).trans (World.alloc_heap_new w _)) rfl rfl rfl ⟨(below_box _).alloc (by simp) _,.inr ⟨(.mk 21 x.s 0 0 false [] []),_,_,1,HQ.out,Nat.le_refl _,hl,ExOn.iff.2 ⟨KdOn.nil _ _,SdOn.nil _ _⟩,rfl⟩⟩
set_option maxRecDepth 100000 in
set_option maxHeartbeats 2000000 in
theorem refPrim_lit (w:World)(g off n c:Nat)(ts:List Wd)(x:Wd)(hcx:∀W,Below w.heap.size w W→Wc W g off x)(n0:0<n)(h8:x.k=8)(q:Option (Ex×List Wd))(hq:q=some ((.mk 18 x.s 0 0 false [] []),ts.drop 1))(hl:1≤ts.length):
 Calls Tryz.prog 184 #[.slice (some ⟨g,off,none⟩) n c] w (PrP w ts q):=by
 have HCX:=Lib.hid hcx
 obtain⟨hgl,x0,x1,x2,x3⟩:=hcx w (Below.refl _ _)
 have n2:(0:Int)<(n:Int):=by omega
 clear hcx
 have k10:((x.k:Int)==10)=false:=by rw[h8];rfl
 have k8:((x.k:Int)==8)=true:=by rw[h8];rfl
 have HQ:=Lib.hid hq
 clear hq h8
 go_enter Tryz.func184,Tryz.ntmps184
 go_wp2_with fail
 exact endExI Tryz.results184 (x:=(.mk 18 x.s 0 0 false [] [])) (vk:= .slice none 0 0) (vs:= .slice none 0 0) _ w.heap.size ((Below.heap_alloc _ _ _ (by simp)).trans (World.alloc_heap_new w _)) rfl rfl rfl ⟨(below_box _).alloc (by simp) _,.inr ⟨(.mk 18 x.s 0 0 false [] []),_,_,1,HQ.out,Nat.le_refl _,hl,ExOn.iff.2 ⟨KdOn.nil _ _,SdOn.nil _ _⟩,rfl⟩⟩
set_option maxRecDepth 100000 in
set_option maxHeartbeats 2000000 in
theorem refPrim_num (w:World)(g off n c:Nat)(ts:List Wd)(x:Wd)(hcx:∀W,Below w.heap.size w W→Wc W g off x)(n0:0<n)(h9:x.k=9)(q:Option (Ex×List Wd))(hq:q=some ((.mk 19 [] (outT x.n) (outV x.n) false [] []),ts.drop 1))(hl:1≤ts.length):
 Calls Tryz.prog 184 #[.slice (some ⟨g,off,none⟩) n c] w (PrP w ts q):=by
 have HCX:=Lib.hid hcx
 obtain⟨hgl,x0,x1,x2,x3⟩:=hcx w (Below.refl _ _)
 have n2:(0:Int)<(n:Int):=by omega
 clear hcx
 have k10:((x.k:Int)==10)=false:=by rw[h9];rfl
 have k8:((x.k:Int)==8)=false:=by rw[h9];rfl
 have k9:((x.k:Int)==9)=true:=by rw[h9];rfl
 have HQ:=Lib.hid hq
 clear hq h9
 go_enter Tryz.func184,Tryz.ntmps184
 go_wp2_with fail
 exact endExI Tryz.results184 (x:=(.mk 19 [] (outT x.n) (outV x.n) false [] [])) (vk:= .slice none 0 0) (vs:= .slice none 0 0) _ w.heap.size ((Below.heap_alloc _ _ _ (by simp)).trans (World.alloc_heap_new w _)) rfl rfl rfl ⟨(below_box _).alloc (by simp) _,.inr ⟨(.mk 19 [] (outT x.n) (outV x.n) false [] []),_,_,1,HQ.out,Nat.le_refl _,hl,ExOn.iff.2 ⟨KdOn.nil _ _,SdOn.nil _ _⟩,rfl⟩⟩
set_option maxRecDepth 100000 in
set_option maxHeartbeats 2000000 in
theorem refPrim_non (w:World)(g off n c:Nat)(ts:List Wd)(x:Wd)(hcx:∀W,Below w.heap.size w W→Wc W g off x)(n0:0<n)(k10:((x.k:Int)==10)=false)(k8:((x.k:Int)==8)=false)(k9:((x.k:Int)==9)=false)(k6:((x.k:Int)==6)=false)(hm:MkC x ⟨#[40]⟩ false)(q:Option (Ex×List Wd))(hq:q=none):
 Calls Tryz.prog 184 #[.slice (some ⟨g,off,none⟩) n c] w (PrP w ts q):=by
 have HCX:=Lib.hid hcx
 obtain⟨hgl,x0,x1,x2,x3⟩:=hcx w (Below.refl _ _)
 have n2:(0:Int)<(n:Int):=by omega
 clear hcx
 have n1:decide ((n:Int)≤0)=false:=decide_eq_false (by omega)
 have HM:=Lib.hid hm
 have HQ:=Lib.hid hq
 clear hm hq
 go_enter Tryz.func184,Tryz.ntmps184
 go_wp2_with (first
  |(go_at_call 89
    refine(HM.out _).mono ?_
    rintro e w1 ⟨rfl,hbw1⟩
    have Aw1:=Lib.hid ((P1.new w x).call hbw1)
    obtain⟨⟨r0,r1,r2,r3,r4,r5,r6⟩,rf,⟨d0,d1,d2,d3⟩,dl,rl⟩:=Aw1.out.facts
    clear HM hbw1))
 exact prim_no Tryz.results184 _ Aw1.out HQ.out rfl rfl rfl
set_option maxRecDepth 100000 in
set_option maxHeartbeats 2000000 in
theorem refPrim_br_pn (w:World)(g off n c:Nat)(ts:List Wd)(x:Wd)(hcx:∀W,Below w.heap.size w W→Wc W g off x)(n0:0<n)(k10:((x.k:Int)==10)=false)(k8:((x.k:Int)==8)=false)(k9:((x.k:Int)==9)=false)(k6:((x.k:Int)==6)=false)(hm:MkC x ⟨#[40]⟩ true)(hpa:CallC 201 w #[.slice (some ⟨g,off,none⟩) n c,.int .i64 0] (.int .i64 (-1)))(q:Option (Ex×List Wd))(hq:q=none):
 Calls Tryz.prog 184 #[.slice (some ⟨g,off,none⟩) n c] w (PrP w ts q):=by
 have HCX:=Lib.hid hcx
 obtain⟨hgl,x0,x1,x2,x3⟩:=hcx w (Below.refl _ _)
 have n2:(0:Int)<(n:Int):=by omega
 clear hcx
 have n1:decide ((n:Int)≤0)=false:=decide_eq_false (by omega)
 have HM:=Lib.hid hm
 have HPA:=Lib.hid hpa
 have HQ:=Lib.hid hq
 clear hm hpa hq
 go_enter Tryz.func184,Tryz.ntmps184
 go_wp2_with (first
  |(go_at_call 89
    refine(HM.out _).mono ?_
    rintro e w1 ⟨rfl,hbw1⟩
    have Aw1:=Lib.hid ((P1.new w x).call hbw1)
    obtain⟨⟨r0,r1,r2,r3,r4,r5,r6⟩,rf,⟨d0,d1,d2,d3⟩,dl,rl⟩:=Aw1.out.facts
    clear HM hbw1)
  |(go_at_call 201
    refine(HPA.out _ Aw1.out.2.2).mono ?_
    rintro e w2 ⟨rfl,hbw2⟩
    have Aw2:=Lib.hid (Aw1.out.call hbw2)
    clear r0 r1 r2 r3 r4 r5 r6 rf d0 d1 d2 d3 dl rl
    obtain⟨⟨r0,r1,r2,r3,r4,r5,r6⟩,rf,⟨d0,d1,d2,d3⟩,dl,rl⟩:=Aw2.out.facts
    clear HPA hbw2))
 exact prim_no Tryz.results184 _ Aw2.out HQ.out rfl rfl rfl
set_option maxRecDepth 100000 in
set_option maxHeartbeats 2000000 in
theorem refPrim_br_on (w:World)(g off n c:Nat)(ts:List Wd)(x:Wd)(hcx:∀W,Below w.heap.size w W→Wc W g off x)(n0:0<n)(t:Nat)(k10:((x.k:Int)==10)=false)(k8:((x.k:Int)==8)=false)(k9:((x.k:Int)==9)=false)(k6:((x.k:Int)==6)=false)(hm:MkC x ⟨#[40]⟩ true)(hpa:CallC 201 w #[.slice (some ⟨g,off,none⟩) n c,.int .i64 0] (.int .i64 (t:Int)))(o9:Option Addr)(hsl:∀wx,(Instr.slice 38 (.slice (some ⟨g,off,none⟩) n c) (some (.int .i64 1)) (some (.int .i64 (t:Int))) none).run Tryz.prog wx= .ok (.slice o9 (t-1) (c-1)) wx)(ho:∀W,Below w.heap.size w W→Calls Tryz.prog 29 #[.slice o9 (t-1) (c-1),.int .i64 0] W (OrP W none))(q:Option (Ex×List Wd))(hq:q=none):
 Calls Tryz.prog 184 #[.slice (some ⟨g,off,none⟩) n c] w (PrP w ts q):=by
 have HCX:=Lib.hid hcx
 obtain⟨hgl,x0,x1,x2,x3⟩:=hcx w (Below.refl _ _)
 have n2:(0:Int)<(n:Int):=by omega
 clear hcx
 have n1:decide ((n:Int)≤0)=false:=decide_eq_false (by omega)
 have HM:=Lib.hid hm
 have HPA:=Lib.hid hpa
 have HQ:=Lib.hid hq
 clear hm hpa hq
 have t0:decide ((t:Int)<0)=false:=decide_eq_false (by omega)
 have HO:=Lib.hid ho
 clear ho
 go_enter Tryz.func184,Tryz.ntmps184
 go_wp2_with (first
  |(go_at_call 89
    refine(HM.out _).mono ?_
    rintro e w1 ⟨rfl,hbw1⟩
    have Aw1:=Lib.hid ((P1.new w x).call hbw1)
    obtain⟨⟨r0,r1,r2,r3,r4,r5,r6⟩,rf,⟨d0,d1,d2,d3⟩,dl,rl⟩:=Aw1.out.facts
    clear HM hbw1)
  |(go_at_call 201
    refine(HPA.out _ Aw1.out.2.2).mono ?_
    rintro e w2 ⟨rfl,hbw2⟩
    have Aw2:=Lib.hid (Aw1.out.call hbw2)
    clear r0 r1 r2 r3 r4 r5 r6 rf d0 d1 d2 d3 dl rl
    obtain⟨⟨r0,r1,r2,r3,r4,r5,r6⟩,rf,⟨d0,d1,d2,d3⟩,dl,rl⟩:=Aw2.out.facts
    clear HPA hbw2)
  |(go_at_call 29
    refine(HO.out _ Aw2.out.2.2).mono ?_
    intro e w3 h
    obtain⟨y,vk,vs,rfl,hb,ho3⟩:=OrP.no h
    unfold exV
    have Aw3:=Lib.hid (Aw2.out.call hb)
    obtain⟨⟨o1,j1,rfl,_⟩,⟨o2,j2,rfl,_⟩⟩:=ExOn.iff.1 ho3
    clear r0 r1 r2 r3 r4 r5 r6 rf d0 d1 d2 d3 dl rl
    obtain⟨⟨r0,r1,r2,r3,r4,r5,r6⟩,rf,⟨d0,d1,d2,d3⟩,dl,rl⟩:=Aw3.out.facts
    clear HO h hb ho3))
 exact prim_noA Tryz.results184 w3 _ Aw3.out HQ.out rfl rfl rfl
set_option maxRecDepth 100000 in
set_option maxHeartbeats 2000000 in
theorem refPrim_br_ok (w:World)(g off n c:Nat)(ts:List Wd)(x:Wd)(hcx:∀W,Below w.heap.size w W→Wc W g off x)(n0:0<n)(hB:n≤800)(t:Nat)(k10:((x.k:Int)==10)=false)(k8:((x.k:Int)==8)=false)(k9:((x.k:Int)==9)=false)(k6:((x.k:Int)==6)=false)(hm:MkC x ⟨#[40]⟩ true)(hpa:CallC 201 w #[.slice (some ⟨g,off,none⟩) n c,.int .i64 0] (.int .i64 (t:Int)))(o9:Option Addr)(hsl:∀wx,(Instr.slice 38 (.slice (some ⟨g,off,none⟩) n c) (some (.int .i64 1)) (some (.int .i64 (t:Int))) none).run Tryz.prog wx= .ok (.slice o9 (t-1) (c-1)) wx)(y:Ex)(ho:∀W,Below w.heap.size w W→Calls Tryz.prog 29 #[.slice o9 (t-1) (c-1),.int .i64 0] W (OrP W (some y)))(htn:t<n)(q:Option (Ex×List Wd))(hq:q=some (y,ts.drop (t+1)))(hl:t+1≤ts.length):
 Calls Tryz.prog 184 #[.slice (some ⟨g,off,none⟩) n c] w (PrP w ts q):=by
 have HCX:=Lib.hid hcx
 obtain⟨hgl,x0,x1,x2,x3⟩:=hcx w (Below.refl _ _)
 have n2:(0:Int)<(n:Int):=by omega
 clear hcx
 have n1:decide ((n:Int)≤0)=false:=decide_eq_false (by omega)
 have HM:=Lib.hid hm
 have HPA:=Lib.hid hpa
 have HQ:=Lib.hid hq
 clear hm hpa hq
 have t0:decide ((t:Int)<0)=false:=decide_eq_false (by omega)
 have HO:=Lib.hid ho
 clear ho
 go_enter Tryz.func184,Tryz.ntmps184
 go_wp2_with (first
  |(go_at_call 89
    refine(HM.out _).mono ?_
    rintro e w1 ⟨rfl,hbw1⟩
    have Aw1:=Lib.hid ((P1.new w x).call hbw1)
    obtain⟨⟨r0,r1,r2,r3,r4,r5,r6⟩,rf,⟨d0,d1,d2,d3⟩,dl,rl⟩:=Aw1.out.facts
    clear HM hbw1)
  |(go_at_call 201
    refine(HPA.out _ Aw1.out.2.2).mono ?_
    rintro e w2 ⟨rfl,hbw2⟩
    have Aw2:=Lib.hid (Aw1.out.call hbw2)
    clear r0 r1 r2 r3 r4 r5 r6 rf d0 d1 d2 d3 dl rl
    obtain⟨⟨r0,r1,r2,r3,r4,r5,r6⟩,rf,⟨d0,d1,d2,d3⟩,dl,rl⟩:=Aw2.out.facts
    clear HPA hbw2)
  |(go_at_call 29
    refine(HO.out _ Aw2.out.2.2).mono ?_
    intro e w3 h
    obtain⟨vk,vs,rfl,hb,ho3⟩:=OrP.yes h
    unfold exV
    have Aw3:=Lib.hid (Aw2.out.call hb)
    have HY:=Lib.hid ho3
    obtain⟨⟨o1,j1,rfl,_⟩,⟨o2,j2,rfl,_⟩⟩:=ExOn.iff.1 ho3
    clear r0 r1 r2 r3 r4 r5 r6 rf d0 d1 d2 d3 dl rl
    obtain⟨⟨r0,r1,r2,r3,r4,r5,r6⟩,rf,⟨d0,d1,d2,d3⟩,dl,rl⟩:=Aw3.out.facts
    clear HO h hb ho3))
 exact prim_okA Tryz.results184 w3 _ y _ _ (t+1) Aw3.out HQ.out (by omega) hl (HY.out.low (by have :=Aw2.out.lt;omega)) rfl (by first|rfl|go_num) rfl
end Char
namespace Char
open Go.RowKit Go.Lib
open Go.Proofs.YtlmpkpjjakallaaGreatDoor.Fig (outT outV)
def LpB (w w5 wr:World)(be:Nat):Prop:=Below w.heap.size w wr∧w5.heap.size≤wr.heap.size∧∀b,b<w5.heap.size→b≠be→wr.heap[b]? =w5.heap[b]?
theorem LpB.p1 {w w5 wr:World}{be:Nat}{x:Wd}(h:LpB w w5 wr be)(hp:P1 w x w5)(hne:w.heap.size+1<be):P1 w x wr:=
 ⟨(h.2.2 _ (by have :=hp.lt;omega) (by omega)).trans hp.1,(h.2.2 _ hp.lt (by omega)).trans hp.2.1,h.1⟩
theorem LpB.up {w w5 wr wr':World}{be:Nat}(h:LpB w w5 wr be)(hb:Below w5.heap.size wr wr')(hB:w.heap.size≤w5.heap.size):LpB w w5 wr' be:=
 ⟨h.1.trans (hb.mono hB),Nat.le_trans h.2.1 hb.size,fun b hlt hne=>(hb.block b hlt).trans (h.2.2 b hlt hne)⟩
theorem LpB.set {w w5 wr:World}{be i:Nat}{v:Value}(h:LpB w w5 wr be)(hB:w.heap.size≤be):LpB w w5 (wr.setCell ⟨be,i,none⟩ v) be:=
 ⟨h.1.setCell (p:=⟨be,i,none⟩) hB v,by simpa using h.2.1,fun b hlt hne=>(heap_set_ne (a:=⟨be,i,none⟩) hne).trans (h.2.2 b hlt hne)⟩
theorem partsD_none {O:List Wd→Option Ex}{u:List Wd}{r:List (List Wd)}{acc:List Ex}(h:O u=none):partsD O (u::r) acc=none:=by rw[partsD,h]
theorem partsD_some {O:List Wd→Option Ex}{u:List Wd}{r:List (List Wd)}{acc:List Ex}{y:Ex}(h:O u=some y):partsD O (u::r) acc=partsD O r (acc++[y]):=by rw[partsD,h]
theorem kids_set {w:World}{b:Nat}{op:Int}{s:List UInt8}{vk vk' vs:Value}(h:w.heap[b]? =some (boxEx (.mk op s 0 0 false [] []) vk vs)):(w.setCell ⟨b,5,none⟩ vk').heap[b]? =some (boxEx (.mk op s 0 0 false [] []) vk' vs):=by
 unfold boxEx at h ⊢
 exact(heap_set_at (i:=5) (u:=vk') h).trans (by simp)
set_option maxRecDepth 100000 in
set_option maxHeartbeats 2000000 in
theorem refPrim_f1 (w:World)(g off n c:Nat)(ts:List Wd)(x:Wd)(hcx:∀W,Below w.heap.size w W→Wc W g off x)(k10:((x.k:Int)==10)=false)(k8:((x.k:Int)==8)=false)(k9:((x.k:Int)==9)=false)(k6:((x.k:Int)==6)=true)(hn:n=1)(q:Option (Ex×List Wd))(hq:q=none):
 Calls Tryz.prog 184 #[.slice (some ⟨g,off,none⟩) n c] w (PrP w ts q):=by
 have HCX:=Lib.hid hcx
 obtain⟨hgl,x0,x1,x2,x3⟩:=hcx w (Below.refl _ _)
 have n2:(0:Int)<(n:Int):=by omega
 clear hcx
 have n1:decide ((n:Int)≤1)=true:=decide_eq_true (by omega)
 have HQ:=Lib.hid hq
 clear hq hn
 go_enter Tryz.func184,Tryz.ntmps184
 go_wp2_with fail
 exact endExI Tryz.results184 (x:=ex0) (vk:= .slice none 0 0) (vs:= .slice none 0 0) _ w.heap.size (P1.new w x).1 rfl rfl rfl ⟨(P1.new w x).2.2,.inl ⟨HQ.out,rfl⟩⟩
set_option maxRecDepth 100000 in
set_option maxHeartbeats 2000000 in
theorem refPrim_f2 (w:World)(g off n c:Nat)(ts:List Wd)(x:Wd)(hcx:∀W,Below w.heap.size w W→Wc W g off x)(y:Wd)(hcy:∀W,Below w.heap.size w W→W.cell? ⟨g,off+4,none⟩=some (.int .i64 (y.k:Int))∧W.cell? ⟨g,off+5,none⟩=some (.string (bs y.s))∧W.cell? ⟨g,off+6,none⟩=some (.int .i64 (outT y.n))∧W.cell? ⟨g,off+7,none⟩=some (.int .i64 (outV y.n)))(n22:2≤n)(k10:((x.k:Int)==10)=false)(k8:((x.k:Int)==8)=false)(k9:((x.k:Int)==9)=false)(k6:((x.k:Int)==6)=true)(hm:MkC y ⟨#[40]⟩ false)(q:Option (Ex×List Wd))(hq:q=none):
 Calls Tryz.prog 184 #[.slice (some ⟨g,off,none⟩) n c] w (PrP w ts q):=by
 have HCX:=Lib.hid hcx
 obtain⟨hgl,x0,x1,x2,x3⟩:=hcx w (Below.refl _ _)
 have n2:(0:Int)<(n:Int):=by omega
 obtain⟨y0,y1,y2,y3⟩:=hcy w (Below.refl _ _)
 have n1:decide ((n:Int)≤1)=false:=decide_eq_false (by omega)
 have n24:(1:Int)<(n:Int):=by omega
 have n25:1<n:=by omega
 clear hcx hcy
 have HM:=Lib.hid hm
 have HQ:=Lib.hid hq
 clear hm hq
 go_enter Tryz.func184,Tryz.ntmps184
 go_wp2_with (first
  |(go_at_call 89
    refine(HM.out _).mono ?_
    rintro e w1 ⟨rfl,hbw1⟩
    have Aw1:=Lib.hid ((P1.new w x).call hbw1)
    obtain⟨⟨r0,r1,r2,r3,r4,r5,r6⟩,rf,⟨d0,d1,d2,d3⟩,dl,rl⟩:=Aw1.out.facts
    clear HM hbw1))
 exact prim_no Tryz.results184 _ Aw1.out HQ.out rfl rfl rfl
set_option maxRecDepth 100000 in
set_option maxHeartbeats 2000000 in
theorem refPrim_f3 (w:World)(g off n c:Nat)(ts:List Wd)(x:Wd)(hcx:∀W,Below w.heap.size w W→Wc W g off x)(y:Wd)(hcy:∀W,Below w.heap.size w W→W.cell? ⟨g,off+4,none⟩=some (.int .i64 (y.k:Int))∧W.cell? ⟨g,off+5,none⟩=some (.string (bs y.s))∧W.cell? ⟨g,off+6,none⟩=some (.int .i64 (outT y.n))∧W.cell? ⟨g,off+7,none⟩=some (.int .i64 (outV y.n)))(n22:2≤n)(k10:((x.k:Int)==10)=false)(k8:((x.k:Int)==8)=false)(k9:((x.k:Int)==9)=false)(k6:((x.k:Int)==6)=true)(hm:MkC y ⟨#[40]⟩ true)(hpa:CallC 201 w #[.slice (some ⟨g,off,none⟩) n c,.int .i64 1] (.int .i64 (-1)))(q:Option (Ex×List Wd))(hq:q=none):
 Calls Tryz.prog 184 #[.slice (some ⟨g,off,none⟩) n c] w (PrP w ts q):=by
 have HCX:=Lib.hid hcx
 obtain⟨hgl,x0,x1,x2,x3⟩:=hcx w (Below.refl _ _)
 have n2:(0:Int)<(n:Int):=by omega
 obtain⟨y0,y1,y2,y3⟩:=hcy w (Below.refl _ _)
 have n1:decide ((n:Int)≤1)=false:=decide_eq_false (by omega)
 have n24:(1:Int)<(n:Int):=by omega
 have n25:1<n:=by omega
 clear hcx hcy
 have HM:=Lib.hid hm
 have HQ:=Lib.hid hq
 clear hm hq
 have HPA:=Lib.hid hpa
 clear hpa
 go_enter Tryz.func184,Tryz.ntmps184
 go_wp2_with (first
  |(go_at_call 89
    refine(HM.out _).mono ?_
    rintro e w1 ⟨rfl,hbw1⟩
    have Aw1:=Lib.hid ((P1.new w x).call hbw1)
    obtain⟨⟨r0,r1,r2,r3,r4,r5,r6⟩,rf,⟨d0,d1,d2,d3⟩,dl,rl⟩:=Aw1.out.facts
    clear HM hbw1)
  |(go_at_call 201
    refine(HPA.out _ Aw1.out.2.2).mono ?_
    rintro e w2 ⟨rfl,hbw2⟩
    have Aw2:=Lib.hid (Aw1.out.call hbw2)
    clear r0 r1 r2 r3 r4 r5 r6 rf d0 d1 d2 d3 dl rl
    obtain⟨⟨r0,r1,r2,r3,r4,r5,r6⟩,rf,⟨d0,d1,d2,d3⟩,dl,rl⟩:=Aw2.out.facts
    clear HPA hbw2))
 exact prim_no Tryz.results184 _ Aw2.out HQ.out rfl rfl rfl
set_option maxRecDepth 100000 in
set_option maxHeartbeats 2000000 in
theorem refPrim_f4 (w:World)(g off n c:Nat)(ts:List Wd)(x:Wd)(hcx:∀W,Below w.heap.size w W→Wc W g off x)(y:Wd)(hcy:∀W,Below w.heap.size w W→W.cell? ⟨g,off+4,none⟩=some (.int .i64 (y.k:Int))∧W.cell? ⟨g,off+5,none⟩=some (.string (bs y.s))∧W.cell? ⟨g,off+6,none⟩=some (.int .i64 (outT y.n))∧W.cell? ⟨g,off+7,none⟩=some (.int .i64 (outV y.n)))(n22:2≤n)(k10:((x.k:Int)==10)=false)(k8:((x.k:Int)==8)=false)(k9:((x.k:Int)==9)=false)(k6:((x.k:Int)==6)=true)(hm:MkC y ⟨#[40]⟩ true)(hpa:CallC 201 w #[.slice (some ⟨g,off,none⟩) n c,.int .i64 1] (.int .i64 2))(q:Option (Ex×List Wd))(hq:q=some (.mk 20 x.s 0 0 false [] [],ts.drop 3))(hl:3≤ts.length):
 Calls Tryz.prog 184 #[.slice (some ⟨g,off,none⟩) n c] w (PrP w ts q):=by
 have HCX:=Lib.hid hcx
 obtain⟨hgl,x0,x1,x2,x3⟩:=hcx w (Below.refl _ _)
 have n2:(0:Int)<(n:Int):=by omega
 obtain⟨y0,y1,y2,y3⟩:=hcy w (Below.refl _ _)
 have n1:decide ((n:Int)≤1)=false:=decide_eq_false (by omega)
 have n24:(1:Int)<(n:Int):=by omega
 have n25:1<n:=by omega
 clear hcx hcy
 have HM:=Lib.hid hm
 have HQ:=Lib.hid hq
 clear hm hq
 have HPA:=Lib.hid hpa
 clear hpa
 go_enter Tryz.func184,Tryz.ntmps184
 go_wp2_with (first
  |(go_at_call 89
    refine(HM.out _).mono ?_
    rintro e w1 ⟨rfl,hbw1⟩
    have Aw1:=Lib.hid ((P1.new w x).call hbw1)
    obtain⟨⟨r0,r1,r2,r3,r4,r5,r6⟩,rf,⟨d0,d1,d2,d3⟩,dl,rl⟩:=Aw1.out.facts
    clear HM hbw1)
  |(go_at_call 201
    refine(HPA.out _ Aw1.out.2.2).mono ?_
    rintro e w2 ⟨rfl,hbw2⟩
    have Aw2:=Lib.hid (Aw1.out.call hbw2)
    clear r0 r1 r2 r3 r4 r5 r6 rf d0 d1 d2 d3 dl rl
    obtain⟨⟨r0,r1,r2,r3,r4,r5,r6⟩,rf,⟨d0,d1,d2,d3⟩,dl,rl⟩:=Aw2.out.facts
    clear HPA hbw2))
 exact prim_okA Tryz.results184 w2 _ (.mk 20 x.s 0 0 false [] []) (.slice none 0 0) (.slice none 0 0) 3 Aw2.out HQ.out (by omega) hl (ExOn.iff.2 ⟨KdOn.nil _ _,SdOn.nil _ _⟩) rfl rfl rfl
set_option maxRecDepth 100000 in
set_option maxHeartbeats 2000000 in
theorem refPrim_f5 (w:World)(g off n c:Nat)(ts:List Wd)(x:Wd)(hcx:∀W,Below w.heap.size w W→Wc W g off x)(y:Wd)(hcy:∀W,Below w.heap.size w W→W.cell? ⟨g,off+4,none⟩=some (.int .i64 (y.k:Int))∧W.cell? ⟨g,off+5,none⟩=some (.string (bs y.s))∧W.cell? ⟨g,off+6,none⟩=some (.int .i64 (outT y.n))∧W.cell? ⟨g,off+7,none⟩=some (.int .i64 (outV y.n)))(n22:2≤n)(t:Nat)(k10:((x.k:Int)==10)=false)(k8:((x.k:Int)==8)=false)(k9:((x.k:Int)==9)=false)(k6:((x.k:Int)==6)=true)(hm:MkC y ⟨#[40]⟩ true)(hpa:CallC 201 w #[.slice (some ⟨g,off,none⟩) n c,.int .i64 1] (.int .i64 (t:Int)))(o9:Option Addr)(hsl:∀wx,(Instr.slice 38 (.slice (some ⟨g,off,none⟩) n c) (some (.int .i64 2)) (some (.int .i64 (t:Int))) none).run Tryz.prog wx= .ok (.slice o9 (t-2) (c-2)) wx)(N:Nat)(O:List Wd→Option Ex)(hO:OrC N O)(ls:List (List Wd))(hln:∀l∈ls,l.length<N∧l.length≤800)(hzb:ls.length≤800)(har:∀W,Below w.heap.size w W→Calls Tryz.prog 202 #[.slice o9 (t-2) (c-2)] W (ArP w W ls))(htn:t<n)(hB:n≤800)(ht2:¬t=2)(R:Option (List Ex))(hr:partsD O ls []=R)(q:Option (Ex×List Wd))(hq:q=R.map fun xs=>(.mk 20 x.s 0 0 false xs [],ts.drop (t+1)))(hl:t+1≤ts.length):
 Calls Tryz.prog 184 #[.slice (some ⟨g,off,none⟩) n c] w (PrP w ts q):=by
 have HCX:=Lib.hid hcx
 obtain⟨hgl,x0,x1,x2,x3⟩:=hcx w (Below.refl _ _)
 have n2:(0:Int)<(n:Int):=by omega
 obtain⟨y0,y1,y2,y3⟩:=hcy w (Below.refl _ _)
 have n1:decide ((n:Int)≤1)=false:=decide_eq_false (by omega)
 have n24:(1:Int)<(n:Int):=by omega
 have n25:1<n:=by omega
 clear hcx hcy
 have HM:=Lib.hid hm
 have HQ:=Lib.hid hq
 clear hm hq
 have HPA:=Lib.hid hpa
 clear hpa
 have HAR:=Lib.hid har
 have HO:=Lib.hid hO
 have HLN:=Lib.hid hln
 have HZB:=Lib.hid hzb
 have HR:=Lib.hid (show partsD O (ls.drop 0) []=R from hr)
 have t0:decide ((t:Int)<0)=false:=decide_eq_false (by omega)
 have t1:((t:Int)==2)=false:=by rw[beq_eq_false_iff_ne];omega
 clear har hO hln hr hzb ht2
 go_enter Tryz.func184,Tryz.ntmps184
 go_wp2_with (first
  |(go_at_call 89
    refine(HM.out _).mono ?_
    rintro e w1 ⟨rfl,hbw1⟩
    have Aw1:=Lib.hid ((P1.new w x).call hbw1)
    obtain⟨⟨r0,r1,r2,r3,r4,r5,r6⟩,rf,⟨d0,d1,d2,d3⟩,dl,rl⟩:=Aw1.out.facts
    clear HM hbw1)
  |(go_at_call 201
    refine(HPA.out _ Aw1.out.2.2).mono ?_
    rintro e w2 ⟨rfl,hbw2⟩
    have Aw2:=Lib.hid (Aw1.out.call hbw2)
    clear r0 r1 r2 r3 r4 r5 r6 rf d0 d1 d2 d3 dl rl
    obtain⟨⟨r0,r1,r2,r3,r4,r5,r6⟩,rf,⟨d0,d1,d2,d3⟩,dl,rl⟩:=Aw2.out.facts
    clear HPA hbw2)
  |(go_at_call 202
    refine(HAR.out _ (Aw2.out.alloc (boxEx (.mk 20 x.s 0 0 false [] []) (.slice none 0 0) (.slice none 0 0))).2.2).mono ?_
    rintro e w5 ⟨hb5,zs,oz,jz,hls,hrow,hzs,rfl⟩
    have A5:=Lib.hid ((Aw2.out.alloc (boxEx (.mk 20 x.s 0 0 false [] []) (.slice none 0 0) (.slice none 0 0))).call hb5)
    have HE5:=Lib.hid ((hb5.block w2.heap.size (by simp)).trans (World.alloc_heap_new w2 (boxEx (.mk 20 x.s 0 0 false [] []) (.slice none 0 0) (.slice none 0 0))))
    have HL5:=Lib.hid (show w2.heap.size<w5.heap.size by have :=hb5.size;simp at this;omega)
    have HLS:=Lib.hid hls
    have HRL:=Lib.hid hrow
    have HZS:=Lib.hid hzs
    clear r0 r1 r2 r3 r4 r5 r6 rf d0 d1 d2 d3 dl rl
    clear HAR hb5 hls hrow hzs))
 go_loopw [11] (fun v wr=>∃(k:Nat) (xs:List (Ex×Value×Value)) (o4:Option Addr) (j4:Nat),v= .int .i64 (k:Int)∧k≤zs.length∧xs.length≤k∧Hid (LpB w w5 wr w2.heap.size∧wr.heap[w2.heap.size]? =some (boxEx (.mk 20 x.s 0 0 false [] []) (.slice o4 xs.length j4) (.slice none 0 0))∧RowEx w5.heap.size wr (.slice o4 xs.length j4) xs∧partsD O (ls.drop k) (xs.map (·.1))=R)) (fun v _=>zs.length-(RowKit.intOf v).toNat)
 case atStart=>exact⟨0,[],none,0,rfl,by omega,by simp,Lib.hid ⟨⟨A5.out.2.2,Nat.le_refl _,fun _ _ _=>rfl⟩,HE5.out,RowEx.nil _ _,HR.out⟩⟩
 case round=>
  obtain⟨k,xs,o4,j4,rfl,hk,hx,HI⟩:=hrel
  obtain⟨hlp,hbe,hre,hg⟩:=HI.out
  have hw2:=Aw2.out.lt
  have hl5:=HL5.out
  have AR:=Lib.hid (hlp.p1 A5.out hw2)
  obtain⟨⟨r0,r1,r2,r3,r4,r5,r6⟩,rf,⟨d0,d1,d2,d3⟩,dl,rl⟩:=AR.out.facts
  obtain⟨⟨e0,e1,e2,e3,e4,e5,e6⟩,ef⟩:=boxEx_blk hbe
  have el:w2.heap.size<wr.heap.size:=Nat.lt_of_lt_of_le hl5 hlp.2.1
  have HLP:=Lib.hid hlp
  have HBE:=Lib.hid hbe
  have HRE:=Lib.hid hre
  have hB5:w.heap.size≤w5.heap.size:=A5.out.2.2.size
  have HB5:=Lib.hid hB5
  have hzl:zs.length=ls.length:=by rw[←HLS.out,List.length_map]
  by_cases hlt:k<zs.length
  ·obtain⟨gz,cz,ez,gB,gl,gc⟩:=HRL.out.at k hlt
   cases ez
   have hgne:gz≠w2.heap.size:=by simp at gB;omega
   have gc2:=(show wr.cell? ⟨gz,k,none⟩=w5.cell? ⟨gz,k,none⟩ from World.cell?_of_block (w:=w5) (hlp.2.2 gz gl hgne)).trans gc
   have gl2:gz<wr.heap.size:=Nat.lt_of_lt_of_le gl hlp.2.1
   have hdr:ls.drop k=zs[k].1::ls.drop (k+1):=by
    rw[List.drop_eq_getElem_cons (by omega)]
    congr 1
    have h0:ls[k]? =some zs[k].1:=by rw[←HLS.out,List.getElem?_map,List.getElem?_eq_getElem hlt];rfl
    rw[List.getElem?_eq_getElem (by omega)]at h0
    exact Option.some.inj h0
   rw[hdr]at hg
   have hwz:=HZS.out _ (List.getElem_mem hlt)
   have hln:=HLN.out zs[k].1 (by rw[←HLS.out];exact List.mem_map_of_mem (List.getElem_mem hlt))
   obtain⟨⟨lz,oz,cz⟩,hz⟩:∃z,zs[k]=z:=⟨_,rfl⟩
   rw[hz]at gc2 hg hwz hln
   dsimp only at gc2 hg hwz hln
   have HOX:=Lib.hid fun W (hW:Below w.heap.size w W)=>HO.out lz oz cz W (hwz.below hW) hln.1 hln.2
   have l0:decide ((k:Int)<(zs.length:Int))=true:=decide_eq_true (by omega)
   have l1:(k:Int)<(zs.length:Int):=by omega
   have hzb:=HZB.out
   rw[←hzl]at hzb
   clear hz hwz hln hdr gc gl hgne gB HI HR hlp hbe hre hB5 hzl
   cases ho:O lz with
   |none=>
    rw[partsD_none ho]at hg
    have HGE:=Lib.hid hg
    clear hg
    go_wp2_with (first
     |(go_at_call 29
       refine(HOX.out _ HLP.out.1).mono ?_
       intro e w6 h
       obtain⟨z,vk,vs,rfl,hb,ho3⟩:=OrP.no (by have h2:=h;rw[ho]at h2;exact h2)
       unfold exV
       obtain⟨⟨o1,j1,rfl,_⟩,⟨o2,j2,rfl,_⟩⟩:=ExOn.iff.1 ho3
       have A6:=Lib.hid (AR.out.call hb)
       clear r0 r1 r2 r3 r4 r5 r6 rf d0 d1 d2 d3 dl rl
       obtain⟨⟨r0,r1,r2,r3,r4,r5,r6⟩,rf,⟨d0,d1,d2,d3⟩,dl,rl⟩:=A6.out.facts
       clear HOX h hb ho3))
    exact prim_noA Tryz.results184 w6 _ A6.out (by rw[HQ.out,←HGE.out];rfl) rfl rfl rfl
   |some y=>
    rw[partsD_some ho]at hg
    have HGE:=Lib.hid hg
    go_wp2_with (first
     |(go_at_call 29
       refine(HOX.out _ HLP.out.1).mono ?_
       intro e w6 h
       obtain⟨vk,vs,rfl,hb,ho3⟩:=OrP.yes (by have h2:=h;rw[ho]at h2;exact h2)
       unfold exV
       obtain⟨⟨o1,j1,rfl,_⟩,⟨o2,j2,rfl,_⟩⟩:=ExOn.iff.1 ho3
       have hbb:=hb.trans ((below_box (w:=w6) (boxEx y (.slice o1 y.ks.length j1) (.slice o2 y.ss.length j2))).mono hb.size)
       have L6:=Lib.hid (HLP.out.up (hbb.mono HLP.out.2.1) HB5.out)
       have E6:=Lib.hid ((hbb.block w2.heap.size el).trans HBE.out)
       have R6:=Lib.hid (HRE.out.below hbb)
       have Y6:=Lib.hid (row_apart (W0:=wr) (W1:=w6.alloc (boxEx y (.slice o1 y.ks.length j1) (.slice o2 y.ss.length j2))) HRE.out (Nat.le_refl _) HLP.out.2.1 (ExOn.move (fun b hb hF=>⟨hF,(below_box (w:=w6) (boxEx y (.slice o1 y.ks.length j1) (.slice o2 y.ss.length j2))).block b hb⟩) _ _ _ ho3))
       have hk1:=(hb.block w2.heap.size el).trans HBE.out
       clear e0 e1 e2 e3 e4 e5 e6 ef
       obtain⟨⟨e0,e1,e2,e3,e4,e5,e6⟩,ef⟩:=boxEx_blk hk1
       have el6:w2.heap.size<w6.heap.size:=Nat.lt_of_lt_of_le el hb.size
       clear hk1 hbb
       have A6:=Lib.hid (AR.out.call hb)
       clear r0 r1 r2 r3 r4 r5 r6 rf d0 d1 d2 d3 dl rl
       obtain⟨⟨r0,r1,r2,r3,r4,r5,r6⟩,rf,⟨d0,d1,d2,d3⟩,dl,rl⟩:=A6.out.facts
       clear HOX h hb ho3)
     |(at_builtin
       refine wpList_pushEx (W:=w6.alloc (boxEx y (.slice o1 y.ks.length j1) (.slice o2 y.ss.length j2))) rfl (.tmp 100) (.tmp 102) rfl y (.slice o1 y.ks.length j1) (.slice o2 y.ss.length j2) R6.out Y6.out rfl (by simp[Act.eval]) L6.out.2.1 (by omega) ?_
       intro v' w7 hr hb
       obtain⟨o7,j7,hv⟩:=hr.form
       have hv2:v'= .slice o7 (xs.length+1) j7:=by rw[hv];simp
       subst hv2
       clear hv
       have R7:=Lib.hid hr
       have L7:=Lib.hid (L6.out.up hb HB5.out)
       have hk7:=(hb.block w2.heap.size hl5).trans E6.out
       have E7:=Lib.hid hk7
       clear e0 e1 e2 e3 e4 e5 e6 ef
       obtain⟨⟨e0,e1,e2,e3,e4,e5,e6⟩,ef⟩:=boxEx_blk hk7
       have el7:w2.heap.size<w7.heap.size:=Nat.lt_of_lt_of_le hl5 L7.out.2.1
       clear hr hb hk7))
    go_roundw
    case rel=>exact⟨k+1,xs++[(y,_,_)],o7,j7,by go_num,by omega,by simp;omega,Lib.hid ⟨L7.out.set (by omega),by rw[show(xs++[(y,Value.slice o1 y.ks.length j1,Value.slice o2 y.ss.length j2)]).length=xs.length+1 by simp];exact kids_set E7.out,by
     have h:=R7.out
     rw[show(xs++[(y,Value.slice o1 y.ks.length j1,Value.slice o2 y.ss.length j2)]).length=xs.length+1 by simp]at *
     exact h.keep fun b hb _=>heap_set_ne (a:=⟨w2.heap.size,5,none⟩) (show b≠w2.heap.size by omega),by rw[List.map_append];exact HGE.out⟩⟩
    case measure=>simp[RowKit.intOf];omega
  ·have e:k=zs.length:=by omega
   subst e
   rw[List.drop_eq_nil_of_le (by omega)]at hg
   have l0:decide ((zs.length:Int)<(zs.length:Int))=false:=decide_eq_false (by omega)
   have HGE:=Lib.hid (show some (xs.map (·.1))=R by rw[←hg,partsD])
   clear hg HI HR hlp hbe hre hB5 hzl
   go_wp2_with fail
   exact prim_ok Tryz.results184 wr (.mk 20 x.s 0 0 false (xs.map (·.1)) []) (.slice o4 xs.length j4) (.slice none 0 0) (t+1) AR.out (by rw[HQ.out,←HGE.out];rfl) (by omega) hl (ExOn.iff.2 ⟨HRE.out.on.low (by omega),SdOn.nil _ _⟩) rfl (by first|rfl|go_num) rfl
end Char
namespace Char
open Go.RowKit Go.Lib
open Go.Proofs.YtlmpkpjjakallaaGreatDoor.Fig (outT outV)
def PrC (N:Nat)(O:List Wd→Option Ex):Prop:=∀(l:List Wd) (o:Option Addr) (c:Nat) (W:World),WSl W o c l→l≠[]→l.length≤N→Calls Tryz.prog 184 #[.slice o l.length c] W (PrP W l (primD O l))
theorem mkW_opn40 {x:Wd}(h:mkW [40] x=true):opnW x=true∧x.s=[40]:=⟨by unfold opnW;rw[h];simp,(mkW_iff.1 h).2⟩
theorem par_at40 {ts:List Wd}{k:Nat}(hk:k<ts.length)(h:mkW [40] ts[k]=true):parI k (partR [] (ts.drop k))=parI (k+1) (partR [[40]] (ts.drop (k+1))):=by
 rw[List.drop_eq_getElem_cons hk,parI_opn k (mkW_opn40 h).1,(mkW_opn40 h).2]
theorem cutA_len:∀(ts:List Wd) (n:Int) (cur l:List Wd),l∈cutA n cur ts→l.length≤cur.length+ts.length
 |[],n,cur,l,h=>by
  rw[cutA_nil,List.mem_singleton]at h
  subst h
  omega
 |x::r,n,cur,l,h=>by
  rw[cutA]at h
  rw[List.length_cons]
  split at h
  ·rw[List.mem_cons]at h
   rcases h with rfl|h
   ·omega
   ·have :=cutA_len r _ [] l h
    rw[List.length_nil]at this
    omega
  ·have :=cutA_len r _ _ l h
   rw[List.length_append,List.length_singleton]at this
   omega
theorem cutA_num:∀(ts:List Wd) (n:Int) (cur:List Wd),(cutA n cur ts).length≤ts.length+1
 |[],n,cur=>by rw[cutA_nil];simp
 |x::r,n,cur=>by
  rw[cutA,List.length_cons]
  split
  ·have :=cutA_num r (dpt n x) []
   rw[List.length_cons]
   omega
  ·have :=cutA_num r (dpt n x) (cur++[x])
   omega
theorem refPrim_any {N:Nat}{O:List Wd→Option Ex}(hO:OrC N O)(hN:N≤400):PrC N O:=by
 intro l o c w h hne hn
 cases l with
 |nil=>exact absurd rfl hne
 |cons x r=>
  obtain⟨g,off,rfl,_⟩:=h.word 0 (by simp)
  have hn0:0<(x::r).length:=by simp
  have hB:(x::r).length≤800:=by omega
  by_cases h10:x.k=10
  ·exact refPrim_var w g off _ c (x::r) x (wc_of h) hn0 h10 _ (by unfold primD;dsimp only;rw[if_pos h10];rfl) hn0
  have k10:((x.k:Int)==10)=false:=by rw[beq_eq_false_iff_ne];omega
  by_cases h8:x.k=8
  ·exact refPrim_lit w g off _ c (x::r) x (wc_of h) hn0 h8 _ (by unfold primD;dsimp only;rw[if_neg h10,if_pos h8];rfl) hn0
  have k8:((x.k:Int)==8)=false:=by rw[beq_eq_false_iff_ne];omega
  by_cases h9:x.k=9
  ·exact refPrim_num w g off _ c (x::r) x (wc_of h) hn0 h9 _ (by unfold primD;dsimp only;rw[if_neg h10,if_neg h8,if_pos h9];rfl) hn0
  have k9:((x.k:Int)==9)=false:=by rw[beq_eq_false_iff_ne];omega
  by_cases h6:x.k=6
  ·have k6:((x.k:Int)==6)=true:=by rw[h6];rfl
   have hp:primD O (x::r)=match argsD O r with
    |none=>none
    |some (xs,t)=>some (.mk 20 x.s 0 0 false xs [],t):=by unfold primD;dsimp only;rw[if_neg h10,if_neg h8,if_neg h9,if_pos h6];rfl
   rw[hp]
   cases r with
   |nil=>exact refPrim_f1 w g off _ c [x] x (wc_of h) k10 k8 k9 k6 rfl _ rfl
   |cons y r=>
    have hcy:∀W,Below w.heap.size w W→W.cell? ⟨g,off+4,none⟩=some (.int .i64 (y.k:Int))∧W.cell? ⟨g,off+5,none⟩=some (.string (bs y.s))∧W.cell? ⟨g,off+6,none⟩=some (.int .i64 (outT y.n))∧W.cell? ⟨g,off+7,none⟩=some (.int .i64 (outV y.n)):=fun W hW=>by
     obtain⟨g',off',e,_,y0,y1,y2,y3⟩:=(h.below hW).word 1 (by simp)
     cases e
     simp only[Nat.one_mul,List.getElem_cons_succ,List.getElem_cons_zero,Nat.add_assoc,Nat.reduceAdd]at y0 y1 y2 y3
     exact⟨y0,y1,y2,y3⟩
    have n22:2≤(x::y::r).length:=by simp
    cases hm:mkW [40] y with
    |false=>exact refPrim_f2 w g off _ c (x::y::r) x (wc_of h) y hcy n22 k10 k8 k9 k6 (mkC_of hm) _ (by unfold argsD;rw[if_neg (show ¬aheadL 1 [40] (y::r)=true by rw[ahead_mk,hm];simp)])
    |true=>
     have ha:argsD O (y::r)=match partR [[40]] r with
      |none=>none
      |some (u,t)=>if u=[] then some ([],t) else match partsD O (cutA 0 [] u) [] with
       |none=>none
       |some xs=>some (xs,t):=by unfold argsD;rw[if_pos (show aheadL 1 [40] (y::r)=true from hm)];rfl
     have hpa:=par_at40 (ts:=x::y::r) (k:=1) (by simp) hm
     have HPA:=fun W (hW:Below w.heap.size w W)=>partner_any (x::y::r) _ c 1 W (h.below hW) (by simp) hB (mkW_opn40 hm).1
     rw[hpa]at HPA
     have hd:(x::y::r).drop (1+1)=r:=rfl
     rw[hd]at HPA
     cases hq:partR [[40]] r with
     |none=>
      rw[hq]at HPA ha
      exact refPrim_f3 w g off _ c (x::y::r) x (wc_of h) y hcy n22 k10 k8 k9 k6 (mkC_of hm) HPA _ (by rw[ha])
     |some q=>
      obtain⟨u,t'⟩:=q
      rw[hq]at HPA ha
      dsimp only at ha
      obtain⟨cl,hsp⟩:=par_split hq
      have hle:u.length+1+t'.length=r.length:=by
       have :=congrArg List.length hsp
       rw[List.length_append,List.length_cons]at this
       omega
      by_cases hu:u=[]
      ·subst hu
       rw[if_pos rfl]at ha
       have ht:t'=(x::y::r).drop 3:=by rw[hsp];rfl
       exact refPrim_f4 w g off _ c (x::y::r) x (wc_of h) y hcy n22 k10 k8 k9 k6 (mkC_of hm) HPA _ (by rw[ha];dsimp only;rw[←ht]) (by simp only[List.length_cons];simp at hle;omega)
      ·rw[if_neg hu]at ha
       have hu0:u.length≠0:=fun e=>hu (List.length_eq_zero_iff.1 e)
       have ht:t'=(x::y::r).drop (1+1+u.length+1):=by
        rw[hsp,show 1+1+u.length+1=(x::y::(u++[cl])).length by simp;omega,show x::y::(u++cl::t')=(x::y::(u++[cl]))++t' by simp,List.drop_left]
       obtain⟨o9,hsl,hw9⟩:=h.mid 2 (1+1+u.length) (by omega) (by simp only[List.length_cons];omega)
       have hw:((x::y::r).take (1+1+u.length)).drop 2=u:=by
        rw[hsp,show 1+1+u.length=(x::y::u).length by simp;omega,show x::y::(u++cl::t')=(x::y::u)++(cl::t') by simp,List.take_left]
        rfl
       rw[hw]at hw9
       have har:∀W,Below w.heap.size w W→Calls Tryz.prog 202 #[.slice o9 (1+1+u.length-2) (c-2)] W (ArP w W (cutA 0 [] u)):=fun W hW=>by
        have :=refArgs_any u o9 (c-2) w W hw9 hW (by simp only[List.length_cons]at hB;omega)
        rwa [show u.length=1+1+u.length-2 by omega]at this
       refine refPrim_f5 w g off _ c (x::y::r) x (wc_of h) y hcy n22 (1+1+u.length) k10 k8 k9 k6 (mkC_of hm) HPA o9 hsl N O hO (cutA 0 [] u) (fun l hl=> ?_) ?_ har (by simp only[List.length_cons];omega) hB (by omega) _ rfl _ ?_ (by simp only[List.length_cons];omega)
       ·have :=cutA_len u 0 [] l hl
        simp only[List.length_cons,List.length_nil]at this hn hB
        omega
       ·have :=cutA_num u 0 []
        simp only[List.length_cons]at hB
        omega
       ·rw[ha,←ht]
        cases partsD O (cutA 0 [] u) []<;>rfl
  ·have k6:((x.k:Int)==6)=false:=by rw[beq_eq_false_iff_ne];omega
   cases hm:mkW [40] x with
   |false=>exact refPrim_non w g off _ c (x::r) x (wc_of h) hn0 k10 k8 k9 k6 (mkC_of hm) _ (by unfold primD;dsimp only;rw[if_neg h10,if_neg h8,if_neg h9,if_neg h6,if_neg (by rw[hm];simp)])
   |true=>
    have hp:primD O (x::r)=match partR [[40]] r with
     |none=>none
     |some (u,t)=>match O u with
      |none=>none
      |some e=>some (e,t):=by unfold primD;dsimp only;rw[if_neg h10,if_neg h8,if_neg h9,if_neg h6,if_pos hm];rfl
    rw[hp]
    have hpa:=par_at40 (ts:=x::r) (k:=0) (by simp) hm
    have HPA:=fun W (hW:Below w.heap.size w W)=>partner_any (x::r) _ c 0 W (h.below hW) (by simp) hB (mkW_opn40 hm).1
    rw[hpa]at HPA
    have hd:(x::r).drop (0+1)=r:=rfl
    rw[hd]at HPA
    cases hq:partR [[40]] r with
    |none=>
     rw[hq]at HPA
     exact refPrim_br_pn w g off _ c (x::r) x (wc_of h) hn0 k10 k8 k9 k6 (mkC_of hm) HPA _ rfl
    |some q=>
     obtain⟨u,t'⟩:=q
     rw[hq]at HPA
     obtain⟨cl,hsp⟩:=par_split hq
     have hle:u.length+1+t'.length=r.length:=by
      have :=congrArg List.length hsp
      rw[List.length_append,List.length_cons]at this
      omega
     have ht:t'=(x::r).drop (0+1+u.length+1):=by
      rw[hsp,show 0+1+u.length+1=(x::(u++[cl])).length by simp;omega,show x::(u++cl::t')=(x::(u++[cl]))++t' by simp,List.drop_left]
     obtain⟨o9,hsl,hw9⟩:=h.mid 1 (0+1+u.length) (by omega) (by simp only[List.length_cons];omega)
     have hw:((x::r).take (0+1+u.length)).drop 1=u:=by
      rw[hsp,show 0+1+u.length=(x::u).length by simp;omega,show x::(u++cl::t')=(x::u)++(cl::t') by simp,List.take_left]
      rfl
     rw[hw]at hw9
     have HO:∀W,Below w.heap.size w W→Calls Tryz.prog 29 #[.slice o9 (0+1+u.length-1) (c-1),.int .i64 0] W (OrP W (O u)):=fun W hW=>by
      have :=hO u o9 (c-1) W (hw9.below hW) (by simp only[List.length_cons]at hn;omega) (by simp only[List.length_cons]at hB;omega)
      rwa [show u.length=0+1+u.length-1 by omega]at this
     cases ho:O u with
     |none=>
      rw[ho]at HO
      exact refPrim_br_on w g off _ c (x::r) x (wc_of h) hn0 (0+1+u.length) k10 k8 k9 k6 (mkC_of hm) HPA o9 hsl HO _ (by dsimp only;rw[ho])
     |some y=>
      rw[ho]at HO
      exact refPrim_br_ok w g off _ c (x::r) x (wc_of h) hn0 hB (0+1+u.length) k10 k8 k9 k6 (mkC_of hm) HPA o9 hsl y HO (by simp only[List.length_cons];omega) _ (by dsimp only;rw[ho,←ht]) (by simp only[List.length_cons];omega)
end Char
end Go.Proofs.YtlmpkpjjakallaaGreatDoor
