import Derived.Test.YtlmpkpjjakallaaGreatDoorPk24
namespace Go.Proofs.YtlmpkpjjakallaaGreatDoor
namespace Char
open Go.RowKit Go.Lib
open Go.Proofs.YtlmpkpjjakallaaGreatDoor.Fig (outT outV)
set_option maxRecDepth 100000 in
set_option maxHeartbeats 2000000 in
theorem refUnion_none (w:World)(o:Option Addr)(n c:Nat)(v:Int)(hla:Calls Tryz.prog 62 #[.slice o n c,.slice (some ⟨w.heap.size+1,0,none⟩) 1 1] ((w.alloc (boxEx ex0 (.slice none 0 0) (.slice none 0 0))).alloc (.cells #[.string ⟨#[124]⟩] 9)) fun e w'=>e= .returned (.int .i64 v)∧Below ((w.alloc (boxEx ex0 (.slice none 0 0) (.slice none 0 0))).alloc (.cells #[.string ⟨#[124]⟩] 9)).heap.size ((w.alloc (boxEx ex0 (.slice none 0 0) (.slice none 0 0))).alloc (.cells #[.string ⟨#[124]⟩] 9)) w')(hv:v<0)(r:Option Ex)(hpa:∀W,Below w.heap.size w W→Calls Tryz.prog 157 #[.slice o n c] W (OrP W r)):
 Calls Tryz.prog 116 #[.slice o n c] w (OrP w r):=by
 have HLA:=Lib.hid hla
 clear hla
 have HP:=Lib.hid hpa
 have v0:decide (v<0)=true:=decide_eq_true hv
 clear hpa hv
 go_enter Tryz.func116,Tryz.ntmps116
 go_wp2_with (first
  |(go_at_call 62
    refine HLA.out.mono ?_
    rintro e w1 ⟨rfl,hb⟩
    have A1:=Lib.hid (((RB.new w).call (below_box _)).call hb)
    obtain⟨⟨r0,r1,r2,r3,r4,r5,r6⟩,rf,rl⟩:=A1.out.facts
    clear HLA hb)
  |(go_at_call 157
    refine(HP.out _ A1.out.2).mono ?_
    intro e w2 h
    obtain⟨y,o1,o2,j1,j2,b,rfl,ho,hr2,hb⟩:=OrP.any h
    have A2:=Lib.hid (A1.out.call hb)
    have HY:=Lib.hid (ho.low (Nat.succ_le_of_lt A1.out.lt))
    have HR2:=Lib.hid hr2
    unfold exV
    clear r0 r1 r2 r3 r4 r5 r6 rf rl
    obtain⟨⟨r0,r1,r2,r3,r4,r5,r6⟩,rf,rl⟩:=A2.out.facts
    clear HP h hb ho hr2))
 exact one_endG Tryz.results116 w2 y _ _ b A2.out HY.out HR2.out rfl rfl rfl
set_option maxRecDepth 100000 in
set_option maxHeartbeats 2000000 in
theorem refUnion_n1 (w:World)(o:Option Addr)(n c:Nat)(v:Int)(hla:Calls Tryz.prog 62 #[.slice o n c,.slice (some ⟨w.heap.size+1,0,none⟩) 1 1] ((w.alloc (boxEx ex0 (.slice none 0 0) (.slice none 0 0))).alloc (.cells #[.string ⟨#[124]⟩] 9)) fun e w'=>e= .returned (.int .i64 v)∧Below ((w.alloc (boxEx ex0 (.slice none 0 0) (.slice none 0 0))).alloc (.cells #[.string ⟨#[124]⟩] 9)).heap.size ((w.alloc (boxEx ex0 (.slice none 0 0) (.slice none 0 0))).alloc (.cells #[.string ⟨#[124]⟩] 9)) w')(k:Nat)(hv:v=(k:Int))(hk:k<n)(hB:n≤400)(o8 o9:Option Addr)(hs1:∀wx,(Instr.slice 38 (.slice o n c) none (some (.int .i64 (k:Int))) none).run Tryz.prog wx= .ok (.slice o8 k c) wx)(hs2:∀wx,(Instr.slice 38 (.slice o n c) (some (.int .i64 ((k:Int)+1))) none none).run Tryz.prog wx= .ok (.slice o9 (n-(k+1)) (c-(k+1))) wx)(r1 r2:Option Ex)(hun:∀W,Below w.heap.size w W→Calls Tryz.prog 116 #[.slice o8 k c] W (OrP W r1))(hpa:∀W,Below w.heap.size w W→Calls Tryz.prog 157 #[.slice o9 (n-(k+1)) (c-(k+1))] W (OrP W r2))(h1:r1=none)(r:Option Ex)(hr:r=none):
 Calls Tryz.prog 116 #[.slice o n c] w (OrP w r):=by
 have HLA:=Lib.hid hla
 clear hla
 subst h1
 have HR:=Lib.hid hr
 clear hr
 have HU:=Lib.hid hun
 have HP:=Lib.hid hpa
 subst hv
 have v0:decide ((k:Int)<0)=false:=decide_eq_false (by omega)
 clear hun hpa
 go_enter Tryz.func116,Tryz.ntmps116
 go_wp2_with (first
  |(go_at_call 62
    refine HLA.out.mono ?_
    rintro e w1 ⟨rfl,hb⟩
    have A1:=Lib.hid (((RB.new w).call (below_box _)).call hb)
    obtain⟨⟨r0,r1,r2,r3,r4,r5,r6⟩,rf,rl⟩:=A1.out.facts
    clear HLA hb)
  |(go_at_call 116
    refine(HU.out _ A1.out.2).mono ?_
    intro e w2 h
    obtain⟨y,o1,o2,j1,j2,rfl,ho,hb⟩:∃(y:Ex) (o1 o2:Option Addr) (j1 j2:Nat),e= .returned (.tuple #[exV y (.slice o1 y.ks.length j1) (.slice o2 y.ss.length j2),.bool false])∧ExOn w2 (w1.heap.size≤ ·) y (.slice o1 y.ks.length j1) (.slice o2 y.ss.length j2)∧Below w1.heap.size w1 w2:=OrP.noX h
    unfold exV
    have hr1:=A1.out.call hb
    have A2:=Lib.hid (Q1.new hr1.1 hr1.2 (ho.low (Nat.succ_le_of_lt A1.out.lt)))
    clear r0 r1 r2 r3 r4 r5 r6 rf rl
    obtain⟨⟨r0,r1,r2,r3,r4,r5,r6⟩,rf,rl⟩:=hr1.facts
    clear HU h ho hb hr1)
  |(go_at_call 157
    refine(HP.out _ A2.out.bel).mono ?_
    intro e w3 h
    obtain⟨z,o3,o4,j3,j4,b,rfl,ho,hr2,hb⟩:=OrP.any h
    clear hr2
    unfold exV
    have A3:=Lib.hid (A2.out.call hb)
    have HZ:=Lib.hid (ho.low (by have :=A2.out.lt;have :=A2.out.sz;omega:w.heap.size+1≤_))
    clear r0 r1 r2 r3 r4 r5 r6 rf rl
    obtain⟨⟨r0,r1,r2,r3,r4,r5,r6⟩,rf,⟨d0,d1,d2,d3,d4,d5,d6⟩,df,dl,rl,be⟩:=A3.out.facts
    clear HP h ho hb))
 exact two_endG Tryz.results116 w3 14 false A3.out HZ.out HR.out rfl rfl rfl
set_option maxRecDepth 100000 in
set_option maxHeartbeats 2000000 in
theorem refUnion_n2 (w:World)(o:Option Addr)(n c:Nat)(v:Int)(hla:Calls Tryz.prog 62 #[.slice o n c,.slice (some ⟨w.heap.size+1,0,none⟩) 1 1] ((w.alloc (boxEx ex0 (.slice none 0 0) (.slice none 0 0))).alloc (.cells #[.string ⟨#[124]⟩] 9)) fun e w'=>e= .returned (.int .i64 v)∧Below ((w.alloc (boxEx ex0 (.slice none 0 0) (.slice none 0 0))).alloc (.cells #[.string ⟨#[124]⟩] 9)).heap.size ((w.alloc (boxEx ex0 (.slice none 0 0) (.slice none 0 0))).alloc (.cells #[.string ⟨#[124]⟩] 9)) w')(k:Nat)(hv:v=(k:Int))(hk:k<n)(hB:n≤400)(o8 o9:Option Addr)(hs1:∀wx,(Instr.slice 38 (.slice o n c) none (some (.int .i64 (k:Int))) none).run Tryz.prog wx= .ok (.slice o8 k c) wx)(hs2:∀wx,(Instr.slice 38 (.slice o n c) (some (.int .i64 ((k:Int)+1))) none none).run Tryz.prog wx= .ok (.slice o9 (n-(k+1)) (c-(k+1))) wx)(r1 r2:Option Ex)(hun:∀W,Below w.heap.size w W→Calls Tryz.prog 116 #[.slice o8 k c] W (OrP W r1))(hpa:∀W,Below w.heap.size w W→Calls Tryz.prog 157 #[.slice o9 (n-(k+1)) (c-(k+1))] W (OrP W r2))(y:Ex)(h1:r1=some y)(h2:r2=none)(r:Option Ex)(hr:r=none):
 Calls Tryz.prog 116 #[.slice o n c] w (OrP w r):=by
 have HLA:=Lib.hid hla
 clear hla
 subst h1 h2
 have HR:=Lib.hid hr
 clear hr
 have HU:=Lib.hid hun
 have HP:=Lib.hid hpa
 subst hv
 have v0:decide ((k:Int)<0)=false:=decide_eq_false (by omega)
 clear hun hpa
 go_enter Tryz.func116,Tryz.ntmps116
 go_wp2_with (first
  |(go_at_call 62
    refine HLA.out.mono ?_
    rintro e w1 ⟨rfl,hb⟩
    have A1:=Lib.hid (((RB.new w).call (below_box _)).call hb)
    obtain⟨⟨r0,r1,r2,r3,r4,r5,r6⟩,rf,rl⟩:=A1.out.facts
    clear HLA hb)
  |(go_at_call 116
    refine(HU.out _ A1.out.2).mono ?_
    intro e w2 h
    obtain⟨o1,o2,j1,j2,rfl,ho,hb⟩:=OrP.yesX h
    unfold exV
    have hr1:=A1.out.call hb
    have A2:=Lib.hid (Q1.new hr1.1 hr1.2 (ho.low (Nat.succ_le_of_lt A1.out.lt)))
    clear r0 r1 r2 r3 r4 r5 r6 rf rl
    obtain⟨⟨r0,r1,r2,r3,r4,r5,r6⟩,rf,rl⟩:=hr1.facts
    clear HU h ho hb hr1)
  |(go_at_call 157
    refine(HP.out _ A2.out.bel).mono ?_
    intro e w3 h
    obtain⟨z,o3,o4,j3,j4,rfl,ho,hb⟩:=OrP.noX h
    unfold exV
    have A3:=Lib.hid (A2.out.call hb)
    have HZ:=Lib.hid (ho.low (by have :=A2.out.lt;have :=A2.out.sz;omega:w.heap.size+1≤_))
    clear r0 r1 r2 r3 r4 r5 r6 rf rl
    obtain⟨⟨r0,r1,r2,r3,r4,r5,r6⟩,rf,⟨d0,d1,d2,d3,d4,d5,d6⟩,df,dl,rl,be⟩:=A3.out.facts
    clear HP h ho hb))
 exact two_endG Tryz.results116 w3 14 false A3.out HZ.out HR.out rfl rfl rfl
set_option maxRecDepth 100000 in
set_option maxHeartbeats 2000000 in
theorem refUnion_ok (w:World)(o:Option Addr)(n c:Nat)(v:Int)(hla:Calls Tryz.prog 62 #[.slice o n c,.slice (some ⟨w.heap.size+1,0,none⟩) 1 1] ((w.alloc (boxEx ex0 (.slice none 0 0) (.slice none 0 0))).alloc (.cells #[.string ⟨#[124]⟩] 9)) fun e w'=>e= .returned (.int .i64 v)∧Below ((w.alloc (boxEx ex0 (.slice none 0 0) (.slice none 0 0))).alloc (.cells #[.string ⟨#[124]⟩] 9)).heap.size ((w.alloc (boxEx ex0 (.slice none 0 0) (.slice none 0 0))).alloc (.cells #[.string ⟨#[124]⟩] 9)) w')(k:Nat)(hv:v=(k:Int))(hk:k<n)(hB:n≤400)(o8 o9:Option Addr)(hs1:∀wx,(Instr.slice 38 (.slice o n c) none (some (.int .i64 (k:Int))) none).run Tryz.prog wx= .ok (.slice o8 k c) wx)(hs2:∀wx,(Instr.slice 38 (.slice o n c) (some (.int .i64 ((k:Int)+1))) none none).run Tryz.prog wx= .ok (.slice o9 (n-(k+1)) (c-(k+1))) wx)(r1 r2:Option Ex)(hun:∀W,Below w.heap.size w W→Calls Tryz.prog 116 #[.slice o8 k c] W (OrP W r1))(hpa:∀W,Below w.heap.size w W→Calls Tryz.prog 157 #[.slice o9 (n-(k+1)) (c-(k+1))] W (OrP W r2))(y z:Ex)(h1:r1=some y)(h2:r2=some z)(r:Option Ex)(hr:r=some (.mk 14 [] 0 0 false [y,z] [])):
 Calls Tryz.prog 116 #[.slice o n c] w (OrP w r):=by
 have HLA:=Lib.hid hla
 clear hla
 subst h1 h2
 have HR:=Lib.hid hr
 clear hr
 have HU:=Lib.hid hun
 have HP:=Lib.hid hpa
 subst hv
 have v0:decide ((k:Int)<0)=false:=decide_eq_false (by omega)
 clear hun hpa
 go_enter Tryz.func116,Tryz.ntmps116
 go_wp2_with (first
  |(go_at_call 62
    refine HLA.out.mono ?_
    rintro e w1 ⟨rfl,hb⟩
    have A1:=Lib.hid (((RB.new w).call (below_box _)).call hb)
    obtain⟨⟨r0,r1,r2,r3,r4,r5,r6⟩,rf,rl⟩:=A1.out.facts
    clear HLA hb)
  |(go_at_call 116
    refine(HU.out _ A1.out.2).mono ?_
    intro e w2 h
    obtain⟨o1,o2,j1,j2,rfl,ho,hb⟩:=OrP.yesX h
    unfold exV
    have hr1:=A1.out.call hb
    have A2:=Lib.hid (Q1.new hr1.1 hr1.2 (ho.low (Nat.succ_le_of_lt A1.out.lt)))
    clear r0 r1 r2 r3 r4 r5 r6 rf rl
    obtain⟨⟨r0,r1,r2,r3,r4,r5,r6⟩,rf,rl⟩:=hr1.facts
    clear HU h ho hb hr1)
  |(go_at_call 157
    refine(HP.out _ A2.out.bel).mono ?_
    intro e w3 h
    obtain⟨o3,o4,j3,j4,rfl,ho,hb⟩:=OrP.yesX h
    unfold exV
    have A3:=Lib.hid (A2.out.call hb)
    have HZ:=Lib.hid (ho.low (by have :=A2.out.lt;have :=A2.out.sz;omega:w.heap.size+1≤_))
    clear r0 r1 r2 r3 r4 r5 r6 rf rl
    obtain⟨⟨r0,r1,r2,r3,r4,r5,r6⟩,rf,⟨d0,d1,d2,d3,d4,d5,d6⟩,df,dl,rl,be⟩:=A3.out.facts
    clear HP h ho hb))
 exact two_endG Tryz.results116 w3 14 true A3.out HZ.out HR.out rfl rfl rfl
theorem refUnion_any {N:Nat}{O:List Wd→Option Ex}(hP:WdC 157 N (pathD O))(hN:N≤400):∀(f:Nat) (l:List Wd) (o:Option Addr) (c:Nat) (w:World),WSl w o c l→l.length≤N→l.length<f→Calls Tryz.prog 116 #[.slice o l.length c] w (OrP w (cutD (pathD O) barS f l)):=by
 intro f
 induction f with
 |zero=>intro l o c w _ _ h;omega
 |succ f ih=>
 intro l o c w h hn hf
 have hst:StSl ((w.alloc (boxEx ex0 (.slice none 0 0) (.slice none 0 0))).alloc (.cells #[.string ⟨#[124]⟩] 9)) (w.heap.size+1) (namesO barS):=by
  refine stSl_of ?_
  have :=World.alloc_heap_new (w.alloc (boxEx ex0 (.slice none 0 0) (.slice none 0 0))) (.cells #[.string ⟨#[124]⟩] 9)
  rw[World.size_alloc]at this
  exact this
 have hla:=last_any l o c (w.heap.size+1) (namesO barS) _ (h.below (((below_box (boxEx ex0 (.slice none 0 0) (.slice none 0 0))).alloc (by simp) (.cells #[.string ⟨#[124]⟩] 9)))) hst (by omega) (by decide)
 rw[cutD]
 cases hd:lastD (namesO barS) l with
 |none=>
  rw[hd]at hla
  exact refUnion_none w o _ c _ hla (by decide) _ (fun W hW=>hP l o c W (h.below hW) hn)
 |some k=>
  rw[hd]at hla
  have hk:=lastD_lt hd
  dsimp only
  obtain⟨o8,hs1,hw8⟩:=h.take k (Nat.le_of_lt hk)
  obtain⟨o9,hs2,hw9⟩:=h.drop (k+1) hk
  have ht:(l.take k).length=k:=by rw[List.length_take];omega
  have hdl:(l.drop (k+1)).length=l.length-(k+1):=List.length_drop
  have HU:∀W,Below w.heap.size w W→Calls Tryz.prog 116 #[.slice o8 k c] W (OrP W (cutD (pathD O) barS f (l.take k))):=fun W hW=>by
   have :=ih (l.take k) o8 c W (hw8.below hW) (by omega) (by omega)
   rwa [ht]at this
  have HP:∀W,Below w.heap.size w W→Calls Tryz.prog 157 #[.slice o9 (l.length-(k+1)) (c-(k+1))] W (OrP W (pathD O (l.drop (k+1)))):=fun W hW=>by
   have :=hP (l.drop (k+1)) o9 (c-(k+1)) W (hw9.below hW) (by omega)
   rwa [hdl]at this
  have hop:opC barS (l.drop k)=14:=by
   rcases last_at _ l 0 false 0 k none hd with h|⟨a,x,b,hl,e,hx,hs⟩
   ·cases h
   ·rw[hl,show k=a.length by omega,List.drop_left]
    have hs2:x.s=[124]:=by simpa [namesO,barS] using hs
    rw[opC_of hx,hs2]
    rfl
  cases h1:cutD (pathD O) barS f (l.take k) with
  |none=>exact refUnion_n1 w o _ c _ hla k rfl hk (by omega) o8 o9 hs1 hs2 _ _ HU HP h1 _ rfl
  |some y=>
   dsimp only
   cases h2:pathD O (l.drop (k+1)) with
   |none=>exact refUnion_n2 w o _ c _ hla k rfl hk (by omega) o8 o9 hs1 hs2 _ _ HU HP y h1 h2 _ rfl
   |some z=>exact refUnion_ok w o _ c _ hla k rfl hk (by omega) o8 o9 hs1 hs2 _ _ HU HP y z h1 h2 _ (by rw[hop])
end Char
namespace Char
open Go.RowKit Go.Lib
open Go.Proofs.YtlmpkpjjakallaaGreatDoor.Fig (outT outV)
set_option maxHeartbeats 2000000 in
theorem refPath_nil (w:World)(o:Option Addr)(c:Nat):Calls Tryz.prog 157 #[.slice o 0 c] w (OrP w none):=by
 go_enter Tryz.func157,Tryz.ntmps157
 go_wp2_with fail
 exact endOrB Tryz.results157 _ ex0 (.slice none 0 0) (.slice none 0 0) false (World.alloc_heap_new w _) (below_box _) (ExOn.iff.2 ⟨KdOn.nil _ _,SdOn.nil _ _⟩) rfl rfl rfl rfl
set_option maxRecDepth 100000 in
set_option maxHeartbeats 2000000 in
theorem refPath_loc (w:World)(g off n c:Nat)(x:Wd)(hcx:∀W,Below w.heap.size w W→Wc W g off x)(n0:0<n)(n10:((x.k:Int) != 10)=true)(n8:((x.k:Int) != 8)=true)(n9:((x.k:Int) != 9)=true)(n6:((x.k:Int) != 6)=true)(hm:MkC x ⟨#[40]⟩ false)(r:Option Ex)(hlo:∀W,Below w.heap.size w W→Calls Tryz.prog 183 #[.slice (some ⟨g,off,none⟩) n c] W (OrP W r)):
 Calls Tryz.prog 157 #[.slice (some ⟨g,off,none⟩) n c] w (OrP w r):=by
 have HCX:=Lib.hid hcx
 obtain⟨hgl,x0,x1,x2,x3⟩:=hcx w (Below.refl _ _)
 have n1:((n:Int)==0)=false:=by rw[beq_eq_false_iff_ne];omega
 have n2:(0:Int)<(n:Int):=by omega
 clear hcx
 have HM:=Lib.hid hm
 have HLO:=Lib.hid hlo
 clear hm hlo
 go_enter Tryz.func157,Tryz.ntmps157
 go_wp2_with (first
  |(go_at_call 89
    refine(HM.out _).mono ?_
    rintro e w0 ⟨rfl,hb⟩
    have A0:=Lib.hid ((RB.new w).call hb)
    obtain⟨⟨r0,r1,r2,r3,r4,r5,r6⟩,rf,rl⟩:=A0.out.facts
    clear HM hb)
  |(go_at_call 183
    refine(HLO.out _ A0.out.2).mono ?_
    intro e w2 h
    obtain⟨hb,y,vk,vs,b,rfl,ho,hr2⟩:=h
    have A2:=Lib.hid (A0.out.call hb)
    have HY:=Lib.hid (ho.low (Nat.succ_le_of_lt A0.out.lt))
    have HR2:=Lib.hid hr2
    obtain⟨⟨o1,j1,rfl,_⟩,⟨o2,j2,rfl,_⟩⟩:=ExOn.iff.1 ho
    unfold exV
    clear r0 r1 r2 r3 r4 r5 r6 rf rl
    obtain⟨⟨r0,r1,r2,r3,r4,r5,r6⟩,rf,rl⟩:=A2.out.facts
    clear HLO hb ho hr2))
 exact endOr Tryz.results157 w2 y _ _ b A2.out.1 A2.out.2 HY.out HR2.out rfl rfl rfl
set_option maxRecDepth 100000 in
set_option maxHeartbeats 2000000 in
theorem refPath_p_n (w:World)(g off n c:Nat)(x:Wd)(hcx:∀W,Below w.heap.size w W→Wc W g off x)(n0:0<n)(hw:PWay x)(ts:List Wd)(hpr:∀W,Below w.heap.size w W→Calls Tryz.prog 184 #[.slice (some ⟨g,off,none⟩) n c] W (PrP W ts none))(r:Option Ex)(hr:r=none):
 Calls Tryz.prog 157 #[.slice (some ⟨g,off,none⟩) n c] w (OrP w r):=by
 have HCX:=Lib.hid hcx
 obtain⟨hgl,x0,x1,x2,x3⟩:=hcx w (Below.refl _ _)
 have n1:((n:Int)==0)=false:=by rw[beq_eq_false_iff_ne];omega
 have n2:(0:Int)<(n:Int):=by omega
 clear hcx
 have HPR:=Lib.hid hpr
 have HR:=Lib.hid hr
 clear hpr hr
 rcases hw with n10|⟨n10,n8⟩|⟨n10,n8,n9⟩|⟨n10,n8,n9,n6⟩|⟨n10,n8,n9,n6,hm⟩
 all_goals
  try (have HM:Hid (MkC x ⟨#[40]⟩ true):=Lib.hid (mkC_of hm))
  try clear hm
  have A0:=Lib.hid (RB.new w)
  go_enter Tryz.func157,Tryz.ntmps157
  go_wp2_with (first
   |(go_at_call 89
     refine(HM.out _).mono ?_
     rintro e w0 ⟨rfl,hb⟩
     have A0:=Lib.hid ((RB.new w).call hb)
     obtain⟨⟨r0,r1,r2,r3,r4,r5,r6⟩,rf,rl⟩:=A0.out.facts
     clear HM hb)
   |(go_at_call 184
     refine(HPR.out _ (A0.out).2).mono ?_
     intro e w1 h
     try clear r0 r1 r2 r3 r4 r5 r6 rf rl
     obtain⟨rfl,hb⟩:=PrP.no h
     unfold exV
     have A1:=Lib.hid ((A0.out).call hb)
     obtain⟨⟨r0,r1,r2,r3,r4,r5,r6⟩,rf,rl⟩:=A1.out.facts
     clear HPR h hb))
  exact path_noA Tryz.results157 w1 _ A1.out.1 A1.out.2 HR.out rfl rfl rfl
end Char
namespace Char
open Go.RowKit Go.Lib
open Go.Proofs.YtlmpkpjjakallaaGreatDoor.Fig (outT outV)
set_option maxRecDepth 100000 in
set_option maxHeartbeats 2000000 in
theorem refPath_p_pn (w:World)(g off n c:Nat)(x:Wd)(hcx:∀W,Below w.heap.size w W→Wc W g off x)(n0:0<n)(hw:PWay x)(m1:Nat)(y:Ex)(ts:List Wd)(hpr:∀W,Below w.heap.size w W→Calls Tryz.prog 184 #[.slice (some ⟨g,off,none⟩) n c] W (PrP W ts (some (y,ts.drop m1))))(o9:Option Addr)(hsl:∀wx,(Instr.slice 38 (.slice (some ⟨g,off,none⟩) n c) (some (.int .i64 (m1:Int))) none none).run Tryz.prog wx= .ok (.slice o9 (n-m1) (c-m1)) wx)(hpd:∀W,Below w.heap.size w W→Calls Tryz.prog 185 #[.slice o9 (n-m1) (c-m1)] W (PdP W (ts.drop m1) none))(h1:1≤m1)(hm1l:m1≤ts.length)(r:Option Ex)(hr:r=none):
 Calls Tryz.prog 157 #[.slice (some ⟨g,off,none⟩) n c] w (OrP w r):=by
 have HCX:=Lib.hid hcx
 obtain⟨hgl,x0,x1,x2,x3⟩:=hcx w (Below.refl _ _)
 have n1:((n:Int)==0)=false:=by rw[beq_eq_false_iff_ne];omega
 have n2:(0:Int)<(n:Int):=by omega
 clear hcx
 have HPR:=Lib.hid hpr
 have HP:=Lib.hid hpd
 have HR:=Lib.hid hr
 have m0:((m1:Int)==0)=false:=by rw[beq_eq_false_iff_ne];omega
 clear hpr hpd hr
 rcases hw with n10|⟨n10,n8⟩|⟨n10,n8,n9⟩|⟨n10,n8,n9,n6⟩|⟨n10,n8,n9,n6,hm⟩
 all_goals
  try (have HM:Hid (MkC x ⟨#[40]⟩ true):=Lib.hid (mkC_of hm))
  try clear hm
  have A0:=Lib.hid (RB.new w)
  go_enter Tryz.func157,Tryz.ntmps157
  go_wp2_with (first
   |(go_at_call 89
     refine(HM.out _).mono ?_
     rintro e w0 ⟨rfl,hb⟩
     have A0:=Lib.hid ((RB.new w).call hb)
     obtain⟨⟨r0,r1,r2,r3,r4,r5,r6⟩,rf,rl⟩:=A0.out.facts
     clear HM hb)
   |(go_at_call 184
     refine(HPR.out _ (A0.out).2).mono ?_
     intro e w1 h
     try clear r0 r1 r2 r3 r4 r5 r6 rf rl
     obtain⟨o1,o2,j1,j2,rfl,ho,hb⟩:=PrP.yes h hm1l
     unfold exV
     have hr1:=(A0.out).call hb
     have A1:=Lib.hid (Q1.new hr1.1 hr1.2 (ho.low (Nat.succ_le_of_lt (A0.out).lt)))
     obtain⟨⟨r0,r1,r2,r3,r4,r5,r6⟩,rf,rl⟩:=hr1.facts
     clear HPR h ho hb hr1)
   |(go_at_call 185
     refine(HP.out _ A1.out.bel).mono ?_
     intro e w3 h
     clear r0 r1 r2 r3 r4 r5 r6 rf rl
     obtain⟨rfl,hb⟩:=PdP.no h
     have A3:=Lib.hid (A1.out.call hb)
     obtain⟨⟨r0,r1,r2,r3,r4,r5,r6⟩,rf,⟨d0,d1,d2,d3,d4,d5,d6⟩,df,dl,rl,be⟩:=A3.out.facts
     clear HP h hb))
  exact path_no Tryz.results157 w3 A3.out HR.out rfl rfl rfl
set_option maxRecDepth 100000 in
set_option maxHeartbeats 2000000 in
theorem refPath_p_ok0 (w:World)(g off n c:Nat)(x:Wd)(hcx:∀W,Below w.heap.size w W→Wc W g off x)(n0:0<n)(hw:PWay x)(m1:Nat)(y:Ex)(ts:List Wd)(hpr:∀W,Below w.heap.size w W→Calls Tryz.prog 184 #[.slice (some ⟨g,off,none⟩) n c] W (PrP W ts (some (y,ts.drop m1))))(o9:Option Addr)(hsl:∀wx,(Instr.slice 38 (.slice (some ⟨g,off,none⟩) n c) (some (.int .i64 (m1:Int))) none none).run Tryz.prog wx= .ok (.slice o9 (n-m1) (c-m1)) wx)(m2:Nat)(ps:List Ex)(hpd:∀W,Below w.heap.size w W→Calls Tryz.prog 185 #[.slice o9 (n-m1) (c-m1)] W (PdP W (ts.drop m1) (some (ps,(ts.drop m1).drop m2))))(h1:1≤m1)(hm1l:m1≤ts.length)(hm2l:m2≤(ts.drop m1).length)(hB:n≤400)(h12:m1+m2≤n)(hz:m2=0)(he:m1+m2=n)(r:Option Ex)(hr:r=some y):
 Calls Tryz.prog 157 #[.slice (some ⟨g,off,none⟩) n c] w (OrP w r):=by
 have HCX:=Lib.hid hcx
 obtain⟨hgl,x0,x1,x2,x3⟩:=hcx w (Below.refl _ _)
 have n1:((n:Int)==0)=false:=by rw[beq_eq_false_iff_ne];omega
 have n2:(0:Int)<(n:Int):=by omega
 clear hcx
 have HPR:=Lib.hid hpr
 have HP:=Lib.hid hpd
 have HR:=Lib.hid hr
 have m0:((m1:Int)==0)=false:=by rw[beq_eq_false_iff_ne];omega
 clear hpr hpd hr
 have k2:decide ((m2:Int)<0)=false:=decide_eq_false (by omega)
 have k3:decide (0<m2)=false:=decide_eq_false (by omega)
 have k4:((m1:Int)+(m2:Int)==(n:Int))=true:=by rw[beq_iff_eq];omega
 clear hz he
 rcases hw with n10|⟨n10,n8⟩|⟨n10,n8,n9⟩|⟨n10,n8,n9,n6⟩|⟨n10,n8,n9,n6,hm⟩
 all_goals
  try (have HM:Hid (MkC x ⟨#[40]⟩ true):=Lib.hid (mkC_of hm))
  try clear hm
  have A0:=Lib.hid (RB.new w)
  go_enter Tryz.func157,Tryz.ntmps157
  go_wp2_with (first
   |(go_at_call 89
     refine(HM.out _).mono ?_
     rintro e w0 ⟨rfl,hb⟩
     have A0:=Lib.hid ((RB.new w).call hb)
     obtain⟨⟨r0,r1,r2,r3,r4,r5,r6⟩,rf,rl⟩:=A0.out.facts
     clear HM hb)
   |(go_at_call 184
     refine(HPR.out _ (A0.out).2).mono ?_
     intro e w1 h
     try clear r0 r1 r2 r3 r4 r5 r6 rf rl
     obtain⟨o1,o2,j1,j2,rfl,ho,hb⟩:=PrP.yes h hm1l
     unfold exV
     have hr1:=(A0.out).call hb
     have A1:=Lib.hid (Q1.new hr1.1 hr1.2 (ho.low (Nat.succ_le_of_lt (A0.out).lt)))
     obtain⟨⟨r0,r1,r2,r3,r4,r5,r6⟩,rf,rl⟩:=hr1.facts
     clear HPR h ho hb hr1)
   |(go_at_call 185
     refine(HP.out _ A1.out.bel).mono ?_
     intro e w3 h
     clear r0 r1 r2 r3 r4 r5 r6 rf rl
     obtain⟨xs,o7,j7,rfl,hrow,hps,hb⟩:=PdP.yes h hm2l
     have A3:=Lib.hid (A1.out.call hb)
     have HRW:=Lib.hid hrow
     have HPS:=Lib.hid hps
     obtain⟨⟨r0,r1,r2,r3,r4,r5,r6⟩,rf,⟨d0,d1,d2,d3,d4,d5,d6⟩,df,dl,rl,be⟩:=A3.out.facts
     clear HP h hb hrow hps))
  exact path_ok Tryz.results157 w3 A3.out HR.out rfl rfl rfl
set_option maxRecDepth 100000 in
set_option maxHeartbeats 2000000 in
theorem refPath_p_st0 (w:World)(g off n c:Nat)(x:Wd)(hcx:∀W,Below w.heap.size w W→Wc W g off x)(n0:0<n)(hw:PWay x)(m1:Nat)(y:Ex)(ts:List Wd)(hpr:∀W,Below w.heap.size w W→Calls Tryz.prog 184 #[.slice (some ⟨g,off,none⟩) n c] W (PrP W ts (some (y,ts.drop m1))))(o9:Option Addr)(hsl:∀wx,(Instr.slice 38 (.slice (some ⟨g,off,none⟩) n c) (some (.int .i64 (m1:Int))) none none).run Tryz.prog wx= .ok (.slice o9 (n-m1) (c-m1)) wx)(m2:Nat)(ps:List Ex)(hpd:∀W,Below w.heap.size w W→Calls Tryz.prog 185 #[.slice o9 (n-m1) (c-m1)] W (PdP W (ts.drop m1) (some (ps,(ts.drop m1).drop m2))))(h1:1≤m1)(hm1l:m1≤ts.length)(hm2l:m2≤(ts.drop m1).length)(hB:n≤400)(h12:m1+m2≤n)(hz:m2=0)(he:m1+m2<n)(o8:Option Addr)(hsl2:∀wx,(Instr.slice 38 (.slice (some ⟨g,off,none⟩) n c) (some (.int .i64 ((m1:Int)+(m2:Int)))) none none).run Tryz.prog wx= .ok (.slice o8 (n-(m1+m2)) (c-(m1+m2))) wx)(q:Option (List St))(hss:∀W,Below w.heap.size w W→Calls Tryz.prog 186 #[.slice o8 (n-(m1+m2)) (c-(m1+m2))] W (SsP2 W q))(r:Option Ex)(hr:r=q.map fun ss=> .mk 16 [] 0 0 false [y] ss):
 Calls Tryz.prog 157 #[.slice (some ⟨g,off,none⟩) n c] w (OrP w r):=by
 have HCX:=Lib.hid hcx
 obtain⟨hgl,x0,x1,x2,x3⟩:=hcx w (Below.refl _ _)
 have n1:((n:Int)==0)=false:=by rw[beq_eq_false_iff_ne];omega
 have n2:(0:Int)<(n:Int):=by omega
 clear hcx
 have HPR:=Lib.hid hpr
 have HP:=Lib.hid hpd
 have HR:=Lib.hid hr
 have m0:((m1:Int)==0)=false:=by rw[beq_eq_false_iff_ne];omega
 clear hpr hpd hr
 have k2:decide ((m2:Int)<0)=false:=decide_eq_false (by omega)
 have k3:decide (0<m2)=false:=decide_eq_false (by omega)
 have k4:((m1:Int)+(m2:Int)==(n:Int))=false:=by rw[beq_eq_false_iff_ne];omega
 have HS:=Lib.hid hss
 clear hss
 clear hz he
 rcases hw with n10|⟨n10,n8⟩|⟨n10,n8,n9⟩|⟨n10,n8,n9,n6⟩|⟨n10,n8,n9,n6,hm⟩
 all_goals
  try (have HM:Hid (MkC x ⟨#[40]⟩ true):=Lib.hid (mkC_of hm))
  try clear hm
  have A0:=Lib.hid (RB.new w)
  go_enter Tryz.func157,Tryz.ntmps157
  go_wp2_with (first
   |(go_at_call 89
     refine(HM.out _).mono ?_
     rintro e w0 ⟨rfl,hb⟩
     have A0:=Lib.hid ((RB.new w).call hb)
     obtain⟨⟨r0,r1,r2,r3,r4,r5,r6⟩,rf,rl⟩:=A0.out.facts
     clear HM hb)
   |(go_at_call 184
     refine(HPR.out _ (A0.out).2).mono ?_
     intro e w1 h
     try clear r0 r1 r2 r3 r4 r5 r6 rf rl
     obtain⟨o1,o2,j1,j2,rfl,ho,hb⟩:=PrP.yes h hm1l
     unfold exV
     have hr1:=(A0.out).call hb
     have A1:=Lib.hid (Q1.new hr1.1 hr1.2 (ho.low (Nat.succ_le_of_lt (A0.out).lt)))
     obtain⟨⟨r0,r1,r2,r3,r4,r5,r6⟩,rf,rl⟩:=hr1.facts
     clear HPR h ho hb hr1)
   |(go_at_call 185
     refine(HP.out _ A1.out.bel).mono ?_
     intro e w3 h
     clear r0 r1 r2 r3 r4 r5 r6 rf rl
     obtain⟨xs,o7,j7,rfl,hrow,hps,hb⟩:=PdP.yes h hm2l
     have A3:=Lib.hid (A1.out.call hb)
     have HRW:=Lib.hid hrow
     have HPS:=Lib.hid hps
     obtain⟨⟨r0,r1,r2,r3,r4,r5,r6⟩,rf,⟨d0,d1,d2,d3,d4,d5,d6⟩,df,dl,rl,be⟩:=A3.out.facts
     clear HP h hb hrow hps)
   |(go_at_call 186
     refine(HS.out _ A3.out.bel).mono ?_
     intro e w6 h
     obtain⟨ss,o6,j6,b,rfl,hsd,hq3,hb⟩:=SsP2.any h
     have A6:=Lib.hid (A3.out.call hb)
     have HSD:Hid (SdOn w6 (w.heap.size+1≤ ·) (.slice o6 ss.length j6) ss):=Lib.hid (hsd.low (by have :=A3.out.sz;have :=A3.out.lt;omega))
     have HQ3:=Lib.hid hq3
     clear r0 r1 r2 r3 r4 r5 r6 rf d0 d1 d2 d3 d4 d5 d6 df dl rl be
     obtain⟨⟨r0,r1,r2,r3,r4,r5,r6⟩,rf,⟨d0,d1,d2,d3,d4,d5,d6⟩,df,dl,rl,be⟩:=A6.out.facts
     clear HS h hsd hq3 hb))
  exact path_st Tryz.results157 w6 A6.out HSD.out (by rw[HR.out,HQ3.out];cases b<;>rfl) rfl rfl rfl
end Char
namespace Char
open Go.RowKit Go.Lib
open Go.Proofs.YtlmpkpjjakallaaGreatDoor.Fig (outT outV)
set_option maxRecDepth 100000 in
set_option maxHeartbeats 2000000 in
theorem refPath_p_ok1 (w:World)(g off n c:Nat)(x:Wd)(hcx:∀W,Below w.heap.size w W→Wc W g off x)(n0:0<n)(hw:PWay x)(m1:Nat)(y:Ex)(ts:List Wd)(hpr:∀W,Below w.heap.size w W→Calls Tryz.prog 184 #[.slice (some ⟨g,off,none⟩) n c] W (PrP W ts (some (y,ts.drop m1))))(o9:Option Addr)(hsl:∀wx,(Instr.slice 38 (.slice (some ⟨g,off,none⟩) n c) (some (.int .i64 (m1:Int))) none none).run Tryz.prog wx= .ok (.slice o9 (n-m1) (c-m1)) wx)(m2:Nat)(ps:List Ex)(hpd:∀W,Below w.heap.size w W→Calls Tryz.prog 185 #[.slice o9 (n-m1) (c-m1)] W (PdP W (ts.drop m1) (some (ps,(ts.drop m1).drop m2))))(h1:1≤m1)(hm1l:m1≤ts.length)(hm2l:m2≤(ts.drop m1).length)(hB:n≤400)(h12:m1+m2≤n)(hz:0<m2)(hne:ps≠[])(hxl:∀k,k=ps.length→k≤900)(he:m1+m2=n)(r:Option Ex)(hr:r=some (.mk 17 [] 0 0 false (y::ps) [])):
 Calls Tryz.prog 157 #[.slice (some ⟨g,off,none⟩) n c] w (OrP w r):=by
 have HCX:=Lib.hid hcx
 obtain⟨hgl,x0,x1,x2,x3⟩:=hcx w (Below.refl _ _)
 have n1:((n:Int)==0)=false:=by rw[beq_eq_false_iff_ne];omega
 have n2:(0:Int)<(n:Int):=by omega
 clear hcx
 have HPR:=Lib.hid hpr
 have HP:=Lib.hid hpd
 have HR:=Lib.hid hr
 have m0:((m1:Int)==0)=false:=by rw[beq_eq_false_iff_ne];omega
 clear hpr hpd hr
 have k2:decide ((m2:Int)<0)=false:=decide_eq_false (by omega)
 have k3:decide (0<m2)=true:=decide_eq_true (by omega)
 have HXL:=Lib.hid hxl
 have HNE:=Lib.hid hne
 clear hxl hne
 have k4:((m1:Int)+(m2:Int)==(n:Int))=true:=by rw[beq_iff_eq];omega
 clear hz he
 rcases hw with n10|⟨n10,n8⟩|⟨n10,n8,n9⟩|⟨n10,n8,n9,n6⟩|⟨n10,n8,n9,n6,hm⟩
 all_goals
  try (have HM:Hid (MkC x ⟨#[40]⟩ true):=Lib.hid (mkC_of hm))
  try clear hm
  have A0:=Lib.hid (RB.new w)
  go_enter Tryz.func157,Tryz.ntmps157
  go_wp2_with (first
   |(go_at_call 89
     refine(HM.out _).mono ?_
     rintro e w0 ⟨rfl,hb⟩
     have A0:=Lib.hid ((RB.new w).call hb)
     obtain⟨⟨r0,r1,r2,r3,r4,r5,r6⟩,rf,rl⟩:=A0.out.facts
     clear HM hb)
   |(go_at_call 184
     refine(HPR.out _ (A0.out).2).mono ?_
     intro e w1 h
     try clear r0 r1 r2 r3 r4 r5 r6 rf rl
     obtain⟨o1,o2,j1,j2,rfl,ho,hb⟩:=PrP.yes h hm1l
     unfold exV
     have hr1:=(A0.out).call hb
     have A1:=Lib.hid (Q1.new hr1.1 hr1.2 (ho.low (Nat.succ_le_of_lt (A0.out).lt)))
     obtain⟨⟨r0,r1,r2,r3,r4,r5,r6⟩,rf,rl⟩:=hr1.facts
     clear HPR h ho hb hr1)
   |(go_at_call 185
     refine(HP.out _ A1.out.bel).mono ?_
     intro e w3 h
     clear r0 r1 r2 r3 r4 r5 r6 rf rl
     obtain⟨xs,o7,j7,rfl,hrow,hps,hb⟩:=PdP.yes h hm2l
     have A3:=Lib.hid (A1.out.call hb)
     have HRW:=Lib.hid hrow
     have HPS:=Lib.hid hps
     obtain⟨⟨r0,r1,r2,r3,r4,r5,r6⟩,rf,⟨d0,d1,d2,d3,d4,d5,d6⟩,df,dl,rl,be⟩:=A3.out.facts
     clear HP h hb hrow hps)
   |(at_builtin
     refine wpList_catK (B:=w3.heap.size) (C:=(w1.alloc (boxEx y (.slice o1 y.ks.length j1) (.slice o2 y.ss.length j2))).heap.size) (F:=fun b=>w.heap.size+1≤b∧b≠w1.heap.size∧b<w3.heap.size) (W:=w3.alloc (boxEx y (.slice o1 y.ks.length j1) (.slice o2 y.ss.length j2))) (xs:=[(y,.slice o1 y.ks.length j1,.slice o2 y.ss.length j2)]) (ys:=xs) rfl (.tmp 65) (.tmp 66) rfl (own_one w3 _ _ _) (HRW.out.below (below_box _)).1 (fun z hz=> ?_) (fun b hb=> ?_) (fun h0=> ?_) (by simp[Act.eval]) (by simp[Act.eval]) (by simp only[World.size_alloc];omega) (by have :=HXL.out xs.length (by rw[←HPS.out,List.length_map]);simp only[List.length_cons,List.length_nil];omega) ?_
     ·rw[List.mem_append,List.mem_singleton]at hz
      rcases hz with rfl|hz
      ·exact ExOn.move (fun b hb hF=>⟨⟨hF.1,hF.2,hb⟩,Below.heap_alloc _ _ b hb⟩) _ _ _ A3.out.on
      ·exact ExOn.move (fun b hb hF=>⟨⟨by have :=hF.1;have :=A1.out.bel.size;have :=A1.out.lt;have :=A1.out.sz;omega,by have :=hF.1;have :=A1.out.sz;omega,hb⟩,Below.heap_alloc _ _ b hb⟩) _ _ _ (HRW.out.2 z hz)
     ·intro e
      simp only[Value.ownBlock,Option.some.injEq]at e
      omega
     ·exact HNE.out (by rw[←HPS.out,h0];rfl)
     intro v' w4 hkd hkp hb4
     obtain⟨o4,j4,hv⟩:=hkd.form
     have hv2:v'= .slice o4 (xs.length+1) j4:=by rw[hv];simp
     subst hv2
     clear hv
     have hne1:∀k,k<w3.heap.size→w4.heap[k]? =w3.heap[k]? :=fun k hk=>(hkp k (by rw[World.size_alloc];omega) (by simp only[Value.ownBlock,ne_eq,Option.some.injEq];omega)).trans (Below.heap_alloc _ _ k hk)
     have h4:Q1 w w4 w1.heap.size y (.slice o1 y.ks.length j1) (.slice o2 y.ss.length j2):=⟨(hne1 _ (Nat.lt_trans A3.out.lt A3.out.sz)).trans A3.out.res,(hne1 _ A3.out.sz).trans A3.out.box,A3.out.lt,A3.out.bel.trans (((below_box (w:=w3) (boxEx y (.slice o1 y.ks.length j1) (.slice o2 y.ss.length j2))).trans hb4).mono A3.out.bel.size),ExOn.move (fun b hb hF=>⟨hF,hne1 b hb⟩) _ _ _ A3.out.on⟩
     have hk2:KdOn w4 (fun b=>w.heap.size+1≤b∧b≠w1.heap.size) (.slice o4 (xs.length+1) j4) (y::ps):=by
      rw[show y::ps=([(y,Value.slice o1 y.ks.length j1,Value.slice o2 y.ss.length j2)]++xs).map (·.1) by rw[List.map_append,HPS.out];rfl]
      exact hkd.move fun b _ hF=>⟨by
       have h5:=A3.out.sz
       have h6:=A3.out.lt
       rcases hF with h|h|h
       ·exact⟨h.1,h.2.1⟩
       ·simp only[Value.ownBlock,Option.some.injEq]at h
        omega
       ·rw[World.size_alloc]at h
        omega,rfl⟩
     have A4:=Lib.hid h4
     have A5:=Lib.hid (h4.set (z:= .mk 17 [] 0 0 false (y::ps) []) (wk:= .slice o4 (xs.length+1) j4) (ws:= .slice none 0 0) h4.bel rfl rfl (ExOn.iff.2 ⟨hk2,SdOn.nil _ _⟩))
     clear r0 r1 r2 r3 r4 r5 r6 rf d0 d1 d2 d3 d4 d5 d6 df dl rl be
     obtain⟨⟨r0,r1,r2,r3,r4,r5,r6⟩,rf,⟨d0,d1,d2,d3,d4,d5,d6⟩,df,dl,rl,be⟩:=A4.out.facts
     clear hkd hkp hb4 hne1 h4 hk2))
  exact path_ok Tryz.results157 (y:= .mk 17 [] 0 0 false (y::ps) []) (setEx w4 w1.heap.size (.mk 17 [] 0 0 false (y::ps) []) (.slice o4 (xs.length+1) j4) (.slice none 0 0)) A5.out HR.out rfl rfl rfl
end Char
namespace Char
open Go.RowKit Go.Lib
open Go.Proofs.YtlmpkpjjakallaaGreatDoor.Fig (outT outV)
set_option maxRecDepth 100000 in
set_option maxHeartbeats 2000000 in
theorem refPath_p_st1 (w:World)(g off n c:Nat)(x:Wd)(hcx:∀W,Below w.heap.size w W→Wc W g off x)(n0:0<n)(hw:PWay x)(m1:Nat)(y:Ex)(ts:List Wd)(hpr:∀W,Below w.heap.size w W→Calls Tryz.prog 184 #[.slice (some ⟨g,off,none⟩) n c] W (PrP W ts (some (y,ts.drop m1))))(o9:Option Addr)(hsl:∀wx,(Instr.slice 38 (.slice (some ⟨g,off,none⟩) n c) (some (.int .i64 (m1:Int))) none none).run Tryz.prog wx= .ok (.slice o9 (n-m1) (c-m1)) wx)(m2:Nat)(ps:List Ex)(hpd:∀W,Below w.heap.size w W→Calls Tryz.prog 185 #[.slice o9 (n-m1) (c-m1)] W (PdP W (ts.drop m1) (some (ps,(ts.drop m1).drop m2))))(h1:1≤m1)(hm1l:m1≤ts.length)(hm2l:m2≤(ts.drop m1).length)(hB:n≤400)(h12:m1+m2≤n)(hz:0<m2)(hne:ps≠[])(hxl:∀k,k=ps.length→k≤900)(he:m1+m2<n)(o8:Option Addr)(hsl2:∀wx,(Instr.slice 38 (.slice (some ⟨g,off,none⟩) n c) (some (.int .i64 ((m1:Int)+(m2:Int)))) none none).run Tryz.prog wx= .ok (.slice o8 (n-(m1+m2)) (c-(m1+m2))) wx)(q:Option (List St))(hss:∀W,Below w.heap.size w W→Calls Tryz.prog 186 #[.slice o8 (n-(m1+m2)) (c-(m1+m2))] W (SsP2 W q))(r:Option Ex)(hr:r=q.map fun ss=> .mk 16 [] 0 0 false [.mk 17 [] 0 0 false (y::ps) []] ss):
 Calls Tryz.prog 157 #[.slice (some ⟨g,off,none⟩) n c] w (OrP w r):=by
 have HCX:=Lib.hid hcx
 obtain⟨hgl,x0,x1,x2,x3⟩:=hcx w (Below.refl _ _)
 have n1:((n:Int)==0)=false:=by rw[beq_eq_false_iff_ne];omega
 have n2:(0:Int)<(n:Int):=by omega
 clear hcx
 have HPR:=Lib.hid hpr
 have HP:=Lib.hid hpd
 have HR:=Lib.hid hr
 have m0:((m1:Int)==0)=false:=by rw[beq_eq_false_iff_ne];omega
 clear hpr hpd hr
 have k2:decide ((m2:Int)<0)=false:=decide_eq_false (by omega)
 have k3:decide (0<m2)=true:=decide_eq_true (by omega)
 have HXL:=Lib.hid hxl
 have HNE:=Lib.hid hne
 clear hxl hne
 have k4:((m1:Int)+(m2:Int)==(n:Int))=false:=by rw[beq_eq_false_iff_ne];omega
 have HS:=Lib.hid hss
 clear hss
 clear hz he
 rcases hw with n10|⟨n10,n8⟩|⟨n10,n8,n9⟩|⟨n10,n8,n9,n6⟩|⟨n10,n8,n9,n6,hm⟩
 all_goals
  try (have HM:Hid (MkC x ⟨#[40]⟩ true):=Lib.hid (mkC_of hm))
  try clear hm
  have A0:=Lib.hid (RB.new w)
  go_enter Tryz.func157,Tryz.ntmps157
  go_wp2_with (first
   |(go_at_call 89
     refine(HM.out _).mono ?_
     rintro e w0 ⟨rfl,hb⟩
     have A0:=Lib.hid ((RB.new w).call hb)
     obtain⟨⟨r0,r1,r2,r3,r4,r5,r6⟩,rf,rl⟩:=A0.out.facts
     clear HM hb)
   |(go_at_call 184
     refine(HPR.out _ (A0.out).2).mono ?_
     intro e w1 h
     try clear r0 r1 r2 r3 r4 r5 r6 rf rl
     obtain⟨o1,o2,j1,j2,rfl,ho,hb⟩:=PrP.yes h hm1l
     unfold exV
     have hr1:=(A0.out).call hb
     have A1:=Lib.hid (Q1.new hr1.1 hr1.2 (ho.low (Nat.succ_le_of_lt (A0.out).lt)))
     obtain⟨⟨r0,r1,r2,r3,r4,r5,r6⟩,rf,rl⟩:=hr1.facts
     clear HPR h ho hb hr1)
   |(go_at_call 185
     refine(HP.out _ A1.out.bel).mono ?_
     intro e w3 h
     clear r0 r1 r2 r3 r4 r5 r6 rf rl
     obtain⟨xs,o7,j7,rfl,hrow,hps,hb⟩:=PdP.yes h hm2l
     have A3:=Lib.hid (A1.out.call hb)
     have HRW:=Lib.hid hrow
     have HPS:=Lib.hid hps
     obtain⟨⟨r0,r1,r2,r3,r4,r5,r6⟩,rf,⟨d0,d1,d2,d3,d4,d5,d6⟩,df,dl,rl,be⟩:=A3.out.facts
     clear HP h hb hrow hps)
   |(at_builtin
     refine wpList_catK (B:=w3.heap.size) (C:=(w1.alloc (boxEx y (.slice o1 y.ks.length j1) (.slice o2 y.ss.length j2))).heap.size) (F:=fun b=>w.heap.size+1≤b∧b≠w1.heap.size∧b<w3.heap.size) (W:=w3.alloc (boxEx y (.slice o1 y.ks.length j1) (.slice o2 y.ss.length j2))) (xs:=[(y,.slice o1 y.ks.length j1,.slice o2 y.ss.length j2)]) (ys:=xs) rfl (.tmp 65) (.tmp 66) rfl (own_one w3 _ _ _) (HRW.out.below (below_box _)).1 (fun z hz=> ?_) (fun b hb=> ?_) (fun h0=> ?_) (by simp[Act.eval]) (by simp[Act.eval]) (by simp only[World.size_alloc];omega) (by have :=HXL.out xs.length (by rw[←HPS.out,List.length_map]);simp only[List.length_cons,List.length_nil];omega) ?_
     ·rw[List.mem_append,List.mem_singleton]at hz
      rcases hz with rfl|hz
      ·exact ExOn.move (fun b hb hF=>⟨⟨hF.1,hF.2,hb⟩,Below.heap_alloc _ _ b hb⟩) _ _ _ A3.out.on
      ·exact ExOn.move (fun b hb hF=>⟨⟨by have :=hF.1;have :=A1.out.bel.size;have :=A1.out.lt;have :=A1.out.sz;omega,by have :=hF.1;have :=A1.out.sz;omega,hb⟩,Below.heap_alloc _ _ b hb⟩) _ _ _ (HRW.out.2 z hz)
     ·intro e
      simp only[Value.ownBlock,Option.some.injEq]at e
      omega
     ·exact HNE.out (by rw[←HPS.out,h0];rfl)
     intro v' w4 hkd hkp hb4
     obtain⟨o4,j4,hv⟩:=hkd.form
     have hv2:v'= .slice o4 (xs.length+1) j4:=by rw[hv];simp
     subst hv2
     clear hv
     have hne1:∀k,k<w3.heap.size→w4.heap[k]? =w3.heap[k]? :=fun k hk=>(hkp k (by rw[World.size_alloc];omega) (by simp only[Value.ownBlock,ne_eq,Option.some.injEq];omega)).trans (Below.heap_alloc _ _ k hk)
     have h4:Q1 w w4 w1.heap.size y (.slice o1 y.ks.length j1) (.slice o2 y.ss.length j2):=⟨(hne1 _ (Nat.lt_trans A3.out.lt A3.out.sz)).trans A3.out.res,(hne1 _ A3.out.sz).trans A3.out.box,A3.out.lt,A3.out.bel.trans (((below_box (w:=w3) (boxEx y (.slice o1 y.ks.length j1) (.slice o2 y.ss.length j2))).trans hb4).mono A3.out.bel.size),ExOn.move (fun b hb hF=>⟨hF,hne1 b hb⟩) _ _ _ A3.out.on⟩
     have hk2:KdOn w4 (fun b=>w.heap.size+1≤b∧b≠w1.heap.size) (.slice o4 (xs.length+1) j4) (y::ps):=by
      rw[show y::ps=([(y,Value.slice o1 y.ks.length j1,Value.slice o2 y.ss.length j2)]++xs).map (·.1) by rw[List.map_append,HPS.out];rfl]
      exact hkd.move fun b _ hF=>⟨by
       have h5:=A3.out.sz
       have h6:=A3.out.lt
       rcases hF with h|h|h
       ·exact⟨h.1,h.2.1⟩
       ·simp only[Value.ownBlock,Option.some.injEq]at h
        omega
       ·rw[World.size_alloc]at h
        omega,rfl⟩
     have A4:=Lib.hid h4
     have A5:=Lib.hid (h4.set (z:= .mk 17 [] 0 0 false (y::ps) []) (wk:= .slice o4 (xs.length+1) j4) (ws:= .slice none 0 0) h4.bel rfl rfl (ExOn.iff.2 ⟨hk2,SdOn.nil _ _⟩))
     clear r0 r1 r2 r3 r4 r5 r6 rf d0 d1 d2 d3 d4 d5 d6 df dl rl be
     obtain⟨⟨r0,r1,r2,r3,r4,r5,r6⟩,rf,⟨d0,d1,d2,d3,d4,d5,d6⟩,df,dl,rl,be⟩:=A4.out.facts
     clear hkd hkp hb4 hne1 h4 hk2)
   |(go_at_call 186
     refine(HS.out _ A5.out.bel).mono ?_
     intro e w6 h
     obtain⟨ss,o6,j6,b,rfl,hsd,hq3,hb⟩:=SsP2.any h
     have A6:=Lib.hid (A5.out.call hb)
     have HSD:Hid (SdOn w6 (w.heap.size+1≤ ·) (.slice o6 ss.length j6) ss):=Lib.hid (hsd.low (by have :=A5.out.sz;have :=A5.out.lt;omega))
     have HQ3:=Lib.hid hq3
     clear r0 r1 r2 r3 r4 r5 r6 rf d0 d1 d2 d3 d4 d5 d6 df dl rl be
     obtain⟨⟨r0,r1,r2,r3,r4,r5,r6⟩,rf,⟨d0,d1,d2,d3,d4,d5,d6⟩,df,dl,rl,be⟩:=A6.out.facts
     clear HS h hsd hq3 hb))
  exact path_st Tryz.results157 w6 A6.out HSD.out (by rw[HR.out,HQ3.out];cases b<;>rfl) rfl rfl rfl
end Char
end Go.Proofs.YtlmpkpjjakallaaGreatDoor
