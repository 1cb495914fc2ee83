import Derived.Test.YtlmpkpjjakallaaGreatDoorPk18
import Derived.Test.YtlmpkpjjakallaaGreatDoorPk20
import Derived.Test.YtlmpkpjjakallaaGreatDoorPk21
import Derived.Test.YtlmpkpjjakallaaGreatDoorPk19
namespace Go.Proofs.YtlmpkpjjakallaaGreatDoor
namespace Char
open Go.RowKit Go.Lib
open Go.Proofs.YtlmpkpjjakallaaGreatDoor.Fig (outT outV)
set_option maxRecDepth 100000 in
set_option maxHeartbeats 2000000 in
theorem refStep_ch_tn (w:World)(g off n c:Nat)(ts:List Wd)(x:Wd)(hcx:∀W,Below w.heap.size w W→Wc W g off x)(n0:0<n)(hB:n≤800)(hd:MkC x ⟨#[46]⟩ false)(h2:MkC x ⟨#[46,46]⟩ false)(h3:MkC x ⟨#[64]⟩ false)(k7:((x.k:Int)==7)=false)(kd:Int)(nm:List UInt8)(hs:Bool)(ht:∀W,Below w.heap.size w W→Calls Tryz.prog 220 #[.slice (some ⟨g,off,none⟩) n c] W fun e w'=>e= .returned (.tuple #[teV (kd,nm,hs),.int .i64 0])∧Below W.heap.size W w')(hnc:n≤c)(q:Option (St×List Wd))(hq:q=none):
 Calls Tryz.prog 203 #[.slice (some ⟨g,off,none⟩) n c] w (StpP w ts q):=by
 have HCX:=Lib.hid hcx
 obtain⟨hgl,x0,x1,x2,x3⟩:=hcx w (Below.refl _ _)
 have n1:((n:Int)==0)=false:=by rw[beq_eq_false_iff_ne];omega
 have n2:(0:Int)<(n:Int):=by omega
 clear hcx
 have HD1:=Lib.hid hd
 have HD2:=Lib.hid h2
 have HD3:=Lib.hid h3
 clear hd h2 h3
 have HT:=Lib.hid ht
 have HQ:=Lib.hid hq
 clear ht hq
 go_enter Tryz.func203,Tryz.ntmps203
 go_wp2_with (first
  |(go_at_call 89
    refine(HD1.out _).mono ?_
    rintro e w1 ⟨rfl,hbw1⟩
    have Aw1:=Lib.hid ((S1.new w).call hbw1)
    clear x0 x1 x2 x3 hgl
    obtain⟨hgl,x0,x1,x2,x3⟩:=HCX.out w1 Aw1.out.2
    obtain⟨⟨r0,r1,r2,r3,r4⟩,rf,rl⟩:=Aw1.out.facts
    clear HD1 hbw1)
  |(go_at_call 89
    refine(HD2.out _).mono ?_
    rintro e w2 ⟨rfl,hbw2⟩
    have Aw2:=Lib.hid (Aw1.out.call hbw2)
    clear x0 x1 x2 x3 hgl
    obtain⟨hgl,x0,x1,x2,x3⟩:=HCX.out w2 Aw2.out.2
    clear r0 r1 r2 r3 r4 rf rl
    obtain⟨⟨r0,r1,r2,r3,r4⟩,rf,rl⟩:=Aw2.out.facts
    clear HD2 hbw2)
  |(go_at_call 89
    refine(HD3.out _).mono ?_
    rintro e w3 ⟨rfl,hbw3⟩
    have Aw3:=Lib.hid ((S2.new Aw2.out (.mk 1 0 [] false []) (.slice none 0 0)).call hbw3)
    clear x0 x1 x2 x3 hgl r0 r1 r2 r3 r4 rf rl
    obtain⟨hgl,x0,x1,x2,x3⟩:=HCX.out w3 Aw3.out.1.2
    obtain⟨⟨s0,s1,s2,s3,s4⟩,sf,sl,⟨r0,r1,r2,r3,r4⟩,rf,rl⟩:=Aw3.out.facts
    dsimp only[St.ax,St.tk,St.nm,St.has]at s0 s1 s2 s3
    clear HD3 hbw3)
  |(go_at_call 220
    refine(HT.out _ Aw3.out.1.2).mono ?_
    rintro e w5 ⟨rfl,hbw5⟩
    unfold teV
    have A5:=Lib.hid (Aw3.out.call hbw5)
    clear s0 s1 s2 s3 s4 sf sl r0 r1 r2 r3 r4 rf rl
    have B5:=Lib.hid ((A5.out.te (k:=kd) (n:=nm) (hs:=hs)).alloc (boxTe kd nm hs))
    obtain⟨⟨s0,s1,s2,s3,s4⟩,sf,sl,⟨r0,r1,r2,r3,r4⟩,rf,rl⟩:=A5.out.facts
    dsimp only[St.ax,St.tk,St.nm,St.has]at s0 s1 s2 s3
    clear HT hbw5))
 exact step_noA Tryz.results203 w5 (boxTe kd nm hs) A5.out.1 HQ.out rfl rfl rfl
set_option maxRecDepth 100000 in
set_option maxHeartbeats 2000000 in
theorem refStep_ch_pn (w:World)(g off n c:Nat)(ts:List Wd)(x:Wd)(hcx:∀W,Below w.heap.size w W→Wc W g off x)(n0:0<n)(hB:n≤800)(hd:MkC x ⟨#[46]⟩ false)(h2:MkC x ⟨#[46,46]⟩ false)(h3:MkC x ⟨#[64]⟩ false)(k7:((x.k:Int)==7)=false)(m1:Nat)(kd:Int)(nm:List UInt8)(hs:Bool)(ht:∀W,Below w.heap.size w W→Calls Tryz.prog 220 #[.slice (some ⟨g,off,none⟩) n c] W fun e w'=>e= .returned (.tuple #[teV (kd,nm,hs),.int .i64 (m1:Int)])∧Below W.heap.size W w')(hp:∀W,Below w.heap.size w W→Calls Tryz.prog 185 #[.slice (some ⟨g,off+(m1)*4,none⟩) (n-(m1)) (c-(m1))] W fun e w'=>e= .returned (.tuple #[.slice none 0 0,.int .i64 (-1)])∧Below W.heap.size W w')(h1:1≤m1)(hm:m1≤n)(hnc:n≤c)(hk2:¬c=m1)(q:Option (St×List Wd))(hq:q=none):
 Calls Tryz.prog 203 #[.slice (some ⟨g,off,none⟩) n c] w (StpP w ts q):=by
 have HCX:=Lib.hid hcx
 obtain⟨hgl,x0,x1,x2,x3⟩:=hcx w (Below.refl _ _)
 have n1:((n:Int)==0)=false:=by rw[beq_eq_false_iff_ne];omega
 have n2:(0:Int)<(n:Int):=by omega
 clear hcx
 have HD1:=Lib.hid hd
 have HD2:=Lib.hid h2
 have HD3:=Lib.hid h3
 clear hd h2 h3
 have HT:=Lib.hid ht
 have HQ:=Lib.hid hq
 clear ht hq
 have HP:=Lib.hid hp
 clear hp
 have n4:(0:Int)+(m1:Int)≤(n:Int):=by omega
 have n5:m1≤c:=by omega
 have n6:((m1:Int)==0)=false:=by rw[beq_eq_false_iff_ne];omega
 have n7:(m1:Int)≤(n:Int):=by omega
 go_enter Tryz.func203,Tryz.ntmps203
 go_wp2_with (first
  |(go_at_call 89
    refine(HD1.out _).mono ?_
    rintro e w1 ⟨rfl,hbw1⟩
    have Aw1:=Lib.hid ((S1.new w).call hbw1)
    clear x0 x1 x2 x3 hgl
    obtain⟨hgl,x0,x1,x2,x3⟩:=HCX.out w1 Aw1.out.2
    obtain⟨⟨r0,r1,r2,r3,r4⟩,rf,rl⟩:=Aw1.out.facts
    clear HD1 hbw1)
  |(go_at_call 89
    refine(HD2.out _).mono ?_
    rintro e w2 ⟨rfl,hbw2⟩
    have Aw2:=Lib.hid (Aw1.out.call hbw2)
    clear x0 x1 x2 x3 hgl
    obtain⟨hgl,x0,x1,x2,x3⟩:=HCX.out w2 Aw2.out.2
    clear r0 r1 r2 r3 r4 rf rl
    obtain⟨⟨r0,r1,r2,r3,r4⟩,rf,rl⟩:=Aw2.out.facts
    clear HD2 hbw2)
  |(go_at_call 89
    refine(HD3.out _).mono ?_
    rintro e w3 ⟨rfl,hbw3⟩
    have Aw3:=Lib.hid ((S2.new Aw2.out (.mk 1 0 [] false []) (.slice none 0 0)).call hbw3)
    clear x0 x1 x2 x3 hgl r0 r1 r2 r3 r4 rf rl
    obtain⟨hgl,x0,x1,x2,x3⟩:=HCX.out w3 Aw3.out.1.2
    obtain⟨⟨s0,s1,s2,s3,s4⟩,sf,sl,⟨r0,r1,r2,r3,r4⟩,rf,rl⟩:=Aw3.out.facts
    dsimp only[St.ax,St.tk,St.nm,St.has]at s0 s1 s2 s3
    clear HD3 hbw3)
  |(go_at_call 220
    refine(HT.out _ Aw3.out.1.2).mono ?_
    rintro e w5 ⟨rfl,hbw5⟩
    unfold teV
    have A5:=Lib.hid (Aw3.out.call hbw5)
    clear s0 s1 s2 s3 s4 sf sl r0 r1 r2 r3 r4 rf rl
    have B5:=Lib.hid ((A5.out.te (k:=kd) (n:=nm) (hs:=hs)).alloc (boxTe kd nm hs))
    obtain⟨⟨s0,s1,s2,s3,s4⟩,sf,sl,⟨r0,r1,r2,r3,r4⟩,rf,rl⟩:=A5.out.facts
    dsimp only[St.ax,St.tk,St.nm,St.has]at s0 s1 s2 s3
    clear HT hbw5)
  |(go_at_call 185
    refine(HP.out _ B5.out.1.2).mono ?_
    rintro e w7 ⟨rfl,hbw7⟩
    have A7:=Lib.hid (B5.out.call hbw7)
    clear s0 s1 s2 s3 s4 sf sl r0 r1 r2 r3 r4 rf rl
    obtain⟨⟨s0,s1,s2,s3,s4⟩,sf,sl,⟨r0,r1,r2,r3,r4⟩,rf,rl⟩:=A7.out.facts
    clear HP hbw7))
 exact step_no Tryz.results203 _ A7.out.1 HQ.out rfl rfl rfl
set_option maxRecDepth 100000 in
set_option maxHeartbeats 2000000 in
theorem refStep_ch_ok (w:World)(g off n c:Nat)(ts:List Wd)(x:Wd)(hcx:∀W,Below w.heap.size w W→Wc W g off x)(n0:0<n)(hB:n≤800)(hd:MkC x ⟨#[46]⟩ false)(h2:MkC x ⟨#[46,46]⟩ false)(h3:MkC x ⟨#[64]⟩ false)(k7:((x.k:Int)==7)=false)(m1:Nat)(kd:Int)(nm:List UInt8)(hs:Bool)(ht:∀W,Below w.heap.size w W→Calls Tryz.prog 220 #[.slice (some ⟨g,off,none⟩) n c] W fun e w'=>e= .returned (.tuple #[teV (kd,nm,hs),.int .i64 (m1:Int)])∧Below W.heap.size W w')(m2:Nat)(ps:List Ex)(hp:∀W,Below w.heap.size w W→Calls Tryz.prog 185 #[.slice (some ⟨g,off+(m1)*4,none⟩) (n-(m1)) (c-(m1))] W fun e w'=>∃(xs:List (Ex×Value×Value)) (o7:Option Addr) (j7:Nat),e= .returned (.tuple #[.slice o7 xs.length j7,.int .i64 (m2:Int)])∧RowEx W.heap.size w' (.slice o7 xs.length j7) xs∧xs.map (·.1)=ps∧Below W.heap.size W w')(h1:1≤m1)(hm:m1≤n)(hnc:n≤c)(hk2:¬c=m1)(q:Option (St×List Wd))(hq:q=some (.mk 1 kd nm hs ps,ts.drop (m1+m2)))(hm2:m2≤800)(htot:1≤m1+m2∧m1+m2≤ts.length):
 Calls Tryz.prog 203 #[.slice (some ⟨g,off,none⟩) n c] w (StpP w ts q):=by
 have HCX:=Lib.hid hcx
 obtain⟨hgl,x0,x1,x2,x3⟩:=hcx w (Below.refl _ _)
 have n1:((n:Int)==0)=false:=by rw[beq_eq_false_iff_ne];omega
 have n2:(0:Int)<(n:Int):=by omega
 clear hcx
 have HD1:=Lib.hid hd
 have HD2:=Lib.hid h2
 have HD3:=Lib.hid h3
 clear hd h2 h3
 have HT:=Lib.hid ht
 have HQ:=Lib.hid hq
 clear ht hq
 have HP:=Lib.hid hp
 clear hp
 have n4:(0:Int)+(m1:Int)≤(n:Int):=by omega
 have n5:m1≤c:=by omega
 have n6:((m1:Int)==0)=false:=by rw[beq_eq_false_iff_ne];omega
 have n7:(m1:Int)≤(n:Int):=by omega
 have HTOT:=Lib.hid htot
 clear htot
 have n8:decide ((m2:Int)<0)=false:=decide_eq_false (by omega)
 go_enter Tryz.func203,Tryz.ntmps203
 go_wp2_with (first
  |(go_at_call 89
    refine(HD1.out _).mono ?_
    rintro e w1 ⟨rfl,hbw1⟩
    have Aw1:=Lib.hid ((S1.new w).call hbw1)
    clear x0 x1 x2 x3 hgl
    obtain⟨hgl,x0,x1,x2,x3⟩:=HCX.out w1 Aw1.out.2
    obtain⟨⟨r0,r1,r2,r3,r4⟩,rf,rl⟩:=Aw1.out.facts
    clear HD1 hbw1)
  |(go_at_call 89
    refine(HD2.out _).mono ?_
    rintro e w2 ⟨rfl,hbw2⟩
    have Aw2:=Lib.hid (Aw1.out.call hbw2)
    clear x0 x1 x2 x3 hgl
    obtain⟨hgl,x0,x1,x2,x3⟩:=HCX.out w2 Aw2.out.2
    clear r0 r1 r2 r3 r4 rf rl
    obtain⟨⟨r0,r1,r2,r3,r4⟩,rf,rl⟩:=Aw2.out.facts
    clear HD2 hbw2)
  |(go_at_call 89
    refine(HD3.out _).mono ?_
    rintro e w3 ⟨rfl,hbw3⟩
    have Aw3:=Lib.hid ((S2.new Aw2.out (.mk 1 0 [] false []) (.slice none 0 0)).call hbw3)
    clear x0 x1 x2 x3 hgl r0 r1 r2 r3 r4 rf rl
    obtain⟨hgl,x0,x1,x2,x3⟩:=HCX.out w3 Aw3.out.1.2
    obtain⟨⟨s0,s1,s2,s3,s4⟩,sf,sl,⟨r0,r1,r2,r3,r4⟩,rf,rl⟩:=Aw3.out.facts
    dsimp only[St.ax,St.tk,St.nm,St.has]at s0 s1 s2 s3
    clear HD3 hbw3)
  |(go_at_call 220
    refine(HT.out _ Aw3.out.1.2).mono ?_
    rintro e w5 ⟨rfl,hbw5⟩
    unfold teV
    have A5:=Lib.hid (Aw3.out.call hbw5)
    clear s0 s1 s2 s3 s4 sf sl r0 r1 r2 r3 r4 rf rl
    have B5:=Lib.hid ((A5.out.te (k:=kd) (n:=nm) (hs:=hs)).alloc (boxTe kd nm hs))
    obtain⟨⟨s0,s1,s2,s3,s4⟩,sf,sl,⟨r0,r1,r2,r3,r4⟩,rf,rl⟩:=A5.out.facts
    dsimp only[St.ax,St.tk,St.nm,St.has]at s0 s1 s2 s3
    clear HT hbw5)
  |(go_at_call 185
    refine(HP.out _ B5.out.1.2).mono ?_
    rintro e w7 ⟨xs,o7,j7,rfl,hr7,hx7,hbw7⟩
    have A7:=Lib.hid (B5.out.call hbw7)
    have HR7:=Lib.hid hr7
    have HX7:=Lib.hid hx7
    clear s0 s1 s2 s3 s4 sf sl r0 r1 r2 r3 r4 rf rl
    obtain⟨⟨s0,s1,s2,s3,s4⟩,sf,sl,⟨r0,r1,r2,r3,r4⟩,rf,rl⟩:=A7.out.facts
    dsimp only[St.ax,St.tk,St.nm,St.has]at s0 s1 s2 s3
    have hne:=A7.out.2.1
    clear HP hbw7 hr7 hx7))
 exact step_ok Tryz.results203 (w7.setCell ⟨w2.heap.size,4,none⟩ (.slice o7 xs.length j7)) (.mk 1 kd nm hs ps) (.slice o7 xs.length j7) (m1+m2) (A7.out.1.set A7.out.2.1 _) HQ.out HTOT.out.1 HTOT.out.2 (StOn.iff.2 (by
  rw[←HX7.out]
  exact HR7.out.on.move fun k hk hF=>⟨by have :=B5.out.1.lt;omega,heap_set_ne (a:=⟨w2.heap.size,4,none⟩) (show k≠w2.heap.size by have :=B5.out.lt;omega)⟩)) rfl (by first|rfl|go_num) rfl
set_option maxRecDepth 100000 in
set_option maxHeartbeats 2000000 in
theorem refStep_ch_p0 (w:World)(g off n c:Nat)(ts:List Wd)(x:Wd)(hcx:∀W,Below w.heap.size w W→Wc W g off x)(n0:0<n)(hB:n≤800)(hd:MkC x ⟨#[46]⟩ false)(h2:MkC x ⟨#[46,46]⟩ false)(h3:MkC x ⟨#[64]⟩ false)(k7:((x.k:Int)==7)=false)(m1:Nat)(kd:Int)(nm:List UInt8)(hs:Bool)(ht:∀W,Below w.heap.size w W→Calls Tryz.prog 220 #[.slice (some ⟨g,off,none⟩) m1 m1] W fun e w'=>e= .returned (.tuple #[teV (kd,nm,hs),.int .i64 (m1:Int)])∧Below W.heap.size W w')(m2:Nat)(ps:List Ex)(hp:∀W,Below w.heap.size w W→Calls Tryz.prog 185 #[.slice (some ⟨g,off,none⟩) 0 0] W fun e w'=>∃(xs:List (Ex×Value×Value)) (o7:Option Addr) (j7:Nat),e= .returned (.tuple #[.slice o7 xs.length j7,.int .i64 (m2:Int)])∧RowEx W.heap.size w' (.slice o7 xs.length j7) xs∧xs.map (·.1)=ps∧Below W.heap.size W w')(h1:1≤m1)(hm:m1≤n)(hnc:n≤c)(hc:m1=c)(hn:m1=n)(q:Option (St×List Wd))(hq:q=some (.mk 1 kd nm hs ps,ts.drop (m1+m2)))(hm2:m2≤800)(htot:1≤m1+m2∧m1+m2≤ts.length):
 Calls Tryz.prog 203 #[.slice (some ⟨g,off,none⟩) n c] w (StpP w ts q):=by
 have HCX:=Lib.hid hcx
 obtain⟨hgl,x0,x1,x2,x3⟩:=hcx w (Below.refl _ _)
 have n1:((n:Int)==0)=false:=by rw[beq_eq_false_iff_ne];omega
 have n2:(0:Int)<(n:Int):=by omega
 clear hcx
 have HD1:=Lib.hid hd
 have HD2:=Lib.hid h2
 have HD3:=Lib.hid h3
 clear hd h2 h3
 have HT:=Lib.hid ht
 have HQ:=Lib.hid hq
 clear ht hq
 have HP:=Lib.hid hp
 clear hp
 have n4:(0:Int)+(m1:Int)≤(n:Int):=by omega
 have n5:m1≤c:=by omega
 have n6:((m1:Int)==0)=false:=by rw[beq_eq_false_iff_ne];omega
 have n7:(m1:Int)≤(n:Int):=by omega
 have HTOT:=Lib.hid htot
 clear htot
 have n8:decide ((m2:Int)<0)=false:=decide_eq_false (by omega)
 subst hc hn
 go_enter Tryz.func203,Tryz.ntmps203
 go_wp2_with (first
  |(go_at_call 89
    refine(HD1.out _).mono ?_
    rintro e w1 ⟨rfl,hbw1⟩
    have Aw1:=Lib.hid ((S1.new w).call hbw1)
    clear x0 x1 x2 x3 hgl
    obtain⟨hgl,x0,x1,x2,x3⟩:=HCX.out w1 Aw1.out.2
    obtain⟨⟨r0,r1,r2,r3,r4⟩,rf,rl⟩:=Aw1.out.facts
    clear HD1 hbw1)
  |(go_at_call 89
    refine(HD2.out _).mono ?_
    rintro e w2 ⟨rfl,hbw2⟩
    have Aw2:=Lib.hid (Aw1.out.call hbw2)
    clear x0 x1 x2 x3 hgl
    obtain⟨hgl,x0,x1,x2,x3⟩:=HCX.out w2 Aw2.out.2
    clear r0 r1 r2 r3 r4 rf rl
    obtain⟨⟨r0,r1,r2,r3,r4⟩,rf,rl⟩:=Aw2.out.facts
    clear HD2 hbw2)
  |(go_at_call 89
    refine(HD3.out _).mono ?_
    rintro e w3 ⟨rfl,hbw3⟩
    have Aw3:=Lib.hid ((S2.new Aw2.out (.mk 1 0 [] false []) (.slice none 0 0)).call hbw3)
    clear x0 x1 x2 x3 hgl r0 r1 r2 r3 r4 rf rl
    obtain⟨hgl,x0,x1,x2,x3⟩:=HCX.out w3 Aw3.out.1.2
    obtain⟨⟨s0,s1,s2,s3,s4⟩,sf,sl,⟨r0,r1,r2,r3,r4⟩,rf,rl⟩:=Aw3.out.facts
    dsimp only[St.ax,St.tk,St.nm,St.has]at s0 s1 s2 s3
    clear HD3 hbw3)
  |(go_at_call 220
    refine(HT.out _ Aw3.out.1.2).mono ?_
    rintro e w5 ⟨rfl,hbw5⟩
    unfold teV
    have A5:=Lib.hid (Aw3.out.call hbw5)
    clear s0 s1 s2 s3 s4 sf sl r0 r1 r2 r3 r4 rf rl
    have B5:=Lib.hid ((A5.out.te (k:=kd) (n:=nm) (hs:=hs)).alloc (boxTe kd nm hs))
    obtain⟨⟨s0,s1,s2,s3,s4⟩,sf,sl,⟨r0,r1,r2,r3,r4⟩,rf,rl⟩:=A5.out.facts
    dsimp only[St.ax,St.tk,St.nm,St.has]at s0 s1 s2 s3
    clear HT hbw5)
  |(go_at_call 185
    refine(HP.out _ B5.out.1.2).mono ?_
    rintro e w7 ⟨xs,o7,j7,rfl,hr7,hx7,hbw7⟩
    have A7:=Lib.hid (B5.out.call hbw7)
    have HR7:=Lib.hid hr7
    have HX7:=Lib.hid hx7
    clear s0 s1 s2 s3 s4 sf sl r0 r1 r2 r3 r4 rf rl
    obtain⟨⟨s0,s1,s2,s3,s4⟩,sf,sl,⟨r0,r1,r2,r3,r4⟩,rf,rl⟩:=A7.out.facts
    dsimp only[St.ax,St.tk,St.nm,St.has]at s0 s1 s2 s3
    have hne:=A7.out.2.1
    clear HP hbw7 hr7 hx7))
 exact step_ok Tryz.results203 (w7.setCell ⟨w2.heap.size,4,none⟩ (.slice o7 xs.length j7)) (.mk 1 kd nm hs ps) (.slice o7 xs.length j7) (m1+m2) (A7.out.1.set A7.out.2.1 _) HQ.out HTOT.out.1 HTOT.out.2 (StOn.iff.2 (by
  rw[←HX7.out]
  exact HR7.out.on.move fun k hk hF=>⟨by have :=B5.out.1.lt;omega,heap_set_ne (a:=⟨w2.heap.size,4,none⟩) (show k≠w2.heap.size by have :=B5.out.lt;omega)⟩)) rfl (by first|rfl|go_num) rfl
end Char
namespace Char
open Go.RowKit Go.Lib
open Go.Proofs.YtlmpkpjjakallaaGreatDoor.Fig (outT outV)
theorem test_at {w:World}{g off c:Nat}{l:List Wd}(h:WSl w (some ⟨g,off,none⟩) c l)(K:Nat)(hK:K≤l.length)(hl:l.length≤800)(W:World)(hW:Below w.heap.size w W):Calls Tryz.prog 220 #[.slice (some ⟨g,off+K*4,none⟩) (l.length-K) (c-K)] W fun e w'=>e= .returned (.tuple #[teV (teO (testL (l.drop K))),.int .i64 (cntO (l.drop K) (testL (l.drop K)))])∧Below W.heap.size W w':=by
 have h1:=(h.below hW).sub K l.length hK (Nat.le_refl _)
 rw[List.take_length]at h1
 have :=refTest_any _ _ _ W h1 (by rw[List.length_drop];omega)
 rw[List.length_drop]at this
 exact this
theorem preds_at {N:Nat}{O:List Wd→Option Ex}(hO:OrC N O){w:World}{g off c:Nat}{l:List Wd}(h:WSl w (some ⟨g,off,none⟩) c l)(K:Nat)(hK:K≤l.length)(hn:l.length≤N)(hl:l.length≤800)(W:World)(hW:Below w.heap.size w W):Calls Tryz.prog 185 #[.slice (some ⟨g,off+K*4,none⟩) (l.length-K) (c-K)] W (PdP W (l.drop K) (predsD O ((l.drop K).length+1) (l.drop K) [])):=by
 have h1:=(h.below hW).sub K l.length hK (Nat.le_refl _)
 rw[List.take_length]at h1
 have :=refPreds_any N O hO _ _ _ W h1 (by rw[List.length_drop];omega) (by rw[List.length_drop];omega)
 rw[List.length_drop]at this ⊢
 exact this
theorem PdP.no {w w':World}{l:List Wd}{e:Ending}(h:PdP w l none e w'):e= .returned (.tuple #[.slice none 0 0,.int .i64 (-1)])∧Below w.heap.size w w':=by
 obtain⟨hb,⟨_,he⟩|⟨xs,r,v,hq,_⟩⟩:=h
 ·exact⟨he,hb⟩
 ·cases hq
theorem PdP.yes {w w':World}{l:List Wd}{ps:List Ex}{m:Nat}{e:Ending}(h:PdP w l (some (ps,l.drop m)) e w')(hm:m≤l.length):∃(xs:List (Ex×Value×Value)) (o7:Option Addr) (j7:Nat),e= .returned (.tuple #[.slice o7 xs.length j7,.int .i64 (m:Int)])∧RowEx w.heap.size w' (.slice o7 xs.length j7) xs∧xs.map (·.1)=ps∧Below w.heap.size w w':=by
 obtain⟨hb,⟨hq,_⟩|⟨xs,r,v,hq,hr,hx,he⟩⟩:=h
 ·cases hq
 ·rw[Option.some.injEq,Prod.mk.injEq]at hq
  obtain⟨hq1,hq2⟩:=hq
  obtain⟨o,j,rfl⟩:=hr.form
  refine⟨xs,o,j,?_,hr,hq1.symm,hb⟩
  rw[he,←hq2,List.length_drop,show(l.length:Int)-((l.length-m:Nat):Int)=(m:Int) by omega]
def tlS (O:List Wd→Option Ex)(a:Int)(t:List Wd):Option (St×List Wd):=match testL t with
 |none=>none
 |some (te,u)=>match predsD O (u.length+1) u [] with
  |none=>none
  |some (ps,r)=>some (.mk a te.1 te.2.1 te.2.2 ps,r)
theorem tlS_tn {O:List Wd→Option Ex}{a:Int}{t:List Wd}(h:testL t=none):tlS O a t=none:=by unfold tlS;rw[h]
theorem tlS_pn {O:List Wd→Option Ex}{a:Int}{t u:List Wd}{te:Te3}(h:testL t=some (te,u))(hp:predsD O (u.length+1) u []=none):tlS O a t=none:=by
 unfold tlS;rw[h];dsimp only;rw[hp]
theorem tlS_ok {O:List Wd→Option Ex}{a:Int}{t u r:List Wd}{te:Te3}{ps:List Ex}(h:testL t=some (te,u))(hp:predsD O (u.length+1) u []=some (ps,r)):tlS O a t=some (.mk a te.1 te.2.1 te.2.2 ps,r):=by
 unfold tlS;rw[h];dsimp only;rw[hp]
theorem wc_of {w:World}{g off c:Nat}{x:Wd}{r:List Wd}(h:WSl w (some ⟨g,off,none⟩) c (x::r))(W:World)(hW:Below w.heap.size w W):Wc W g off x:=by
 obtain⟨g',off',e,h1,h2,h3,h4,h5⟩:=(h.below hW).word 0 (by simp)
 cases e
 simp only[Nat.zero_mul,Nat.add_zero,List.getElem_cons_zero]at h2 h3 h4 h5
 exact⟨h1,h2,h3,h4,h5⟩
theorem mkC_of {x:Wd}{m:List UInt8}{b:Bool}(h:mkW m x=b)(W:World):Calls Tryz.prog 89 #[.agg #[.int .i64 (x.k:Int),.string (bs x.s),.int .i64 (outT x.n),.int .i64 (outV x.n)],.string (bs m)] W fun e w'=>e= .returned (.bool b)∧Below W.heap.size W w':=by
 have :=mark13_any x m W
 rw[h]at this
 exact this
theorem refStep_at {N:Nat}{O:List Wd→Option Ex}(hO:OrC N O)(w:World)(g off c:Nat)(x:Wd)(r l:List Wd)(hlr:l=x::r)(h:WSl w (some ⟨g,off,none⟩) c (x::r))(hn:l.length≤N)(hB:l.length≤800)(hd:mkW [46] x=false)(h2:mkW [46,46] x=false)(h3:mkW [64] x=true):
 Calls Tryz.prog 203 #[.slice (some ⟨g,off,none⟩) l.length c] w (StpP w l (tlS O 9 (l.drop 1))):=by
 have hws:WSl w (some ⟨g,off,none⟩) c l:=by rw[hlr];exact h
 have hc1:=hws.1
 have hn0:0<l.length:=by rw[hlr];simp
 have hK:1≤l.length:=hn0
 by_cases hcK:c=1
 ·have hlK:l.length=1:=by omega
  have e0:l.drop 1=[]:=List.drop_eq_nil_of_le (by omega)
  refine refStep_at_n0 w g off l.length c l x (wc_of h) hn0 hB (mkC_of hd) (mkC_of h2) (mkC_of h3) 0 [] false (fun W _=>refTest_any [] _ 0 W ⟨Nat.le_refl _,.inl rfl⟩ (by simp)) hcK hlK _ ?_
  rw[e0]
  exact tlS_tn rfl
 have HT:=fun W hW=>test_at hws 1 hK hB W hW
 cases ht:testL (l.drop 1) with
 |none=>
  rw[ht]at HT
  exact refStep_at_tn w g off l.length c l x (wc_of h) hn0 hB (mkC_of hd) (mkC_of h2) (mkC_of h3) 0 [] false HT hcK hc1 hK _ (tlS_tn ht)
 |some q=>
  obtain⟨te,u⟩:=q
  obtain⟨m1,m11,m12,hu⟩:=testL_suf ht
  have hlu:=congrArg List.length hu
  rw[List.length_drop,List.length_drop]at hlu
  rw[List.length_drop]at m12
  have hcnt:cntO (l.drop 1) (some (te,u))=(m1:Int):=by unfold cntO;dsimp only;rw[List.length_drop];omega
  rw[ht,hcnt]at HT
  have hu2:u=l.drop (1+m1):=by rw[hu,List.drop_drop]
  have HP:=fun W hW=>preds_at hO hws (1+m1) (by omega) hn hB W hW
  rw[←hu2]at HP
  cases hp:predsD O (u.length+1) u [] with
  |none=>
   rw[hp]at HP
   have hne:¬c=1+m1:=fun e=>by
    have :u=[]:=List.length_eq_zero_iff.1 (by omega)
    rw[this]at hp
    cases hp
   exact refStep_at_pn w g off l.length c l x (wc_of h) hn0 hB (mkC_of hd) (mkC_of h2) (mkC_of h3) m1 te.1 te.2.1 te.2.2 HT (fun W hW=>(HP W hW).mono fun e w' h=>PdP.no h) m11 (by omega) hc1 hcK hne _ (tlS_pn ht hp)
  |some q=>
   obtain⟨ps,v⟩:=q
   obtain⟨m2,m21,hv⟩:=predsD_suf _ _ _ _ _ hp
   have hv2:v=l.drop (1+m1+m2):=by rw[hv,hu2,List.drop_drop]
   have hq:tlS O 9 (l.drop 1)=some (.mk 9 te.1 te.2.1 te.2.2 ps,l.drop (1+m1+m2)):=by rw[tlS_ok ht hp,hv2]
   by_cases hce:c=1+m1
   ·have hln:l.length=1+m1:=by omega
    have hun:u=[]:=List.length_eq_zero_iff.1 (by omega)
    have hm2:m2=0:=by rw[hun]at m21;simpa using m21
    subst hm2
    have hps:ps=[]:=by rw[hun]at hp;cases hp;rfl
    subst hps
    rw[show l.length-1=m1 by omega,show c-1=m1 by omega]at HT
    exact refStep_at_p0 w g off l.length c l x (wc_of h) hn0 hB (mkC_of hd) (mkC_of h2) (mkC_of h3) m1 te.1 te.2.1 te.2.2 HT 0 [] (fun W hW=>(refPreds_any N O hO [] _ 0 W ⟨Nat.le_refl _,.inl rfl⟩ (by simp) (by simp)).mono fun e w' h=>PdP.yes (m:=0) (l:=[]) h (by simp)) m11 (by omega) hc1 hcK hce hln _ hq (by omega) ⟨by omega,by omega⟩
   ·rw[hp,hv]at HP
    exact refStep_at_ok w g off l.length c l x (wc_of h) hn0 hB (mkC_of hd) (mkC_of h2) (mkC_of h3) m1 te.1 te.2.1 te.2.2 HT m2 ps (fun W hW=>(HP W hW).mono fun e w' h=>PdP.yes h m21) m11 (by omega) hc1 hcK hce _ hq (by omega) ⟨by omega,by omega⟩
theorem refStep_ch {N:Nat}{O:List Wd→Option Ex}(hO:OrC N O)(w:World)(g off c:Nat)(x:Wd)(r l:List Wd)(hlr:l=x::r)(h:WSl w (some ⟨g,off,none⟩) c (x::r))(hn:l.length≤N)(hB:l.length≤800)(hd:mkW [46] x=false)(h2:mkW [46,46] x=false)(h3:mkW [64] x=false)(k7:((x.k:Int)==7)=false):
 Calls Tryz.prog 203 #[.slice (some ⟨g,off,none⟩) l.length c] w (StpP w l (tlS O 1 (l))):=by
 have hws:WSl w (some ⟨g,off,none⟩) c l:=by rw[hlr];exact h
 have hc1:=hws.1
 have hn0:0<l.length:=by rw[hlr];simp
 have hK:0≤l.length:=Nat.zero_le _
 have HT:=fun W hW=>test_at hws 0 hK hB W hW
 simp only[Nat.zero_mul,Nat.add_zero,Nat.sub_zero,List.drop_zero]at HT
 cases ht:testL (l) with
 |none=>
  rw[ht]at HT
  exact refStep_ch_tn w g off l.length c l x (wc_of h) hn0 hB (mkC_of hd) (mkC_of h2) (mkC_of h3) k7 0 [] false HT hc1 _ (tlS_tn ht)
 |some q=>
  obtain⟨te,u⟩:=q
  obtain⟨m1,m11,m12,hu⟩:=testL_suf ht
  have hlu:=congrArg List.length hu
  rw[List.length_drop]at hlu
  skip
  have hcnt:cntO (l) (some (te,u))=(m1:Int):=by unfold cntO;dsimp only;omega
  rw[ht,hcnt]at HT
  have hu2:u=l.drop (m1):=by rw[hu]
  have HP:=fun W hW=>preds_at hO hws (m1) (by omega) hn hB W hW
  rw[←hu2]at HP
  cases hp:predsD O (u.length+1) u [] with
  |none=>
   rw[hp]at HP
   have hne:¬c=m1:=fun e=>by
    have :u=[]:=List.length_eq_zero_iff.1 (by omega)
    rw[this]at hp
    cases hp
   exact refStep_ch_pn w g off l.length c l x (wc_of h) hn0 hB (mkC_of hd) (mkC_of h2) (mkC_of h3) k7 m1 te.1 te.2.1 te.2.2 HT (fun W hW=>(HP W hW).mono fun e w' h=>PdP.no h) m11 (by omega) hc1 hne _ (tlS_pn ht hp)
  |some q=>
   obtain⟨ps,v⟩:=q
   obtain⟨m2,m21,hv⟩:=predsD_suf _ _ _ _ _ hp
   have hv2:v=l.drop (m1+m2):=by rw[hv,hu2,List.drop_drop]
   have hq:tlS O 1 (l)=some (.mk 1 te.1 te.2.1 te.2.2 ps,l.drop (m1+m2)):=by rw[tlS_ok ht hp,hv2]
   by_cases hce:c=m1
   ·have hln:l.length=m1:=by omega
    have hun:u=[]:=List.length_eq_zero_iff.1 (by omega)
    have hm2:m2=0:=by rw[hun]at m21;simpa using m21
    subst hm2
    have hps:ps=[]:=by rw[hun]at hp;cases hp;rfl
    subst hps
    rw[hln,hce]at HT
    exact refStep_ch_p0 w g off l.length c l x (wc_of h) hn0 hB (mkC_of hd) (mkC_of h2) (mkC_of h3) k7 m1 te.1 te.2.1 te.2.2 HT 0 [] (fun W hW=>(refPreds_any N O hO [] _ 0 W ⟨Nat.le_refl _,.inl rfl⟩ (by simp) (by simp)).mono fun e w' h=>PdP.yes (m:=0) (l:=[]) h (by simp)) m11 (by omega) hc1 hce.symm hln.symm _ hq (by omega) ⟨by omega,by omega⟩
   ·rw[hp,hv]at HP
    exact refStep_ch_ok w g off l.length c l x (wc_of h) hn0 hB (mkC_of hd) (mkC_of h2) (mkC_of h3) k7 m1 te.1 te.2.1 te.2.2 HT m2 ps (fun W hW=>(HP W hW).mono fun e w' h=>PdP.yes h m21) m11 (by omega) hc1 hce _ hq (by omega) ⟨by omega,by omega⟩
theorem refStep_ax {N:Nat}{O:List Wd→Option Ex}(hO:OrC N O)(w:World)(g off c:Nat)(x:Wd)(r l:List Wd)(hlr:l=x::r)(h:WSl w (some ⟨g,off,none⟩) c (x::r))(hn:l.length≤N)(hB:l.length≤800)(hd:mkW [46] x=false)(h2:mkW [46,46] x=false)(h3:mkW [64] x=false)(k7:((x.k:Int)==7)=true)(y:Wd)(hcy:∀W,Below w.heap.size w W→W.cell? ⟨g,off+4,none⟩=some (.int .i64 (y.k:Int))∧W.cell? ⟨g,off+5,none⟩=some (.string (bs y.s))∧W.cell? ⟨g,off+6,none⟩=some (.int .i64 (outT y.n))∧W.cell? ⟨g,off+7,none⟩=some (.int .i64 (outV y.n)))(ha:ofX x.s≠0)(hy:mkW [58,58] y=true)(n22:2≤l.length):
 Calls Tryz.prog 203 #[.slice (some ⟨g,off,none⟩) l.length c] w (StpP w l (tlS O (ofX x.s:Int) (l.drop 2))):=by
 have hws:WSl w (some ⟨g,off,none⟩) c l:=by rw[hlr];exact h
 have hc1:=hws.1
 have hn0:0<l.length:=by rw[hlr];simp
 have hK:2≤l.length:=n22
 by_cases hcK:c=2
 ·have hlK:l.length=2:=by omega
  have e0:l.drop 2=[]:=List.drop_eq_nil_of_le (by omega)
  refine refStep_ax_n0 w g off l.length c l x (wc_of h) hn0 hB (mkC_of hd) (mkC_of h2) (mkC_of h3) k7 y hcy ha (mkC_of hy) n22 0 [] false (fun W _=>refTest_any [] _ 0 W ⟨Nat.le_refl _,.inl rfl⟩ (by simp)) hcK hlK _ ?_
  rw[e0]
  exact tlS_tn rfl
 have HT:=fun W hW=>test_at hws 2 hK hB W hW
 cases ht:testL (l.drop 2) with
 |none=>
  rw[ht]at HT
  exact refStep_ax_tn w g off l.length c l x (wc_of h) hn0 hB (mkC_of hd) (mkC_of h2) (mkC_of h3) k7 y hcy ha (mkC_of hy) n22 0 [] false HT hcK hc1 hK _ (tlS_tn ht)
 |some q=>
  obtain⟨te,u⟩:=q
  obtain⟨m1,m11,m12,hu⟩:=testL_suf ht
  have hlu:=congrArg List.length hu
  rw[List.length_drop,List.length_drop]at hlu
  rw[List.length_drop]at m12
  have hcnt:cntO (l.drop 2) (some (te,u))=(m1:Int):=by unfold cntO;dsimp only;rw[List.length_drop];omega
  rw[ht,hcnt]at HT
  have hu2:u=l.drop (2+m1):=by rw[hu,List.drop_drop]
  have HP:=fun W hW=>preds_at hO hws (2+m1) (by omega) hn hB W hW
  rw[←hu2]at HP
  cases hp:predsD O (u.length+1) u [] with
  |none=>
   rw[hp]at HP
   have hne:¬c=2+m1:=fun e=>by
    have :u=[]:=List.length_eq_zero_iff.1 (by omega)
    rw[this]at hp
    cases hp
   exact refStep_ax_pn w g off l.length c l x (wc_of h) hn0 hB (mkC_of hd) (mkC_of h2) (mkC_of h3) k7 y hcy ha (mkC_of hy) n22 m1 te.1 te.2.1 te.2.2 HT (fun W hW=>(HP W hW).mono fun e w' h=>PdP.no h) m11 (by omega) hc1 hcK hne _ (tlS_pn ht hp)
  |some q=>
   obtain⟨ps,v⟩:=q
   obtain⟨m2,m21,hv⟩:=predsD_suf _ _ _ _ _ hp
   have hv2:v=l.drop (2+m1+m2):=by rw[hv,hu2,List.drop_drop]
   have hq:tlS O (ofX x.s:Int) (l.drop 2)=some (.mk (ofX x.s:Int) te.1 te.2.1 te.2.2 ps,l.drop (2+m1+m2)):=by rw[tlS_ok ht hp,hv2]
   by_cases hce:c=2+m1
   ·have hln:l.length=2+m1:=by omega
    have hun:u=[]:=List.length_eq_zero_iff.1 (by omega)
    have hm2:m2=0:=by rw[hun]at m21;simpa using m21
    subst hm2
    have hps:ps=[]:=by rw[hun]at hp;cases hp;rfl
    subst hps
    rw[show l.length-2=m1 by omega,show c-2=m1 by omega]at HT
    exact refStep_ax_p0 w g off l.length c l x (wc_of h) hn0 hB (mkC_of hd) (mkC_of h2) (mkC_of h3) k7 y hcy ha (mkC_of hy) n22 m1 te.1 te.2.1 te.2.2 HT 0 [] (fun W hW=>(refPreds_any N O hO [] _ 0 W ⟨Nat.le_refl _,.inl rfl⟩ (by simp) (by simp)).mono fun e w' h=>PdP.yes (m:=0) (l:=[]) h (by simp)) m11 (by omega) hc1 hcK hce hln _ hq (by omega) ⟨by omega,by omega⟩
   ·rw[hp,hv]at HP
    exact refStep_ax_ok w g off l.length c l x (wc_of h) hn0 hB (mkC_of hd) (mkC_of h2) (mkC_of h3) k7 y hcy ha (mkC_of hy) n22 m1 te.1 te.2.1 te.2.2 HT m2 ps (fun W hW=>(HP W hW).mono fun e w' h=>PdP.yes h m21) m11 (by omega) hc1 hcK hce _ hq (by omega) ⟨by omega,by omega⟩
theorem refStep_any {N:Nat}{O:List Wd→Option Ex}(hO:OrC N O)(hN:N≤400):StC N O:=by
 intro l o c w h hn
 cases l with
 |nil=>exact refStep_nil w o c O
 |cons x r=>
  obtain⟨g,off,rfl,_⟩:=h.word 0 (by simp)
  have hn0:0<(x::r).length:=by simp
  have hB:(x::r).length≤800:=by omega
  cases hd:mkW [46] x with
  |true=>exact refStep_dot w g off _ c (x::r) x (wc_of h) hn0 hB (mkC_of hd) _ (by unfold stpDc;rw[ahead_mk,if_pos hd];rfl) hn0
  |false=>
   cases h2:mkW [46,46] x with
   |true=>exact refStep_two w g off _ c (x::r) x (wc_of h) hn0 hB (mkC_of hd) (mkC_of h2) _ (by unfold stpDc;rw[ahead_mk,if_neg (by rw[hd];simp),ahead_mk,if_pos h2];rfl) hn0
   |false=>
    have hs:stpDc O (x::r)=match axisL (x::r) with
     |none=>none
     |some (a,t)=>tlS O a t:=by
     unfold stpDc
     rw[ahead_mk,if_neg (by rw[hd];simp),ahead_mk,if_neg (by rw[h2];simp)]
     rfl
    cases h3:mkW [64] x with
    |true=>
     have ha:axisL (x::r)=some (9,r):=by unfold axisL;rw[ahead_mk,if_pos h3];rfl
     rw[hs,ha]
     exact refStep_at hO w g off c x r _ rfl h hn hB hd h2 h3
    |false=>
     cases h7:((x.k:Int)==7) with
     |false=>
      have ha:axisL (x::r)=some (1,x::r):=by
       unfold axisL
       rw[ahead_mk,if_neg (by rw[h3];simp),if_neg (by rw[atL_cons,h7];simp)]
      rw[hs,ha]
      exact refStep_ch hO w g off c x r _ rfl h hn hB hd h2 h3 h7
     |true=>
      have ha:axisL (x::r)=if ofX x.s=0 then none else (mustW [58,58] r).map fun t=>((ofX x.s:Int),t):=by
       unfold axisL
       rw[ahead_mk,if_neg (by rw[h3];simp),if_pos (by rw[atL_cons];exact h7)]
      by_cases h0:ofX x.s=0
      ·rw[hs,ha,if_pos h0]
       exact refStep_ax_f0 w g off _ c (x::r) x (wc_of h) hn0 hB (mkC_of hd) (mkC_of h2) (mkC_of h3) h7 h0 _ rfl
      ·rw[if_neg h0]at ha
       cases r with
       |nil=>
        rw[hs,ha]
        exact refStep_ax_f1 w g off _ c [x] x (wc_of h) (mkC_of hd) (mkC_of h2) (mkC_of h3) h7 h0 rfl _ rfl
       |cons y t=>
        have hcy:∀W,Below w.heap.size w W→W.cell? ⟨g,off+4,none⟩=some (.int .i64 (y.k:Int))∧W.cell? ⟨g,off+5,none⟩=some (.string (bs y.s))∧W.cell? ⟨g,off+6,none⟩=some (.int .i64 (outT y.n))∧W.cell? ⟨g,off+7,none⟩=some (.int .i64 (outV y.n)):=fun W hW=>by
         obtain⟨g',off',e,_,y0,y1,y2,y3⟩:=(h.below hW).word 1 (by simp)
         cases e
         simp only[Nat.one_mul,List.getElem_cons_succ,List.getElem_cons_zero,Nat.add_assoc,Nat.reduceAdd]at y0 y1 y2 y3
         exact⟨y0,y1,y2,y3⟩
        have n22:2≤(x::y::t).length:=by simp
        cases hy:mkW [58,58] y with
        |false=>
         rw[hs,ha,mustW_cons,if_neg (by rw[hy];simp)]
         exact refStep_ax_f2 w g off _ c (x::y::t) x (wc_of h) hn0 hB (mkC_of hd) (mkC_of h2) (mkC_of h3) h7 y hcy h0 (mkC_of hy) n22 _ rfl
        |true=>
         rw[hs,ha,mustW_cons,if_pos hy]
         exact refStep_ax hO w g off c x (y::t) _ rfl h hn hB hd h2 h3 h7 y hcy h0 hy n22
end Char
namespace Char
open Go.RowKit Go.Lib
open Go.Proofs.YtlmpkpjjakallaaGreatDoor.Fig (outT outV)
set_option maxRecDepth 100000 in
set_option maxHeartbeats 2000000 in
theorem refLoc_one1 (w:World)(g off c:Nat)(x:Wd)(hcx:∀W,Below w.heap.size w W→Wc W g off x)(k5:((x.k:Int)==5)=true)(s1:((bs x.s).toList==[47])=true)(n:Nat)(hn:n=1)(r:Option Ex)(hr:r=some (.mk 16 [] 0 0 true [] [])):
 Calls Tryz.prog 183 #[.slice (some ⟨g,off,none⟩) n c] w (OrP w r):=by
 have HCX:=Lib.hid hcx
 obtain⟨hgl,x0,x1,x2,x3⟩:=hcx w (Below.refl _ _)
 clear hcx
 have HR:=Lib.hid hr
 have HA:=L1.new w true
 obtain⟨⟨r0,r1,r2,r3,r4,r5,r6⟩,rf,⟨d0,d1,d2,d3,d4,d5,d6⟩,df,dl,rl⟩:=HA.facts
 clear hr
 subst hn
 generalize bs x.s=S at *
 go_enter Tryz.func183,Tryz.ntmps183
 go_wp2_with fail
 go_region_with fail
 all_goals (go_wp2_with fail)
 all_goals exact loc_endO Tryz.results183 (b:=true) (by rw[HR.out];rfl) (by simp[Act.put]) (by simp[Act.put]) rfl
set_option maxRecDepth 100000 in
set_option maxHeartbeats 2000000 in
theorem refLoc_one (w:World)(g off n c:Nat)(x:Wd)(hcx:∀W,Below w.heap.size w W→Wc W g off x)(n0:0<n)(k5:((x.k:Int)==5)=true)(s1:((bs x.s).toList==[47])=true)(q:Option (List St))(hs:∀W,Below w.heap.size w W→Calls Tryz.prog 186 #[.slice (some ⟨g,off,none⟩) n c] W (SsP2 W q))(hn:¬n=1)(r:Option Ex)(hr:r=q.map fun ss=> .mk 16 [] 0 0 true [] ss):
 Calls Tryz.prog 183 #[.slice (some ⟨g,off,none⟩) n c] w (OrP w r):=by
 have HCX:=Lib.hid hcx
 obtain⟨hgl,x0,x1,x2,x3⟩:=hcx w (Below.refl _ _)
 have n2:(0:Int)<(n:Int):=by omega
 clear hcx
 have HR:=Lib.hid hr
 have HS:=Lib.hid hs
 have n3:((n:Int)==1)=false:=by rw[beq_eq_false_iff_ne];omega
 clear hr hs hn
 generalize bs x.s=S at *
 go_enter Tryz.func183,Tryz.ntmps183
 go_wp2_with (first
  |(go_at_call 186
    refine(HS.out _ (L1.new w true).2.2).mono ?_
    intro e w3 h
    obtain⟨ss,o3,j3,b,rfl,hsd,hq3,hb⟩:=SsP2.any h
    have A3:=Lib.hid (((L1.new w true)).call hb)
    have HSD:=Lib.hid hsd
    have HQ3:=Lib.hid hq3
    obtain⟨⟨r0,r1,r2,r3,r4,r5,r6⟩,rf,⟨d0,d1,d2,d3,d4,d5,d6⟩,df,dl,rl⟩:=A3.out.facts
    clear HS h hsd hq3 hb))
 exact loc_end Tryz.results183 w3 A3.out (HSD.out.low (by simp)) (by rw[HR.out,HQ3.out];cases b<;>rfl) rfl rfl rfl
set_option maxRecDepth 100000 in
set_option maxHeartbeats 2000000 in
theorem refLoc_two1 (w:World)(g off c:Nat)(x:Wd)(hcx:∀W,Below w.heap.size w W→Wc W g off x)(k5:((x.k:Int)==5)=true)(s1:((bs x.s).toList==[47])=false)(s2:((bs x.s).toList==[47,47])=true)(n:Nat)(hn:n=1)(r:Option Ex)(hr:r=none):
 Calls Tryz.prog 183 #[.slice (some ⟨g,off,none⟩) n c] w (OrP w r):=by
 have HCX:=Lib.hid hcx
 obtain⟨hgl,x0,x1,x2,x3⟩:=hcx w (Below.refl _ _)
 clear hcx
 have HR:=Lib.hid hr
 have HA:=L1.new w true
 obtain⟨⟨r0,r1,r2,r3,r4,r5,r6⟩,rf,⟨d0,d1,d2,d3,d4,d5,d6⟩,df,dl,rl⟩:=HA.facts
 clear hr
 subst hn
 generalize bs x.s=S at *
 go_enter Tryz.func183,Tryz.ntmps183
 go_wp2_with fail
 go_region_with fail
 all_goals (go_wp2_with fail)
 all_goals exact loc_endO Tryz.results183 (b:=false) (by rw[HR.out];rfl) (by simp[Act.put]) (by simp[Act.put]) rfl
set_option maxRecDepth 100000 in
set_option maxHeartbeats 2000000 in
theorem refLoc_two (w:World)(g off n c:Nat)(x:Wd)(hcx:∀W,Below w.heap.size w W→Wc W g off x)(n0:0<n)(k5:((x.k:Int)==5)=true)(s1:((bs x.s).toList==[47])=false)(s2:((bs x.s).toList==[47,47])=true)(q:Option (List St))(hs:∀W,Below w.heap.size w W→Calls Tryz.prog 186 #[.slice (some ⟨g,off,none⟩) n c] W (SsP2 W q))(hn:¬n=1)(r:Option Ex)(hr:r=q.map fun ss=> .mk 16 [] 0 0 true [] ss):
 Calls Tryz.prog 183 #[.slice (some ⟨g,off,none⟩) n c] w (OrP w r):=by
 have HCX:=Lib.hid hcx
 obtain⟨hgl,x0,x1,x2,x3⟩:=hcx w (Below.refl _ _)
 have n2:(0:Int)<(n:Int):=by omega
 clear hcx
 have HR:=Lib.hid hr
 have HS:=Lib.hid hs
 have n3:((n:Int)==1)=false:=by rw[beq_eq_false_iff_ne];omega
 clear hr hs hn
 generalize bs x.s=S at *
 go_enter Tryz.func183,Tryz.ntmps183
 go_wp2_with (first
  |(go_at_call 186
    refine(HS.out _ (L1.new w true).2.2).mono ?_
    intro e w3 h
    obtain⟨ss,o3,j3,b,rfl,hsd,hq3,hb⟩:=SsP2.any h
    have A3:=Lib.hid (((L1.new w true)).call hb)
    have HSD:=Lib.hid hsd
    have HQ3:=Lib.hid hq3
    obtain⟨⟨r0,r1,r2,r3,r4,r5,r6⟩,rf,⟨d0,d1,d2,d3,d4,d5,d6⟩,df,dl,rl⟩:=A3.out.facts
    clear HS h hsd hq3 hb))
 exact loc_end Tryz.results183 w3 A3.out (HSD.out.low (by simp)) (by rw[HR.out,HQ3.out];cases b<;>rfl) rfl rfl rfl
theorem steps_bar {O:List Wd→Option Ex}(l:List Wd):stepsD O ((barWd::l).length+1) (barWd::l) []=match stpDc O l with
 |none=>none
 |some (s,t)=>stepsD O (t.length+1) t [s]:=by
 rw[stepsD_one (show opMk [47] barWd=true from rfl)]
 unfold stepsS
 cases hs:stpDc O l with
 |none=>rfl
 |some q=>
  obtain⟨s,t⟩:=q
  dsimp only
  obtain⟨m,m1,m2,rfl⟩:=stpDc_suf hs
  exact stepsD_fuel _ _ _ _ (by rw[List.length_drop,List.length_cons];omega) (by omega)
set_option maxRecDepth 100000 in
set_option maxHeartbeats 2000000 in
theorem refLoc_no5 (w:World)(g off n c:Nat)(x:Wd)(hcx:∀W,Below w.heap.size w W→Wc W g off x)(n0:0<n)(k5:((x.k:Int)==5)=false)(ts:List Wd)(hw:WSl w (some ⟨g,off,none⟩) c ts)(hl:ts.length=n)(hB:n≤400)(q:Option (List St))(hs:∀(o:Option Addr) (j:Nat) (W:World),WSl W o j (barWd::ts)→Calls Tryz.prog 186 #[.slice o (n+1) j] W (SsP2 W q))(r:Option Ex)(hr:r=q.map fun ss=> .mk 16 [] 0 0 false [] ss):
 Calls Tryz.prog 183 #[.slice (some ⟨g,off,none⟩) n c] w (OrP w r):=by
 have HCX:=Lib.hid hcx
 obtain⟨hgl,x0,x1,x2,x3⟩:=hcx w (Below.refl _ _)
 have n2:(0:Int)<(n:Int):=by omega
 clear hcx
 have HR:=Lib.hid hr
 have HS:=Lib.hid hs
 have HW:=Lib.hid hw
 have HL:=Lib.hid hl
 clear hr hs hw hl
 skip
 go_enter Tryz.func183,Tryz.ntmps183
 go_wp2_with (first
  |(at_builtin
    refine wpList_catWd (B:=w.heap.size+2) (xs:=[barWd]) (ys:=ts) (W:=((w.alloc (boxEx ex0 (.slice none 0 0) (.slice none 0 0))).alloc (boxEx (.mk 16 [] 0 0 false [] []) (.slice none 0 0) (.slice none 0 0))).alloc (boxWd barWd)) rfl (.tmp 50) (.tmp 51) rfl (g:=g) (off:=off) (cap:=c) (n:=n) (OwnsWd.one _ barWd (by simp only[World.size_alloc];omega)) ?_ HL.out (by simp[Act.eval]) (by simp[Act.eval]) (by simp only[World.size_alloc];omega) (by rw[HL.out];simp only[List.length_cons,List.length_nil];omega) ?_
    ·rcases (HW.out.below (((L1.new w false).call (below_box (boxWd barWd))).2.2)).2 with h0|⟨g',off',e,h0⟩
     ·rw[h0]
      intro k hk
      cases hk
     ·cases e
      exact h0
    intro v' w2 hr hb
    obtain⟨o2,j2,hv⟩:=hr.form
    have hv2:v'= .slice o2 (n+1) j2:=by rw[hv];simp[HL.out]
    subst hv2
    clear hv
    have hA2:L1 w false w2:=((L1.new w false).call (below_box (boxWd barWd))).up hb
    have A2:=Lib.hid hA2
    have hws:WSl w2 o2 j2 (barWd::ts):=OwnsWd.wsl (B:=w.heap.size+2) (by rw[show(barWd::ts).length=n+1 by rw[List.length_cons,HL.out]];exact hr)
    have HWS:=Lib.hid hws
    clear hr hb hA2 hws)
  |(go_at_call 186
    refine(HS.out o2 j2 w2 HWS.out).mono ?_
    intro e w3 h
    obtain⟨ss,o3,j3,b,rfl,hsd,hq3,hb⟩:=SsP2.any h
    have A3:=Lib.hid (A2.out.call hb)
    have HSD:=Lib.hid hsd
    have HQ3:=Lib.hid hq3
    obtain⟨⟨r0,r1,r2,r3,r4,r5,r6⟩,rf,⟨d0,d1,d2,d3,d4,d5,d6⟩,df,dl,rl⟩:=A3.out.facts
    clear HS h hsd hq3 hb))
 exact loc_end Tryz.results183 w3 A3.out (HSD.out.low (by have :=A2.out.lt;omega)) (by rw[HR.out,HQ3.out];cases b<;>rfl) rfl rfl rfl
set_option maxRecDepth 100000 in
set_option maxHeartbeats 2000000 in
theorem refLoc_non (w:World)(g off n c:Nat)(x:Wd)(hcx:∀W,Below w.heap.size w W→Wc W g off x)(n0:0<n)(k5:((x.k:Int)==5)=true)(s1:((bs x.s).toList==[47])=false)(s2:((bs x.s).toList==[47,47])=false)(ts:List Wd)(hw:WSl w (some ⟨g,off,none⟩) c ts)(hl:ts.length=n)(hB:n≤400)(q:Option (List St))(hs:∀(o:Option Addr) (j:Nat) (W:World),WSl W o j (barWd::ts)→Calls Tryz.prog 186 #[.slice o (n+1) j] W (SsP2 W q))(r:Option Ex)(hr:r=q.map fun ss=> .mk 16 [] 0 0 false [] ss):
 Calls Tryz.prog 183 #[.slice (some ⟨g,off,none⟩) n c] w (OrP w r):=by
 have HCX:=Lib.hid hcx
 obtain⟨hgl,x0,x1,x2,x3⟩:=hcx w (Below.refl _ _)
 have n2:(0:Int)<(n:Int):=by omega
 clear hcx
 have HR:=Lib.hid hr
 have HS:=Lib.hid hs
 have HW:=Lib.hid hw
 have HL:=Lib.hid hl
 clear hr hs hw hl
 generalize bs x.s=S at *
 go_enter Tryz.func183,Tryz.ntmps183
 go_wp2_with (first
  |(at_builtin
    refine wpList_catWd (B:=w.heap.size+2) (xs:=[barWd]) (ys:=ts) (W:=((w.alloc (boxEx ex0 (.slice none 0 0) (.slice none 0 0))).alloc (boxEx (.mk 16 [] 0 0 false [] []) (.slice none 0 0) (.slice none 0 0))).alloc (boxWd barWd)) rfl (.tmp 50) (.tmp 51) rfl (g:=g) (off:=off) (cap:=c) (n:=n) (OwnsWd.one _ barWd (by simp only[World.size_alloc];omega)) ?_ HL.out (by simp[Act.eval]) (by simp[Act.eval]) (by simp only[World.size_alloc];omega) (by rw[HL.out];simp only[List.length_cons,List.length_nil];omega) ?_
    ·rcases (HW.out.below (((L1.new w false).call (below_box (boxWd barWd))).2.2)).2 with h0|⟨g',off',e,h0⟩
     ·rw[h0]
      intro k hk
      cases hk
     ·cases e
      exact h0
    intro v' w2 hr hb
    obtain⟨o2,j2,hv⟩:=hr.form
    have hv2:v'= .slice o2 (n+1) j2:=by rw[hv];simp[HL.out]
    subst hv2
    clear hv
    have hA2:L1 w false w2:=((L1.new w false).call (below_box (boxWd barWd))).up hb
    have A2:=Lib.hid hA2
    have hws:WSl w2 o2 j2 (barWd::ts):=OwnsWd.wsl (B:=w.heap.size+2) (by rw[show(barWd::ts).length=n+1 by rw[List.length_cons,HL.out]];exact hr)
    have HWS:=Lib.hid hws
    clear hr hb hA2 hws)
  |(go_at_call 186
    refine(HS.out o2 j2 w2 HWS.out).mono ?_
    intro e w3 h
    obtain⟨ss,o3,j3,b,rfl,hsd,hq3,hb⟩:=SsP2.any h
    have A3:=Lib.hid (A2.out.call hb)
    have HSD:=Lib.hid hsd
    have HQ3:=Lib.hid hq3
    obtain⟨⟨r0,r1,r2,r3,r4,r5,r6⟩,rf,⟨d0,d1,d2,d3,d4,d5,d6⟩,df,dl,rl⟩:=A3.out.facts
    clear HS h hsd hq3 hb))
 exact loc_end Tryz.results183 w3 A3.out (HSD.out.low (by have :=A2.out.lt;omega)) (by rw[HR.out,HQ3.out];cases b<;>rfl) rfl rfl rfl
end Char
end Go.Proofs.YtlmpkpjjakallaaGreatDoor
