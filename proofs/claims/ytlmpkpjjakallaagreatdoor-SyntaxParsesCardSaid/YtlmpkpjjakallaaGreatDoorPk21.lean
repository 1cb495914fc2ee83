import Derived.Test.YtlmpkpjjakallaaGreatDoorPk18
namespace Go.Proofs.YtlmpkpjjakallaaGreatDoor
namespace Char
open Go.RowKit Go.Lib
open Go.Proofs.YtlmpkpjjakallaaGreatDoor.Fig (outT outV)
set_option maxRecDepth 100000 in
set_option maxHeartbeats 2000000 in
theorem refStep_ax_n0 (w:World)(g off n c:Nat)(ts:List Wd)(x:Wd)(hcx:∀W,Below w.heap.size w W→Wc W g off x)(n0:0<n)(hB:n≤800)(hd:MkC x ⟨#[46]⟩ false)(h2:MkC x ⟨#[46,46]⟩ false)(h3:MkC x ⟨#[64]⟩ false)(k7:((x.k:Int)==7)=true)(y:Wd)(hcy:∀W,Below w.heap.size w W→W.cell? ⟨g,off+4,none⟩=some (.int .i64 (y.k:Int))∧W.cell? ⟨g,off+5,none⟩=some (.string (bs y.s))∧W.cell? ⟨g,off+6,none⟩=some (.int .i64 (outT y.n))∧W.cell? ⟨g,off+7,none⟩=some (.int .i64 (outV y.n)))(ha:ofX x.s≠0)(hy:MkC y ⟨#[58,58]⟩ true)(n22:2≤n)(kd:Int)(nm:List UInt8)(hs:Bool)(ht:∀W,Below w.heap.size w W→Calls Tryz.prog 220 #[.slice (some ⟨g,off,none⟩) 0 0] W fun e w'=>e= .returned (.tuple #[teV (kd,nm,hs),.int .i64 0])∧Below W.heap.size W w')(hc:c=2)(hn:n=2)(q:Option (St×List Wd))(hq:q=none):
 Calls Tryz.prog 203 #[.slice (some ⟨g,off,none⟩) n c] w (StpP w ts q):=by
 have HCX:=Lib.hid hcx
 obtain⟨hgl,x0,x1,x2,x3⟩:=hcx w (Below.refl _ _)
 have n1:((n:Int)==0)=false:=by rw[beq_eq_false_iff_ne];omega
 have n2:(0:Int)<(n:Int):=by omega
 clear hcx
 have HD1:=Lib.hid hd
 have HD2:=Lib.hid h2
 have HD3:=Lib.hid h3
 clear hd h2 h3
 have HCY:=Lib.hid hcy
 have HY:=Lib.hid hy
 clear hcy hy
 have HT:=Lib.hid ht
 have HQ:=Lib.hid hq
 clear ht hq
 subst hc hn
 go_enter Tryz.func203,Tryz.ntmps203
 go_wp2_with (first
  |(go_at_call 89
    refine(HD1.out _).mono ?_
    rintro e w1 ⟨rfl,hbw1⟩
    have Aw1:=Lib.hid ((S1.new w).call hbw1)
    clear x0 x1 x2 x3 hgl
    obtain⟨hgl,x0,x1,x2,x3⟩:=HCX.out w1 Aw1.out.2
    obtain⟨⟨r0,r1,r2,r3,r4⟩,rf,rl⟩:=Aw1.out.facts
    clear HD1 hbw1)
  |(go_at_call 89
    refine(HD2.out _).mono ?_
    rintro e w2 ⟨rfl,hbw2⟩
    have Aw2:=Lib.hid (Aw1.out.call hbw2)
    clear x0 x1 x2 x3 hgl
    obtain⟨hgl,x0,x1,x2,x3⟩:=HCX.out w2 Aw2.out.2
    clear r0 r1 r2 r3 r4 rf rl
    obtain⟨⟨r0,r1,r2,r3,r4⟩,rf,rl⟩:=Aw2.out.facts
    clear HD2 hbw2)
  |(go_at_call 89
    refine(HD3.out _).mono ?_
    rintro e w3 ⟨rfl,hbw3⟩
    have Aw3:=Lib.hid ((S2.new Aw2.out (.mk 1 0 [] false []) (.slice none 0 0)).call hbw3)
    clear x0 x1 x2 x3 hgl r0 r1 r2 r3 r4 rf rl
    obtain⟨hgl,x0,x1,x2,x3⟩:=HCX.out w3 Aw3.out.1.2
    obtain⟨⟨s0,s1,s2,s3,s4⟩,sf,sl,⟨r0,r1,r2,r3,r4⟩,rf,rl⟩:=Aw3.out.facts
    dsimp only[St.ax,St.tk,St.nm,St.has]at s0 s1 s2 s3
    have A4:=Lib.hid (Aw3.out.ax 0)
    clear HD3 hbw3))
 clear s0 s1 s2 s3 s4 sf sl r0 r1 r2 r3 r4 rf rl x0 x1 x2 x3 hgl
 go_loopw [6] (fun v6 wr=>∃k:Nat,v6= .int .i64 (k:Int)∧1≤k∧k≤13∧Hid (S2 w wr w2.heap.size (.mk (axU x.s k:Int) 0 [] false []) (.slice none 0 0))) (fun v _=>13-(RowKit.intOf v).toNat)
 case atStart=>exact⟨1,rfl,by omega,by omega,Lib.hid (by rw[axU_one];exact A4.out)⟩
 case round=>
  obtain⟨k,rfl,hk1,hk13,HI⟩:=hrel
  by_cases hlt:k≤12
  ·have k0:decide ((k:Int)≤12)=true:=decide_eq_true (by omega)
   have HN:=Lib.hid fun W=>nameR_any (k:Int) W
   have HI2:=Lib.hid (HI.out.call (below_drew wr))
   obtain⟨hgl,x0,x1,x2,x3⟩:=HCX.out wr HI.out.1.2
   obtain⟨⟨s0,s1,s2,s3,s4⟩,sf,sl,⟨r0,r1,r2,r3,r4⟩,rf,rl⟩:=HI.out.facts
   dsimp only[St.ax,St.tk,St.nm,St.has]at s0 s1 s2 s3
   cases he:decide (nmX (k:Int)=x.s) with
   |true=>
    have hq:=bs_eqv _ _ _ he
    have HE:=Lib.hid (axU_hit hk1 hlt (of_decide_eq_true he))
    clear he
    generalize nmX (k:Int)=X at *
    go_wp2_with fail
    go_region_with (first
     |(go_at_call 48
       refine(HN.out _).mono ?_
       rintro e w4 ⟨rfl,q2⟩
       have A9:=Lib.hid (HI2.out.call q2)
       clear s0 s1 s2 s3 s4 sf sl r0 r1 r2 r3 r4 rf rl x0 x1 x2 x3 hgl
       obtain⟨hgl,x0,x1,x2,x3⟩:=HCX.out w4 A9.out.1.2
       obtain⟨⟨s0,s1,s2,s3,s4⟩,sf,sl,⟨r0,r1,r2,r3,r4⟩,rf,rl⟩:=A9.out.facts))
    all_goals
     go_wp2_with fail
     go_roundw
     case rel=>exact⟨k+1,by go_num,by omega,by omega,Lib.hid (by rw[HE.out];exact A9.out.ax _)⟩
     case measure=>simp[RowKit.intOf];omega
   |false=>
    have hq:=bs_eqv _ _ _ he
    have HE:=Lib.hid (axU_miss (of_decide_eq_false he))
    clear he
    generalize nmX (k:Int)=X at *
    go_wp2_with fail
    go_region_with (first
     |(go_at_call 48
       refine(HN.out _).mono ?_
       rintro e w4 ⟨rfl,q2⟩
       have A9:=Lib.hid (HI2.out.call q2)
       clear s0 s1 s2 s3 s4 sf sl r0 r1 r2 r3 r4 rf rl x0 x1 x2 x3 hgl
       obtain⟨hgl,x0,x1,x2,x3⟩:=HCX.out w4 A9.out.1.2
       obtain⟨⟨s0,s1,s2,s3,s4⟩,sf,sl,⟨r0,r1,r2,r3,r4⟩,rf,rl⟩:=A9.out.facts))
    all_goals
     go_wp2_with fail
     go_roundw
     case rel=>exact⟨k+1,by go_num,by omega,by omega,Lib.hid (by rw[HE.out];exact A9.out)⟩
     case measure=>simp[RowKit.intOf];omega
  ·have e:k=13:=by omega
   subst e
   rw[axU_end]at HI
   obtain⟨hgl,x0,x1,x2,x3⟩:=HCX.out wr HI.out.1.2
   obtain⟨⟨s0,s1,s2,s3,s4⟩,sf,sl,⟨r0,r1,r2,r3,r4⟩,rf,rl⟩:=HI.out.facts
   dsimp only[St.ax,St.tk,St.nm,St.has]at s0 s1 s2 s3
   have sa:((ofX x.s:Int)==0)=false:=by rw[beq_eq_false_iff_ne];omega
   obtain⟨y0,y1,y2,y3⟩:=HCY.out wr HI.out.1.2
   generalize (ofX x.s:Int)=AX at *
   go_wp2_with (first
    |(go_at_call 89
      refine(HY.out _).mono ?_
      rintro e w4 ⟨rfl,hbw4⟩
      have A9:=Lib.hid (HI.out.call hbw4)
      clear s0 s1 s2 s3 s4 sf sl r0 r1 r2 r3 r4 rf rl
      obtain⟨⟨s0,s1,s2,s3,s4⟩,sf,sl,⟨r0,r1,r2,r3,r4⟩,rf,rl⟩:=A9.out.facts
      dsimp only[St.ax,St.tk,St.nm,St.has]at s0 s1 s2 s3
      clear HY hbw4)
    |(go_at_call 220
      refine(HT.out _ A9.out.1.2).mono ?_
      rintro e w5 ⟨rfl,hbw5⟩
      unfold teV
      have A5:=Lib.hid (A9.out.call hbw5)
      clear s0 s1 s2 s3 s4 sf sl r0 r1 r2 r3 r4 rf rl
      have B5:=Lib.hid ((A5.out.te (k:=kd) (n:=nm) (hs:=hs)).alloc (boxTe kd nm hs))
      obtain⟨⟨s0,s1,s2,s3,s4⟩,sf,sl,⟨r0,r1,r2,r3,r4⟩,rf,rl⟩:=A5.out.facts
      dsimp only[St.ax,St.tk,St.nm,St.has]at s0 s1 s2 s3
      clear HT hbw5))
   exact step_noA Tryz.results203 w5 (boxTe kd nm hs) A5.out.1 HQ.out rfl rfl rfl
set_option maxRecDepth 100000 in
set_option maxHeartbeats 2000000 in
theorem refStep_ax_tn (w:World)(g off n c:Nat)(ts:List Wd)(x:Wd)(hcx:∀W,Below w.heap.size w W→Wc W g off x)(n0:0<n)(hB:n≤800)(hd:MkC x ⟨#[46]⟩ false)(h2:MkC x ⟨#[46,46]⟩ false)(h3:MkC x ⟨#[64]⟩ false)(k7:((x.k:Int)==7)=true)(y:Wd)(hcy:∀W,Below w.heap.size w W→W.cell? ⟨g,off+4,none⟩=some (.int .i64 (y.k:Int))∧W.cell? ⟨g,off+5,none⟩=some (.string (bs y.s))∧W.cell? ⟨g,off+6,none⟩=some (.int .i64 (outT y.n))∧W.cell? ⟨g,off+7,none⟩=some (.int .i64 (outV y.n)))(ha:ofX x.s≠0)(hy:MkC y ⟨#[58,58]⟩ true)(n22:2≤n)(kd:Int)(nm:List UInt8)(hs:Bool)(ht:∀W,Below w.heap.size w W→Calls Tryz.prog 220 #[.slice (some ⟨g,off+(2)*4,none⟩) (n-(2)) (c-(2))] W fun e w'=>e= .returned (.tuple #[teV (kd,nm,hs),.int .i64 0])∧Below W.heap.size W w')(hk:¬c=2)(hnc:n≤c)(hKn:2≤n)(q:Option (St×List Wd))(hq:q=none):
 Calls Tryz.prog 203 #[.slice (some ⟨g,off,none⟩) n c] w (StpP w ts q):=by
 have HCX:=Lib.hid hcx
 obtain⟨hgl,x0,x1,x2,x3⟩:=hcx w (Below.refl _ _)
 have n1:((n:Int)==0)=false:=by rw[beq_eq_false_iff_ne];omega
 have n2:(0:Int)<(n:Int):=by omega
 clear hcx
 have HD1:=Lib.hid hd
 have HD2:=Lib.hid h2
 have HD3:=Lib.hid h3
 clear hd h2 h3
 have HCY:=Lib.hid hcy
 have HY:=Lib.hid hy
 clear hcy hy
 have HT:=Lib.hid ht
 have HQ:=Lib.hid hq
 clear ht hq
 have n3:2≤n:=by omega
 have n31:(2:Int)≤(n:Int):=by omega
 have n32:2≤c:=by omega
 go_enter Tryz.func203,Tryz.ntmps203
 go_wp2_with (first
  |(go_at_call 89
    refine(HD1.out _).mono ?_
    rintro e w1 ⟨rfl,hbw1⟩
    have Aw1:=Lib.hid ((S1.new w).call hbw1)
    clear x0 x1 x2 x3 hgl
    obtain⟨hgl,x0,x1,x2,x3⟩:=HCX.out w1 Aw1.out.2
    obtain⟨⟨r0,r1,r2,r3,r4⟩,rf,rl⟩:=Aw1.out.facts
    clear HD1 hbw1)
  |(go_at_call 89
    refine(HD2.out _).mono ?_
    rintro e w2 ⟨rfl,hbw2⟩
    have Aw2:=Lib.hid (Aw1.out.call hbw2)
    clear x0 x1 x2 x3 hgl
    obtain⟨hgl,x0,x1,x2,x3⟩:=HCX.out w2 Aw2.out.2
    clear r0 r1 r2 r3 r4 rf rl
    obtain⟨⟨r0,r1,r2,r3,r4⟩,rf,rl⟩:=Aw2.out.facts
    clear HD2 hbw2)
  |(go_at_call 89
    refine(HD3.out _).mono ?_
    rintro e w3 ⟨rfl,hbw3⟩
    have Aw3:=Lib.hid ((S2.new Aw2.out (.mk 1 0 [] false []) (.slice none 0 0)).call hbw3)
    clear x0 x1 x2 x3 hgl r0 r1 r2 r3 r4 rf rl
    obtain⟨hgl,x0,x1,x2,x3⟩:=HCX.out w3 Aw3.out.1.2
    obtain⟨⟨s0,s1,s2,s3,s4⟩,sf,sl,⟨r0,r1,r2,r3,r4⟩,rf,rl⟩:=Aw3.out.facts
    dsimp only[St.ax,St.tk,St.nm,St.has]at s0 s1 s2 s3
    have A4:=Lib.hid (Aw3.out.ax 0)
    clear HD3 hbw3))
 clear s0 s1 s2 s3 s4 sf sl r0 r1 r2 r3 r4 rf rl x0 x1 x2 x3 hgl
 go_loopw [6] (fun v6 wr=>∃k:Nat,v6= .int .i64 (k:Int)∧1≤k∧k≤13∧Hid (S2 w wr w2.heap.size (.mk (axU x.s k:Int) 0 [] false []) (.slice none 0 0))) (fun v _=>13-(RowKit.intOf v).toNat)
 case atStart=>exact⟨1,rfl,by omega,by omega,Lib.hid (by rw[axU_one];exact A4.out)⟩
 case round=>
  obtain⟨k,rfl,hk1,hk13,HI⟩:=hrel
  by_cases hlt:k≤12
  ·have k0:decide ((k:Int)≤12)=true:=decide_eq_true (by omega)
   have HN:=Lib.hid fun W=>nameR_any (k:Int) W
   have HI2:=Lib.hid (HI.out.call (below_drew wr))
   obtain⟨hgl,x0,x1,x2,x3⟩:=HCX.out wr HI.out.1.2
   obtain⟨⟨s0,s1,s2,s3,s4⟩,sf,sl,⟨r0,r1,r2,r3,r4⟩,rf,rl⟩:=HI.out.facts
   dsimp only[St.ax,St.tk,St.nm,St.has]at s0 s1 s2 s3
   cases he:decide (nmX (k:Int)=x.s) with
   |true=>
    have hq:=bs_eqv _ _ _ he
    have HE:=Lib.hid (axU_hit hk1 hlt (of_decide_eq_true he))
    clear he
    generalize nmX (k:Int)=X at *
    go_wp2_with fail
    go_region_with (first
     |(go_at_call 48
       refine(HN.out _).mono ?_
       rintro e w4 ⟨rfl,q2⟩
       have A9:=Lib.hid (HI2.out.call q2)
       clear s0 s1 s2 s3 s4 sf sl r0 r1 r2 r3 r4 rf rl x0 x1 x2 x3 hgl
       obtain⟨hgl,x0,x1,x2,x3⟩:=HCX.out w4 A9.out.1.2
       obtain⟨⟨s0,s1,s2,s3,s4⟩,sf,sl,⟨r0,r1,r2,r3,r4⟩,rf,rl⟩:=A9.out.facts))
    all_goals
     go_wp2_with fail
     go_roundw
     case rel=>exact⟨k+1,by go_num,by omega,by omega,Lib.hid (by rw[HE.out];exact A9.out.ax _)⟩
     case measure=>simp[RowKit.intOf];omega
   |false=>
    have hq:=bs_eqv _ _ _ he
    have HE:=Lib.hid (axU_miss (of_decide_eq_false he))
    clear he
    generalize nmX (k:Int)=X at *
    go_wp2_with fail
    go_region_with (first
     |(go_at_call 48
       refine(HN.out _).mono ?_
       rintro e w4 ⟨rfl,q2⟩
       have A9:=Lib.hid (HI2.out.call q2)
       clear s0 s1 s2 s3 s4 sf sl r0 r1 r2 r3 r4 rf rl x0 x1 x2 x3 hgl
       obtain⟨hgl,x0,x1,x2,x3⟩:=HCX.out w4 A9.out.1.2
       obtain⟨⟨s0,s1,s2,s3,s4⟩,sf,sl,⟨r0,r1,r2,r3,r4⟩,rf,rl⟩:=A9.out.facts))
    all_goals
     go_wp2_with fail
     go_roundw
     case rel=>exact⟨k+1,by go_num,by omega,by omega,Lib.hid (by rw[HE.out];exact A9.out)⟩
     case measure=>simp[RowKit.intOf];omega
  ·have e:k=13:=by omega
   subst e
   rw[axU_end]at HI
   obtain⟨hgl,x0,x1,x2,x3⟩:=HCX.out wr HI.out.1.2
   obtain⟨⟨s0,s1,s2,s3,s4⟩,sf,sl,⟨r0,r1,r2,r3,r4⟩,rf,rl⟩:=HI.out.facts
   dsimp only[St.ax,St.tk,St.nm,St.has]at s0 s1 s2 s3
   have sa:((ofX x.s:Int)==0)=false:=by rw[beq_eq_false_iff_ne];omega
   have n23:decide ((n:Int)<2)=false:=decide_eq_false (by omega)
   have n24:(1:Int)<(n:Int):=by omega
   have n25:1<n:=by omega
   obtain⟨y0,y1,y2,y3⟩:=HCY.out wr HI.out.1.2
   generalize (ofX x.s:Int)=AX at *
   go_wp2_with (first
    |(go_at_call 89
      refine(HY.out _).mono ?_
      rintro e w4 ⟨rfl,hbw4⟩
      have A9:=Lib.hid (HI.out.call hbw4)
      clear s0 s1 s2 s3 s4 sf sl r0 r1 r2 r3 r4 rf rl
      obtain⟨⟨s0,s1,s2,s3,s4⟩,sf,sl,⟨r0,r1,r2,r3,r4⟩,rf,rl⟩:=A9.out.facts
      dsimp only[St.ax,St.tk,St.nm,St.has]at s0 s1 s2 s3
      clear HY hbw4)
    |(go_at_call 220
      refine(HT.out _ A9.out.1.2).mono ?_
      rintro e w5 ⟨rfl,hbw5⟩
      unfold teV
      have A5:=Lib.hid (A9.out.call hbw5)
      clear s0 s1 s2 s3 s4 sf sl r0 r1 r2 r3 r4 rf rl
      have B5:=Lib.hid ((A5.out.te (k:=kd) (n:=nm) (hs:=hs)).alloc (boxTe kd nm hs))
      obtain⟨⟨s0,s1,s2,s3,s4⟩,sf,sl,⟨r0,r1,r2,r3,r4⟩,rf,rl⟩:=A5.out.facts
      dsimp only[St.ax,St.tk,St.nm,St.has]at s0 s1 s2 s3
      clear HT hbw5))
   exact step_noA Tryz.results203 w5 (boxTe kd nm hs) A5.out.1 HQ.out rfl rfl rfl
set_option maxRecDepth 100000 in
set_option maxHeartbeats 2000000 in
theorem refStep_ax_pn (w:World)(g off n c:Nat)(ts:List Wd)(x:Wd)(hcx:∀W,Below w.heap.size w W→Wc W g off x)(n0:0<n)(hB:n≤800)(hd:MkC x ⟨#[46]⟩ false)(h2:MkC x ⟨#[46,46]⟩ false)(h3:MkC x ⟨#[64]⟩ false)(k7:((x.k:Int)==7)=true)(y:Wd)(hcy:∀W,Below w.heap.size w W→W.cell? ⟨g,off+4,none⟩=some (.int .i64 (y.k:Int))∧W.cell? ⟨g,off+5,none⟩=some (.string (bs y.s))∧W.cell? ⟨g,off+6,none⟩=some (.int .i64 (outT y.n))∧W.cell? ⟨g,off+7,none⟩=some (.int .i64 (outV y.n)))(ha:ofX x.s≠0)(hy:MkC y ⟨#[58,58]⟩ true)(n22:2≤n)(m1:Nat)(kd:Int)(nm:List UInt8)(hs:Bool)(ht:∀W,Below w.heap.size w W→Calls Tryz.prog 220 #[.slice (some ⟨g,off+(2)*4,none⟩) (n-(2)) (c-(2))] W fun e w'=>e= .returned (.tuple #[teV (kd,nm,hs),.int .i64 (m1:Int)])∧Below W.heap.size W w')(hp:∀W,Below w.heap.size w W→Calls Tryz.prog 185 #[.slice (some ⟨g,off+(2+m1)*4,none⟩) (n-(2+m1)) (c-(2+m1))] W fun e w'=>e= .returned (.tuple #[.slice none 0 0,.int .i64 (-1)])∧Below W.heap.size W w')(h1:1≤m1)(hm:2+m1≤n)(hnc:n≤c)(hk:¬c=2)(hk2:¬c=2+m1)(q:Option (St×List Wd))(hq:q=none):
 Calls Tryz.prog 203 #[.slice (some ⟨g,off,none⟩) n c] w (StpP w ts q):=by
 have HCX:=Lib.hid hcx
 obtain⟨hgl,x0,x1,x2,x3⟩:=hcx w (Below.refl _ _)
 have n1:((n:Int)==0)=false:=by rw[beq_eq_false_iff_ne];omega
 have n2:(0:Int)<(n:Int):=by omega
 clear hcx
 have HD1:=Lib.hid hd
 have HD2:=Lib.hid h2
 have HD3:=Lib.hid h3
 clear hd h2 h3
 have HCY:=Lib.hid hcy
 have HY:=Lib.hid hy
 clear hcy hy
 have HT:=Lib.hid ht
 have HQ:=Lib.hid hq
 clear ht hq
 have HP:=Lib.hid hp
 clear hp
 have n3:2≤n:=by omega
 have n31:(2:Int)≤(n:Int):=by omega
 have n32:2≤c:=by omega
 have n4:(2:Int)+(m1:Int)≤(n:Int):=by omega
 have n5:2+m1≤c:=by omega
 have n6:((m1:Int)==0)=false:=by rw[beq_eq_false_iff_ne];omega
 have n7:(m1:Int)≤(n:Int):=by omega
 go_enter Tryz.func203,Tryz.ntmps203
 go_wp2_with (first
  |(go_at_call 89
    refine(HD1.out _).mono ?_
    rintro e w1 ⟨rfl,hbw1⟩
    have Aw1:=Lib.hid ((S1.new w).call hbw1)
    clear x0 x1 x2 x3 hgl
    obtain⟨hgl,x0,x1,x2,x3⟩:=HCX.out w1 Aw1.out.2
    obtain⟨⟨r0,r1,r2,r3,r4⟩,rf,rl⟩:=Aw1.out.facts
    clear HD1 hbw1)
  |(go_at_call 89
    refine(HD2.out _).mono ?_
    rintro e w2 ⟨rfl,hbw2⟩
    have Aw2:=Lib.hid (Aw1.out.call hbw2)
    clear x0 x1 x2 x3 hgl
    obtain⟨hgl,x0,x1,x2,x3⟩:=HCX.out w2 Aw2.out.2
    clear r0 r1 r2 r3 r4 rf rl
    obtain⟨⟨r0,r1,r2,r3,r4⟩,rf,rl⟩:=Aw2.out.facts
    clear HD2 hbw2)
  |(go_at_call 89
    refine(HD3.out _).mono ?_
    rintro e w3 ⟨rfl,hbw3⟩
    have Aw3:=Lib.hid ((S2.new Aw2.out (.mk 1 0 [] false []) (.slice none 0 0)).call hbw3)
    clear x0 x1 x2 x3 hgl r0 r1 r2 r3 r4 rf rl
    obtain⟨hgl,x0,x1,x2,x3⟩:=HCX.out w3 Aw3.out.1.2
    obtain⟨⟨s0,s1,s2,s3,s4⟩,sf,sl,⟨r0,r1,r2,r3,r4⟩,rf,rl⟩:=Aw3.out.facts
    dsimp only[St.ax,St.tk,St.nm,St.has]at s0 s1 s2 s3
    have A4:=Lib.hid (Aw3.out.ax 0)
    clear HD3 hbw3))
 clear s0 s1 s2 s3 s4 sf sl r0 r1 r2 r3 r4 rf rl x0 x1 x2 x3 hgl
 go_loopw [6] (fun v6 wr=>∃k:Nat,v6= .int .i64 (k:Int)∧1≤k∧k≤13∧Hid (S2 w wr w2.heap.size (.mk (axU x.s k:Int) 0 [] false []) (.slice none 0 0))) (fun v _=>13-(RowKit.intOf v).toNat)
 case atStart=>exact⟨1,rfl,by omega,by omega,Lib.hid (by rw[axU_one];exact A4.out)⟩
 case round=>
  obtain⟨k,rfl,hk1,hk13,HI⟩:=hrel
  by_cases hlt:k≤12
  ·have k0:decide ((k:Int)≤12)=true:=decide_eq_true (by omega)
   have HN:=Lib.hid fun W=>nameR_any (k:Int) W
   have HI2:=Lib.hid (HI.out.call (below_drew wr))
   obtain⟨hgl,x0,x1,x2,x3⟩:=HCX.out wr HI.out.1.2
   obtain⟨⟨s0,s1,s2,s3,s4⟩,sf,sl,⟨r0,r1,r2,r3,r4⟩,rf,rl⟩:=HI.out.facts
   dsimp only[St.ax,St.tk,St.nm,St.has]at s0 s1 s2 s3
   cases he:decide (nmX (k:Int)=x.s) with
   |true=>
    have hq:=bs_eqv _ _ _ he
    have HE:=Lib.hid (axU_hit hk1 hlt (of_decide_eq_true he))
    clear he
    generalize nmX (k:Int)=X at *
    go_wp2_with fail
    go_region_with (first
     |(go_at_call 48
       refine(HN.out _).mono ?_
       rintro e w4 ⟨rfl,q2⟩
       have A9:=Lib.hid (HI2.out.call q2)
       clear s0 s1 s2 s3 s4 sf sl r0 r1 r2 r3 r4 rf rl x0 x1 x2 x3 hgl
       obtain⟨hgl,x0,x1,x2,x3⟩:=HCX.out w4 A9.out.1.2
       obtain⟨⟨s0,s1,s2,s3,s4⟩,sf,sl,⟨r0,r1,r2,r3,r4⟩,rf,rl⟩:=A9.out.facts))
    all_goals
     go_wp2_with fail
     go_roundw
     case rel=>exact⟨k+1,by go_num,by omega,by omega,Lib.hid (by rw[HE.out];exact A9.out.ax _)⟩
     case measure=>simp[RowKit.intOf];omega
   |false=>
    have hq:=bs_eqv _ _ _ he
    have HE:=Lib.hid (axU_miss (of_decide_eq_false he))
    clear he
    generalize nmX (k:Int)=X at *
    go_wp2_with fail
    go_region_with (first
     |(go_at_call 48
       refine(HN.out _).mono ?_
       rintro e w4 ⟨rfl,q2⟩
       have A9:=Lib.hid (HI2.out.call q2)
       clear s0 s1 s2 s3 s4 sf sl r0 r1 r2 r3 r4 rf rl x0 x1 x2 x3 hgl
       obtain⟨hgl,x0,x1,x2,x3⟩:=HCX.out w4 A9.out.1.2
       obtain⟨⟨s0,s1,s2,s3,s4⟩,sf,sl,⟨r0,r1,r2,r3,r4⟩,rf,rl⟩:=A9.out.facts))
    all_goals
     go_wp2_with fail
     go_roundw
     case rel=>exact⟨k+1,by go_num,by omega,by omega,Lib.hid (by rw[HE.out];exact A9.out)⟩
     case measure=>simp[RowKit.intOf];omega
  ·have e:k=13:=by omega
   subst e
   rw[axU_end]at HI
   obtain⟨hgl,x0,x1,x2,x3⟩:=HCX.out wr HI.out.1.2
   obtain⟨⟨s0,s1,s2,s3,s4⟩,sf,sl,⟨r0,r1,r2,r3,r4⟩,rf,rl⟩:=HI.out.facts
   dsimp only[St.ax,St.tk,St.nm,St.has]at s0 s1 s2 s3
   have sa:((ofX x.s:Int)==0)=false:=by rw[beq_eq_false_iff_ne];omega
   have n23:decide ((n:Int)<2)=false:=decide_eq_false (by omega)
   have n24:(1:Int)<(n:Int):=by omega
   have n25:1<n:=by omega
   obtain⟨y0,y1,y2,y3⟩:=HCY.out wr HI.out.1.2
   generalize (ofX x.s:Int)=AX at *
   go_wp2_with (first
    |(go_at_call 89
      refine(HY.out _).mono ?_
      rintro e w4 ⟨rfl,hbw4⟩
      have A9:=Lib.hid (HI.out.call hbw4)
      clear s0 s1 s2 s3 s4 sf sl r0 r1 r2 r3 r4 rf rl
      obtain⟨⟨s0,s1,s2,s3,s4⟩,sf,sl,⟨r0,r1,r2,r3,r4⟩,rf,rl⟩:=A9.out.facts
      dsimp only[St.ax,St.tk,St.nm,St.has]at s0 s1 s2 s3
      clear HY hbw4)
    |(go_at_call 220
      refine(HT.out _ A9.out.1.2).mono ?_
      rintro e w5 ⟨rfl,hbw5⟩
      unfold teV
      have A5:=Lib.hid (A9.out.call hbw5)
      clear s0 s1 s2 s3 s4 sf sl r0 r1 r2 r3 r4 rf rl
      have B5:=Lib.hid ((A5.out.te (k:=kd) (n:=nm) (hs:=hs)).alloc (boxTe kd nm hs))
      obtain⟨⟨s0,s1,s2,s3,s4⟩,sf,sl,⟨r0,r1,r2,r3,r4⟩,rf,rl⟩:=A5.out.facts
      dsimp only[St.ax,St.tk,St.nm,St.has]at s0 s1 s2 s3
      clear HT hbw5)
    |(go_at_call 185
      refine(HP.out _ B5.out.1.2).mono ?_
      rintro e w7 ⟨rfl,hbw7⟩
      have A7:=Lib.hid (B5.out.call hbw7)
      clear s0 s1 s2 s3 s4 sf sl r0 r1 r2 r3 r4 rf rl
      obtain⟨⟨s0,s1,s2,s3,s4⟩,sf,sl,⟨r0,r1,r2,r3,r4⟩,rf,rl⟩:=A7.out.facts
      clear HP hbw7))
   exact step_no Tryz.results203 _ A7.out.1 HQ.out rfl rfl rfl
set_option maxRecDepth 100000 in
set_option maxHeartbeats 2000000 in
theorem refStep_ax_ok (w:World)(g off n c:Nat)(ts:List Wd)(x:Wd)(hcx:∀W,Below w.heap.size w W→Wc W g off x)(n0:0<n)(hB:n≤800)(hd:MkC x ⟨#[46]⟩ false)(h2:MkC x ⟨#[46,46]⟩ false)(h3:MkC x ⟨#[64]⟩ false)(k7:((x.k:Int)==7)=true)(y:Wd)(hcy:∀W,Below w.heap.size w W→W.cell? ⟨g,off+4,none⟩=some (.int .i64 (y.k:Int))∧W.cell? ⟨g,off+5,none⟩=some (.string (bs y.s))∧W.cell? ⟨g,off+6,none⟩=some (.int .i64 (outT y.n))∧W.cell? ⟨g,off+7,none⟩=some (.int .i64 (outV y.n)))(ha:ofX x.s≠0)(hy:MkC y ⟨#[58,58]⟩ true)(n22:2≤n)(m1:Nat)(kd:Int)(nm:List UInt8)(hs:Bool)(ht:∀W,Below w.heap.size w W→Calls Tryz.prog 220 #[.slice (some ⟨g,off+(2)*4,none⟩) (n-(2)) (c-(2))] W fun e w'=>e= .returned (.tuple #[teV (kd,nm,hs),.int .i64 (m1:Int)])∧Below W.heap.size W w')(m2:Nat)(ps:List Ex)(hp:∀W,Below w.heap.size w W→Calls Tryz.prog 185 #[.slice (some ⟨g,off+(2+m1)*4,none⟩) (n-(2+m1)) (c-(2+m1))] W fun e w'=>∃(xs:List (Ex×Value×Value)) (o7:Option Addr) (j7:Nat),e= .returned (.tuple #[.slice o7 xs.length j7,.int .i64 (m2:Int)])∧RowEx W.heap.size w' (.slice o7 xs.length j7) xs∧xs.map (·.1)=ps∧Below W.heap.size W w')(h1:1≤m1)(hm:2+m1≤n)(hnc:n≤c)(hk:¬c=2)(hk2:¬c=2+m1)(q:Option (St×List Wd))(hq:q=some (.mk (ofX x.s:Int) kd nm hs ps,ts.drop (2+m1+m2)))(hm2:m2≤800)(htot:1≤2+m1+m2∧2+m1+m2≤ts.length):
 Calls Tryz.prog 203 #[.slice (some ⟨g,off,none⟩) n c] w (StpP w ts q):=by
 have HCX:=Lib.hid hcx
 obtain⟨hgl,x0,x1,x2,x3⟩:=hcx w (Below.refl _ _)
 have n1:((n:Int)==0)=false:=by rw[beq_eq_false_iff_ne];omega
 have n2:(0:Int)<(n:Int):=by omega
 clear hcx
 have HD1:=Lib.hid hd
 have HD2:=Lib.hid h2
 have HD3:=Lib.hid h3
 clear hd h2 h3
 have HCY:=Lib.hid hcy
 have HY:=Lib.hid hy
 clear hcy hy
 have HT:=Lib.hid ht
 have HQ:=Lib.hid hq
 clear ht hq
 have HP:=Lib.hid hp
 clear hp
 have n3:2≤n:=by omega
 have n31:(2:Int)≤(n:Int):=by omega
 have n32:2≤c:=by omega
 have n4:(2:Int)+(m1:Int)≤(n:Int):=by omega
 have n5:2+m1≤c:=by omega
 have n6:((m1:Int)==0)=false:=by rw[beq_eq_false_iff_ne];omega
 have n7:(m1:Int)≤(n:Int):=by omega
 have HTOT:=Lib.hid htot
 clear htot
 have n8:decide ((m2:Int)<0)=false:=decide_eq_false (by omega)
 go_enter Tryz.func203,Tryz.ntmps203
 go_wp2_with (first
  |(go_at_call 89
    refine(HD1.out _).mono ?_
    rintro e w1 ⟨rfl,hbw1⟩
    have Aw1:=Lib.hid ((S1.new w).call hbw1)
    clear x0 x1 x2 x3 hgl
    obtain⟨hgl,x0,x1,x2,x3⟩:=HCX.out w1 Aw1.out.2
    obtain⟨⟨r0,r1,r2,r3,r4⟩,rf,rl⟩:=Aw1.out.facts
    clear HD1 hbw1)
  |(go_at_call 89
    refine(HD2.out _).mono ?_
    rintro e w2 ⟨rfl,hbw2⟩
    have Aw2:=Lib.hid (Aw1.out.call hbw2)
    clear x0 x1 x2 x3 hgl
    obtain⟨hgl,x0,x1,x2,x3⟩:=HCX.out w2 Aw2.out.2
    clear r0 r1 r2 r3 r4 rf rl
    obtain⟨⟨r0,r1,r2,r3,r4⟩,rf,rl⟩:=Aw2.out.facts
    clear HD2 hbw2)
  |(go_at_call 89
    refine(HD3.out _).mono ?_
    rintro e w3 ⟨rfl,hbw3⟩
    have Aw3:=Lib.hid ((S2.new Aw2.out (.mk 1 0 [] false []) (.slice none 0 0)).call hbw3)
    clear x0 x1 x2 x3 hgl r0 r1 r2 r3 r4 rf rl
    obtain⟨hgl,x0,x1,x2,x3⟩:=HCX.out w3 Aw3.out.1.2
    obtain⟨⟨s0,s1,s2,s3,s4⟩,sf,sl,⟨r0,r1,r2,r3,r4⟩,rf,rl⟩:=Aw3.out.facts
    dsimp only[St.ax,St.tk,St.nm,St.has]at s0 s1 s2 s3
    have A4:=Lib.hid (Aw3.out.ax 0)
    clear HD3 hbw3))
 clear s0 s1 s2 s3 s4 sf sl r0 r1 r2 r3 r4 rf rl x0 x1 x2 x3 hgl
 go_loopw [6] (fun v6 wr=>∃k:Nat,v6= .int .i64 (k:Int)∧1≤k∧k≤13∧Hid (S2 w wr w2.heap.size (.mk (axU x.s k:Int) 0 [] false []) (.slice none 0 0))) (fun v _=>13-(RowKit.intOf v).toNat)
 case atStart=>exact⟨1,rfl,by omega,by omega,Lib.hid (by rw[axU_one];exact A4.out)⟩
 case round=>
  obtain⟨k,rfl,hk1,hk13,HI⟩:=hrel
  by_cases hlt:k≤12
  ·have k0:decide ((k:Int)≤12)=true:=decide_eq_true (by omega)
   have HN:=Lib.hid fun W=>nameR_any (k:Int) W
   have HI2:=Lib.hid (HI.out.call (below_drew wr))
   obtain⟨hgl,x0,x1,x2,x3⟩:=HCX.out wr HI.out.1.2
   obtain⟨⟨s0,s1,s2,s3,s4⟩,sf,sl,⟨r0,r1,r2,r3,r4⟩,rf,rl⟩:=HI.out.facts
   dsimp only[St.ax,St.tk,St.nm,St.has]at s0 s1 s2 s3
   cases he:decide (nmX (k:Int)=x.s) with
   |true=>
    have hq:=bs_eqv _ _ _ he
    have HE:=Lib.hid (axU_hit hk1 hlt (of_decide_eq_true he))
    clear he
    generalize nmX (k:Int)=X at *
    go_wp2_with fail
    go_region_with (first
     |(go_at_call 48
       refine(HN.out _).mono ?_
       rintro e w4 ⟨rfl,q2⟩
       have A9:=Lib.hid (HI2.out.call q2)
       clear s0 s1 s2 s3 s4 sf sl r0 r1 r2 r3 r4 rf rl x0 x1 x2 x3 hgl
       obtain⟨hgl,x0,x1,x2,x3⟩:=HCX.out w4 A9.out.1.2
       obtain⟨⟨s0,s1,s2,s3,s4⟩,sf,sl,⟨r0,r1,r2,r3,r4⟩,rf,rl⟩:=A9.out.facts))
    all_goals
     go_wp2_with fail
     go_roundw
     case rel=>exact⟨k+1,by go_num,by omega,by omega,Lib.hid (by rw[HE.out];exact A9.out.ax _)⟩
     case measure=>simp[RowKit.intOf];omega
   |false=>
    have hq:=bs_eqv _ _ _ he
    have HE:=Lib.hid (axU_miss (of_decide_eq_false he))
    clear he
    generalize nmX (k:Int)=X at *
    go_wp2_with fail
    go_region_with (first
     |(go_at_call 48
       refine(HN.out _).mono ?_
       rintro e w4 ⟨rfl,q2⟩
       have A9:=Lib.hid (HI2.out.call q2)
       clear s0 s1 s2 s3 s4 sf sl r0 r1 r2 r3 r4 rf rl x0 x1 x2 x3 hgl
       obtain⟨hgl,x0,x1,x2,x3⟩:=HCX.out w4 A9.out.1.2
       obtain⟨⟨s0,s1,s2,s3,s4⟩,sf,sl,⟨r0,r1,r2,r3,r4⟩,rf,rl⟩:=A9.out.facts))
    all_goals
     go_wp2_with fail
     go_roundw
     case rel=>exact⟨k+1,by go_num,by omega,by omega,Lib.hid (by rw[HE.out];exact A9.out)⟩
     case measure=>simp[RowKit.intOf];omega
  ·have e:k=13:=by omega
   subst e
   rw[axU_end]at HI
   obtain⟨hgl,x0,x1,x2,x3⟩:=HCX.out wr HI.out.1.2
   obtain⟨⟨s0,s1,s2,s3,s4⟩,sf,sl,⟨r0,r1,r2,r3,r4⟩,rf,rl⟩:=HI.out.facts
   dsimp only[St.ax,St.tk,St.nm,St.has]at s0 s1 s2 s3
   have sa:((ofX x.s:Int)==0)=false:=by rw[beq_eq_false_iff_ne];omega
   have n23:decide ((n:Int)<2)=false:=decide_eq_false (by omega)
   have n24:(1:Int)<(n:Int):=by omega
   have n25:1<n:=by omega
   obtain⟨y0,y1,y2,y3⟩:=HCY.out wr HI.out.1.2
   generalize (ofX x.s:Int)=AX at *
   go_wp2_with (first
    |(go_at_call 89
      refine(HY.out _).mono ?_
      rintro e w4 ⟨rfl,hbw4⟩
      have A9:=Lib.hid (HI.out.call hbw4)
      clear s0 s1 s2 s3 s4 sf sl r0 r1 r2 r3 r4 rf rl
      obtain⟨⟨s0,s1,s2,s3,s4⟩,sf,sl,⟨r0,r1,r2,r3,r4⟩,rf,rl⟩:=A9.out.facts
      dsimp only[St.ax,St.tk,St.nm,St.has]at s0 s1 s2 s3
      clear HY hbw4)
    |(go_at_call 220
      refine(HT.out _ A9.out.1.2).mono ?_
      rintro e w5 ⟨rfl,hbw5⟩
      unfold teV
      have A5:=Lib.hid (A9.out.call hbw5)
      clear s0 s1 s2 s3 s4 sf sl r0 r1 r2 r3 r4 rf rl
      have B5:=Lib.hid ((A5.out.te (k:=kd) (n:=nm) (hs:=hs)).alloc (boxTe kd nm hs))
      obtain⟨⟨s0,s1,s2,s3,s4⟩,sf,sl,⟨r0,r1,r2,r3,r4⟩,rf,rl⟩:=A5.out.facts
      dsimp only[St.ax,St.tk,St.nm,St.has]at s0 s1 s2 s3
      clear HT hbw5)
    |(go_at_call 185
      refine(HP.out _ B5.out.1.2).mono ?_
      rintro e w7 ⟨xs,o7,j7,rfl,hr7,hx7,hbw7⟩
      have A7:=Lib.hid (B5.out.call hbw7)
      have HR7:=Lib.hid hr7
      have HX7:=Lib.hid hx7
      clear s0 s1 s2 s3 s4 sf sl r0 r1 r2 r3 r4 rf rl
      obtain⟨⟨s0,s1,s2,s3,s4⟩,sf,sl,⟨r0,r1,r2,r3,r4⟩,rf,rl⟩:=A7.out.facts
      dsimp only[St.ax,St.tk,St.nm,St.has]at s0 s1 s2 s3
      have hne:=A7.out.2.1
      clear HP hbw7 hr7 hx7))
   exact step_ok Tryz.results203 (w7.setCell ⟨w2.heap.size,4,none⟩ (.slice o7 xs.length j7)) (.mk AX kd nm hs ps) (.slice o7 xs.length j7) (2+m1+m2) (A7.out.1.set A7.out.2.1 _) HQ.out HTOT.out.1 HTOT.out.2 (StOn.iff.2 (by
    rw[←HX7.out]
    exact HR7.out.on.move fun k hk hF=>⟨by have :=B5.out.1.lt;omega,heap_set_ne (a:=⟨w2.heap.size,4,none⟩) (show k≠w2.heap.size by have :=B5.out.lt;omega)⟩)) rfl (by first|rfl|go_num) rfl
set_option maxRecDepth 100000 in
set_option maxHeartbeats 2000000 in
theorem refStep_ax_p0 (w:World)(g off n c:Nat)(ts:List Wd)(x:Wd)(hcx:∀W,Below w.heap.size w W→Wc W g off x)(n0:0<n)(hB:n≤800)(hd:MkC x ⟨#[46]⟩ false)(h2:MkC x ⟨#[46,46]⟩ false)(h3:MkC x ⟨#[64]⟩ false)(k7:((x.k:Int)==7)=true)(y:Wd)(hcy:∀W,Below w.heap.size w W→W.cell? ⟨g,off+4,none⟩=some (.int .i64 (y.k:Int))∧W.cell? ⟨g,off+5,none⟩=some (.string (bs y.s))∧W.cell? ⟨g,off+6,none⟩=some (.int .i64 (outT y.n))∧W.cell? ⟨g,off+7,none⟩=some (.int .i64 (outV y.n)))(ha:ofX x.s≠0)(hy:MkC y ⟨#[58,58]⟩ true)(n22:2≤n)(m1:Nat)(kd:Int)(nm:List UInt8)(hs:Bool)(ht:∀W,Below w.heap.size w W→Calls Tryz.prog 220 #[.slice (some ⟨g,off+2*4,none⟩) m1 m1] W fun e w'=>e= .returned (.tuple #[teV (kd,nm,hs),.int .i64 (m1:Int)])∧Below W.heap.size W w')(m2:Nat)(ps:List Ex)(hp:∀W,Below w.heap.size w W→Calls Tryz.prog 185 #[.slice (some ⟨g,off,none⟩) 0 0] W fun e w'=>∃(xs:List (Ex×Value×Value)) (o7:Option Addr) (j7:Nat),e= .returned (.tuple #[.slice o7 xs.length j7,.int .i64 (m2:Int)])∧RowEx W.heap.size w' (.slice o7 xs.length j7) xs∧xs.map (·.1)=ps∧Below W.heap.size W w')(h1:1≤m1)(hm:2+m1≤n)(hnc:n≤c)(hk:¬c=2)(hc:c=2+m1)(hn:n=2+m1)(q:Option (St×List Wd))(hq:q=some (.mk (ofX x.s:Int) kd nm hs ps,ts.drop (2+m1+m2)))(hm2:m2≤800)(htot:1≤2+m1+m2∧2+m1+m2≤ts.length):
 Calls Tryz.prog 203 #[.slice (some ⟨g,off,none⟩) n c] w (StpP w ts q):=by
 have HCX:=Lib.hid hcx
 obtain⟨hgl,x0,x1,x2,x3⟩:=hcx w (Below.refl _ _)
 have n1:((n:Int)==0)=false:=by rw[beq_eq_false_iff_ne];omega
 have n2:(0:Int)<(n:Int):=by omega
 clear hcx
 have HD1:=Lib.hid hd
 have HD2:=Lib.hid h2
 have HD3:=Lib.hid h3
 clear hd h2 h3
 have HCY:=Lib.hid hcy
 have HY:=Lib.hid hy
 clear hcy hy
 have HT:=Lib.hid ht
 have HQ:=Lib.hid hq
 clear ht hq
 have HP:=Lib.hid hp
 clear hp
 have n3:2≤n:=by omega
 have n31:(2:Int)≤(n:Int):=by omega
 have n32:2≤c:=by omega
 have n4:(2:Int)+(m1:Int)≤(n:Int):=by omega
 have n5:2+m1≤c:=by omega
 have n6:((m1:Int)==0)=false:=by rw[beq_eq_false_iff_ne];omega
 have n7:(m1:Int)≤(n:Int):=by omega
 have HTOT:=Lib.hid htot
 clear htot
 have n8:decide ((m2:Int)<0)=false:=decide_eq_false (by omega)
 subst hc hn
 go_enter Tryz.func203,Tryz.ntmps203
 go_wp2_with (first
  |(go_at_call 89
    refine(HD1.out _).mono ?_
    rintro e w1 ⟨rfl,hbw1⟩
    have Aw1:=Lib.hid ((S1.new w).call hbw1)
    clear x0 x1 x2 x3 hgl
    obtain⟨hgl,x0,x1,x2,x3⟩:=HCX.out w1 Aw1.out.2
    obtain⟨⟨r0,r1,r2,r3,r4⟩,rf,rl⟩:=Aw1.out.facts
    clear HD1 hbw1)
  |(go_at_call 89
    refine(HD2.out _).mono ?_
    rintro e w2 ⟨rfl,hbw2⟩
    have Aw2:=Lib.hid (Aw1.out.call hbw2)
    clear x0 x1 x2 x3 hgl
    obtain⟨hgl,x0,x1,x2,x3⟩:=HCX.out w2 Aw2.out.2
    clear r0 r1 r2 r3 r4 rf rl
    obtain⟨⟨r0,r1,r2,r3,r4⟩,rf,rl⟩:=Aw2.out.facts
    clear HD2 hbw2)
  |(go_at_call 89
    refine(HD3.out _).mono ?_
    rintro e w3 ⟨rfl,hbw3⟩
    have Aw3:=Lib.hid ((S2.new Aw2.out (.mk 1 0 [] false []) (.slice none 0 0)).call hbw3)
    clear x0 x1 x2 x3 hgl r0 r1 r2 r3 r4 rf rl
    obtain⟨hgl,x0,x1,x2,x3⟩:=HCX.out w3 Aw3.out.1.2
    obtain⟨⟨s0,s1,s2,s3,s4⟩,sf,sl,⟨r0,r1,r2,r3,r4⟩,rf,rl⟩:=Aw3.out.facts
    dsimp only[St.ax,St.tk,St.nm,St.has]at s0 s1 s2 s3
    have A4:=Lib.hid (Aw3.out.ax 0)
    clear HD3 hbw3))
 clear s0 s1 s2 s3 s4 sf sl r0 r1 r2 r3 r4 rf rl x0 x1 x2 x3 hgl
 go_loopw [6] (fun v6 wr=>∃k:Nat,v6= .int .i64 (k:Int)∧1≤k∧k≤13∧Hid (S2 w wr w2.heap.size (.mk (axU x.s k:Int) 0 [] false []) (.slice none 0 0))) (fun v _=>13-(RowKit.intOf v).toNat)
 case atStart=>exact⟨1,rfl,by omega,by omega,Lib.hid (by rw[axU_one];exact A4.out)⟩
 case round=>
  obtain⟨k,rfl,hk1,hk13,HI⟩:=hrel
  by_cases hlt:k≤12
  ·have k0:decide ((k:Int)≤12)=true:=decide_eq_true (by omega)
   have HN:=Lib.hid fun W=>nameR_any (k:Int) W
   have HI2:=Lib.hid (HI.out.call (below_drew wr))
   obtain⟨hgl,x0,x1,x2,x3⟩:=HCX.out wr HI.out.1.2
   obtain⟨⟨s0,s1,s2,s3,s4⟩,sf,sl,⟨r0,r1,r2,r3,r4⟩,rf,rl⟩:=HI.out.facts
   dsimp only[St.ax,St.tk,St.nm,St.has]at s0 s1 s2 s3
   cases he:decide (nmX (k:Int)=x.s) with
   |true=>
    have hq:=bs_eqv _ _ _ he
    have HE:=Lib.hid (axU_hit hk1 hlt (of_decide_eq_true he))
    clear he
    generalize nmX (k:Int)=X at *
    go_wp2_with fail
    go_region_with (first
     |(go_at_call 48
       refine(HN.out _).mono ?_
       rintro e w4 ⟨rfl,q2⟩
       have A9:=Lib.hid (HI2.out.call q2)
       clear s0 s1 s2 s3 s4 sf sl r0 r1 r2 r3 r4 rf rl x0 x1 x2 x3 hgl
       obtain⟨hgl,x0,x1,x2,x3⟩:=HCX.out w4 A9.out.1.2
       obtain⟨⟨s0,s1,s2,s3,s4⟩,sf,sl,⟨r0,r1,r2,r3,r4⟩,rf,rl⟩:=A9.out.facts))
    all_goals
     go_wp2_with fail
     go_roundw
     case rel=>exact⟨k+1,by go_num,by omega,by omega,Lib.hid (by rw[HE.out];exact A9.out.ax _)⟩
     case measure=>simp[RowKit.intOf];omega
   |false=>
    have hq:=bs_eqv _ _ _ he
    have HE:=Lib.hid (axU_miss (of_decide_eq_false he))
    clear he
    generalize nmX (k:Int)=X at *
    go_wp2_with fail
    go_region_with (first
     |(go_at_call 48
       refine(HN.out _).mono ?_
       rintro e w4 ⟨rfl,q2⟩
       have A9:=Lib.hid (HI2.out.call q2)
       clear s0 s1 s2 s3 s4 sf sl r0 r1 r2 r3 r4 rf rl x0 x1 x2 x3 hgl
       obtain⟨hgl,x0,x1,x2,x3⟩:=HCX.out w4 A9.out.1.2
       obtain⟨⟨s0,s1,s2,s3,s4⟩,sf,sl,⟨r0,r1,r2,r3,r4⟩,rf,rl⟩:=A9.out.facts))
    all_goals
     go_wp2_with fail
     go_roundw
     case rel=>exact⟨k+1,by go_num,by omega,by omega,Lib.hid (by rw[HE.out];exact A9.out)⟩
     case measure=>simp[RowKit.intOf];omega
  ·have e:k=13:=by omega
   subst e
   rw[axU_end]at HI
   obtain⟨hgl,x0,x1,x2,x3⟩:=HCX.out wr HI.out.1.2
   obtain⟨⟨s0,s1,s2,s3,s4⟩,sf,sl,⟨r0,r1,r2,r3,r4⟩,rf,rl⟩:=HI.out.facts
   dsimp only[St.ax,St.tk,St.nm,St.has]at s0 s1 s2 s3
   have sa:((ofX x.s:Int)==0)=false:=by rw[beq_eq_false_iff_ne];omega
   have n23:decide ((2:Int)+(m1:Int)<2)=false:=decide_eq_false (by omega)
   have n24:(1:Int)<(2:Int)+(m1:Int):=by omega
   have n25:1<2+m1:=by omega
   obtain⟨y0,y1,y2,y3⟩:=HCY.out wr HI.out.1.2
   generalize (ofX x.s:Int)=AX at *
   go_wp2_with (first
    |(go_at_call 89
      refine(HY.out _).mono ?_
      rintro e w4 ⟨rfl,hbw4⟩
      have A9:=Lib.hid (HI.out.call hbw4)
      clear s0 s1 s2 s3 s4 sf sl r0 r1 r2 r3 r4 rf rl
      obtain⟨⟨s0,s1,s2,s3,s4⟩,sf,sl,⟨r0,r1,r2,r3,r4⟩,rf,rl⟩:=A9.out.facts
      dsimp only[St.ax,St.tk,St.nm,St.has]at s0 s1 s2 s3
      clear HY hbw4)
    |(go_at_call 220
      refine(HT.out _ A9.out.1.2).mono ?_
      rintro e w5 ⟨rfl,hbw5⟩
      unfold teV
      have A5:=Lib.hid (A9.out.call hbw5)
      clear s0 s1 s2 s3 s4 sf sl r0 r1 r2 r3 r4 rf rl
      have B5:=Lib.hid ((A5.out.te (k:=kd) (n:=nm) (hs:=hs)).alloc (boxTe kd nm hs))
      obtain⟨⟨s0,s1,s2,s3,s4⟩,sf,sl,⟨r0,r1,r2,r3,r4⟩,rf,rl⟩:=A5.out.facts
      dsimp only[St.ax,St.tk,St.nm,St.has]at s0 s1 s2 s3
      clear HT hbw5)
    |(go_at_call 185
      refine(HP.out _ B5.out.1.2).mono ?_
      rintro e w7 ⟨xs,o7,j7,rfl,hr7,hx7,hbw7⟩
      have A7:=Lib.hid (B5.out.call hbw7)
      have HR7:=Lib.hid hr7
      have HX7:=Lib.hid hx7
      clear s0 s1 s2 s3 s4 sf sl r0 r1 r2 r3 r4 rf rl
      obtain⟨⟨s0,s1,s2,s3,s4⟩,sf,sl,⟨r0,r1,r2,r3,r4⟩,rf,rl⟩:=A7.out.facts
      dsimp only[St.ax,St.tk,St.nm,St.has]at s0 s1 s2 s3
      have hne:=A7.out.2.1
      clear HP hbw7 hr7 hx7))
   exact step_ok Tryz.results203 (w7.setCell ⟨w2.heap.size,4,none⟩ (.slice o7 xs.length j7)) (.mk AX kd nm hs ps) (.slice o7 xs.length j7) (2+m1+m2) (A7.out.1.set A7.out.2.1 _) HQ.out HTOT.out.1 HTOT.out.2 (StOn.iff.2 (by
    rw[←HX7.out]
    exact HR7.out.on.move fun k hk hF=>⟨by have :=B5.out.1.lt;omega,heap_set_ne (a:=⟨w2.heap.size,4,none⟩) (show k≠w2.heap.size by have :=B5.out.lt;omega)⟩)) rfl (by first|rfl|go_num) rfl
set_option maxRecDepth 100000 in
set_option maxHeartbeats 2000000 in
theorem refStep_ax_f0 (w:World)(g off n c:Nat)(ts:List Wd)(x:Wd)(hcx:∀W,Below w.heap.size w W→Wc W g off x)(n0:0<n)(hB:n≤800)(hd:MkC x ⟨#[46]⟩ false)(h2:MkC x ⟨#[46,46]⟩ false)(h3:MkC x ⟨#[64]⟩ false)(k7:((x.k:Int)==7)=true)(ha:ofX x.s=0)(q:Option (St×List Wd))(hq:q=none):
 Calls Tryz.prog 203 #[.slice (some ⟨g,off,none⟩) n c] w (StpP w ts q):=by
 have HCX:=Lib.hid hcx
 obtain⟨hgl,x0,x1,x2,x3⟩:=hcx w (Below.refl _ _)
 have n1:((n:Int)==0)=false:=by rw[beq_eq_false_iff_ne];omega
 have n2:(0:Int)<(n:Int):=by omega
 clear hcx
 have HD1:=Lib.hid hd
 have HD2:=Lib.hid h2
 have HD3:=Lib.hid h3
 clear hd h2 h3
 have HQ:=Lib.hid hq
 clear hq
 go_enter Tryz.func203,Tryz.ntmps203
 go_wp2_with (first
  |(go_at_call 89
    refine(HD1.out _).mono ?_
    rintro e w1 ⟨rfl,hbw1⟩
    have Aw1:=Lib.hid ((S1.new w).call hbw1)
    clear x0 x1 x2 x3 hgl
    obtain⟨hgl,x0,x1,x2,x3⟩:=HCX.out w1 Aw1.out.2
    obtain⟨⟨r0,r1,r2,r3,r4⟩,rf,rl⟩:=Aw1.out.facts
    clear HD1 hbw1)
  |(go_at_call 89
    refine(HD2.out _).mono ?_
    rintro e w2 ⟨rfl,hbw2⟩
    have Aw2:=Lib.hid (Aw1.out.call hbw2)
    clear x0 x1 x2 x3 hgl
    obtain⟨hgl,x0,x1,x2,x3⟩:=HCX.out w2 Aw2.out.2
    clear r0 r1 r2 r3 r4 rf rl
    obtain⟨⟨r0,r1,r2,r3,r4⟩,rf,rl⟩:=Aw2.out.facts
    clear HD2 hbw2)
  |(go_at_call 89
    refine(HD3.out _).mono ?_
    rintro e w3 ⟨rfl,hbw3⟩
    have Aw3:=Lib.hid ((S2.new Aw2.out (.mk 1 0 [] false []) (.slice none 0 0)).call hbw3)
    clear x0 x1 x2 x3 hgl r0 r1 r2 r3 r4 rf rl
    obtain⟨hgl,x0,x1,x2,x3⟩:=HCX.out w3 Aw3.out.1.2
    obtain⟨⟨s0,s1,s2,s3,s4⟩,sf,sl,⟨r0,r1,r2,r3,r4⟩,rf,rl⟩:=Aw3.out.facts
    dsimp only[St.ax,St.tk,St.nm,St.has]at s0 s1 s2 s3
    have A4:=Lib.hid (Aw3.out.ax 0)
    clear HD3 hbw3))
 clear s0 s1 s2 s3 s4 sf sl r0 r1 r2 r3 r4 rf rl x0 x1 x2 x3 hgl
 go_loopw [6] (fun v6 wr=>∃k:Nat,v6= .int .i64 (k:Int)∧1≤k∧k≤13∧Hid (S2 w wr w2.heap.size (.mk (axU x.s k:Int) 0 [] false []) (.slice none 0 0))) (fun v _=>13-(RowKit.intOf v).toNat)
 case atStart=>exact⟨1,rfl,by omega,by omega,Lib.hid (by rw[axU_one];exact A4.out)⟩
 case round=>
  obtain⟨k,rfl,hk1,hk13,HI⟩:=hrel
  by_cases hlt:k≤12
  ·have k0:decide ((k:Int)≤12)=true:=decide_eq_true (by omega)
   have HN:=Lib.hid fun W=>nameR_any (k:Int) W
   have HI2:=Lib.hid (HI.out.call (below_drew wr))
   obtain⟨hgl,x0,x1,x2,x3⟩:=HCX.out wr HI.out.1.2
   obtain⟨⟨s0,s1,s2,s3,s4⟩,sf,sl,⟨r0,r1,r2,r3,r4⟩,rf,rl⟩:=HI.out.facts
   dsimp only[St.ax,St.tk,St.nm,St.has]at s0 s1 s2 s3
   cases he:decide (nmX (k:Int)=x.s) with
   |true=>
    have hq:=bs_eqv _ _ _ he
    have HE:=Lib.hid (axU_hit hk1 hlt (of_decide_eq_true he))
    clear he
    generalize nmX (k:Int)=X at *
    go_wp2_with fail
    go_region_with (first
     |(go_at_call 48
       refine(HN.out _).mono ?_
       rintro e w4 ⟨rfl,q2⟩
       have A9:=Lib.hid (HI2.out.call q2)
       clear s0 s1 s2 s3 s4 sf sl r0 r1 r2 r3 r4 rf rl x0 x1 x2 x3 hgl
       obtain⟨hgl,x0,x1,x2,x3⟩:=HCX.out w4 A9.out.1.2
       obtain⟨⟨s0,s1,s2,s3,s4⟩,sf,sl,⟨r0,r1,r2,r3,r4⟩,rf,rl⟩:=A9.out.facts))
    all_goals
     go_wp2_with fail
     go_roundw
     case rel=>exact⟨k+1,by go_num,by omega,by omega,Lib.hid (by rw[HE.out];exact A9.out.ax _)⟩
     case measure=>simp[RowKit.intOf];omega
   |false=>
    have hq:=bs_eqv _ _ _ he
    have HE:=Lib.hid (axU_miss (of_decide_eq_false he))
    clear he
    generalize nmX (k:Int)=X at *
    go_wp2_with fail
    go_region_with (first
     |(go_at_call 48
       refine(HN.out _).mono ?_
       rintro e w4 ⟨rfl,q2⟩
       have A9:=Lib.hid (HI2.out.call q2)
       clear s0 s1 s2 s3 s4 sf sl r0 r1 r2 r3 r4 rf rl x0 x1 x2 x3 hgl
       obtain⟨hgl,x0,x1,x2,x3⟩:=HCX.out w4 A9.out.1.2
       obtain⟨⟨s0,s1,s2,s3,s4⟩,sf,sl,⟨r0,r1,r2,r3,r4⟩,rf,rl⟩:=A9.out.facts))
    all_goals
     go_wp2_with fail
     go_roundw
     case rel=>exact⟨k+1,by go_num,by omega,by omega,Lib.hid (by rw[HE.out];exact A9.out)⟩
     case measure=>simp[RowKit.intOf];omega
  ·have e:k=13:=by omega
   subst e
   rw[axU_end]at HI
   obtain⟨hgl,x0,x1,x2,x3⟩:=HCX.out wr HI.out.1.2
   obtain⟨⟨s0,s1,s2,s3,s4⟩,sf,sl,⟨r0,r1,r2,r3,r4⟩,rf,rl⟩:=HI.out.facts
   dsimp only[St.ax,St.tk,St.nm,St.has]at s0 s1 s2 s3
   have sa:((ofX x.s:Int)==0)=true:=by rw[beq_iff_eq];omega
   clear ha
   generalize (ofX x.s:Int)=AX at *
   go_wp2_with fail
   exact step_no Tryz.results203 _ HI.out.1 HQ.out rfl rfl rfl
set_option maxRecDepth 100000 in
set_option maxHeartbeats 2000000 in
theorem refStep_ax_f1 (w:World)(g off n c:Nat)(ts:List Wd)(x:Wd)(hcx:∀W,Below w.heap.size w W→Wc W g off x)(hd:MkC x ⟨#[46]⟩ false)(h2:MkC x ⟨#[46,46]⟩ false)(h3:MkC x ⟨#[64]⟩ false)(k7:((x.k:Int)==7)=true)(ha:ofX x.s≠0)(hn:n=1)(q:Option (St×List Wd))(hq:q=none):
 Calls Tryz.prog 203 #[.slice (some ⟨g,off,none⟩) n c] w (StpP w ts q):=by
 have HCX:=Lib.hid hcx
 obtain⟨hgl,x0,x1,x2,x3⟩:=hcx w (Below.refl _ _)
 have n1:((n:Int)==0)=false:=by rw[beq_eq_false_iff_ne];omega
 have n2:(0:Int)<(n:Int):=by omega
 clear hcx
 have HD1:=Lib.hid hd
 have HD2:=Lib.hid h2
 have HD3:=Lib.hid h3
 clear hd h2 h3
 have HQ:=Lib.hid hq
 clear hq
 go_enter Tryz.func203,Tryz.ntmps203
 go_wp2_with (first
  |(go_at_call 89
    refine(HD1.out _).mono ?_
    rintro e w1 ⟨rfl,hbw1⟩
    have Aw1:=Lib.hid ((S1.new w).call hbw1)
    clear x0 x1 x2 x3 hgl
    obtain⟨hgl,x0,x1,x2,x3⟩:=HCX.out w1 Aw1.out.2
    obtain⟨⟨r0,r1,r2,r3,r4⟩,rf,rl⟩:=Aw1.out.facts
    clear HD1 hbw1)
  |(go_at_call 89
    refine(HD2.out _).mono ?_
    rintro e w2 ⟨rfl,hbw2⟩
    have Aw2:=Lib.hid (Aw1.out.call hbw2)
    clear x0 x1 x2 x3 hgl
    obtain⟨hgl,x0,x1,x2,x3⟩:=HCX.out w2 Aw2.out.2
    clear r0 r1 r2 r3 r4 rf rl
    obtain⟨⟨r0,r1,r2,r3,r4⟩,rf,rl⟩:=Aw2.out.facts
    clear HD2 hbw2)
  |(go_at_call 89
    refine(HD3.out _).mono ?_
    rintro e w3 ⟨rfl,hbw3⟩
    have Aw3:=Lib.hid ((S2.new Aw2.out (.mk 1 0 [] false []) (.slice none 0 0)).call hbw3)
    clear x0 x1 x2 x3 hgl r0 r1 r2 r3 r4 rf rl
    obtain⟨hgl,x0,x1,x2,x3⟩:=HCX.out w3 Aw3.out.1.2
    obtain⟨⟨s0,s1,s2,s3,s4⟩,sf,sl,⟨r0,r1,r2,r3,r4⟩,rf,rl⟩:=Aw3.out.facts
    dsimp only[St.ax,St.tk,St.nm,St.has]at s0 s1 s2 s3
    have A4:=Lib.hid (Aw3.out.ax 0)
    clear HD3 hbw3))
 clear s0 s1 s2 s3 s4 sf sl r0 r1 r2 r3 r4 rf rl x0 x1 x2 x3 hgl
 go_loopw [6] (fun v6 wr=>∃k:Nat,v6= .int .i64 (k:Int)∧1≤k∧k≤13∧Hid (S2 w wr w2.heap.size (.mk (axU x.s k:Int) 0 [] false []) (.slice none 0 0))) (fun v _=>13-(RowKit.intOf v).toNat)
 case atStart=>exact⟨1,rfl,by omega,by omega,Lib.hid (by rw[axU_one];exact A4.out)⟩
 case round=>
  obtain⟨k,rfl,hk1,hk13,HI⟩:=hrel
  by_cases hlt:k≤12
  ·have k0:decide ((k:Int)≤12)=true:=decide_eq_true (by omega)
   have HN:=Lib.hid fun W=>nameR_any (k:Int) W
   have HI2:=Lib.hid (HI.out.call (below_drew wr))
   obtain⟨hgl,x0,x1,x2,x3⟩:=HCX.out wr HI.out.1.2
   obtain⟨⟨s0,s1,s2,s3,s4⟩,sf,sl,⟨r0,r1,r2,r3,r4⟩,rf,rl⟩:=HI.out.facts
   dsimp only[St.ax,St.tk,St.nm,St.has]at s0 s1 s2 s3
   cases he:decide (nmX (k:Int)=x.s) with
   |true=>
    have hq:=bs_eqv _ _ _ he
    have HE:=Lib.hid (axU_hit hk1 hlt (of_decide_eq_true he))
    clear he
    generalize nmX (k:Int)=X at *
    go_wp2_with fail
    go_region_with (first
     |(go_at_call 48
       refine(HN.out _).mono ?_
       rintro e w4 ⟨rfl,q2⟩
       have A9:=Lib.hid (HI2.out.call q2)
       clear s0 s1 s2 s3 s4 sf sl r0 r1 r2 r3 r4 rf rl x0 x1 x2 x3 hgl
       obtain⟨hgl,x0,x1,x2,x3⟩:=HCX.out w4 A9.out.1.2
       obtain⟨⟨s0,s1,s2,s3,s4⟩,sf,sl,⟨r0,r1,r2,r3,r4⟩,rf,rl⟩:=A9.out.facts))
    all_goals
     go_wp2_with fail
     go_roundw
     case rel=>exact⟨k+1,by go_num,by omega,by omega,Lib.hid (by rw[HE.out];exact A9.out.ax _)⟩
     case measure=>simp[RowKit.intOf];omega
   |false=>
    have hq:=bs_eqv _ _ _ he
    have HE:=Lib.hid (axU_miss (of_decide_eq_false he))
    clear he
    generalize nmX (k:Int)=X at *
    go_wp2_with fail
    go_region_with (first
     |(go_at_call 48
       refine(HN.out _).mono ?_
       rintro e w4 ⟨rfl,q2⟩
       have A9:=Lib.hid (HI2.out.call q2)
       clear s0 s1 s2 s3 s4 sf sl r0 r1 r2 r3 r4 rf rl x0 x1 x2 x3 hgl
       obtain⟨hgl,x0,x1,x2,x3⟩:=HCX.out w4 A9.out.1.2
       obtain⟨⟨s0,s1,s2,s3,s4⟩,sf,sl,⟨r0,r1,r2,r3,r4⟩,rf,rl⟩:=A9.out.facts))
    all_goals
     go_wp2_with fail
     go_roundw
     case rel=>exact⟨k+1,by go_num,by omega,by omega,Lib.hid (by rw[HE.out];exact A9.out)⟩
     case measure=>simp[RowKit.intOf];omega
  ·have e:k=13:=by omega
   subst e
   rw[axU_end]at HI
   obtain⟨hgl,x0,x1,x2,x3⟩:=HCX.out wr HI.out.1.2
   obtain⟨⟨s0,s1,s2,s3,s4⟩,sf,sl,⟨r0,r1,r2,r3,r4⟩,rf,rl⟩:=HI.out.facts
   dsimp only[St.ax,St.tk,St.nm,St.has]at s0 s1 s2 s3
   have sa:((ofX x.s:Int)==0)=false:=by rw[beq_eq_false_iff_ne];omega
   have n23:decide ((n:Int)<2)=true:=decide_eq_true (by omega)
   clear ha
   generalize (ofX x.s:Int)=AX at *
   go_wp2_with fail
   exact step_no Tryz.results203 _ HI.out.1 HQ.out rfl rfl rfl
set_option maxRecDepth 100000 in
set_option maxHeartbeats 2000000 in
theorem refStep_ax_f2 (w:World)(g off n c:Nat)(ts:List Wd)(x:Wd)(hcx:∀W,Below w.heap.size w W→Wc W g off x)(n0:0<n)(hB:n≤800)(hd:MkC x ⟨#[46]⟩ false)(h2:MkC x ⟨#[46,46]⟩ false)(h3:MkC x ⟨#[64]⟩ false)(k7:((x.k:Int)==7)=true)(y:Wd)(hcy:∀W,Below w.heap.size w W→W.cell? ⟨g,off+4,none⟩=some (.int .i64 (y.k:Int))∧W.cell? ⟨g,off+5,none⟩=some (.string (bs y.s))∧W.cell? ⟨g,off+6,none⟩=some (.int .i64 (outT y.n))∧W.cell? ⟨g,off+7,none⟩=some (.int .i64 (outV y.n)))(ha:ofX x.s≠0)(hy:MkC y ⟨#[58,58]⟩ false)(n22:2≤n)(q:Option (St×List Wd))(hq:q=none):
 Calls Tryz.prog 203 #[.slice (some ⟨g,off,none⟩) n c] w (StpP w ts q):=by
 have HCX:=Lib.hid hcx
 obtain⟨hgl,x0,x1,x2,x3⟩:=hcx w (Below.refl _ _)
 have n1:((n:Int)==0)=false:=by rw[beq_eq_false_iff_ne];omega
 have n2:(0:Int)<(n:Int):=by omega
 clear hcx
 have HD1:=Lib.hid hd
 have HD2:=Lib.hid h2
 have HD3:=Lib.hid h3
 clear hd h2 h3
 have HQ:=Lib.hid hq
 clear hq
 have HCY:=Lib.hid hcy
 have HY:=Lib.hid hy
 clear hcy hy
 go_enter Tryz.func203,Tryz.ntmps203
 go_wp2_with (first
  |(go_at_call 89
    refine(HD1.out _).mono ?_
    rintro e w1 ⟨rfl,hbw1⟩
    have Aw1:=Lib.hid ((S1.new w).call hbw1)
    clear x0 x1 x2 x3 hgl
    obtain⟨hgl,x0,x1,x2,x3⟩:=HCX.out w1 Aw1.out.2
    obtain⟨⟨r0,r1,r2,r3,r4⟩,rf,rl⟩:=Aw1.out.facts
    clear HD1 hbw1)
  |(go_at_call 89
    refine(HD2.out _).mono ?_
    rintro e w2 ⟨rfl,hbw2⟩
    have Aw2:=Lib.hid (Aw1.out.call hbw2)
    clear x0 x1 x2 x3 hgl
    obtain⟨hgl,x0,x1,x2,x3⟩:=HCX.out w2 Aw2.out.2
    clear r0 r1 r2 r3 r4 rf rl
    obtain⟨⟨r0,r1,r2,r3,r4⟩,rf,rl⟩:=Aw2.out.facts
    clear HD2 hbw2)
  |(go_at_call 89
    refine(HD3.out _).mono ?_
    rintro e w3 ⟨rfl,hbw3⟩
    have Aw3:=Lib.hid ((S2.new Aw2.out (.mk 1 0 [] false []) (.slice none 0 0)).call hbw3)
    clear x0 x1 x2 x3 hgl r0 r1 r2 r3 r4 rf rl
    obtain⟨hgl,x0,x1,x2,x3⟩:=HCX.out w3 Aw3.out.1.2
    obtain⟨⟨s0,s1,s2,s3,s4⟩,sf,sl,⟨r0,r1,r2,r3,r4⟩,rf,rl⟩:=Aw3.out.facts
    dsimp only[St.ax,St.tk,St.nm,St.has]at s0 s1 s2 s3
    have A4:=Lib.hid (Aw3.out.ax 0)
    clear HD3 hbw3))
 clear s0 s1 s2 s3 s4 sf sl r0 r1 r2 r3 r4 rf rl x0 x1 x2 x3 hgl
 go_loopw [6] (fun v6 wr=>∃k:Nat,v6= .int .i64 (k:Int)∧1≤k∧k≤13∧Hid (S2 w wr w2.heap.size (.mk (axU x.s k:Int) 0 [] false []) (.slice none 0 0))) (fun v _=>13-(RowKit.intOf v).toNat)
 case atStart=>exact⟨1,rfl,by omega,by omega,Lib.hid (by rw[axU_one];exact A4.out)⟩
 case round=>
  obtain⟨k,rfl,hk1,hk13,HI⟩:=hrel
  by_cases hlt:k≤12
  ·have k0:decide ((k:Int)≤12)=true:=decide_eq_true (by omega)
   have HN:=Lib.hid fun W=>nameR_any (k:Int) W
   have HI2:=Lib.hid (HI.out.call (below_drew wr))
   obtain⟨hgl,x0,x1,x2,x3⟩:=HCX.out wr HI.out.1.2
   obtain⟨⟨s0,s1,s2,s3,s4⟩,sf,sl,⟨r0,r1,r2,r3,r4⟩,rf,rl⟩:=HI.out.facts
   dsimp only[St.ax,St.tk,St.nm,St.has]at s0 s1 s2 s3
   cases he:decide (nmX (k:Int)=x.s) with
   |true=>
    have hq:=bs_eqv _ _ _ he
    have HE:=Lib.hid (axU_hit hk1 hlt (of_decide_eq_true he))
    clear he
    generalize nmX (k:Int)=X at *
    go_wp2_with fail
    go_region_with (first
     |(go_at_call 48
       refine(HN.out _).mono ?_
       rintro e w4 ⟨rfl,q2⟩
       have A9:=Lib.hid (HI2.out.call q2)
       clear s0 s1 s2 s3 s4 sf sl r0 r1 r2 r3 r4 rf rl x0 x1 x2 x3 hgl
       obtain⟨hgl,x0,x1,x2,x3⟩:=HCX.out w4 A9.out.1.2
       obtain⟨⟨s0,s1,s2,s3,s4⟩,sf,sl,⟨r0,r1,r2,r3,r4⟩,rf,rl⟩:=A9.out.facts))
    all_goals
     go_wp2_with fail
     go_roundw
     case rel=>exact⟨k+1,by go_num,by omega,by omega,Lib.hid (by rw[HE.out];exact A9.out.ax _)⟩
     case measure=>simp[RowKit.intOf];omega
   |false=>
    have hq:=bs_eqv _ _ _ he
    have HE:=Lib.hid (axU_miss (of_decide_eq_false he))
    clear he
    generalize nmX (k:Int)=X at *
    go_wp2_with fail
    go_region_with (first
     |(go_at_call 48
       refine(HN.out _).mono ?_
       rintro e w4 ⟨rfl,q2⟩
       have A9:=Lib.hid (HI2.out.call q2)
       clear s0 s1 s2 s3 s4 sf sl r0 r1 r2 r3 r4 rf rl x0 x1 x2 x3 hgl
       obtain⟨hgl,x0,x1,x2,x3⟩:=HCX.out w4 A9.out.1.2
       obtain⟨⟨s0,s1,s2,s3,s4⟩,sf,sl,⟨r0,r1,r2,r3,r4⟩,rf,rl⟩:=A9.out.facts))
    all_goals
     go_wp2_with fail
     go_roundw
     case rel=>exact⟨k+1,by go_num,by omega,by omega,Lib.hid (by rw[HE.out];exact A9.out)⟩
     case measure=>simp[RowKit.intOf];omega
  ·have e:k=13:=by omega
   subst e
   rw[axU_end]at HI
   obtain⟨hgl,x0,x1,x2,x3⟩:=HCX.out wr HI.out.1.2
   obtain⟨⟨s0,s1,s2,s3,s4⟩,sf,sl,⟨r0,r1,r2,r3,r4⟩,rf,rl⟩:=HI.out.facts
   dsimp only[St.ax,St.tk,St.nm,St.has]at s0 s1 s2 s3
   have sa:((ofX x.s:Int)==0)=false:=by rw[beq_eq_false_iff_ne];omega
   have n23:decide ((n:Int)<2)=false:=decide_eq_false (by omega)
   have n24:(1:Int)<(n:Int):=by omega
   have n25:1<n:=by omega
   clear ha
   obtain⟨y0,y1,y2,y3⟩:=HCY.out wr HI.out.1.2
   generalize (ofX x.s:Int)=AX at *
   go_wp2_with (first
    |(go_at_call 89
      refine(HY.out _).mono ?_
      rintro e w4 ⟨rfl,hbw4⟩
      have A9:=Lib.hid (HI.out.call hbw4)
      clear s0 s1 s2 s3 s4 sf sl r0 r1 r2 r3 r4 rf rl
      obtain⟨⟨s0,s1,s2,s3,s4⟩,sf,sl,⟨r0,r1,r2,r3,r4⟩,rf,rl⟩:=A9.out.facts
      dsimp only[St.ax,St.tk,St.nm,St.has]at s0 s1 s2 s3
      clear HY hbw4))
   exact step_no Tryz.results203 _ A9.out.1 HQ.out rfl rfl rfl
end Char
end Go.Proofs.YtlmpkpjjakallaaGreatDoor
