import Derived.Test.YtlmpkpjjakallaaGreatDoorPk05
import Derived.Deep.LoopGhost
namespace Go.Proofs.YtlmpkpjjakallaaGreatDoor
namespace Char
open Go.RowKit Go.Lib
open Go.Proofs.YtlmpkpjjakallaaGreatDoor.Fig (outT outV)
def comL:List UInt8:=[99,111,109,109,101,110,116]
def txtL:List UInt8:=[116,101,120,116]
def pinL:List UInt8:=[112,114,111,99,101,115,115,105,110,103,45,105,110,115,116,114,117,99,116,105,111,110]
def tyK (s:List UInt8):Int:=if s=comL then 5 else if s=txtL then 4 else if s=pinL then 6 else 3
def typL (s:List UInt8)(ts:List Wd):Option (Te3×List Wd):=
 match mustW [40] ts with
 |none=>none
 |some t=>if tyK s=6∧atL 8 t=true then (match t with
  |[]=>none
  |x::r=>(mustW [41] r).map fun u=>((6,x.s,true),u))
  else (mustW [41] t).map fun u=>((tyK s,[],false),u)
theorem begin_te {R:Nat}{ts:List Wd}{w:World}(h:LfB R ts w)(A B:Obj):LfB R ts ((w.alloc A).alloc B)∧Bx R w.heap.size A ((w.alloc A).alloc B)∧Bx R (w.heap.size+1) B ((w.alloc A).alloc B)∧But R w ((w.alloc A).alloc B):=
 ⟨(h.box _).box _,(Bx.new h.lt A).box B,Bx.new1 h.lt A B,(But.new R w h.lt A).box h.lt B⟩
set_option maxRecDepth 100000 in
set_option maxHeartbeats 4000000 in
theorem typed_5 (R:Nat)(s:List UInt8)(ts:List Wd)(w:World)(h:LfB R ts w)(e5:s=comL):Calls Tryz.prog 233 #[.pointer (some ⟨R,0,none⟩),.string (bs s)] w (TeP R w (typL s ts)):=by
 have hlt:=h.lt
 obtain⟨l0,a0,b0,c0⟩:=begin_te h (boxTe 0 [] false) (boxTe 5 [] false)
 have L0:=Lib.hid l0
 have A0:=Lib.hid a0
 have B0:=Lib.hid b0
 have C0:=Lib.hid c0
 have s0:((bs s).toList==comL)=true:=by rw[bs_tl,beq_iff_eq];exact e5
 simp only[comL]at s0
 have hk:tyK s=5:=by unfold tyK;simp[e5]
 unfold typL
 rw[hk]
 have hm:=fun(W:World) (hl:LfB R ts W)=>must_any R [40] ts W hl
 clear hk e5 l0 a0 b0 c0 h
 generalize bs s=S at *
 cases h1:mustW [40] ts with
 |none=>
  rw[h1]at hm
  have HM:=Lib.hid hm
  unfold MuP PaP at HM
  show Calls _ _ _ _ (PaP R w)
  unfold PaP
  clear hm h1
  go_enter Tryz.func233,Tryz.ntmps233
  go_wp2_with (first
   |(go_at_call 230
     refine(HM.out _ L0.out).mono ?_
     rintro e w1 ⟨rfl,q2⟩
     have C1:=Lib.hid (C0.out.trans q2)
     clear q2 HM
     unfold pan31))
  exact⟨rfl,rfl,C1.out⟩
 |some t=>
  rw[h1]at hm
  have hm:∀(W:World),LfB R ts W→Calls Tryz.prog 230 #[.pointer (some ⟨R,0,none⟩),.string ⟨#[40]⟩] W (TkP R (.tuple #[]) t W):=hm
  have HM:=Lib.hid hm
  unfold TkP at HM
  clear hm h1
  dsimp only
  rw[if_neg (by simp)]
  have hm2:=fun(W:World) (hl:LfB R t W)=>must_any R [41] t W hl
  cases h2:mustW [41] t with
  |none=>
   rw[h2]at hm2
   have hm2:∀(W:World),LfB R t W→Calls Tryz.prog 230 #[.pointer (some ⟨R,0,none⟩),.string ⟨#[41]⟩] W (PaP R W):=hm2
   have HM2:=Lib.hid hm2
   unfold PaP at HM2
   show Calls _ _ _ _ (PaP R w)
   unfold PaP
   clear hm2 h2
   go_enter Tryz.func233,Tryz.ntmps233
   go_wp2_with (first
    |(go_at_call 230
      first
       |(refine(HM.out _ L0.out).mono ?_
         rintro e w1 ⟨rfl,q1,q2⟩
         have L1:=Lib.hid q1
         have A1:=Lib.hid (A0.out.next q2)
         have B1:=Lib.hid (B0.out.next q2)
         have C1:=Lib.hid (C0.out.trans q2)
         obtain⟨⟨d0,d1,d2⟩,df⟩:=boxTe_blk B1.out.2
         clear q1 q2 HM L0 A0 B0 C0)
       |(refine(HM2.out _ L1.out).mono ?_
         rintro e w3 ⟨rfl,q2⟩
         have C3:=Lib.hid (C1.out.trans q2)
         clear q2 HM2
         unfold pan31)))
   exact⟨rfl,rfl,C3.out⟩
  |some u=>
   rw[h2]at hm2
   have hm2:∀(W:World),LfB R t W→Calls Tryz.prog 230 #[.pointer (some ⟨R,0,none⟩),.string ⟨#[41]⟩] W (TkP R (.tuple #[]) u W):=hm2
   have HM2:=Lib.hid hm2
   unfold TkP at HM2
   show Calls _ _ _ _ (TeP R w (some ((5,[],false),u)))
   clear hm2 h2
   go_enter Tryz.func233,Tryz.ntmps233
   go_wp2_with (first
    |(go_at_call 230
      first
       |(refine(HM.out _ L0.out).mono ?_
         rintro e w1 ⟨rfl,q1,q2⟩
         have L1:=Lib.hid q1
         have A1:=Lib.hid (A0.out.next q2)
         have B1:=Lib.hid (B0.out.next q2)
         have C1:=Lib.hid (C0.out.trans q2)
         obtain⟨⟨d0,d1,d2⟩,df⟩:=boxTe_blk B1.out.2
         clear q1 q2 HM L0 A0 B0 C0)
       |(refine(HM2.out _ L1.out).mono ?_
         rintro e w3 ⟨rfl,q1,q2⟩
         have L3:=Lib.hid q1
         have A3:=Lib.hid (A1.out.next q2)
         have B3:=Lib.hid (B1.out.next q2)
         have C3:=Lib.hid (C1.out.trans q2)
         obtain⟨⟨f0,f1,f2⟩,ff⟩:=boxTe_blk B3.out.2
         obtain⟨_,gf⟩:=boxTe_blk A3.out.2
         clear q1 q2 HM2)))
   exact endTeP Tryz.results233 (x:=(5,[],false)) A3.out.2 L3.out C3.out hlt rfl rfl
set_option maxRecDepth 100000 in
set_option maxHeartbeats 4000000 in
theorem typed_4 (R:Nat)(s:List UInt8)(ts:List Wd)(w:World)(h:LfB R ts w)(e5:s≠comL)(e4:s=txtL):Calls Tryz.prog 233 #[.pointer (some ⟨R,0,none⟩),.string (bs s)] w (TeP R w (typL s ts)):=by
 have hlt:=h.lt
 obtain⟨l0,a0,b0,c0⟩:=begin_te h (boxTe 0 [] false) (boxTe 4 [] false)
 have L0:=Lib.hid l0
 have A0:=Lib.hid a0
 have B0:=Lib.hid b0
 have C0:=Lib.hid c0
 have s0:((bs s).toList==comL)=false:=by rw[bs_tl,beq_eq_false_iff_ne];exact e5
 have s1:((bs s).toList==txtL)=true:=by rw[bs_tl,beq_iff_eq];exact e4
 simp only[comL,txtL]at s0 s1
 have hk:tyK s=4:=by unfold tyK;simp[e4,comL,txtL]
 unfold typL
 rw[hk]
 have hm:=fun(W:World) (hl:LfB R ts W)=>must_any R [40] ts W hl
 clear hk e5 e4 l0 a0 b0 c0 h
 generalize bs s=S at *
 cases h1:mustW [40] ts with
 |none=>
  rw[h1]at hm
  have HM:=Lib.hid hm
  unfold MuP PaP at HM
  show Calls _ _ _ _ (PaP R w)
  unfold PaP
  clear hm h1
  go_enter Tryz.func233,Tryz.ntmps233
  go_wp2_with (first
   |(go_at_call 230
     refine(HM.out _ L0.out).mono ?_
     rintro e w1 ⟨rfl,q2⟩
     have C1:=Lib.hid (C0.out.trans q2)
     clear q2 HM
     unfold pan31))
  exact⟨rfl,rfl,C1.out⟩
 |some t=>
  rw[h1]at hm
  have hm:∀(W:World),LfB R ts W→Calls Tryz.prog 230 #[.pointer (some ⟨R,0,none⟩),.string ⟨#[40]⟩] W (TkP R (.tuple #[]) t W):=hm
  have HM:=Lib.hid hm
  unfold TkP at HM
  clear hm h1
  dsimp only
  rw[if_neg (by simp)]
  have hm2:=fun(W:World) (hl:LfB R t W)=>must_any R [41] t W hl
  cases h2:mustW [41] t with
  |none=>
   rw[h2]at hm2
   have hm2:∀(W:World),LfB R t W→Calls Tryz.prog 230 #[.pointer (some ⟨R,0,none⟩),.string ⟨#[41]⟩] W (PaP R W):=hm2
   have HM2:=Lib.hid hm2
   unfold PaP at HM2
   show Calls _ _ _ _ (PaP R w)
   unfold PaP
   clear hm2 h2
   go_enter Tryz.func233,Tryz.ntmps233
   go_wp2_with (first
    |(go_at_call 230
      first
       |(refine(HM.out _ L0.out).mono ?_
         rintro e w1 ⟨rfl,q1,q2⟩
         have L1:=Lib.hid q1
         have A1:=Lib.hid (A0.out.next q2)
         have B1:=Lib.hid (B0.out.next q2)
         have C1:=Lib.hid (C0.out.trans q2)
         obtain⟨⟨d0,d1,d2⟩,df⟩:=boxTe_blk B1.out.2
         clear q1 q2 HM L0 A0 B0 C0)
       |(refine(HM2.out _ L1.out).mono ?_
         rintro e w3 ⟨rfl,q2⟩
         have C3:=Lib.hid (C1.out.trans q2)
         clear q2 HM2
         unfold pan31)))
   exact⟨rfl,rfl,C3.out⟩
  |some u=>
   rw[h2]at hm2
   have hm2:∀(W:World),LfB R t W→Calls Tryz.prog 230 #[.pointer (some ⟨R,0,none⟩),.string ⟨#[41]⟩] W (TkP R (.tuple #[]) u W):=hm2
   have HM2:=Lib.hid hm2
   unfold TkP at HM2
   show Calls _ _ _ _ (TeP R w (some ((4,[],false),u)))
   clear hm2 h2
   go_enter Tryz.func233,Tryz.ntmps233
   go_wp2_with (first
    |(go_at_call 230
      first
       |(refine(HM.out _ L0.out).mono ?_
         rintro e w1 ⟨rfl,q1,q2⟩
         have L1:=Lib.hid q1
         have A1:=Lib.hid (A0.out.next q2)
         have B1:=Lib.hid (B0.out.next q2)
         have C1:=Lib.hid (C0.out.trans q2)
         obtain⟨⟨d0,d1,d2⟩,df⟩:=boxTe_blk B1.out.2
         clear q1 q2 HM L0 A0 B0 C0)
       |(refine(HM2.out _ L1.out).mono ?_
         rintro e w3 ⟨rfl,q1,q2⟩
         have L3:=Lib.hid q1
         have A3:=Lib.hid (A1.out.next q2)
         have B3:=Lib.hid (B1.out.next q2)
         have C3:=Lib.hid (C1.out.trans q2)
         obtain⟨⟨f0,f1,f2⟩,ff⟩:=boxTe_blk B3.out.2
         obtain⟨_,gf⟩:=boxTe_blk A3.out.2
         clear q1 q2 HM2)))
   exact endTeP Tryz.results233 (x:=(4,[],false)) A3.out.2 L3.out C3.out hlt rfl rfl
set_option maxRecDepth 100000 in
set_option maxHeartbeats 4000000 in
theorem typed_6 (R:Nat)(s:List UInt8)(ts:List Wd)(w:World)(h:LfB R ts w)(e5:s≠comL)(e4:s≠txtL)(e6:s=pinL):Calls Tryz.prog 233 #[.pointer (some ⟨R,0,none⟩),.string (bs s)] w (TeP R w (typL s ts)):=by
 have hlt:=h.lt
 obtain⟨l0,a0,b0,c0⟩:=begin_te h (boxTe 0 [] false) (boxTe 6 [] false)
 have L0:=Lib.hid l0
 have A0:=Lib.hid a0
 have B0:=Lib.hid b0
 have C0:=Lib.hid c0
 have s0:((bs s).toList==comL)=false:=by rw[bs_tl,beq_eq_false_iff_ne];exact e5
 have s1:((bs s).toList==txtL)=false:=by rw[bs_tl,beq_eq_false_iff_ne];exact e4
 have s2:((bs s).toList==pinL)=true:=by rw[bs_tl,beq_iff_eq];exact e6
 simp only[comL,txtL,pinL]at s0 s1 s2
 have hk:tyK s=6:=by unfold tyK;simp[e6,comL,txtL,pinL]
 unfold typL
 rw[hk]
 have hm:=fun(W:World) (hl:LfB R ts W)=>must_any R [40] ts W hl
 clear hk e5 e4 e6 l0 a0 b0 c0 h
 generalize bs s=S at *
 cases h1:mustW [40] ts with
 |none=>
  rw[h1]at hm
  have HM:=Lib.hid hm
  unfold MuP PaP at HM
  show Calls _ _ _ _ (PaP R w)
  unfold PaP
  clear hm h1
  go_enter Tryz.func233,Tryz.ntmps233
  go_wp2_with (first
   |(go_at_call 230
     refine(HM.out _ L0.out).mono ?_
     rintro e w1 ⟨rfl,q2⟩
     have C1:=Lib.hid (C0.out.trans q2)
     clear q2 HM
     unfold pan31))
  exact⟨rfl,rfl,C1.out⟩
 |some t=>
  rw[h1]at hm
  have hm:∀(W:World),LfB R ts W→Calls Tryz.prog 230 #[.pointer (some ⟨R,0,none⟩),.string ⟨#[40]⟩] W (TkP R (.tuple #[]) t W):=hm
  have HM:=Lib.hid hm
  unfold TkP at HM
  clear hm h1
  dsimp only
  have ha:=fun(W:World) (hl:LfB R t W)=>at_any R 8 t W hl
  cases h3:atL 8 t with
  |false=>
   rw[h3]at ha
   have HA:=Lib.hid ha
   rw[if_neg (by simp)]
   clear ha h3
   have hm2:=fun(W:World) (hl:LfB R t W)=>must_any R [41] t W hl
   cases h2:mustW [41] t with
   |none=>
    rw[h2]at hm2
    have hm2:∀(W:World),LfB R t W→Calls Tryz.prog 230 #[.pointer (some ⟨R,0,none⟩),.string ⟨#[41]⟩] W (PaP R W):=hm2
    have HM2:=Lib.hid hm2
    unfold PaP at HM2
    show Calls _ _ _ _ (PaP R w)
    unfold PaP
    clear hm2 h2
    go_enter Tryz.func233,Tryz.ntmps233
    go_wp2_with (first
     |(go_at_call 230
       first
        |(refine(HM.out _ L0.out).mono ?_
          rintro e w1 ⟨rfl,q1,q2⟩
          have L1:=Lib.hid q1
          have A1:=Lib.hid (A0.out.next q2)
          have B1:=Lib.hid (B0.out.next q2)
          have C1:=Lib.hid (C0.out.trans q2)
          obtain⟨⟨d0,d1,d2⟩,df⟩:=boxTe_blk B1.out.2
          clear q1 q2 HM L0 A0 B0 C0)
        |(refine(HM2.out _ L1.out).mono ?_
          rintro e w3 ⟨rfl,q2⟩
          have C3:=Lib.hid (C1.out.trans q2)
          clear q2 HM2
          unfold pan31))
     |(go_at_call 214
       refine(HA.out _ L1.out).mono ?_
       rintro e w2 ⟨rfl,rfl⟩))
    exact⟨rfl,rfl,C3.out⟩
   |some u=>
    rw[h2]at hm2
    have hm2:∀(W:World),LfB R t W→Calls Tryz.prog 230 #[.pointer (some ⟨R,0,none⟩),.string ⟨#[41]⟩] W (TkP R (.tuple #[]) u W):=hm2
    have HM2:=Lib.hid hm2
    unfold TkP at HM2
    show Calls _ _ _ _ (TeP R w (some ((6,[],false),u)))
    clear hm2 h2
    go_enter Tryz.func233,Tryz.ntmps233
    go_wp2_with (first
     |(go_at_call 230
       first
        |(refine(HM.out _ L0.out).mono ?_
          rintro e w1 ⟨rfl,q1,q2⟩
          have L1:=Lib.hid q1
          have A1:=Lib.hid (A0.out.next q2)
          have B1:=Lib.hid (B0.out.next q2)
          have C1:=Lib.hid (C0.out.trans q2)
          obtain⟨⟨d0,d1,d2⟩,df⟩:=boxTe_blk B1.out.2
          clear q1 q2 HM L0 A0 B0 C0)
        |(refine(HM2.out _ L1.out).mono ?_
          rintro e w3 ⟨rfl,q1,q2⟩
          have L3:=Lib.hid q1
          have A3:=Lib.hid (A1.out.next q2)
          have B3:=Lib.hid (B1.out.next q2)
          have C3:=Lib.hid (C1.out.trans q2)
          obtain⟨⟨f0,f1,f2⟩,ff⟩:=boxTe_blk B3.out.2
          obtain⟨_,gf⟩:=boxTe_blk A3.out.2
          clear q1 q2 HM2))
     |(go_at_call 214
       refine(HA.out _ L1.out).mono ?_
       rintro e w2 ⟨rfl,rfl⟩))
    exact endTeP Tryz.results233 (x:=(6,[],false)) A3.out.2 L3.out C3.out hlt rfl rfl
  |true=>
   rw[h3]at ha
   have HA:=Lib.hid ha
   rw[if_pos (by simp)]
   cases t with
   |nil=>cases h3
   |cons x r=>
    have hn:=fun(W:World) (hl:LfB R (x::r) W)=>next_ok R x r W hl
    have HN:=Lib.hid hn
    unfold TkP wdV at HN
    have hfd:=word_fd (.int .i64 (x.k:Int)) (.string (bs x.s)) (.int .i64 (outT x.n)) (.int .i64 (outV x.n))
    dsimp only
    clear ha h3 hn
    have hm2:=fun(W:World) (hl:LfB R r W)=>must_any R [41] r W hl
    cases h2:mustW [41] r with
    |none=>
     rw[h2]at hm2
     have hm2:∀(W:World),LfB R r W→Calls Tryz.prog 230 #[.pointer (some ⟨R,0,none⟩),.string ⟨#[41]⟩] W (PaP R W):=hm2
     have HM2:=Lib.hid hm2
     unfold PaP at HM2
     show Calls _ _ _ _ (PaP R w)
     unfold PaP
     clear hm2 h2
     go_enter Tryz.func233,Tryz.ntmps233
     go_wp2_with (first
      |(go_at_call 230
        first
         |(refine(HM.out _ L0.out).mono ?_
           rintro e w1 ⟨rfl,q1,q2⟩
           have L1:=Lib.hid q1
           have A1:=Lib.hid (A0.out.next q2)
           have B1:=Lib.hid (B0.out.next q2)
           have C1:=Lib.hid (C0.out.trans q2)
           obtain⟨⟨d0,d1,d2⟩,df⟩:=boxTe_blk B1.out.2
           clear q1 q2 HM L0 A0 B0 C0)
         |(refine(HM2.out _ L2.out).mono ?_
           rintro e w3 ⟨rfl,q2⟩
           have C3:=Lib.hid (C2.out.trans q2)
           clear q2 HM2
           unfold pan31))
      |(go_at_call 214
        refine(HA.out _ L1.out).mono ?_
        rintro e w2 ⟨rfl,rfl⟩)
      |(go_at_call 228
        refine(HN.out _ L1.out).mono ?_
        rintro e w2 ⟨rfl,q1,q2⟩
        have b2:=B1.out.next q2
        have L2:=Lib.hid (q1.put_te x.s b2.1)
        have A2:=Lib.hid ((A1.out.next q2).put_te x.s (by omega:w.heap.size≠w.heap.size+1))
        have B2:=Lib.hid (b2.at_te x.s)
        have C2:=Lib.hid ((C1.out.trans q2).put_te x.s hlt (by omega:w.heap.size≤w.heap.size+1))
        obtain⟨⟨e0,e1,e2⟩,ef⟩:=boxTe_blk b2.2
        clear q1 q2 HN b2))
     exact⟨rfl,rfl,C3.out⟩
    |some u=>
     rw[h2]at hm2
     have hm2:∀(W:World),LfB R r W→Calls Tryz.prog 230 #[.pointer (some ⟨R,0,none⟩),.string ⟨#[41]⟩] W (TkP R (.tuple #[]) u W):=hm2
     have HM2:=Lib.hid hm2
     unfold TkP at HM2
     show Calls _ _ _ _ (TeP R w (some ((6,x.s,true),u)))
     clear hm2 h2
     go_enter Tryz.func233,Tryz.ntmps233
     go_wp2_with (first
      |(go_at_call 230
        first
         |(refine(HM.out _ L0.out).mono ?_
           rintro e w1 ⟨rfl,q1,q2⟩
           have L1:=Lib.hid q1
           have A1:=Lib.hid (A0.out.next q2)
           have B1:=Lib.hid (B0.out.next q2)
           have C1:=Lib.hid (C0.out.trans q2)
           obtain⟨⟨d0,d1,d2⟩,df⟩:=boxTe_blk B1.out.2
           clear q1 q2 HM L0 A0 B0 C0)
         |(refine(HM2.out _ L2.out).mono ?_
           rintro e w3 ⟨rfl,q1,q2⟩
           have L3:=Lib.hid q1
           have A3:=Lib.hid (A2.out.next q2)
           have B3:=Lib.hid (B2.out.next q2)
           have C3:=Lib.hid (C2.out.trans q2)
           obtain⟨⟨f0,f1,f2⟩,ff⟩:=boxTe_blk B3.out.2
           obtain⟨_,gf⟩:=boxTe_blk A3.out.2
           clear q1 q2 HM2))
      |(go_at_call 214
        refine(HA.out _ L1.out).mono ?_
        rintro e w2 ⟨rfl,rfl⟩)
      |(go_at_call 228
        refine(HN.out _ L1.out).mono ?_
        rintro e w2 ⟨rfl,q1,q2⟩
        have b2:=B1.out.next q2
        have L2:=Lib.hid (q1.put_te x.s b2.1)
        have A2:=Lib.hid ((A1.out.next q2).put_te x.s (by omega:w.heap.size≠w.heap.size+1))
        have B2:=Lib.hid (b2.at_te x.s)
        have C2:=Lib.hid ((C1.out.trans q2).put_te x.s hlt (by omega:w.heap.size≤w.heap.size+1))
        obtain⟨⟨e0,e1,e2⟩,ef⟩:=boxTe_blk b2.2
        clear q1 q2 HN b2))
     exact endTeP Tryz.results233 (x:=(6,x.s,true)) A3.out.2 L3.out C3.out hlt rfl rfl
set_option maxRecDepth 100000 in
set_option maxHeartbeats 4000000 in
theorem typed_3 (R:Nat)(s:List UInt8)(ts:List Wd)(w:World)(h:LfB R ts w)(e5:s≠comL)(e4:s≠txtL)(e6:s≠pinL):Calls Tryz.prog 233 #[.pointer (some ⟨R,0,none⟩),.string (bs s)] w (TeP R w (typL s ts)):=by
 have hlt:=h.lt
 obtain⟨l0,a0,b0,c0⟩:=begin_te h (boxTe 0 [] false) (boxTe 3 [] false)
 have L0:=Lib.hid l0
 have A0:=Lib.hid a0
 have B0:=Lib.hid b0
 have C0:=Lib.hid c0
 have s0:((bs s).toList==comL)=false:=by rw[bs_tl,beq_eq_false_iff_ne];exact e5
 have s1:((bs s).toList==txtL)=false:=by rw[bs_tl,beq_eq_false_iff_ne];exact e4
 have s2:((bs s).toList==pinL)=false:=by rw[bs_tl,beq_eq_false_iff_ne];exact e6
 simp only[comL,txtL,pinL]at s0 s1 s2
 have hk:tyK s=3:=by unfold tyK;simp[e5,e4,e6]
 unfold typL
 rw[hk]
 have hm:=fun(W:World) (hl:LfB R ts W)=>must_any R [40] ts W hl
 clear hk e5 e4 e6 l0 a0 b0 c0 h
 generalize bs s=S at *
 cases h1:mustW [40] ts with
 |none=>
  rw[h1]at hm
  have HM:=Lib.hid hm
  unfold MuP PaP at HM
  show Calls _ _ _ _ (PaP R w)
  unfold PaP
  clear hm h1
  go_enter Tryz.func233,Tryz.ntmps233
  go_wp2_with (first
   |(go_at_call 230
     refine(HM.out _ L0.out).mono ?_
     rintro e w1 ⟨rfl,q2⟩
     have C1:=Lib.hid (C0.out.trans q2)
     clear q2 HM
     unfold pan31))
  exact⟨rfl,rfl,C1.out⟩
 |some t=>
  rw[h1]at hm
  have hm:∀(W:World),LfB R ts W→Calls Tryz.prog 230 #[.pointer (some ⟨R,0,none⟩),.string ⟨#[40]⟩] W (TkP R (.tuple #[]) t W):=hm
  have HM:=Lib.hid hm
  unfold TkP at HM
  clear hm h1
  dsimp only
  rw[if_neg (by simp)]
  have hm2:=fun(W:World) (hl:LfB R t W)=>must_any R [41] t W hl
  cases h2:mustW [41] t with
  |none=>
   rw[h2]at hm2
   have hm2:∀(W:World),LfB R t W→Calls Tryz.prog 230 #[.pointer (some ⟨R,0,none⟩),.string ⟨#[41]⟩] W (PaP R W):=hm2
   have HM2:=Lib.hid hm2
   unfold PaP at HM2
   show Calls _ _ _ _ (PaP R w)
   unfold PaP
   clear hm2 h2
   go_enter Tryz.func233,Tryz.ntmps233
   go_wp2_with (first
    |(go_at_call 230
      first
       |(refine(HM.out _ L0.out).mono ?_
         rintro e w1 ⟨rfl,q1,q2⟩
         have L1:=Lib.hid q1
         have A1:=Lib.hid (A0.out.next q2)
         have B1:=Lib.hid (B0.out.next q2)
         have C1:=Lib.hid (C0.out.trans q2)
         obtain⟨⟨d0,d1,d2⟩,df⟩:=boxTe_blk B1.out.2
         clear q1 q2 HM L0 A0 B0 C0)
       |(refine(HM2.out _ L1.out).mono ?_
         rintro e w3 ⟨rfl,q2⟩
         have C3:=Lib.hid (C1.out.trans q2)
         clear q2 HM2
         unfold pan31)))
   exact⟨rfl,rfl,C3.out⟩
  |some u=>
   rw[h2]at hm2
   have hm2:∀(W:World),LfB R t W→Calls Tryz.prog 230 #[.pointer (some ⟨R,0,none⟩),.string ⟨#[41]⟩] W (TkP R (.tuple #[]) u W):=hm2
   have HM2:=Lib.hid hm2
   unfold TkP at HM2
   show Calls _ _ _ _ (TeP R w (some ((3,[],false),u)))
   clear hm2 h2
   go_enter Tryz.func233,Tryz.ntmps233
   go_wp2_with (first
    |(go_at_call 230
      first
       |(refine(HM.out _ L0.out).mono ?_
         rintro e w1 ⟨rfl,q1,q2⟩
         have L1:=Lib.hid q1
         have A1:=Lib.hid (A0.out.next q2)
         have B1:=Lib.hid (B0.out.next q2)
         have C1:=Lib.hid (C0.out.trans q2)
         obtain⟨⟨d0,d1,d2⟩,df⟩:=boxTe_blk B1.out.2
         clear q1 q2 HM L0 A0 B0 C0)
       |(refine(HM2.out _ L1.out).mono ?_
         rintro e w3 ⟨rfl,q1,q2⟩
         have L3:=Lib.hid q1
         have A3:=Lib.hid (A1.out.next q2)
         have B3:=Lib.hid (B1.out.next q2)
         have C3:=Lib.hid (C1.out.trans q2)
         obtain⟨⟨f0,f1,f2⟩,ff⟩:=boxTe_blk B3.out.2
         obtain⟨_,gf⟩:=boxTe_blk A3.out.2
         clear q1 q2 HM2)))
   exact endTeP Tryz.results233 (x:=(3,[],false)) A3.out.2 L3.out C3.out hlt rfl rfl
end Char
namespace Char
open Go.RowKit Go.Lib
open Go.Proofs.YtlmpkpjjakallaaGreatDoor.Fig (outT outV)
theorem typed_any (R:Nat)(s:List UInt8)(ts:List Wd)(w:World)(h:LfB R ts w):Calls Tryz.prog 233 #[.pointer (some ⟨R,0,none⟩),.string (bs s)] w (TeP R w (typL s ts)):=by
 by_cases e5:s=comL
 ·exact typed_5 R s ts w h e5
 by_cases e4:s=txtL
 ·exact typed_4 R s ts w h e5 e4
 by_cases e6:s=pinL
 ·exact typed_6 R s ts w h e5 e4 e6
 ·exact typed_3 R s ts w h e5 e4 e6
def testL (ts:List Wd):Option (Te3×List Wd):=match ts with
 |[]=>none
 |x::r=>if x.k=2 then some ((1,x.s,false),r) else if x.k=3 then some ((2,[],false),r) else if x.k=4 then typL x.s r else none
set_option maxRecDepth 100000 in
set_option maxHeartbeats 4000000 in
theorem test_any (R:Nat)(ts:List Wd)(w:World)(h:LfB R ts w):Calls Tryz.prog 227 #[.pointer (some ⟨R,0,none⟩)] w (TeP R w (testL ts)):=by
 have hlt:=h.lt
 have L0:=Lib.hid (h.box (boxTe 0 [] false))
 have A0:=Lib.hid (Bx.new hlt (boxTe 0 [] false))
 have C0:=Lib.hid (But.new R w hlt (boxTe 0 [] false))
 cases ts with
 |nil=>
  have HN:=Lib.hid fun(W:World) (hl:LfB R [] W)=>next_no R W hl
  unfold PaP at HN
  show Calls _ _ _ _ (PaP R w)
  unfold PaP
  clear h
  go_enter Tryz.func227,Tryz.ntmps227
  go_wp2_with (first
   |(go_at_call 228
     refine(HN.out _ L0.out).mono ?_
     rintro e w1 ⟨rfl,q2⟩
     have C1:=Lib.hid (C0.out.trans q2)
     clear q2
     unfold pan31))
  exact⟨rfl,rfl,C1.out⟩
 |cons x r=>
  have HN:=Lib.hid fun(W:World) (hl:LfB R (x::r) W)=>next_ok R x r W hl
  have HT:=Lib.hid fun(W:World) (hl:LfB R r W)=>typed_any R x.s r W hl
  unfold TkP wdV at HN
  simp only[testL]
  clear h
  by_cases h2:x.k=2
  ·rw[if_pos h2]
   have k2:((x.k:Int)==2)=true:=by rw[h2];rfl
   clear h2 HT
   go_enter Tryz.func227,Tryz.ntmps227
   go_wp2_with (first
    |(go_at_call 228
      refine(HN.out _ L0.out).mono ?_
      rintro e w1 ⟨rfl,q1,q2⟩
      have L1:=Lib.hid q1
      have A1:=Lib.hid (A0.out.next q2)
      have C1:=Lib.hid (C0.out.trans q2)
      obtain⟨_,gf⟩:=boxTe_blk (A0.out.next q2).2
      have ga:=(A0.out.next q2).lt
      clear q1 q2 HN))
   exact endTePb Tryz.results227 (x:=(1,x.s,false)) (boxWd x) A1.out.2 L1.out C1.out hlt rfl rfl
  rw[if_neg h2]
  have k2:((x.k:Int)==2)=false:=by rw[beq_eq_false_iff_ne];omega
  clear h2
  by_cases h3:x.k=3
  ·rw[if_pos h3]
   have k3:((x.k:Int)==3)=true:=by rw[h3];rfl
   clear h3 HT
   go_enter Tryz.func227,Tryz.ntmps227
   go_wp2_with (first
    |(go_at_call 228
      refine(HN.out _ L0.out).mono ?_
      rintro e w1 ⟨rfl,q1,q2⟩
      have L1:=Lib.hid q1
      have A1:=Lib.hid (A0.out.next q2)
      have C1:=Lib.hid (C0.out.trans q2)
      obtain⟨_,gf⟩:=boxTe_blk (A0.out.next q2).2
      have ga:=(A0.out.next q2).lt
      clear q1 q2 HN))
   exact endTePb Tryz.results227 (x:=(2,[],false)) (boxWd x) A1.out.2 L1.out C1.out hlt rfl rfl
  rw[if_neg h3]
  have k3:((x.k:Int)==3)=false:=by rw[beq_eq_false_iff_ne];omega
  clear h3
  by_cases h4:x.k=4
  ·rw[if_pos h4]
   have k4:((x.k:Int)==4)=true:=by rw[h4];rfl
   clear h4
   cases h5:typL x.s r with
   |none=>
    rw[h5]at HT
    unfold TeP at HT
    dsimp only at HT
    unfold PaP at HT
    show Calls _ _ _ _ (PaP R w)
    unfold PaP
    clear h5
    go_enter Tryz.func227,Tryz.ntmps227
    go_wp2_with (first
     |(go_at_call 228
       refine(HN.out _ L0.out).mono ?_
       rintro e w1 ⟨rfl,q1,q2⟩
       have L1:=Lib.hid q1
       have A1:=Lib.hid (A0.out.next q2)
       have C1:=Lib.hid (C0.out.trans q2)
       obtain⟨_,gf⟩:=boxTe_blk (A0.out.next q2).2
       have ga:=(A0.out.next q2).lt
       clear q1 q2 HN)
     |(go_at_call 233
       refine(HT.out _ (L1.out.box (boxWd x))).mono ?_
       rintro e w2 ⟨rfl,q2⟩
       have C2:=Lib.hid ((C1.out.box hlt (boxWd x)).trans q2)
       clear q2 HT
       unfold pan31))
    exact⟨rfl,rfl,C2.out⟩
   |some p=>
    obtain⟨t,u⟩:=p
    rw[h5]at HT
    unfold TeP at HT
    dsimp only at HT
    unfold teV at HT
    clear h5
    go_enter Tryz.func227,Tryz.ntmps227
    go_wp2_with (first
     |(go_at_call 228
       refine(HN.out _ L0.out).mono ?_
       rintro e w1 ⟨rfl,q1,q2⟩
       have L1:=Lib.hid q1
       have A1:=Lib.hid (A0.out.next q2)
       have C1:=Lib.hid (C0.out.trans q2)
       obtain⟨_,gf⟩:=boxTe_blk (A0.out.next q2).2
       have ga:=(A0.out.next q2).lt
       clear q1 q2 HN)
     |(go_at_call 233
       refine(HT.out _ (L1.out.box (boxWd x))).mono ?_
       rintro e w2 ⟨rfl,q1,q2⟩
       have L2:=Lib.hid q1
       have A2:=Lib.hid ((A1.out.box (boxWd x)).next q2)
       have C2:=Lib.hid ((C1.out.box hlt (boxWd x)).trans q2)
       obtain⟨_,hf⟩:=boxTe_blk A2.out.2
       clear q1 q2 HT))
    exact endTeP Tryz.results227 (x:=t) A2.out.2 L2.out C2.out hlt rfl rfl
  ·rw[if_neg h4]
   have k4:((x.k:Int)==4)=false:=by rw[beq_eq_false_iff_ne];omega
   show Calls _ _ _ _ (PaP R w)
   unfold PaP
   clear h4 HT
   go_enter Tryz.func227,Tryz.ntmps227
   go_wp2_with (first
    |(go_at_call 228
      refine(HN.out _ L0.out).mono ?_
      rintro e w1 ⟨rfl,q1,q2⟩
      have L1:=Lib.hid q1
      have A1:=Lib.hid (A0.out.next q2)
      have C1:=Lib.hid (C0.out.trans q2)
      obtain⟨_,gf⟩:=boxTe_blk (A0.out.next q2).2
      have ga:=(A0.out.next q2).lt
      clear q1 q2 HN))
   exact⟨rfl,rfl,C1.out.box hlt (boxWd x)⟩
end Char
namespace Char
open Go.RowKit Go.Lib
open Go.Proofs.YtlmpkpjjakallaaGreatDoor.Fig (outT outV)
def SubE (R N:Nat)(E:List Wd→Option (Ex×List Wd)):Prop:=∀(l:List Wd) (W:World),LfB R l W→l.length<N→Calls Tryz.prog 60 #[.pointer (some ⟨R,0,none⟩)] W (ExP R W (E l))
def ShrE (E:List Wd→Option (Ex×List Wd)):Prop:=∀l e r,E l=some (e,r)→r.length<l.length
def leftN (R:Nat)(w:World):Nat:=match w.cell? ⟨R,0,none⟩ with
 |some (.slice _ n _)=>n
 |_=>0
theorem leftN_of {R:Nat}{ts:List Wd}{w:World}(h:LfB R ts w):leftN R w=ts.length:=by
 obtain⟨o,c,h1,_⟩:=h
 simp[leftN,h1]
def predsL (E:List Wd→Option (Ex×List Wd)):Nat→List Wd→List Ex→Option (List Ex×List Wd)
 |0,_,_=>none
 |f+1,ts,acc=>if aheadL 1 [91] ts then (match E ts.tail with
  |none=>none
  |some (x,r)=>match mustW [93] r with
   |none=>none
   |some t=>predsL E f t (acc++[x])) else some (acc,ts)
theorem ahead_len {k:Int}{m:List UInt8}{ts:List Wd}(h:aheadL k m ts=true):ts.tail.length+1=ts.length:=by
 cases ts with
 |nil=>cases h
 |cons x r=>simp
theorem must_len {m:List UInt8}{ts t:List Wd}(h:mustW m ts=some t):t.length+1=ts.length:=by
 unfold mustW at h
 split at h
 ·rename_i h1
  cases h
  exact ahead_len h1
 ·cases h
theorem row_apart {B:Nat}{w W0 W1:World}{v:Value}{xs:List (Ex×Value×Value)}{x:Ex}{vk vs:Value}(h:RowEx B w v xs)(hs:w.heap.size≤W0.heap.size)(hB:B≤W0.heap.size)(ho:ExOn W1 (W0.heap.size≤ ·) x vk vs):ExOn W1 (fun b=>B≤b∧v.ownBlock≠some b) x vk vs:=
 ExOn.move (fun b _ hF=>⟨⟨Nat.le_trans hB hF,fun hv=>by have :=(h.blk hv).2;omega⟩,rfl⟩) _ _ _ ho
set_option maxRecDepth 100000 in
set_option maxHeartbeats 8000000 in
theorem preds_any (R N:Nat)(E:List Wd→Option (Ex×List Wd))(ts:List Wd)(w:World)(hE:SubE R N E)(hS:ShrE E)(h:LfB R ts w)(hn:ts.length≤N)(hl:ts.length≤1000):
 Calls Tryz.prog 218 #[.pointer (some ⟨R,0,none⟩)] w (EsP R w (predsL E (ts.length+1) ts [])):=by
 have hlt:=h.lt
 obtain⟨G,hG⟩:∃G,predsL E (ts.length+1) ts []=G:=⟨_,rfl⟩
 rw[hG]
 have HG:=Lib.hid hG
 have H0:=Lib.hid h
 have HE:=Lib.hid hE
 have HS:=Lib.hid hS
 have HN:=Lib.hid hn
 have HL:=Lib.hid hl
 clear hG h hE hS hn hl
 go_enter Tryz.func218,Tryz.ntmps218
 go_wp2_with fail
 go_loopw [3] (fun v wr=>∃(f:Nat) (cur:List Wd) (xs:List (Ex×Value×Value)) (o:Option Addr) (j:Nat),v= .slice o xs.length j∧Hid (LfB R cur wr∧RowEx w.heap.size wr v xs∧But R w wr∧cur.length<f∧predsL E f cur (xs.map (·.1))=G∧xs.length+cur.length≤ts.length)) (fun _ wr=>leftN R wr)
 case atStart=>exact⟨ts.length+1,ts,[],none,0,rfl,Lib.hid ⟨H0.out,RowEx.nil _ _,But.refl _ _,by omega,HG.out,by simp⟩⟩
 case round=>
  obtain⟨f,cur,xs,o,j,rfl,HI⟩:=hrel
  have HT:=Lib.hid (take_any R 1 [91] cur wr HI.out.1)
  unfold takeL TkP at HT
  have HMZ:=Lib.hid (leftN_of HI.out.1)
  cases f with
  |zero=>exact absurd HI.out.2.2.2.1 (by omega)
  |succ f=>
  cases h1:aheadL 1 [91] cur with
  |false=>
   rw[h1]at HT
   rw[if_neg (by simp)]at HT
   have hg:=HI.out.2.2.2.2.1
   unfold predsL at hg
   rw[if_neg (by rw[h1];simp)]at hg
   have HGE:=Lib.hid hg
   clear hg h1
   go_wp2_with (first
    |(go_at_call 180
      refine HT.out.mono ?_
      rintro e w1 ⟨rfl,q1,q2⟩
      have Q1:=Lib.hid q1
      have Q2:=Lib.hid q2
      clear q1 q2 HT))
   go_ret
   rw[←HGE.out]
   exact⟨_,xs,rfl,rfl,HI.out.2.1.but Q2.out hlt,Q1.out,HI.out.2.2.1.trans Q2.out⟩
  |true=>
   rw[h1]at HT
   rw[if_pos rfl]at HT
   have hcl:=ahead_len h1
   have hg:=HI.out.2.2.2.2.1
   unfold predsL at hg
   rw[if_pos h1]at hg
   have hsz:=HI.out.2.2.1.size
   have hlen:=HI.out.2.2.2.2.2
   have hnn:=HN.out
   have hll:=HL.out
   have hfl:=HI.out.2.2.2.1
   have HX:=Lib.hid fun(W:World) (hw:LfB R cur.tail W)=>HE.out cur.tail W hw (by omega)
   generalize hct:cur.tail=ct at *
   cases h2:E ct with
   |none=>
    rw[h2]at HX hg
    have HGE:=Lib.hid hg
    unfold ExP PaP at HX
    dsimp only at HX
    clear h1 h2 hg hct
    go_wp2_with (first
     |(go_at_call 180
       refine HT.out.mono ?_
       rintro e w1 ⟨rfl,q1,q2⟩
       have Q1:=Lib.hid q1
       have Q2:=Lib.hid q2
       clear q1 q2 HT)
     |(go_at_call 60
       refine(HX.out _ Q1.out).mono ?_
       rintro e w2 ⟨rfl,q2⟩
       have Q3:=Lib.hid q2
       clear q2 HX
       unfold pan31))
    refine⟨rfl,?_⟩
    rw[←HGE.out]
    exact⟨rfl,(HI.out.2.2.1.trans Q2.out).trans Q3.out⟩
   |some p=>
    obtain⟨x,r⟩:=p
    rw[h2]at HX hg
    unfold ExP at HX
    dsimp only at HX hg
    unfold exV at HX
    have hrl:=HS.out _ _ _ h2
    have HM:=Lib.hid fun(W:World) (hw:LfB R r W)=>must_any R [93] r W hw
    cases h3:mustW [93] r with
    |none=>
     rw[h3]at HM hg
     have HGE:=Lib.hid hg
     unfold MuP PaP at HM
     dsimp only at HM
     clear h1 h2 h3 hg hct
     go_wp2_with (first
      |(go_at_call 180
        refine HT.out.mono ?_
        rintro e w1 ⟨rfl,q1,q2⟩
        have Q1:=Lib.hid q1
        have Q2:=Lib.hid q2
        clear q1 q2 HT)
      |(go_at_call 60
        refine(HX.out _ Q1.out).mono ?_
        rintro e w2 ⟨vk,vs,rfl,q1,q2,q3⟩
        have Q3:=Lib.hid q3
        have Q4:=Lib.hid q2
        have Q5:=Lib.hid ((HI.out.2.1.but Q2.out hlt).but q3 hlt)
        have Q6:=Lib.hid (row_apart (HI.out.2.1.but Q2.out hlt) (Nat.le_refl _) (by have :=Q2.out.size;omega) q1)
        clear q1 q2 q3 HX)
      |(at_builtin
        refine wpList_pushEx rfl (.tmp 6) (.tmp 9) rfl x vk vs Q5.out Q6.out rfl (by simp[Act.eval]) (by have :=Q2.out.size;have :=Q3.out.size;omega) (by omega) ?_
        intro v' w3 hr3 hb3
        obtain⟨o',j',hv⟩:=hr3.form
        have hv2:v'= .slice o' (xs.length+1) j':=by rw[hv];simp
        subst hv2
        clear hv
        have P1:=Lib.hid hr3
        have P2:=Lib.hid (((HI.out.2.2.1.trans Q2.out).trans Q3.out).up hb3 hlt)
        have P3:=Lib.hid (Q4.out.keep (fun k hk=>hb3.block k (by omega)) hb3.size)
        clear hr3 hb3)
      |(go_at_call 230
        refine(HM.out _ P3.out).mono ?_
        rintro e w4 ⟨rfl,q2⟩
        have P4:=Lib.hid q2
        clear q2 HM
        unfold pan31))
     refine⟨rfl,?_⟩
     rw[←HGE.out]
     exact⟨rfl,P2.out.trans P4.out⟩
    |some t=>
     rw[h3]at HM hg
     have hml:=must_len h3
     have HGE:=Lib.hid hg
     unfold MuP TkP at HM
     dsimp only at HM
     clear h1 h2 h3 hg hct
     go_wp2_with (first
      |(go_at_call 180
        refine HT.out.mono ?_
        rintro e w1 ⟨rfl,q1,q2⟩
        have Q1:=Lib.hid q1
        have Q2:=Lib.hid q2
        clear q1 q2 HT)
      |(go_at_call 60
        refine(HX.out _ Q1.out).mono ?_
        rintro e w2 ⟨vk,vs,rfl,q1,q2,q3⟩
        have Q3:=Lib.hid q3
        have Q4:=Lib.hid q2
        have Q5:=Lib.hid ((HI.out.2.1.but Q2.out hlt).but q3 hlt)
        have Q6:=Lib.hid (row_apart (HI.out.2.1.but Q2.out hlt) (Nat.le_refl _) (by have :=Q2.out.size;omega) q1)
        clear q1 q2 q3 HX)
      |(at_builtin
        refine wpList_pushEx rfl (.tmp 6) (.tmp 9) rfl x vk vs Q5.out Q6.out rfl (by simp[Act.eval]) (by have :=Q2.out.size;have :=Q3.out.size;omega) (by omega) ?_
        intro v' w3 hr3 hb3
        obtain⟨o',j',hv⟩:=hr3.form
        have hv2:v'= .slice o' (xs.length+1) j':=by rw[hv];simp
        subst hv2
        clear hv
        have P1:=Lib.hid hr3
        have P2:=Lib.hid (((HI.out.2.2.1.trans Q2.out).trans Q3.out).up hb3 hlt)
        have P3:=Lib.hid (Q4.out.keep (fun k hk=>hb3.block k (by omega)) hb3.size)
        clear hr3 hb3)
      |(go_at_call 230
        refine(HM.out _ P3.out).mono ?_
        rintro e w4 ⟨rfl,q1,q2⟩
        have P4:=Lib.hid q2
        have P5:=Lib.hid q1
        clear q1 q2 HM))
     have hln:(xs++[(x,vk,vs)]).length=xs.length+1:=by simp
     have HLN:=Lib.hid hln
     clear hln
     go_roundw
     case rel=>
      refine⟨f,t,xs++[(x,vk,vs)],o',j',by rw[HLN.out],Lib.hid ⟨P5.out,P1.out.but P4.out hlt,P2.out.trans P4.out,by omega,?_,?_⟩⟩
      ·rw[←HGE.out,List.map_append]
       rfl
      ·rw[HLN.out]
       omega
     case measure=>
      rw[leftN_of P5.out,HMZ.out]
      omega
end Char
namespace Char
open Go.RowKit Go.Lib
open Go.Proofs.YtlmpkpjjakallaaGreatDoor.Fig (outT outV)
def argsT (E:List Wd→Option (Ex×List Wd)):Nat→List Wd→List Ex→Option (List Ex×List Wd)
 |0,_,_=>none
 |f+1,ts,acc=>if aheadL 1 [44] ts then (match E ts.tail with
  |none=>none
  |some (x,r)=>argsT E f r (acc++[x])) else (mustW [41] ts).map fun t=>(acc,t)
def argsL (E:List Wd→Option (Ex×List Wd))(ts:List Wd):Option (List Ex×List Wd):=match mustW [40] ts with
 |none=>none
 |some t=>if aheadL 1 [41] t then some ([],t.tail) else match E t with
  |none=>none
  |some (x,r)=>argsT E (r.length+1) r [x]
set_option maxRecDepth 100000 in
set_option maxHeartbeats 8000000 in
theorem args_any (R N:Nat)(E:List Wd→Option (Ex×List Wd))(ts:List Wd)(w:World)(hE:SubE R N E)(hS:ShrE E)(h:LfB R ts w)(hn:ts.length≤N)(hl:ts.length≤900):
 Calls Tryz.prog 229 #[.pointer (some ⟨R,0,none⟩)] w (EsP R w (argsL E ts)):=by
 have hlt:=h.lt
 have H0:=Lib.hid h
 have HE:=Lib.hid hE
 have HS:=Lib.hid hS
 unfold argsL
 have HM:=Lib.hid fun(W:World) (hw:LfB R ts W)=>must_any R [40] ts W hw
 clear h hE hS
 cases h1:mustW [40] ts with
 |none=>
  rw[h1]at HM
  unfold MuP PaP at HM
  dsimp only at HM ⊢
  unfold EsP PaP
  dsimp only
  clear h1
  go_enter Tryz.func229,Tryz.ntmps229
  go_wp2_with (first
   |(go_at_call 230
     refine(HM.out _ H0.out).mono ?_
     rintro e w1 ⟨rfl,q2⟩
     have Q2:=Lib.hid q2
     clear q2 HM
     unfold pan31))
  exact⟨rfl,rfl,Q2.out⟩
 |some t=>
  have hml:=must_len h1
  rw[h1]at HM
  unfold MuP TkP at HM
  dsimp only at HM ⊢
  clear h1
  have HT:=Lib.hid fun(W:World) (hw:LfB R t W)=>take_any R 1 [41] t W hw
  unfold takeL TkP at HT
  cases h2:aheadL 1 [41] t with
  |true=>
   rw[h2]at HT
   simp only[if_true]at HT ⊢
   clear h2
   go_enter Tryz.func229,Tryz.ntmps229
   go_wp2_with (first
    |(go_at_call 230
      refine(HM.out _ H0.out).mono ?_
      rintro e w1 ⟨rfl,q1,q2⟩
      have Q1:=Lib.hid q1
      have Q2:=Lib.hid q2
      clear q1 q2 HM)
    |(go_at_call 180
      refine(HT.out _ Q1.out).mono ?_
      rintro e w2 ⟨rfl,q1,q2⟩
      have Q3:=Lib.hid q1
      have Q4:=Lib.hid (Q2.out.trans q2)
      clear q1 q2 HT))
   go_ret
   exact⟨_,[],rfl,rfl,RowEx.nil _ _,Q3.out,Q4.out⟩
  |false=>
   rw[h2]at HT
   simp only[Bool.false_eq_true,if_false]at HT ⊢
   have hX:=fun(W:World) (hw:LfB R t W)=>HE.out t W hw (by omega)
   clear h2
   cases h3:E t with
   |none=>
    rw[h3]at hX
    have HX:=Lib.hid hX
    unfold ExP PaP at HX
    dsimp only at HX ⊢
    unfold EsP PaP
    dsimp only
    clear h3 hX
    go_enter Tryz.func229,Tryz.ntmps229
    go_wp2_with (first
     |(go_at_call 230
       refine(HM.out _ H0.out).mono ?_
       rintro e w1 ⟨rfl,q1,q2⟩
       have Q1:=Lib.hid q1
       have Q2:=Lib.hid q2
       clear q1 q2 HM)
     |(go_at_call 180
       refine(HT.out _ Q1.out).mono ?_
       rintro e w2 ⟨rfl,q1,q2⟩
       have Q3:=Lib.hid q1
       have Q4:=Lib.hid (Q2.out.trans q2)
       clear q1 q2 HT)
     |(go_at_call 60
       refine(HX.out _ Q3.out).mono ?_
       rintro e w3 ⟨rfl,q2⟩
       have Q5:=Lib.hid (Q4.out.trans q2)
       clear q2 HX
       unfold pan31))
    exact⟨rfl,rfl,Q5.out⟩
   |some p=>
    obtain⟨y,r⟩:=p
    have hrl:=HS.out _ _ _ h3
    rw[h3]at hX
    have HX:=Lib.hid hX
    unfold ExP at HX
    dsimp only at HX ⊢
    unfold exV at HX
    obtain⟨G,hG⟩:∃G,argsT E (r.length+1) r [y]=G:=⟨_,rfl⟩
    rw[hG]
    have HG:=Lib.hid hG
    clear h3 hX hG
    go_enter Tryz.func229,Tryz.ntmps229
    go_wp2_with (first
     |(go_at_call 230
       refine(HM.out _ H0.out).mono ?_
       rintro e w1 ⟨rfl,q1,q2⟩
       have Q1:=Lib.hid q1
       have Q2:=Lib.hid q2
       clear q1 q2 HM)
     |(go_at_call 180
       refine(HT.out _ Q1.out).mono ?_
       rintro e w2 ⟨rfl,q1,q2⟩
       have Q3:=Lib.hid q1
       have Q4:=Lib.hid (Q2.out.trans q2)
       clear q1 q2 HT)
     |(go_at_call 60
       refine(HX.out _ Q3.out).mono ?_
       rintro e w3 ⟨vk,vs,rfl,q1,q2,q3⟩
       have Q5:=Lib.hid (Q4.out.trans q3)
       have Q6:=Lib.hid q2
       have Q7:=Lib.hid (q1.low Q4.out.size)
       clear q1 q2 q3 HX))
    go_loopw [3] (fun v wr=>∃(f:Nat) (cur:List Wd) (xs:List (Ex×Value×Value)) (o:Option Addr) (j:Nat),v= .slice o xs.length j∧Hid (LfB R cur wr∧RowEx w.heap.size wr v xs∧But R w wr∧cur.length<f∧argsT E f cur (xs.map (·.1))=G∧xs.length+cur.length≤ts.length)) (fun _ wr=>leftN R wr)
    case atStart=>exact⟨r.length+1,r,[(y,vk,vs)],some ⟨w3.heap.size,0,none⟩,1,rfl,Lib.hid ⟨Q6.out.box _,RowEx.one y vk vs Q7.out Q5.out.size,Q5.out.box hlt _,by omega,HG.out,by simp;omega⟩⟩
    case round=>
     clear HG Q5 Q6 Q7 Q3 Q4 Q1 Q2 H0
     obtain⟨f,cur,xs,o,j,rfl,HI⟩:=hrel
     have HT:=Lib.hid (take_any R 1 [44] cur wr HI.out.1)
     unfold takeL TkP at HT
     have HMZ:=Lib.hid (leftN_of HI.out.1)
     cases f with
     |zero=>exact absurd HI.out.2.2.2.1 (by omega)
     |succ f=>
     cases h1:aheadL 1 [44] cur with
     |false=>
      rw[h1]at HT
      rw[if_neg (by simp)]at HT
      have hg:=HI.out.2.2.2.2.1
      unfold argsT at hg
      rw[if_neg (by rw[h1];simp)]at hg
      have HM:=Lib.hid fun(W:World) (hw:LfB R cur W)=>must_any R [41] cur W hw
      cases h2:mustW [41] cur with
      |none=>
       rw[h2]at HM hg
       have HGE:=Lib.hid hg
       unfold MuP PaP at HM
       dsimp only at HM
       clear hg h1 h2
       go_wp2_with (first
        |(go_at_call 180
          refine HT.out.mono ?_
          rintro e w4 ⟨rfl,q1,q2⟩
          have Q1:=Lib.hid q1
          have Q2:=Lib.hid (HI.out.2.2.1.trans q2)
          clear q1 q2 HT)
        |(go_at_call 230
          refine(HM.out _ Q1.out).mono ?_
          rintro e w5 ⟨rfl,q2⟩
          have Q3:=Lib.hid (Q2.out.trans q2)
          clear q2 HM
          unfold pan31))
       refine⟨rfl,?_⟩
       rw[←HGE.out]
       exact⟨rfl,Q3.out⟩
      |some t2=>
       rw[h2]at HM hg
       have HGE:=Lib.hid hg
       unfold MuP TkP at HM
       dsimp only at HM
       clear hg h1 h2
       go_wp2_with (first
        |(go_at_call 180
          refine HT.out.mono ?_
          rintro e w4 ⟨rfl,q1,q2⟩
          have Q1:=Lib.hid q1
          have Q2:=Lib.hid (HI.out.2.2.1.trans q2)
          have Q4:=Lib.hid (HI.out.2.1.but q2 hlt)
          clear q1 q2 HT)
        |(go_at_call 230
          refine(HM.out _ Q1.out).mono ?_
          rintro e w5 ⟨rfl,q1,q2⟩
          have Q3:=Lib.hid (Q2.out.trans q2)
          have Q5:=Lib.hid q1
          have Q6:=Lib.hid (Q4.out.but q2 hlt)
          clear q1 q2 HM))
       go_ret
       rw[←HGE.out]
       exact⟨_,xs,rfl,rfl,Q6.out,Q5.out,Q3.out⟩
     |true=>
      rw[h1]at HT
      rw[if_pos rfl]at HT
      have hcl:=ahead_len h1
      have hg:=HI.out.2.2.2.2.1
      unfold argsT at hg
      rw[if_pos h1]at hg
      have hsz:=HI.out.2.2.1.size
      have hlen:=HI.out.2.2.2.2.2
      have hfl:=HI.out.2.2.2.1
      have hX:=fun(W:World) (hw:LfB R cur.tail W)=>HE.out cur.tail W hw (by omega)
      generalize hct:cur.tail=ct at *
      cases h2:E ct with
      |none=>
       rw[h2]at hX hg
       have HGE:=Lib.hid hg
       have HX:=Lib.hid hX
       unfold ExP PaP at HX
       dsimp only at HX
       clear h1 h2 hg hct hX
       go_wp2_with (first
        |(go_at_call 180
          refine HT.out.mono ?_
          rintro e w4 ⟨rfl,q1,q2⟩
          have Q1:=Lib.hid q1
          have Q2:=Lib.hid q2
          clear q1 q2 HT)
        |(go_at_call 60
          refine(HX.out _ Q1.out).mono ?_
          rintro e w5 ⟨rfl,q2⟩
          have Q3:=Lib.hid q2
          clear q2 HX
          unfold pan31))
       refine⟨rfl,?_⟩
       rw[←HGE.out]
       exact⟨rfl,(HI.out.2.2.1.trans Q2.out).trans Q3.out⟩
      |some p=>
       obtain⟨x,r2⟩:=p
       rw[h2]at hX hg
       have HX:=Lib.hid hX
       unfold ExP at HX
       dsimp only at HX hg
       unfold exV at HX
       have hrl2:=HS.out _ _ _ h2
       have HGE:=Lib.hid hg
       clear h1 h2 hg hct hX
       go_wp2_with (first
        |(go_at_call 180
          refine HT.out.mono ?_
          rintro e w4 ⟨rfl,q1,q2⟩
          have Q1:=Lib.hid q1
          have Q2:=Lib.hid q2
          clear q1 q2 HT)
        |(go_at_call 60
          refine(HX.out _ Q1.out).mono ?_
          rintro e w5 ⟨vk2,vs2,rfl,q1,q2,q3⟩
          have Q3:=Lib.hid q3
          have Q4:=Lib.hid q2
          have Q5:=Lib.hid ((HI.out.2.1.but Q2.out hlt).but q3 hlt)
          have Q6:=Lib.hid (row_apart (HI.out.2.1.but Q2.out hlt) (Nat.le_refl _) (by have :=Q2.out.size;omega) q1)
          clear q1 q2 q3 HX)
        |(at_builtin
          refine wpList_pushEx rfl (.tmp 13) (.tmp 16) rfl x vk2 vs2 Q5.out Q6.out rfl (by simp[Act.eval]) (by have :=Q2.out.size;have :=Q3.out.size;omega) (by omega) ?_
          intro v' w6 hr3 hb3
          obtain⟨o',j',hv⟩:=hr3.form
          have hv2:v'= .slice o' (xs.length+1) j':=by rw[hv];simp
          subst hv2
          clear hv
          have P1:=Lib.hid hr3
          have P2:=Lib.hid (((HI.out.2.2.1.trans Q2.out).trans Q3.out).up hb3 hlt)
          have P3:=Lib.hid (Q4.out.keep (fun k hk=>hb3.block k (by omega)) hb3.size)
          clear hr3 hb3))
       have hln:(xs++[(x,vk2,vs2)]).length=xs.length+1:=by simp
       have HLN:=Lib.hid hln
       clear hln
       go_roundw
       case rel=>
        refine⟨f,r2,xs++[(x,vk2,vs2)],o',j',by rw[HLN.out],Lib.hid ⟨P3.out,P1.out,P2.out,by omega,?_,?_⟩⟩
        ·rw[←HGE.out,List.map_append]
         rfl
        ·rw[HLN.out]
         omega
       case measure=>
        rw[leftN_of P3.out,HMZ.out]
        omega
end Char
end Go.Proofs.YtlmpkpjjakallaaGreatDoor
