import Derived.Test.YtlmpkpjjakallaaGreatDoorPt14
namespace Go.Proofs.YtlmpkpjjakallaaGreatDoor
namespace Char
open Go.RowKit Go.Lib
def relL (E:List Wd→Option (Ex×List Wd))(ab:Bool)(ts:List Wd):Option (Ex×List Wd):=match stepL E ts with
 |none=>none
 |some (s,r)=>match onwL E (r.length+1) r [s] with
  |none=>none
  |some (ss,u)=>some (.mk 16 [] 0 0 ab [] ss,u)
def locL (E:List Wd→Option (Ex×List Wd))(ts:List Wd):Option (Ex×List Wd):=
 if aheadL 5 [47] ts then (if stpL ts.tail then relL E true ts.tail else some (.mk 16 [] 0 0 true [] [],ts.tail))
 else if aheadL 5 [47,47] ts then (match onwL E (ts.length+1) ts [] with
  |none=>none
  |some (ss,u)=>some (.mk 16 [] 0 0 true [] ss,u)) else relL E false ts
theorem rel_len {E:List Wd→Option (Ex×List Wd)}(hS:ShrE E){ab:Bool}{ts t:List Wd}{e:Ex}(h:relL E ab ts=some (e,t)):t.length<ts.length:=by
 unfold relL at h
 cases hp:stepL E ts with
 |none=>rw[hp]at h;cases h
 |some p=>
  obtain⟨s,r⟩:=p
  rw[hp]at h
  dsimp only at h
  have h1:=step_len hS hp
  cases hq:onwL E (r.length+1) r [s] with
  |none=>rw[hq]at h;cases h
  |some p=>
   obtain⟨ps,u⟩:=p
   rw[hq]at h
   cases h
   have h2:=onw_len hS _ _ _ _ _ hq
   omega
theorem loc_len {E:List Wd→Option (Ex×List Wd)}(hS:ShrE E){ts t:List Wd}{e:Ex}(h:locL E ts=some (e,t)):t.length<ts.length:=by
 unfold locL at h
 split at h
 ·rename_i h1
  have h2:=ahead_len h1
  split at h
  ·have :=rel_len hS h
   omega
  ·cases h
   omega
 ·rename_i hh
  split at h
  ·rename_i h1
   have h2:=ahead_len h1
   cases hq:onwL E (ts.length+1) ts [] with
   |none=>rw[hq]at h;cases h
   |some p=>
    obtain⟨ps,u⟩:=p
    rw[hq]at h
    cases h
    unfold onwL at hq
    have h0:aheadL 5 [47] ts=false:=by simpa using hh
    rw[h0,h1]at hq
    simp only[Bool.false_eq_true,if_false,if_true]at hq
    cases hs:stepL E ts.tail with
    |none=>rw[hs]at hq;cases hq
    |some p=>
     obtain⟨s,r⟩:=p
     rw[hs]at hq
     have h3:=step_len hS hs
     have h4:=onw_len hS _ _ _ _ _ hq
     omega
  ·exact rel_len hS h
set_option maxRecDepth 100000 in
set_option maxHeartbeats 8000000 in
theorem loc_root (R:Nat)(ts:List Wd)(w:World)(h:LfB R ts w)(h1:aheadL 5 [47] ts=true)(h3:stpL ts.tail=false):
 Calls Tryz.prog 198 #[.pointer (some ⟨R,0,none⟩)] w (ExP R w (some (.mk 16 [] 0 0 true [] [],ts.tail))):=by
 have hlt:=h.lt
 have L0:Hid (LfB R ts (w.alloc (.cells #[.int .i64 0,.string ⟨#[]⟩,.int .i64 0,.int .i64 0,.bool false,.slice none 0 0,.slice none 0 0] 28))):=Lib.hid (h.box _)
 have A0:=Lib.hid (Bx.new hlt (boxEx ex0 (.slice none 0 0) (.slice none 0 0)))
 have C0:=Lib.hid (But.new R w hlt (boxEx ex0 (.slice none 0 0) (.slice none 0 0)))
 have ha1:=fun(W:World) (hw:LfB R ts W)=>ahead_any R 5 [47] ts W hw
 rw[h1]at ha1
 have ha1:∀(W:World),LfB R ts W→Calls Tryz.prog 196 #[.pointer (some ⟨R,0,none⟩),.int .i64 5,.string ⟨#[47]⟩] W (fun e w'=>e= .returned (.bool true)∧w'=W):=ha1
 have HA1:=Lib.hid ha1
 have ht:=fun(W:World) (hw:LfB R ts W)=>take_any R 5 [47] ts W hw
 unfold takeL at ht
 rw[h1]at ht
 simp only[if_true]at ht
 have HT:=Lib.hid ht
 unfold TkP at HT
 have hp:=fun(W:World) (hw:LfB R ts.tail W)=>atStep_any R ts.tail W hw
 rw[h3]at hp
 have HP:=Lib.hid hp
 clear hp
 clear ha1 ht
 clear h h1 h3
 go_enter Tryz.func198,Tryz.ntmps198
 go_wp2_with (first
  |(go_at_call 196
    first
     |(with_reducible refine(HA1.out _ L0.out).mono ?_
       rintro e w3 ⟨rfl,hw⟩
       have hw:=hw.symm
       subst hw))
  |(go_at_call 180
    refine(HT.out _ (L0.out.box (boxEx (.mk 16 [] 0 0 true [] []) (.slice none 0 0) (.slice none 0 0)))).mono ?_
    rintro e w2 ⟨rfl,q1,q2⟩
    have L2:=Lib.hid q1
    have A2:=Lib.hid ((A0.out.box (boxEx (.mk 16 [] 0 0 true [] []) (.slice none 0 0) (.slice none 0 0))).next q2)
    have X2:=Lib.hid ((Bx.new1 hlt (boxEx ex0 (.slice none 0 0) (.slice none 0 0)) (boxEx (.mk 16 [] 0 0 true [] []) (.slice none 0 0) (.slice none 0 0))).next q2)
    have C2:=Lib.hid ((C0.out.box hlt (boxEx (.mk 16 [] 0 0 true [] []) (.slice none 0 0) (.slice none 0 0))).trans q2)
    obtain⟨⟨z0,z1,z2,z3,z4,z5,z6⟩,zf⟩:=boxEx_blk ((Bx.new1 hlt (boxEx ex0 (.slice none 0 0) (.slice none 0 0)) (boxEx (.mk 16 [] 0 0 true [] []) (.slice none 0 0) (.slice none 0 0))).next q2).2
    obtain⟨_,gf⟩:=boxEx_blk ((A0.out.box (boxEx (.mk 16 [] 0 0 true [] []) (.slice none 0 0) (.slice none 0 0))).next q2).2
    clear q1 q2 HT)
  |(go_at_call 215
    refine(HP.out _ L2.out).mono ?_
    rintro e w3 ⟨rfl,hw⟩
    have hw:=hw.symm
    subst hw))
 have fin:=fun aa=>@endExP _ _ Tryz.results198 aa R w w2 (.mk 16 [] 0 0 true [] []) ts.tail (.slice none 0 0) (.slice none 0 0) _ _ _ A2.out.2 L2.out C2.out (ExOn.iff.2 ⟨KdOn.nil _ _,SdOn.nil _ _⟩) hlt
 dsimp only[Ex.op,Ex.s,Ex.tg,Ex.vl,Ex.abs]
 exact fin _ rfl rfl
set_option maxRecDepth 100000 in
set_option maxHeartbeats 8000000 in
theorem loc_rooted (R N:Nat)(E:List Wd→Option (Ex×List Wd))(ts:List Wd)(w:World)(hE:SubE R N E)(hS:ShrE E)(h:LfB R ts w)(hn:ts.length≤N)(hl:ts.length≤800)(h1:aheadL 5 [47] ts=true)(h3:stpL ts.tail=true):
 Calls Tryz.prog 198 #[.pointer (some ⟨R,0,none⟩)] w (ExP R w (relL E true ts.tail)):=by
 have hlt:=h.lt
 have L0:Hid (LfB R ts (w.alloc (.cells #[.int .i64 0,.string ⟨#[]⟩,.int .i64 0,.int .i64 0,.bool false,.slice none 0 0,.slice none 0 0] 28))):=Lib.hid (h.box _)
 have A0:=Lib.hid (Bx.new hlt (boxEx ex0 (.slice none 0 0) (.slice none 0 0)))
 have C0:=Lib.hid (But.new R w hlt (boxEx ex0 (.slice none 0 0) (.slice none 0 0)))
 have ha1:=fun(W:World) (hw:LfB R ts W)=>ahead_any R 5 [47] ts W hw
 rw[h1]at ha1
 have ha1:∀(W:World),LfB R ts W→Calls Tryz.prog 196 #[.pointer (some ⟨R,0,none⟩),.int .i64 5,.string ⟨#[47]⟩] W (fun e w'=>e= .returned (.bool true)∧w'=W):=ha1
 have HA1:=Lib.hid ha1
 have ht:=fun(W:World) (hw:LfB R ts W)=>take_any R 5 [47] ts W hw
 unfold takeL at ht
 rw[h1]at ht
 simp only[if_true]at ht
 have HT:=Lib.hid ht
 unfold TkP at HT
 have hb2:=fun(W:World) (hw:LfB R ts.tail W)=>ahead_any R 5 [47,47] ts.tail W hw
 rw[stp_op h3]at hb2
 have hb2:∀(W:World),LfB R ts.tail W→Calls Tryz.prog 196 #[.pointer (some ⟨R,0,none⟩),.int .i64 5,.string ⟨#[47,47]⟩] W (fun e w'=>e= .returned (.bool false)∧w'=W):=hb2
 have HB2:=Lib.hid hb2
 clear hb2
 have hp:=fun(W:World) (hw:LfB R ts.tail W)=>atStep_any R ts.tail W hw
 rw[h3]at hp
 have HP:=Lib.hid hp
 clear hp
 clear ha1 ht
 have htl:ts.tail.length≤N∧ts.tail.length≤800:=by have :=ahead_len h1;omega
 have hX:=fun(W:World) (hw:LfB R ts.tail W)=>step_any R N E ts.tail W hE hS hw htl.1 (by omega)
 unfold relL
 clear h h1 h3
 cases h5:stepL E ts.tail with
 |none=>
  rw[h5]at hX
  have HX:=Lib.hid hX
  unfold StP PaP at HX
  dsimp only at HX
  show Calls _ _ _ _ (PaP R w)
  unfold PaP
  clear h5 hX hE
  go_enter Tryz.func198,Tryz.ntmps198
  go_wp2_with (first
   |(go_at_call 196
     first
      |(with_reducible refine(HB2.out _ L2.out).mono ?_
        rintro e w3 ⟨rfl,hw⟩
        have hw:=hw.symm
        subst hw)
      |(with_reducible refine(HA1.out _ L0.out).mono ?_
        rintro e w3 ⟨rfl,hw⟩
        have hw:=hw.symm
        subst hw))
   |(go_at_call 180
     refine(HT.out _ (L0.out.box (boxEx (.mk 16 [] 0 0 true [] []) (.slice none 0 0) (.slice none 0 0)))).mono ?_
     rintro e w2 ⟨rfl,q1,q2⟩
     have L2:=Lib.hid q1
     have A2:=Lib.hid ((A0.out.box (boxEx (.mk 16 [] 0 0 true [] []) (.slice none 0 0) (.slice none 0 0))).next q2)
     have X2:=Lib.hid ((Bx.new1 hlt (boxEx ex0 (.slice none 0 0) (.slice none 0 0)) (boxEx (.mk 16 [] 0 0 true [] []) (.slice none 0 0) (.slice none 0 0))).next q2)
     have C2:=Lib.hid ((C0.out.box hlt (boxEx (.mk 16 [] 0 0 true [] []) (.slice none 0 0) (.slice none 0 0))).trans q2)
     obtain⟨⟨z0,z1,z2,z3,z4,z5,z6⟩,zf⟩:=boxEx_blk ((Bx.new1 hlt (boxEx ex0 (.slice none 0 0) (.slice none 0 0)) (boxEx (.mk 16 [] 0 0 true [] []) (.slice none 0 0) (.slice none 0 0))).next q2).2
     obtain⟨_,gf⟩:=boxEx_blk ((A0.out.box (boxEx (.mk 16 [] 0 0 true [] []) (.slice none 0 0) (.slice none 0 0))).next q2).2
     clear q1 q2 HT)
   |(go_at_call 215
     refine(HP.out _ L2.out).mono ?_
     rintro e w3 ⟨rfl,hw⟩
     have hw:=hw.symm
     subst hw))
  have LD:=Lib.hid (L2.out.below ((Below.refl _ _).drew))
  have CD:=Lib.hid (C2.out.trans (But.of ((Below.refl _ _).drew) L2.out.lt))
  have AD:=Lib.hid (A2.out.below ((Below.refl _ _).drew))
  have XD:=Lib.hid (X2.out.below ((Below.refl _ _).drew))
  have hgd:=XD.out.lt
  refine wp_region_any (by kernel_rfl) ?_
  change wpAny _ _ _ _ _ _ _ (World.drew _)
  refine wpAny_take (i:=0) (v:= .pointer (some ⟨w.heap.size+1,6,none⟩)) rfl (by kernel_rfl) (by kernel_rfl) (by kernel_rfl) (fun _ _ _ h=>h) (Or.inl ⟨by rfl,?_⟩) ?_
  ·intro w;go_simp
  refine wpAny_take (i:=2) (v:= .pointer (some ⟨R,0,none⟩)) rfl (by kernel_rfl) (by kernel_rfl) (by kernel_rfl) (fun _ _ _ h=>h) (Or.inl ⟨by rfl,?_⟩) ?_
  ·intro w;go_simp
  refine wpAny_ready (rs:=[1,3]) (by kernel_rfl) (by simp) ?_
  refine AllReady.cons rfl (fun K hK=> ?_) (AllReady.cons rfl (fun K hK=> ?_) AllReady.nil)
  ·go_simp
   refine hK _ _ ?_
   clear hK K
   refine wpAny_ready (rs:=[3]) (by kernel_rfl) (by simp) ?_
   refine AllReady.cons rfl (fun K hK=> ?_) AllReady.nil
   go_simp
   refine(HX.out _ LD.out).mono ?_
   rintro e w4 ⟨rfl,hb4⟩
   exact⟨rfl,rfl,CD.out.trans hb4⟩
  ·go_simp
   refine(HX.out _ LD.out).mono ?_
   rintro e w4 ⟨rfl,hb4⟩
   exact⟨rfl,rfl,CD.out.trans hb4⟩
 |some p=>
  obtain⟨s,r⟩:=p
  have hsl:=step_len hS h5
  rw[h5]at hX
  have HX:=Lib.hid hX
  unfold StP stpV at HX
  dsimp only at HX ⊢
  have hO:=fun(W:World) (o:Option Addr) (i j:Nat) (vp:Value) (hw:LfB R r W) (hr:RowSt (w.heap.size+2) W (.slice o i j) [(s,vp)]) (hb:w.heap.size+2≤W.heap.size)=>onw_any R N (w.heap.size+2) E r W o i j [(s,vp)] hE hS hw hr hb (by omega) (by omega) (by simp;omega)
  have hO:∀(W:World) (o:Option Addr) (i j:Nat) (vp:Value),LfB R r W→RowSt (w.heap.size+2) W (.slice o i j) [(s,vp)]→w.heap.size+2≤W.heap.size→Calls Tryz.prog 200 #[.pointer (some ⟨R,0,none⟩),.slice o i j] W (SsP R (w.heap.size+2) W (onwL E (r.length+1) r [s])):=hO
  clear h5 hX hE
  cases h6:onwL E (r.length+1) r [s] with
  |none=>
   rw[h6]at hO
   have HO:=Lib.hid hO
   unfold SsP at HO
   dsimp only at HO
   show Calls _ _ _ _ (PaP R w)
   unfold PaP
   clear h6 hO
   go_enter Tryz.func198,Tryz.ntmps198
   go_wp2_with (first
    |(go_at_call 196
      first
       |(with_reducible refine(HB2.out _ L2.out).mono ?_
         rintro e w3 ⟨rfl,hw⟩
         have hw:=hw.symm
         subst hw)
       |(with_reducible refine(HA1.out _ L0.out).mono ?_
         rintro e w3 ⟨rfl,hw⟩
         have hw:=hw.symm
         subst hw))
    |(go_at_call 180
      refine(HT.out _ (L0.out.box (boxEx (.mk 16 [] 0 0 true [] []) (.slice none 0 0) (.slice none 0 0)))).mono ?_
      rintro e w2 ⟨rfl,q1,q2⟩
      have L2:=Lib.hid q1
      have A2:=Lib.hid ((A0.out.box (boxEx (.mk 16 [] 0 0 true [] []) (.slice none 0 0) (.slice none 0 0))).next q2)
      have X2:=Lib.hid ((Bx.new1 hlt (boxEx ex0 (.slice none 0 0) (.slice none 0 0)) (boxEx (.mk 16 [] 0 0 true [] []) (.slice none 0 0) (.slice none 0 0))).next q2)
      have C2:=Lib.hid ((C0.out.box hlt (boxEx (.mk 16 [] 0 0 true [] []) (.slice none 0 0) (.slice none 0 0))).trans q2)
      obtain⟨⟨z0,z1,z2,z3,z4,z5,z6⟩,zf⟩:=boxEx_blk ((Bx.new1 hlt (boxEx ex0 (.slice none 0 0) (.slice none 0 0)) (boxEx (.mk 16 [] 0 0 true [] []) (.slice none 0 0) (.slice none 0 0))).next q2).2
      obtain⟨_,gf⟩:=boxEx_blk ((A0.out.box (boxEx (.mk 16 [] 0 0 true [] []) (.slice none 0 0) (.slice none 0 0))).next q2).2
      clear q1 q2 HT)
    |(go_at_call 215
      refine(HP.out _ L2.out).mono ?_
      rintro e w3 ⟨rfl,hw⟩
      have hw:=hw.symm
      subst hw))
   have LD:=Lib.hid (L2.out.below ((Below.refl _ _).drew))
   have CD:=Lib.hid (C2.out.trans (But.of ((Below.refl _ _).drew) L2.out.lt))
   have AD:=Lib.hid (A2.out.below ((Below.refl _ _).drew))
   have XD:=Lib.hid (X2.out.below ((Below.refl _ _).drew))
   have hgd:=XD.out.lt
   obtain⟨⟨x0,x1,x2,x3,x4,x5,x6⟩,xf⟩:=boxEx_blk XD.out.2
   go_region_law (first
    |(refine step_pushSt (B:=w.heap.size+2) rfl (.tmp 23) (.tmp 26) rfl s (.slice o9 s.ps.length j9) w5.heap.size (World.alloc_heap_new w5 _) (RowSt.nil _ _) (HY5.out.move_box _) rfl rfl (by have :=HS5.out;simp;omega) (by simp) ?_
      intro g6 cap6 w6 q1 q2
      have hbb:=(below_box (w:=w5) (boxSt s (.slice o9 s.ps.length j9))).mono (show w.heap.size+2≤w5.heap.size by have :=HS5.out;omega)|>.trans q2
      have L6:=Lib.hid (L5.out.keep (fun k hk=>hbb.block k (by omega)) hbb.size)
      have C6:=Lib.hid (C5.out.up (hbb.mono (by omega)) hlt)
      have A6:=Lib.hid (show Bx R w.heap.size (boxEx ex0 (.slice none 0 0) (.slice none 0 0)) w6 from ⟨hlt,(hbb.block _ (by omega)).trans A5.out.2⟩)
      have X6:=Lib.hid (show Bx R (w.heap.size+1) (boxEx (.mk 16 [] 0 0 true [] []) (.slice none 0 0) (.slice none 0 0)) w6 from ⟨by omega,(hbb.block _ (by omega)).trans X5.out.2⟩)
      have R6:=Lib.hid q1
      have hg6:=hbb.size
      have HG6:=Lib.hid (Nat.le_trans HS5.out hg6)
      clear hg6 q1 q2 hbb
      obtain⟨⟨v0,v1,v2,v3,v4,v5,v6⟩,vf⟩:=boxEx_blk X6.out.2)
    |(go_simp;go_at_call 216;refine(HX.out _ LD.out).mono ?_;rintro e w5 ⟨vp,rfl,q0,q1,q2⟩
      have L5:=Lib.hid q1
      have C5:=Lib.hid (CD.out.trans q2)
      have A5:=Lib.hid (AD.out.next q2)
      have X5:=Lib.hid (XD.out.next q2)
      have HS5:=Lib.hid (show w.heap.size+2≤w5.heap.size from Nat.le_trans XD.out.lt q2.size)
      have HY5:=Lib.hid (StOn.low2 q0 (show w.heap.size+2≤w2.drew.heap.size from XD.out.lt))
      obtain⟨o9,j9,hvp⟩:=(StOn.iff.1 q0).form
      subst hvp
      obtain⟨⟨y0,y1,y2,y3,y4,y5,y6⟩,yf⟩:=boxEx_blk (XD.out.next q2).2
      have k6:∀ob,(w5.alloc ob).cell? ⟨w.heap.size+1,6,none⟩=some (.slice none 0 0):=fun ob=>(boxEx_blk ((XD.out.next q2).box ob).2).1.2.2.2.2.2.2
      clear q0 q1 q2))
   all_goals
    go_wp2_with (first
     |(go_at_call 200
       refine(HO.out _ _ _ _ _ (L6.out.set_cell (by omega)) (R6.out.set_cell (by omega)) (by simpa using HG6.out)).mono ?_
       rintro e w7 ⟨rfl,q2⟩
       have C7:=Lib.hid ((C6.out.set_cell (b:=w.heap.size+1) (i:=6) (u:= .slice (some ⟨g6,0,none⟩) 1 cap6) hlt (by omega)).bub q2 (by omega))
       clear q2
       unfold pan31))
    exact⟨rfl,rfl,C7.out⟩
  |some p=>
   obtain⟨ss,u⟩:=p
   rw[h6]at hO
   have HO:=Lib.hid hO
   unfold SsP at HO
   dsimp only at HO ⊢
   clear h6 hO
   go_enter Tryz.func198,Tryz.ntmps198
   go_wp2_with (first
    |(go_at_call 196
      first
       |(with_reducible refine(HB2.out _ L2.out).mono ?_
         rintro e w3 ⟨rfl,hw⟩
         have hw:=hw.symm
         subst hw)
       |(with_reducible refine(HA1.out _ L0.out).mono ?_
         rintro e w3 ⟨rfl,hw⟩
         have hw:=hw.symm
         subst hw))
    |(go_at_call 180
      refine(HT.out _ (L0.out.box (boxEx (.mk 16 [] 0 0 true [] []) (.slice none 0 0) (.slice none 0 0)))).mono ?_
      rintro e w2 ⟨rfl,q1,q2⟩
      have L2:=Lib.hid q1
      have A2:=Lib.hid ((A0.out.box (boxEx (.mk 16 [] 0 0 true [] []) (.slice none 0 0) (.slice none 0 0))).next q2)
      have X2:=Lib.hid ((Bx.new1 hlt (boxEx ex0 (.slice none 0 0) (.slice none 0 0)) (boxEx (.mk 16 [] 0 0 true [] []) (.slice none 0 0) (.slice none 0 0))).next q2)
      have C2:=Lib.hid ((C0.out.box hlt (boxEx (.mk 16 [] 0 0 true [] []) (.slice none 0 0) (.slice none 0 0))).trans q2)
      obtain⟨⟨z0,z1,z2,z3,z4,z5,z6⟩,zf⟩:=boxEx_blk ((Bx.new1 hlt (boxEx ex0 (.slice none 0 0) (.slice none 0 0)) (boxEx (.mk 16 [] 0 0 true [] []) (.slice none 0 0) (.slice none 0 0))).next q2).2
      obtain⟨_,gf⟩:=boxEx_blk ((A0.out.box (boxEx (.mk 16 [] 0 0 true [] []) (.slice none 0 0) (.slice none 0 0))).next q2).2
      clear q1 q2 HT)
    |(go_at_call 215
      refine(HP.out _ L2.out).mono ?_
      rintro e w3 ⟨rfl,hw⟩
      have hw:=hw.symm
      subst hw))
   have LD:=Lib.hid (L2.out.below ((Below.refl _ _).drew))
   have CD:=Lib.hid (C2.out.trans (But.of ((Below.refl _ _).drew) L2.out.lt))
   have AD:=Lib.hid (A2.out.below ((Below.refl _ _).drew))
   have XD:=Lib.hid (X2.out.below ((Below.refl _ _).drew))
   have hgd:=XD.out.lt
   obtain⟨⟨x0,x1,x2,x3,x4,x5,x6⟩,xf⟩:=boxEx_blk XD.out.2
   go_region_law (first
    |(refine step_pushSt (B:=w.heap.size+2) rfl (.tmp 23) (.tmp 26) rfl s (.slice o9 s.ps.length j9) w5.heap.size (World.alloc_heap_new w5 _) (RowSt.nil _ _) (HY5.out.move_box _) rfl rfl (by have :=HS5.out;simp;omega) (by simp) ?_
      intro g6 cap6 w6 q1 q2
      have hbb:=(below_box (w:=w5) (boxSt s (.slice o9 s.ps.length j9))).mono (show w.heap.size+2≤w5.heap.size by have :=HS5.out;omega)|>.trans q2
      have L6:=Lib.hid (L5.out.keep (fun k hk=>hbb.block k (by omega)) hbb.size)
      have C6:=Lib.hid (C5.out.up (hbb.mono (by omega)) hlt)
      have A6:=Lib.hid (show Bx R w.heap.size (boxEx ex0 (.slice none 0 0) (.slice none 0 0)) w6 from ⟨hlt,(hbb.block _ (by omega)).trans A5.out.2⟩)
      have X6:=Lib.hid (show Bx R (w.heap.size+1) (boxEx (.mk 16 [] 0 0 true [] []) (.slice none 0 0) (.slice none 0 0)) w6 from ⟨by omega,(hbb.block _ (by omega)).trans X5.out.2⟩)
      have R6:=Lib.hid q1
      have hg6:=hbb.size
      have HG6:=Lib.hid (Nat.le_trans HS5.out hg6)
      clear hg6 q1 q2 hbb
      obtain⟨⟨v0,v1,v2,v3,v4,v5,v6⟩,vf⟩:=boxEx_blk X6.out.2)
    |(go_simp;go_at_call 216;refine(HX.out _ LD.out).mono ?_;rintro e w5 ⟨vp,rfl,q0,q1,q2⟩
      have L5:=Lib.hid q1
      have C5:=Lib.hid (CD.out.trans q2)
      have A5:=Lib.hid (AD.out.next q2)
      have X5:=Lib.hid (XD.out.next q2)
      have HS5:=Lib.hid (show w.heap.size+2≤w5.heap.size from Nat.le_trans XD.out.lt q2.size)
      have HY5:=Lib.hid (StOn.low2 q0 (show w.heap.size+2≤w2.drew.heap.size from XD.out.lt))
      obtain⟨o9,j9,hvp⟩:=(StOn.iff.1 q0).form
      subst hvp
      obtain⟨⟨y0,y1,y2,y3,y4,y5,y6⟩,yf⟩:=boxEx_blk (XD.out.next q2).2
      have k6:∀ob,(w5.alloc ob).cell? ⟨w.heap.size+1,6,none⟩=some (.slice none 0 0):=fun ob=>(boxEx_blk ((XD.out.next q2).box ob).2).1.2.2.2.2.2.2
      clear q0 q1 q2))
   all_goals
    go_wp2_with (first
     |(go_at_call 200
       refine(HO.out _ _ _ _ _ (L6.out.set_cell (by omega)) (R6.out.set_cell (by omega)) (by simpa using HG6.out)).mono ?_
       rintro e w7 ⟨v7,ys,rfl,hys,q0,q1,q2⟩
       obtain⟨o7,j7,rfl⟩:=q0.form
       subst hys
       have L7:=Lib.hid q1
       have A7:=Lib.hid ((A6.out.set_cell (c:=w.heap.size+1) (i:=6) (u:= .slice (some ⟨g6,0,none⟩) 1 cap6) (by omega)).bub q2 (by omega))
       have C7:=Lib.hid ((C6.out.set_cell (b:=w.heap.size+1) (i:=6) (u:= .slice (some ⟨g6,0,none⟩) 1 cap6) hlt (by omega)).bub q2 (by omega))
       have R7:=Lib.hid q0
       have g7:=(((A6.out.set_cell (c:=w.heap.size+1) (i:=6) (u:= .slice (some ⟨g6,0,none⟩) 1 cap6) (by omega)).bub q2 (by omega))).lt
       have g8:=(((X6.out.put_ss (.slice (some ⟨g6,0,none⟩) 1 cap6)).bub q2 (by omega))).lt
       obtain⟨⟨y0,y1,y2,y3,y4,y5,y6⟩,yf⟩:=boxEx_blk ((X6.out.put_ss (.slice (some ⟨g6,0,none⟩) 1 cap6)).bub q2 (by omega)).2
       obtain⟨_,gf7⟩:=boxEx_blk ((A6.out.set_cell (c:=w.heap.size+1) (i:=6) (u:= .slice (some ⟨g6,0,none⟩) 1 cap6) (by omega)).bub q2 (by omega)).2
       clear q0 q1 q2))
    have hA:=(A7.out.set_cell (c:=w.heap.size+1) (i:=6) (u:= .slice o7 ys.length j7) (by omega)).2
    have hL:=L7.out.set_cell (b:=w.heap.size+1) (i:=6) (u:= .slice o7 ys.length j7) (by omega)
    have hC:=C7.out.set_cell (b:=w.heap.size+1) (i:=6) (u:= .slice o7 ys.length j7) hlt (by omega)
    have hS7:SdOn (w7.setCell ⟨w.heap.size+1,6,none⟩ (.slice o7 ys.length j7)) (w.heap.size+1≤ ·) (.slice o7 ys.length j7) (List.map (fun z:St×Value=>z.1) ys):=SdOn.low (RowSt.on (R7.out.set_cell (b:=w.heap.size+1) (i:=6) (u:= .slice o7 ys.length j7) (by omega))) (by omega)
    have hO7:ExOn (w7.setCell ⟨w.heap.size+1,6,none⟩ (.slice o7 ys.length j7)) (w.heap.size+1≤ ·) (.mk 16 [] 0 0 true [] (List.map (fun z:St×Value=>z.1) ys)) (.slice none 0 0) (.slice o7 ys.length j7):=ExOn.iff.2 ⟨KdOn.nil _ _,hS7⟩
    have fin:=fun aa=>@endExP _ _ Tryz.results198 aa R w (w7.setCell ⟨w.heap.size+1,6,none⟩ (.slice o7 ys.length j7)) (.mk 16 [] 0 0 true [] (List.map (fun z:St×Value=>z.1) ys)) u (.slice none 0 0) (.slice o7 ys.length j7) _ _ _ hA hL hC hO7 hlt
    dsimp only[Ex.op,Ex.s,Ex.tg,Ex.vl,Ex.abs]
    exact fin _ rfl rfl
set_option maxRecDepth 100000 in
set_option maxHeartbeats 8000000 in
theorem loc_rel (R N:Nat)(E:List Wd→Option (Ex×List Wd))(ts:List Wd)(w:World)(hE:SubE R N E)(hS:ShrE E)(h:LfB R ts w)(hn:ts.length≤N)(hl:ts.length≤800)(h1:aheadL 5 [47] ts=false)(h2:aheadL 5 [47,47] ts=false):
 Calls Tryz.prog 198 #[.pointer (some ⟨R,0,none⟩)] w (ExP R w (relL E false ts)):=by
 have hlt:=h.lt
 have L0:Hid (LfB R ts (w.alloc (.cells #[.int .i64 0,.string ⟨#[]⟩,.int .i64 0,.int .i64 0,.bool false,.slice none 0 0,.slice none 0 0] 28))):=Lib.hid (h.box _)
 have A0:=Lib.hid (Bx.new hlt (boxEx ex0 (.slice none 0 0) (.slice none 0 0)))
 have C0:=Lib.hid (But.new R w hlt (boxEx ex0 (.slice none 0 0) (.slice none 0 0)))
 have ha1:=fun(W:World) (hw:LfB R ts W)=>ahead_any R 5 [47] ts W hw
 rw[h1]at ha1
 have ha1:∀(W:World),LfB R ts W→Calls Tryz.prog 196 #[.pointer (some ⟨R,0,none⟩),.int .i64 5,.string ⟨#[47]⟩] W (fun e w'=>e= .returned (.bool false)∧w'=W):=ha1
 have HA1:=Lib.hid ha1
 have ht:=fun(W:World) (hw:LfB R ts W)=>take_any R 5 [47] ts W hw
 unfold takeL at ht
 rw[h1]at ht
 simp only[Bool.false_eq_true,if_false]at ht
 have HT:=Lib.hid ht
 unfold TkP at HT
 have ha2:=fun(W:World) (hw:LfB R ts W)=>ahead_any R 5 [47,47] ts W hw
 rw[h2]at ha2
 have ha2:∀(W:World),LfB R ts W→Calls Tryz.prog 196 #[.pointer (some ⟨R,0,none⟩),.int .i64 5,.string ⟨#[47,47]⟩] W (fun e w'=>e= .returned (.bool false)∧w'=W):=ha2
 have HA2:=Lib.hid ha2
 have HB2:=HA2
 clear ha2
 clear ha1 ht
 have htl:ts.length≤N∧ts.length≤800:=by omega
 have hX:=fun(W:World) (hw:LfB R ts W)=>step_any R N E ts W hE hS hw htl.1 (by omega)
 unfold relL
 clear h h1 h2
 cases h5:stepL E ts with
 |none=>
  rw[h5]at hX
  have HX:=Lib.hid hX
  unfold StP PaP at HX
  dsimp only at HX
  show Calls _ _ _ _ (PaP R w)
  unfold PaP
  clear h5 hX hE
  go_enter Tryz.func198,Tryz.ntmps198
  go_wp2_with (first
   |(go_at_call 196
     first
      |(with_reducible refine(HB2.out _ L2.out).mono ?_
        rintro e w3 ⟨rfl,hw⟩
        have hw:=hw.symm
        subst hw)
      |(with_reducible refine(HA1.out _ L0.out).mono ?_
        rintro e w3 ⟨rfl,hw⟩
        have hw:=hw.symm
        subst hw)
      |(with_reducible refine(HA2.out _ L0.out).mono ?_
        rintro e w3 ⟨rfl,hw⟩
        have hw:=hw.symm
        subst hw))
   |(go_at_call 180
     refine(HT.out _ (L0.out.box (boxEx (.mk 16 [] 0 0 false [] []) (.slice none 0 0) (.slice none 0 0)))).mono ?_
     rintro e w2 ⟨rfl,q1,q2⟩
     have L2:=Lib.hid q1
     have A2:=Lib.hid ((A0.out.box (boxEx (.mk 16 [] 0 0 false [] []) (.slice none 0 0) (.slice none 0 0))).next q2)
     have X2:=Lib.hid ((Bx.new1 hlt (boxEx ex0 (.slice none 0 0) (.slice none 0 0)) (boxEx (.mk 16 [] 0 0 false [] []) (.slice none 0 0) (.slice none 0 0))).next q2)
     have C2:=Lib.hid ((C0.out.box hlt (boxEx (.mk 16 [] 0 0 false [] []) (.slice none 0 0) (.slice none 0 0))).trans q2)
     obtain⟨⟨z0,z1,z2,z3,z4,z5,z6⟩,zf⟩:=boxEx_blk ((Bx.new1 hlt (boxEx ex0 (.slice none 0 0) (.slice none 0 0)) (boxEx (.mk 16 [] 0 0 false [] []) (.slice none 0 0) (.slice none 0 0))).next q2).2
     obtain⟨_,gf⟩:=boxEx_blk ((A0.out.box (boxEx (.mk 16 [] 0 0 false [] []) (.slice none 0 0) (.slice none 0 0))).next q2).2
     clear q1 q2 HT))
  have LD:=Lib.hid (L2.out.below ((Below.refl _ _).drew))
  have CD:=Lib.hid (C2.out.trans (But.of ((Below.refl _ _).drew) L2.out.lt))
  have AD:=Lib.hid (A2.out.below ((Below.refl _ _).drew))
  have XD:=Lib.hid (X2.out.below ((Below.refl _ _).drew))
  have hgd:=XD.out.lt
  refine wp_region_any (by kernel_rfl) ?_
  change wpAny _ _ _ _ _ _ _ (World.drew _)
  refine wpAny_take (i:=0) (v:= .pointer (some ⟨w.heap.size+1,6,none⟩)) rfl (by kernel_rfl) (by kernel_rfl) (by kernel_rfl) (fun _ _ _ h=>h) (Or.inl ⟨by rfl,?_⟩) ?_
  ·intro w;go_simp
  refine wpAny_take (i:=2) (v:= .pointer (some ⟨R,0,none⟩)) rfl (by kernel_rfl) (by kernel_rfl) (by kernel_rfl) (fun _ _ _ h=>h) (Or.inl ⟨by rfl,?_⟩) ?_
  ·intro w;go_simp
  refine wpAny_ready (rs:=[1,3]) (by kernel_rfl) (by simp) ?_
  refine AllReady.cons rfl (fun K hK=> ?_) (AllReady.cons rfl (fun K hK=> ?_) AllReady.nil)
  ·go_simp
   refine hK _ _ ?_
   clear hK K
   refine wpAny_ready (rs:=[3]) (by kernel_rfl) (by simp) ?_
   refine AllReady.cons rfl (fun K hK=> ?_) AllReady.nil
   go_simp
   refine(HX.out _ LD.out).mono ?_
   rintro e w4 ⟨rfl,hb4⟩
   exact⟨rfl,rfl,CD.out.trans hb4⟩
  ·go_simp
   refine(HX.out _ LD.out).mono ?_
   rintro e w4 ⟨rfl,hb4⟩
   exact⟨rfl,rfl,CD.out.trans hb4⟩
 |some p=>
  obtain⟨s,r⟩:=p
  have hsl:=step_len hS h5
  rw[h5]at hX
  have HX:=Lib.hid hX
  unfold StP stpV at HX
  dsimp only at HX ⊢
  have hO:=fun(W:World) (o:Option Addr) (i j:Nat) (vp:Value) (hw:LfB R r W) (hr:RowSt (w.heap.size+2) W (.slice o i j) [(s,vp)]) (hb:w.heap.size+2≤W.heap.size)=>onw_any R N (w.heap.size+2) E r W o i j [(s,vp)] hE hS hw hr hb (by omega) (by omega) (by simp;omega)
  have hO:∀(W:World) (o:Option Addr) (i j:Nat) (vp:Value),LfB R r W→RowSt (w.heap.size+2) W (.slice o i j) [(s,vp)]→w.heap.size+2≤W.heap.size→Calls Tryz.prog 200 #[.pointer (some ⟨R,0,none⟩),.slice o i j] W (SsP R (w.heap.size+2) W (onwL E (r.length+1) r [s])):=hO
  clear h5 hX hE
  cases h6:onwL E (r.length+1) r [s] with
  |none=>
   rw[h6]at hO
   have HO:=Lib.hid hO
   unfold SsP at HO
   dsimp only at HO
   show Calls _ _ _ _ (PaP R w)
   unfold PaP
   clear h6 hO
   go_enter Tryz.func198,Tryz.ntmps198
   go_wp2_with (first
    |(go_at_call 196
      first
       |(with_reducible refine(HB2.out _ L2.out).mono ?_
         rintro e w3 ⟨rfl,hw⟩
         have hw:=hw.symm
         subst hw)
       |(with_reducible refine(HA1.out _ L0.out).mono ?_
         rintro e w3 ⟨rfl,hw⟩
         have hw:=hw.symm
         subst hw)
       |(with_reducible refine(HA2.out _ L0.out).mono ?_
         rintro e w3 ⟨rfl,hw⟩
         have hw:=hw.symm
         subst hw))
    |(go_at_call 180
      refine(HT.out _ (L0.out.box (boxEx (.mk 16 [] 0 0 false [] []) (.slice none 0 0) (.slice none 0 0)))).mono ?_
      rintro e w2 ⟨rfl,q1,q2⟩
      have L2:=Lib.hid q1
      have A2:=Lib.hid ((A0.out.box (boxEx (.mk 16 [] 0 0 false [] []) (.slice none 0 0) (.slice none 0 0))).next q2)
      have X2:=Lib.hid ((Bx.new1 hlt (boxEx ex0 (.slice none 0 0) (.slice none 0 0)) (boxEx (.mk 16 [] 0 0 false [] []) (.slice none 0 0) (.slice none 0 0))).next q2)
      have C2:=Lib.hid ((C0.out.box hlt (boxEx (.mk 16 [] 0 0 false [] []) (.slice none 0 0) (.slice none 0 0))).trans q2)
      obtain⟨⟨z0,z1,z2,z3,z4,z5,z6⟩,zf⟩:=boxEx_blk ((Bx.new1 hlt (boxEx ex0 (.slice none 0 0) (.slice none 0 0)) (boxEx (.mk 16 [] 0 0 false [] []) (.slice none 0 0) (.slice none 0 0))).next q2).2
      obtain⟨_,gf⟩:=boxEx_blk ((A0.out.box (boxEx (.mk 16 [] 0 0 false [] []) (.slice none 0 0) (.slice none 0 0))).next q2).2
      clear q1 q2 HT))
   have LD:=Lib.hid (L2.out.below ((Below.refl _ _).drew))
   have CD:=Lib.hid (C2.out.trans (But.of ((Below.refl _ _).drew) L2.out.lt))
   have AD:=Lib.hid (A2.out.below ((Below.refl _ _).drew))
   have XD:=Lib.hid (X2.out.below ((Below.refl _ _).drew))
   have hgd:=XD.out.lt
   obtain⟨⟨x0,x1,x2,x3,x4,x5,x6⟩,xf⟩:=boxEx_blk XD.out.2
   go_region_law (first
    |(refine step_pushSt (B:=w.heap.size+2) rfl (.tmp 23) (.tmp 26) rfl s (.slice o9 s.ps.length j9) w5.heap.size (World.alloc_heap_new w5 _) (RowSt.nil _ _) (HY5.out.move_box _) rfl rfl (by have :=HS5.out;simp;omega) (by simp) ?_
      intro g6 cap6 w6 q1 q2
      have hbb:=(below_box (w:=w5) (boxSt s (.slice o9 s.ps.length j9))).mono (show w.heap.size+2≤w5.heap.size by have :=HS5.out;omega)|>.trans q2
      have L6:=Lib.hid (L5.out.keep (fun k hk=>hbb.block k (by omega)) hbb.size)
      have C6:=Lib.hid (C5.out.up (hbb.mono (by omega)) hlt)
      have A6:=Lib.hid (show Bx R w.heap.size (boxEx ex0 (.slice none 0 0) (.slice none 0 0)) w6 from ⟨hlt,(hbb.block _ (by omega)).trans A5.out.2⟩)
      have X6:=Lib.hid (show Bx R (w.heap.size+1) (boxEx (.mk 16 [] 0 0 false [] []) (.slice none 0 0) (.slice none 0 0)) w6 from ⟨by omega,(hbb.block _ (by omega)).trans X5.out.2⟩)
      have R6:=Lib.hid q1
      have hg6:=hbb.size
      have HG6:=Lib.hid (Nat.le_trans HS5.out hg6)
      clear hg6 q1 q2 hbb
      obtain⟨⟨v0,v1,v2,v3,v4,v5,v6⟩,vf⟩:=boxEx_blk X6.out.2)
    |(go_simp;go_at_call 216;refine(HX.out _ LD.out).mono ?_;rintro e w5 ⟨vp,rfl,q0,q1,q2⟩
      have L5:=Lib.hid q1
      have C5:=Lib.hid (CD.out.trans q2)
      have A5:=Lib.hid (AD.out.next q2)
      have X5:=Lib.hid (XD.out.next q2)
      have HS5:=Lib.hid (show w.heap.size+2≤w5.heap.size from Nat.le_trans XD.out.lt q2.size)
      have HY5:=Lib.hid (StOn.low2 q0 (show w.heap.size+2≤w2.drew.heap.size from XD.out.lt))
      obtain⟨o9,j9,hvp⟩:=(StOn.iff.1 q0).form
      subst hvp
      obtain⟨⟨y0,y1,y2,y3,y4,y5,y6⟩,yf⟩:=boxEx_blk (XD.out.next q2).2
      have k6:∀ob,(w5.alloc ob).cell? ⟨w.heap.size+1,6,none⟩=some (.slice none 0 0):=fun ob=>(boxEx_blk ((XD.out.next q2).box ob).2).1.2.2.2.2.2.2
      clear q0 q1 q2))
   all_goals
    go_wp2_with (first
     |(go_at_call 200
       refine(HO.out _ _ _ _ _ (L6.out.set_cell (by omega)) (R6.out.set_cell (by omega)) (by simpa using HG6.out)).mono ?_
       rintro e w7 ⟨rfl,q2⟩
       have C7:=Lib.hid ((C6.out.set_cell (b:=w.heap.size+1) (i:=6) (u:= .slice (some ⟨g6,0,none⟩) 1 cap6) hlt (by omega)).bub q2 (by omega))
       clear q2
       unfold pan31))
    exact⟨rfl,rfl,C7.out⟩
  |some p=>
   obtain⟨ss,u⟩:=p
   rw[h6]at hO
   have HO:=Lib.hid hO
   unfold SsP at HO
   dsimp only at HO ⊢
   clear h6 hO
   go_enter Tryz.func198,Tryz.ntmps198
   go_wp2_with (first
    |(go_at_call 196
      first
       |(with_reducible refine(HB2.out _ L2.out).mono ?_
         rintro e w3 ⟨rfl,hw⟩
         have hw:=hw.symm
         subst hw)
       |(with_reducible refine(HA1.out _ L0.out).mono ?_
         rintro e w3 ⟨rfl,hw⟩
         have hw:=hw.symm
         subst hw)
       |(with_reducible refine(HA2.out _ L0.out).mono ?_
         rintro e w3 ⟨rfl,hw⟩
         have hw:=hw.symm
         subst hw))
    |(go_at_call 180
      refine(HT.out _ (L0.out.box (boxEx (.mk 16 [] 0 0 false [] []) (.slice none 0 0) (.slice none 0 0)))).mono ?_
      rintro e w2 ⟨rfl,q1,q2⟩
      have L2:=Lib.hid q1
      have A2:=Lib.hid ((A0.out.box (boxEx (.mk 16 [] 0 0 false [] []) (.slice none 0 0) (.slice none 0 0))).next q2)
      have X2:=Lib.hid ((Bx.new1 hlt (boxEx ex0 (.slice none 0 0) (.slice none 0 0)) (boxEx (.mk 16 [] 0 0 false [] []) (.slice none 0 0) (.slice none 0 0))).next q2)
      have C2:=Lib.hid ((C0.out.box hlt (boxEx (.mk 16 [] 0 0 false [] []) (.slice none 0 0) (.slice none 0 0))).trans q2)
      obtain⟨⟨z0,z1,z2,z3,z4,z5,z6⟩,zf⟩:=boxEx_blk ((Bx.new1 hlt (boxEx ex0 (.slice none 0 0) (.slice none 0 0)) (boxEx (.mk 16 [] 0 0 false [] []) (.slice none 0 0) (.slice none 0 0))).next q2).2
      obtain⟨_,gf⟩:=boxEx_blk ((A0.out.box (boxEx (.mk 16 [] 0 0 false [] []) (.slice none 0 0) (.slice none 0 0))).next q2).2
      clear q1 q2 HT))
   have LD:=Lib.hid (L2.out.below ((Below.refl _ _).drew))
   have CD:=Lib.hid (C2.out.trans (But.of ((Below.refl _ _).drew) L2.out.lt))
   have AD:=Lib.hid (A2.out.below ((Below.refl _ _).drew))
   have XD:=Lib.hid (X2.out.below ((Below.refl _ _).drew))
   have hgd:=XD.out.lt
   obtain⟨⟨x0,x1,x2,x3,x4,x5,x6⟩,xf⟩:=boxEx_blk XD.out.2
   go_region_law (first
    |(refine step_pushSt (B:=w.heap.size+2) rfl (.tmp 23) (.tmp 26) rfl s (.slice o9 s.ps.length j9) w5.heap.size (World.alloc_heap_new w5 _) (RowSt.nil _ _) (HY5.out.move_box _) rfl rfl (by have :=HS5.out;simp;omega) (by simp) ?_
      intro g6 cap6 w6 q1 q2
      have hbb:=(below_box (w:=w5) (boxSt s (.slice o9 s.ps.length j9))).mono (show w.heap.size+2≤w5.heap.size by have :=HS5.out;omega)|>.trans q2
      have L6:=Lib.hid (L5.out.keep (fun k hk=>hbb.block k (by omega)) hbb.size)
      have C6:=Lib.hid (C5.out.up (hbb.mono (by omega)) hlt)
      have A6:=Lib.hid (show Bx R w.heap.size (boxEx ex0 (.slice none 0 0) (.slice none 0 0)) w6 from ⟨hlt,(hbb.block _ (by omega)).trans A5.out.2⟩)
      have X6:=Lib.hid (show Bx R (w.heap.size+1) (boxEx (.mk 16 [] 0 0 false [] []) (.slice none 0 0) (.slice none 0 0)) w6 from ⟨by omega,(hbb.block _ (by omega)).trans X5.out.2⟩)
      have R6:=Lib.hid q1
      have hg6:=hbb.size
      have HG6:=Lib.hid (Nat.le_trans HS5.out hg6)
      clear hg6 q1 q2 hbb
      obtain⟨⟨v0,v1,v2,v3,v4,v5,v6⟩,vf⟩:=boxEx_blk X6.out.2)
    |(go_simp;go_at_call 216;refine(HX.out _ LD.out).mono ?_;rintro e w5 ⟨vp,rfl,q0,q1,q2⟩
      have L5:=Lib.hid q1
      have C5:=Lib.hid (CD.out.trans q2)
      have A5:=Lib.hid (AD.out.next q2)
      have X5:=Lib.hid (XD.out.next q2)
      have HS5:=Lib.hid (show w.heap.size+2≤w5.heap.size from Nat.le_trans XD.out.lt q2.size)
      have HY5:=Lib.hid (StOn.low2 q0 (show w.heap.size+2≤w2.drew.heap.size from XD.out.lt))
      obtain⟨o9,j9,hvp⟩:=(StOn.iff.1 q0).form
      subst hvp
      obtain⟨⟨y0,y1,y2,y3,y4,y5,y6⟩,yf⟩:=boxEx_blk (XD.out.next q2).2
      have k6:∀ob,(w5.alloc ob).cell? ⟨w.heap.size+1,6,none⟩=some (.slice none 0 0):=fun ob=>(boxEx_blk ((XD.out.next q2).box ob).2).1.2.2.2.2.2.2
      clear q0 q1 q2))
   all_goals
    go_wp2_with (first
     |(go_at_call 200
       refine(HO.out _ _ _ _ _ (L6.out.set_cell (by omega)) (R6.out.set_cell (by omega)) (by simpa using HG6.out)).mono ?_
       rintro e w7 ⟨v7,ys,rfl,hys,q0,q1,q2⟩
       obtain⟨o7,j7,rfl⟩:=q0.form
       subst hys
       have L7:=Lib.hid q1
       have A7:=Lib.hid ((A6.out.set_cell (c:=w.heap.size+1) (i:=6) (u:= .slice (some ⟨g6,0,none⟩) 1 cap6) (by omega)).bub q2 (by omega))
       have C7:=Lib.hid ((C6.out.set_cell (b:=w.heap.size+1) (i:=6) (u:= .slice (some ⟨g6,0,none⟩) 1 cap6) hlt (by omega)).bub q2 (by omega))
       have R7:=Lib.hid q0
       have g7:=(((A6.out.set_cell (c:=w.heap.size+1) (i:=6) (u:= .slice (some ⟨g6,0,none⟩) 1 cap6) (by omega)).bub q2 (by omega))).lt
       have g8:=(((X6.out.put_ss (.slice (some ⟨g6,0,none⟩) 1 cap6)).bub q2 (by omega))).lt
       obtain⟨⟨y0,y1,y2,y3,y4,y5,y6⟩,yf⟩:=boxEx_blk ((X6.out.put_ss (.slice (some ⟨g6,0,none⟩) 1 cap6)).bub q2 (by omega)).2
       obtain⟨_,gf7⟩:=boxEx_blk ((A6.out.set_cell (c:=w.heap.size+1) (i:=6) (u:= .slice (some ⟨g6,0,none⟩) 1 cap6) (by omega)).bub q2 (by omega)).2
       clear q0 q1 q2))
    have hA:=(A7.out.set_cell (c:=w.heap.size+1) (i:=6) (u:= .slice o7 ys.length j7) (by omega)).2
    have hL:=L7.out.set_cell (b:=w.heap.size+1) (i:=6) (u:= .slice o7 ys.length j7) (by omega)
    have hC:=C7.out.set_cell (b:=w.heap.size+1) (i:=6) (u:= .slice o7 ys.length j7) hlt (by omega)
    have hS7:SdOn (w7.setCell ⟨w.heap.size+1,6,none⟩ (.slice o7 ys.length j7)) (w.heap.size+1≤ ·) (.slice o7 ys.length j7) (List.map (fun z:St×Value=>z.1) ys):=SdOn.low (RowSt.on (R7.out.set_cell (b:=w.heap.size+1) (i:=6) (u:= .slice o7 ys.length j7) (by omega))) (by omega)
    have hO7:ExOn (w7.setCell ⟨w.heap.size+1,6,none⟩ (.slice o7 ys.length j7)) (w.heap.size+1≤ ·) (.mk 16 [] 0 0 false [] (List.map (fun z:St×Value=>z.1) ys)) (.slice none 0 0) (.slice o7 ys.length j7):=ExOn.iff.2 ⟨KdOn.nil _ _,hS7⟩
    have fin:=fun aa=>@endExP _ _ Tryz.results198 aa R w (w7.setCell ⟨w.heap.size+1,6,none⟩ (.slice o7 ys.length j7)) (.mk 16 [] 0 0 false [] (List.map (fun z:St×Value=>z.1) ys)) u (.slice none 0 0) (.slice o7 ys.length j7) _ _ _ hA hL hC hO7 hlt
    dsimp only[Ex.op,Ex.s,Ex.tg,Ex.vl,Ex.abs]
    exact fin _ rfl rfl
set_option maxRecDepth 100000 in
set_option maxHeartbeats 8000000 in
theorem loc_double (R N:Nat)(E:List Wd→Option (Ex×List Wd))(ts:List Wd)(w:World)(hE:SubE R N E)(hS:ShrE E)(h:LfB R ts w)(hn:ts.length≤N)(hl:ts.length≤800)(h1:aheadL 5 [47] ts=false)(h2:aheadL 5 [47,47] ts=true):
 Calls Tryz.prog 198 #[.pointer (some ⟨R,0,none⟩)] w (ExP R w (match onwL E (ts.length+1) ts [] with
 |none=>none
 |some (ss,u)=>some (.mk 16 [] 0 0 true [] ss,u))):=by
 have hlt:=h.lt
 have L0:Hid (LfB R ts (w.alloc (.cells #[.int .i64 0,.string ⟨#[]⟩,.int .i64 0,.int .i64 0,.bool false,.slice none 0 0,.slice none 0 0] 28))):=Lib.hid (h.box _)
 have A0:=Lib.hid (Bx.new hlt (boxEx ex0 (.slice none 0 0) (.slice none 0 0)))
 have C0:=Lib.hid (But.new R w hlt (boxEx ex0 (.slice none 0 0) (.slice none 0 0)))
 have ha1:=fun(W:World) (hw:LfB R ts W)=>ahead_any R 5 [47] ts W hw
 rw[h1]at ha1
 have ha1:∀(W:World),LfB R ts W→Calls Tryz.prog 196 #[.pointer (some ⟨R,0,none⟩),.int .i64 5,.string ⟨#[47]⟩] W (fun e w'=>e= .returned (.bool false)∧w'=W):=ha1
 have HA1:=Lib.hid ha1
 have ht:=fun(W:World) (hw:LfB R ts W)=>take_any R 5 [47] ts W hw
 unfold takeL at ht
 rw[h1]at ht
 simp only[Bool.false_eq_true,if_false]at ht
 have HT:=Lib.hid ht
 unfold TkP at HT
 have ha2:=fun(W:World) (hw:LfB R ts W)=>ahead_any R 5 [47,47] ts W hw
 rw[h2]at ha2
 have ha2:∀(W:World),LfB R ts W→Calls Tryz.prog 196 #[.pointer (some ⟨R,0,none⟩),.int .i64 5,.string ⟨#[47,47]⟩] W (fun e w'=>e= .returned (.bool true)∧w'=W):=ha2
 have HA2:=Lib.hid ha2
 have HB2:=HA2
 clear ha2
 clear ha1 ht
 have hO:=fun(W:World) (hw:LfB R ts W) (hb:w.heap.size+2≤W.heap.size)=>onw_any R N (w.heap.size+2) E ts W none 0 0 [] hE hS hw (RowSt.nil _ _) hb (by omega) hn (by simp;omega)
 have hO:∀(W:World),LfB R ts W→w.heap.size+2≤W.heap.size→Calls Tryz.prog 200 #[.pointer (some ⟨R,0,none⟩),.slice none 0 0] W (SsP R (w.heap.size+2) W (onwL E (ts.length+1) ts [])):=hO
 clear h h1 h2 hE
 cases h6:onwL E (ts.length+1) ts [] with
 |none=>
  rw[h6]at hO
  have HO:=Lib.hid hO
  unfold SsP at HO
  dsimp only at HO
  show Calls _ _ _ _ (PaP R w)
  unfold PaP
  clear h6 hO
  go_enter Tryz.func198,Tryz.ntmps198
  go_wp2_with (first
   |(go_at_call 196
     first
      |(with_reducible refine(HB2.out _ L2.out).mono ?_
        rintro e w3 ⟨rfl,hw⟩
        have hw:=hw.symm
        subst hw)
      |(with_reducible refine(HA1.out _ L0.out).mono ?_
        rintro e w3 ⟨rfl,hw⟩
        have hw:=hw.symm
        subst hw)
      |(with_reducible refine(HA2.out _ L0.out).mono ?_
        rintro e w3 ⟨rfl,hw⟩
        have hw:=hw.symm
        subst hw))
   |(go_at_call 180
     refine(HT.out _ (L0.out.box (boxEx (.mk 16 [] 0 0 true [] []) (.slice none 0 0) (.slice none 0 0)))).mono ?_
     rintro e w2 ⟨rfl,q1,q2⟩
     have L2:=Lib.hid q1
     have A2:=Lib.hid ((A0.out.box (boxEx (.mk 16 [] 0 0 true [] []) (.slice none 0 0) (.slice none 0 0))).next q2)
     have X2:=Lib.hid ((Bx.new1 hlt (boxEx ex0 (.slice none 0 0) (.slice none 0 0)) (boxEx (.mk 16 [] 0 0 true [] []) (.slice none 0 0) (.slice none 0 0))).next q2)
     have C2:=Lib.hid ((C0.out.box hlt (boxEx (.mk 16 [] 0 0 true [] []) (.slice none 0 0) (.slice none 0 0))).trans q2)
     obtain⟨⟨z0,z1,z2,z3,z4,z5,z6⟩,zf⟩:=boxEx_blk ((Bx.new1 hlt (boxEx ex0 (.slice none 0 0) (.slice none 0 0)) (boxEx (.mk 16 [] 0 0 true [] []) (.slice none 0 0) (.slice none 0 0))).next q2).2
     obtain⟨_,gf⟩:=boxEx_blk ((A0.out.box (boxEx (.mk 16 [] 0 0 true [] []) (.slice none 0 0) (.slice none 0 0))).next q2).2
     clear q1 q2 HT)
   |(go_at_call 200
     refine(HO.out _ L2.out X2.out.lt).mono ?_
     rintro e w7 ⟨rfl,q2⟩
     have C7:=Lib.hid (C2.out.bub q2 (by omega))
     clear q2
     unfold pan31))
  exact⟨rfl,rfl,C7.out⟩
 |some p=>
  obtain⟨ss,u⟩:=p
  rw[h6]at hO
  have HO:=Lib.hid hO
  unfold SsP at HO
  dsimp only at HO ⊢
  clear h6 hO
  go_enter Tryz.func198,Tryz.ntmps198
  go_wp2_with (first
   |(go_at_call 196
     first
      |(with_reducible refine(HB2.out _ L2.out).mono ?_
        rintro e w3 ⟨rfl,hw⟩
        have hw:=hw.symm
        subst hw)
      |(with_reducible refine(HA1.out _ L0.out).mono ?_
        rintro e w3 ⟨rfl,hw⟩
        have hw:=hw.symm
        subst hw)
      |(with_reducible refine(HA2.out _ L0.out).mono ?_
        rintro e w3 ⟨rfl,hw⟩
        have hw:=hw.symm
        subst hw))
   |(go_at_call 180
     refine(HT.out _ (L0.out.box (boxEx (.mk 16 [] 0 0 true [] []) (.slice none 0 0) (.slice none 0 0)))).mono ?_
     rintro e w2 ⟨rfl,q1,q2⟩
     have L2:=Lib.hid q1
     have A2:=Lib.hid ((A0.out.box (boxEx (.mk 16 [] 0 0 true [] []) (.slice none 0 0) (.slice none 0 0))).next q2)
     have X2:=Lib.hid ((Bx.new1 hlt (boxEx ex0 (.slice none 0 0) (.slice none 0 0)) (boxEx (.mk 16 [] 0 0 true [] []) (.slice none 0 0) (.slice none 0 0))).next q2)
     have C2:=Lib.hid ((C0.out.box hlt (boxEx (.mk 16 [] 0 0 true [] []) (.slice none 0 0) (.slice none 0 0))).trans q2)
     obtain⟨⟨z0,z1,z2,z3,z4,z5,z6⟩,zf⟩:=boxEx_blk ((Bx.new1 hlt (boxEx ex0 (.slice none 0 0) (.slice none 0 0)) (boxEx (.mk 16 [] 0 0 true [] []) (.slice none 0 0) (.slice none 0 0))).next q2).2
     obtain⟨_,gf⟩:=boxEx_blk ((A0.out.box (boxEx (.mk 16 [] 0 0 true [] []) (.slice none 0 0) (.slice none 0 0))).next q2).2
     clear q1 q2 HT)
   |(go_at_call 200
     refine(HO.out _ L2.out X2.out.lt).mono ?_
     rintro e w7 ⟨v7,ys,rfl,hys,q0,q1,q2⟩
     obtain⟨o7,j7,rfl⟩:=q0.form
     subst hys
     have L7:=Lib.hid q1
     have A7:=Lib.hid (A2.out.bub q2 (by omega))
     have C7:=Lib.hid (C2.out.bub q2 (by omega))
     have R7:=Lib.hid q0
     have g7:=((A2.out.bub q2 (by omega))).lt
     have g8:=((X2.out.bub q2 (by omega))).lt
     obtain⟨⟨y0,y1,y2,y3,y4,y5,y6⟩,yf⟩:=boxEx_blk (X2.out.bub q2 (by omega)).2
     obtain⟨_,gf7⟩:=boxEx_blk (A2.out.bub q2 (by omega)).2
     clear q0 q1 q2))
  have hA:=(A7.out.set_cell (c:=w.heap.size+1) (i:=6) (u:= .slice o7 ys.length j7) (by omega)).2
  have hL:=L7.out.set_cell (b:=w.heap.size+1) (i:=6) (u:= .slice o7 ys.length j7) (by omega)
  have hC:=C7.out.set_cell (b:=w.heap.size+1) (i:=6) (u:= .slice o7 ys.length j7) hlt (by omega)
  have hS7:SdOn (w7.setCell ⟨w.heap.size+1,6,none⟩ (.slice o7 ys.length j7)) (w.heap.size+1≤ ·) (.slice o7 ys.length j7) (List.map (fun z:St×Value=>z.1) ys):=SdOn.low (RowSt.on (R7.out.set_cell (b:=w.heap.size+1) (i:=6) (u:= .slice o7 ys.length j7) (by omega))) (by omega)
  have hO7:ExOn (w7.setCell ⟨w.heap.size+1,6,none⟩ (.slice o7 ys.length j7)) (w.heap.size+1≤ ·) (.mk 16 [] 0 0 true [] (List.map (fun z:St×Value=>z.1) ys)) (.slice none 0 0) (.slice o7 ys.length j7):=ExOn.iff.2 ⟨KdOn.nil _ _,hS7⟩
  have fin:=fun aa=>@endExP _ _ Tryz.results198 aa R w (w7.setCell ⟨w.heap.size+1,6,none⟩ (.slice o7 ys.length j7)) (.mk 16 [] 0 0 true [] (List.map (fun z:St×Value=>z.1) ys)) u (.slice none 0 0) (.slice o7 ys.length j7) _ _ _ hA hL hC hO7 hlt
  dsimp only[Ex.op,Ex.s,Ex.tg,Ex.vl,Ex.abs]
  exact fin _ rfl rfl
theorem loc_any (R N:Nat)(E:List Wd→Option (Ex×List Wd))(ts:List Wd)(w:World)(hE:SubE R N E)(hS:ShrE E)(h:LfB R ts w)(hn:ts.length≤N)(hl:ts.length≤800):
 Calls Tryz.prog 198 #[.pointer (some ⟨R,0,none⟩)] w (ExP R w (locL E ts)):=by
 unfold locL
 cases h1:aheadL 5 [47] ts with
 |true=>
  simp only[if_true]
  cases h3:stpL ts.tail with
  |true=>
   simp only[if_true]
   exact loc_rooted R N E ts w hE hS h hn hl h1 h3
  |false=>
   simp only[Bool.false_eq_true,if_false]
   exact loc_root R ts w h h1 h3
 |false=>
  simp only[Bool.false_eq_true,if_false]
  cases h2:aheadL 5 [47,47] ts with
  |true=>
   simp only[if_true]
   exact loc_double R N E ts w hE hS h hn hl h1 h2
  |false=>
   simp only[Bool.false_eq_true,if_false]
   exact loc_rel R N E ts w hE hS h hn hl h1 h2
end Char
namespace Char
open Go.RowKit Go.Lib
theorem ExOn.bub {R B C:Nat}{w w':World}{x:Ex}{vk vs:Value}(h:ExOn w (B≤ ·) x vk vs)(hb:BuB R C w w')(hR:R<B)(hC:w.heap.size≤C:=by exact Nat.le_refl _):ExOn w' (B≤ ·) x vk vs:=
 ExOn.move (fun b hb0 hF=>⟨hF,hb.2 b (by omega) (by omega)⟩) x vk vs h
theorem endExPw {fn:Func}{p:Tmp}(h:fn.results= #[.cell p 28]){a:Act}{R:Nat}{w W:World}{x:Ex}{ts:List Wd}{vk vs:Value}(hk:W.heap[w.heap.size]? =some (boxEx x vk vs))(hl:LfB R ts W)(hb:But R w W)(ho:ExOn W (w.heap.size≤ ·) x vk vs)
 (hp:a.tmps.getD p undef= .pointer (some ⟨w.heap.size,0,none⟩)) (hd:a.defers=[]):bodyPost Tryz.prog fn (ExP R w (some (x,ts))) .ret a W:=
 endEx h _ w.heap.size hk hp hd ⟨vk,vs,rfl,ho,hl,hb⟩
def setBox (w:World)(b:Nat)(x:Ex)(vk vs:Value)(o:Obj):World:=(setEx w b x vk vs).alloc o
theorem setBox_at {w:World}{b:Nat}{x x':Ex}{vk vs vk' vs':Value}{o:Obj}(h:w.heap[b]? =some (boxEx x' vk' vs')):(setBox w b x vk vs o).heap[b]? =some (boxEx x vk vs):=by
 have hs:(setEx w b x vk vs).heap[b]? =_:=setEx_at h
 exact(Below.heap_alloc _ _ _ (Array.getElem?_eq_some_iff.1 hs).1).trans hs
theorem setBox_ne {w:World}{b k:Nat}{x:Ex}{vk vs:Value}{o:Obj}(hk:k<w.heap.size)(h:k≠b):(setBox w b x vk vs o).heap[k]? =w.heap[k]? :=
 (Below.heap_alloc _ _ _ (by rw[setEx_size];exact hk)).trans (setEx_ne h)
theorem setBox_size {w:World}{b:Nat}{x:Ex}{vk vs:Value}{o:Obj}:(setBox w b x vk vs o).heap.size=w.heap.size+1:=by
 unfold setBox
 rw[World.size_alloc,setEx_size]
theorem setBox_new {w:World}{b:Nat}{x:Ex}{vk vs:Value}{o:Obj}:(setBox w b x vk vs o).heap[w.heap.size]? =some o:=by
 have :=World.alloc_heap_new (setEx w b x vk vs) o
 rwa [setEx_size]at this
theorem setBox_below {B b:Nat}{w w':World}{x:Ex}{vk vs:Value}{o:Obj}(h:Below B w w')(hb:B≤b)(hs:B≤w'.heap.size):Below B w (setBox w' b x vk vs o):=
 (setEx_below h hb).alloc (by rw[setEx_size];exact hs) _
theorem LfB.set_box {R b:Nat}{ts:List Wd}{w:World}{x:Ex}{vk vs:Value}{o:Obj}(h:LfB R ts w)(hb:R<b):LfB R ts (setBox w b x vk vs o):=(h.set_ex hb).box _
theorem But.set_box {R b:Nat}{w w1:World}{x:Ex}{vk vs:Value}{o:Obj}(h:But R w w1)(hR:R<w.heap.size)(hb:w.heap.size≤b):But R w (setBox w1 b x vk vs o):=
 h.up (setBox_below (Below.refl _ _) hb h.size) hR
theorem kids_of {w:World}{F:Nat→Prop}{g:Nat}{xs:List (Ex×Value×Value)}(hg:w.heap[g]? =some (.cells (exsC xs).toArray 28 (0,0)))(hx:∀x∈xs,ExOn w F x.1 x.2.1 x.2.2):KsOn w F g 0 (xs.map (·.1)):=by
 refine KsOn.of fun k hk=> ?_
 have hk':k<xs.length:=by simpa using hk
 refine⟨xs[k].2.1,xs[k].2.2,?_,?_⟩
 ·rw[List.getElem_map]
  intro i u hu
  have hi:i<7:=(List.getElem?_eq_some_iff.1 hu).1
  have :=(exsC_at xs k i hk' hi).trans hu
  simp only[World.cell?,hg,Nat.zero_add]
  simpa using this
 ·rw[List.getElem_map]
  exact hx _ (List.getElem_mem hk')
theorem kids_one {B b:Nat}{w:World}{X x:Ex}{VK VS vk vs:Value}(hy:ExOn w (B≤ ·) x vk vs)(hb:b<B)(hB:B≤w.heap.size):
 KdOn (setBox w b X VK VS (boxEx x vk vs)) (B≤ ·) (.slice (some ⟨w.heap.size,0,none⟩) 1 1) [x]:=by
 refine⟨_,_,rfl,.inr ⟨w.heap.size,0,rfl,⟨hB,Nat.le_refl _⟩,kids_of (xs:=[(x,vk,vs)]) setBox_new fun z hz=> ?_⟩⟩
 rw[List.mem_singleton]at hz
 subst hz
 exact ExOn.move (fun k hk hF=>⟨hF,setBox_ne hk (by omega)⟩) _ _ _ hy
theorem kids_two {B b:Nat}{w:World}{X x y:Ex}{VK VS vk vs uk us:Value}(hx:ExOn w (B≤ ·) x vk vs)(hy:ExOn w (B≤ ·) y uk us)(hb:b<B)(hB:B≤w.heap.size):
 KdOn (setBox w b X VK VS (.cells #[.int .i64 x.op,.string (bs x.s),.int .i64 x.tg,.int .i64 x.vl,.bool x.abs,vk,vs,.int .i64 y.op,.string (bs y.s),.int .i64 y.tg,.int .i64 y.vl,.bool y.abs,uk,us] 28)) (B≤ ·) (.slice (some ⟨w.heap.size,0,none⟩) 2 2) [x,y]:=by
 refine⟨_,_,rfl,.inr ⟨w.heap.size,0,rfl,⟨hB,Nat.le_refl _⟩,kids_of (xs:=[(x,vk,vs),(y,uk,us)]) setBox_new fun z hz=> ?_⟩⟩
 rcases List.mem_cons.1 hz with rfl|hz
 ·exact ExOn.move (fun k hk hF=>⟨hF,setBox_ne hk (by omega)⟩) _ _ _ hx
 ·rw[List.mem_singleton]at hz
  subst hz
  exact ExOn.move (fun k hk hF=>⟨hF,setBox_ne hk (by omega)⟩) _ _ _ hy
theorem SdOn.set_box {B b:Nat}{w:World}{X:Ex}{VK VS v:Value}{o:Obj}{ss:List St}(h:SdOn w (B≤ ·) v ss)(hb:b<B):SdOn (setBox w b X VK VS o) (B≤ ·) v ss:=
 SdOn.move (fun k hk hF=>⟨hF,setBox_ne hk (by omega)⟩) h
end Char
end Go.Proofs.YtlmpkpjjakallaaGreatDoor
