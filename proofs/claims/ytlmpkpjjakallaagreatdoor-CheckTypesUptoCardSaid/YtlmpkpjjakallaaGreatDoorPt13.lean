import Derived.Test.YtlmpkpjjakallaaGreatDoorPt12
import Derived.Deep.RegionWith
import Derived.Deep.RegionLaw
import Derived.Deep.RegionHeld3
namespace Go.Proofs.YtlmpkpjjakallaaGreatDoor
namespace Char
open Go.RowKit Go.Lib
open Go.Proofs.YtlmpkpjjakallaaGreatDoor.Fig (outT outV)
def anySt (a:Int):St:= .mk a 3 [] false []
def stepL (E:List Wd→Option (Ex×List Wd))(ts:List Wd):Option (St×List Wd):=
 if aheadL 1 [46] ts then some (anySt 10,ts.tail) else if aheadL 1 [46,46] ts then some (anySt 3,ts.tail) else match axisL ts with
  |none=>none
  |some (a,t)=>match testL t with
   |none=>none
   |some (te,u)=>match predsL E (u.length+1) u [] with
    |none=>none
    |some (ps,r)=>some (.mk a te.1 te.2.1 te.2.2 ps,r)
theorem axis_len {ts t:List Wd}{a:Int}(h:axisL ts=some (a,t)):t.length≤ts.length:=by
 unfold axisL at h
 split at h
 ·cases h
  simp
 ·split at h
  ·cases ts with
   |nil=>cases h
   |cons x r=>
    dsimp only at h
    split at h
    ·cases h
    ·cases hm:mustW [58,58] r with
     |none=>rw[hm]at h;cases h
     |some u=>
      rw[hm]at h
      cases h
      have :=must_len hm
      rw[List.length_cons]
      omega
  ·cases h
   exact Nat.le_refl _
theorem typ_len {s:List UInt8}{ts t:List Wd}{te:Te3}(h:typL s ts=some (te,t)):t.length<ts.length:=by
 unfold typL at h
 cases hm:mustW [40] ts with
 |none=>rw[hm]at h;cases h
 |some u=>
  have h1:=must_len hm
  rw[hm]at h
  dsimp only at h
  split at h
  ·cases u with
   |nil=>cases h
   |cons x r=>
    dsimp only at h
    cases hm2:mustW [41] r with
    |none=>rw[hm2]at h;cases h
    |some v=>
     rw[hm2]at h
     cases h
     have h2:=must_len hm2
     rw[List.length_cons]at h1
     omega
  ·cases hm2:mustW [41] u with
   |none=>rw[hm2]at h;cases h
   |some v=>
    rw[hm2]at h
    cases h
    have h2:=must_len hm2
    omega
theorem test_len {ts t:List Wd}{te:Te3}(h:testL ts=some (te,t)):t.length<ts.length:=by
 cases ts with
 |nil=>cases h
 |cons x r=>
  simp only[testL]at h
  rw[List.length_cons]
  split at h
  ·cases h;omega
  ·split at h
   ·cases h;omega
   ·split at h
    ·have :=typ_len h
     omega
    ·cases h
theorem preds_len {E:List Wd→Option (Ex×List Wd)}(hS:ShrE E):∀(f:Nat) (ts t:List Wd) (acc ps:List Ex),predsL E f ts acc=some (ps,t)→t.length≤ts.length
 |0,_,_,_,_,h=>by cases h
 |f+1,ts,t,acc,ps,h=>by
  unfold predsL at h
  split at h
  ·rename_i h1
   have h2:=ahead_len h1
   cases he:E ts.tail with
   |none=>rw[he]at h;cases h
   |some p=>
    obtain⟨x,r⟩:=p
    rw[he]at h
    dsimp only at h
    have h3:=hS _ _ _ he
    cases hm:mustW [93] r with
    |none=>rw[hm]at h;cases h
    |some u=>
     rw[hm]at h
     have h4:=must_len hm
     have h5:=preds_len hS f u t _ ps h
     omega
  ·cases h
   exact Nat.le_refl _
theorem preds_cnt {E:List Wd→Option (Ex×List Wd)}(hS:ShrE E):∀(f:Nat) (ts t:List Wd) (acc ps:List Ex),predsL E f ts acc=some (ps,t)→ps.length+t.length≤acc.length+ts.length
 |0,_,_,_,_,h=>by cases h
 |f+1,ts,t,acc,ps,h=>by
  unfold predsL at h
  split at h
  ·rename_i h1
   have h2:=ahead_len h1
   cases he:E ts.tail with
   |none=>rw[he]at h;cases h
   |some p=>
    obtain⟨x,r⟩:=p
    rw[he]at h
    dsimp only at h
    have h3:=hS _ _ _ he
    cases hm:mustW [93] r with
    |none=>rw[hm]at h;cases h
    |some u=>
     rw[hm]at h
     have h4:=must_len hm
     have h5:=preds_cnt hS f u t _ ps h
     rw[List.length_append]at h5
     simp at h5
     omega
  ·cases h
   exact Nat.le_refl _
theorem step_len {E:List Wd→Option (Ex×List Wd)}(hS:ShrE E){ts t:List Wd}{s:St}(h:stepL E ts=some (s,t)):t.length<ts.length:=by
 unfold stepL at h
 split at h
 ·rename_i h1
  cases h
  have :=ahead_len h1
  omega
 ·split at h
  ·rename_i h1
   cases h
   have :=ahead_len h1
   omega
  ·cases ha:axisL ts with
   |none=>rw[ha]at h;cases h
   |some p=>
    obtain⟨a,u⟩:=p
    rw[ha]at h
    dsimp only at h
    have h1:=axis_len ha
    cases ht:testL u with
    |none=>rw[ht]at h;cases h
    |some q=>
     obtain⟨te,v⟩:=q
     rw[ht]at h
     dsimp only at h
     have h2:=test_len ht
     cases hp:predsL E (v.length+1) v [] with
     |none=>rw[hp]at h;cases h
     |some z=>
      obtain⟨ps,r⟩:=z
      rw[hp]at h
      cases h
      have h3:=preds_len hS _ _ _ _ _ hp
      omega
set_option maxRecDepth 100000 in
set_option maxHeartbeats 8000000 in
theorem step_any (R N:Nat)(E:List Wd→Option (Ex×List Wd))(ts:List Wd)(w:World)(hE:SubE R N E)(hS:ShrE E)(h:LfB R ts w)(hn:ts.length≤N)(hl:ts.length≤900):
 Calls Tryz.prog 216 #[.pointer (some ⟨R,0,none⟩)] w (StP R w (stepL E ts)):=by
 have hlt:=h.lt
 have L0:Hid (LfB R ts (w.alloc (.cells #[.int .i64 0,.int .i64 0,.string ⟨#[]⟩,.bool false,.slice none 0 0] 62))):=Lib.hid (h.box _)
 have a0:=Bx.new hlt (boxSt (.mk 0 0 [] false []) (.slice none 0 0))
 have A0:=Lib.hid a0
 have C0:=Lib.hid (But.new R w hlt (boxSt (.mk 0 0 [] false []) (.slice none 0 0)))
 unfold stepL
 have HT:=Lib.hid fun(W:World) (hw:LfB R ts W)=>take_any R 1 [46] ts W hw
 unfold takeL TkP at HT
 clear h a0
 cases h1:aheadL 1 [46] ts with
 |true=>
  rw[h1]at HT
  simp only[if_true]at HT ⊢
  clear h1 hE
  go_enter Tryz.func216,Tryz.ntmps216
  go_wp2_with (first
   |(go_at_call 180
     refine(HT.out _ L0.out).mono ?_
     rintro e w1 ⟨rfl,q1,q2⟩
     have L1:=Lib.hid q1
     have A1:=Lib.hid (A0.out.next q2)
     have C1:=Lib.hid (C0.out.trans q2)
     clear q1 q2 HT)
   |(go_at_call 219
     refine(anyNode_any _ _).mono ?_
     unfold stpV
     rintro e w2 ⟨rfl,q2⟩
     have L2:=Lib.hid (L1.out.below q2)
     have A2:=Lib.hid (A1.out.below q2)
     have C2:=Lib.hid (C1.out.trans (But.of q2 (L1.out.lt)))
     obtain⟨_,gf⟩:=boxSt_blk (A1.out.below q2).2
     clear q2))
  exact endStP Tryz.results216 (x:=anySt 10) A2.out.2 L2.out C2.out (StOn.iff.2 (KdOn.nil _ _)) hlt rfl rfl
 |false=>
  rw[h1]at HT
  simp only[Bool.false_eq_true,if_false]at HT ⊢
  have HT2:=Lib.hid fun(W:World) (hw:LfB R ts W)=>take_any R 1 [46,46] ts W hw
  unfold takeL TkP at HT2
  clear h1
  cases h2:aheadL 1 [46,46] ts with
  |true=>
   rw[h2]at HT2
   simp only[if_true]at HT2 ⊢
   clear h2 hE
   go_enter Tryz.func216,Tryz.ntmps216
   go_wp2_with (first
    |(go_at_call 180
      first
       |(refine(HT2.out _ L1.out).mono ?_
         rintro e w2 ⟨rfl,q1,q2⟩
         have L2:=Lib.hid q1
         have A2:=Lib.hid (A1.out.next q2)
         have C2:=Lib.hid (C1.out.trans q2)
         clear q1 q2 HT2)
       |(refine(HT.out _ L0.out).mono ?_
         rintro e w1 ⟨rfl,q1,q2⟩
         have L1:=Lib.hid q1
         have A1:=Lib.hid (A0.out.next q2)
         have C1:=Lib.hid (C0.out.trans q2)
         clear q1 q2 HT))
    |(go_at_call 219
      refine(anyNode_any _ _).mono ?_
      unfold stpV
      rintro e w3 ⟨rfl,q2⟩
      have L3:=Lib.hid (L2.out.below q2)
      have A3:=Lib.hid (A2.out.below q2)
      have C3:=Lib.hid (C2.out.trans (But.of q2 (L2.out.lt)))
      obtain⟨_,gf⟩:=boxSt_blk (A2.out.below q2).2
      clear q2))
   exact endStP Tryz.results216 (x:=anySt 3) A3.out.2 L3.out C3.out (StOn.iff.2 (KdOn.nil _ _)) hlt rfl rfl
  |false=>
   rw[h2]at HT2
   simp only[Bool.false_eq_true,if_false]at HT2 ⊢
   clear h2
   have HA:=Lib.hid fun(W:World) (hw:LfB R ts W)=>axis_any R ts W hw
   cases h3:axisL ts with
   |none=>
    rw[h3]at HA
    unfold AxP PaP at HA
    dsimp only at HA ⊢
    unfold StP PaP
    dsimp only
    clear h3 hE
    go_enter Tryz.func216,Tryz.ntmps216
    go_wp2_with (first
     |(go_at_call 180
       first
        |(refine(HT2.out _ L1.out).mono ?_
          rintro e w2 ⟨rfl,q1,q2⟩
          have L2:=Lib.hid q1
          have A2:=Lib.hid (A1.out.next q2)
          have C2:=Lib.hid (C1.out.trans q2)
          clear q1 q2 HT2)
        |(refine(HT.out _ L0.out).mono ?_
          rintro e w1 ⟨rfl,q1,q2⟩
          have L1:=Lib.hid q1
          have A1:=Lib.hid (A0.out.next q2)
          have C1:=Lib.hid (C0.out.trans q2)
          clear q1 q2 HT))
     |(go_at_call 226
       refine(HA.out _ L2.out).mono ?_
       rintro e w3 ⟨rfl,q2⟩
       have C3:=Lib.hid (C2.out.trans q2)
       clear q2 HA
       unfold pan31))
    exact⟨rfl,rfl,C3.out⟩
   |some p=>
    obtain⟨a,t⟩:=p
    have h3l:=axis_len h3
    rw[h3]at HA
    unfold AxP TkP at HA
    dsimp only at HA ⊢
    clear h3
    have HE:=Lib.hid fun(W:World) (hw:LfB R t W)=>test_any R t W hw
    cases h4:testL t with
    |none=>
     rw[h4]at HE
     unfold TeP PaP at HE
     dsimp only at HE ⊢
     unfold StP PaP
     dsimp only
     clear h4 hE
     go_enter Tryz.func216,Tryz.ntmps216
     go_wp2_with (first
      |(go_at_call 180
        first
         |(refine(HT2.out _ L1.out).mono ?_
           rintro e w2 ⟨rfl,q1,q2⟩
           have L2:=Lib.hid q1
           have A2:=Lib.hid (A1.out.next q2)
           have C2:=Lib.hid (C1.out.trans q2)
           clear q1 q2 HT2)
         |(refine(HT.out _ L0.out).mono ?_
           rintro e w1 ⟨rfl,q1,q2⟩
           have L1:=Lib.hid q1
           have A1:=Lib.hid (A0.out.next q2)
           have C1:=Lib.hid (C0.out.trans q2)
           clear q1 q2 HT))
      |(go_at_call 226
        refine(HA.out _ L2.out).mono ?_
        rintro e w3 ⟨rfl,q1,q2⟩
        have L3:=Lib.hid q1
        have A3:=Lib.hid (A2.out.next q2)
        have C3:=Lib.hid (C2.out.trans q2)
        clear q1 q2 HA)
      |(go_at_call 227
        refine(HE.out _ L3.out).mono ?_
        rintro e w4 ⟨rfl,q2⟩
        have C4:=Lib.hid (C3.out.trans q2)
        clear q2 HE
        unfold pan31))
     exact⟨rfl,rfl,C4.out⟩
    |some p=>
     obtain⟨te,u⟩:=p
     have h4l:=test_len h4
     rw[h4]at HE
     unfold TeP teV at HE
     dsimp only at HE ⊢
     clear h4
     have hX:=fun(W:World) (hw:LfB R u W)=>preds_any R N E u W hE hS hw (by omega) (by omega)
     cases h5:predsL E (u.length+1) u [] with
     |none=>
      rw[h5]at hX
      have HX:=Lib.hid hX
      unfold EsP PaP at HX
      dsimp only at HX ⊢
      unfold StP PaP
      dsimp only
      clear h5 hE hX
      go_enter Tryz.func216,Tryz.ntmps216
      go_wp2_with (first
       |(go_at_call 180
         first
          |(refine(HT2.out _ L1.out).mono ?_
            rintro e w2 ⟨rfl,q1,q2⟩
            have L2:=Lib.hid q1
            have A2:=Lib.hid (A1.out.next q2)
            have C2:=Lib.hid (C1.out.trans q2)
            clear q1 q2 HT2)
          |(refine(HT.out _ L0.out).mono ?_
            rintro e w1 ⟨rfl,q1,q2⟩
            have L1:=Lib.hid q1
            have A1:=Lib.hid (A0.out.next q2)
            have C1:=Lib.hid (C0.out.trans q2)
            clear q1 q2 HT))
       |(go_at_call 226
         refine(HA.out _ L2.out).mono ?_
         rintro e w3 ⟨rfl,q1,q2⟩
         have L3:=Lib.hid q1
         have A3:=Lib.hid (A2.out.next q2)
         have C3:=Lib.hid (C2.out.trans q2)
         clear q1 q2 HA)
       |(go_at_call 227
         refine(HE.out _ L3.out).mono ?_
         rintro e w4 ⟨rfl,q1,q2⟩
         have L4:=Lib.hid q1
         have A4:=Lib.hid (A3.out.next q2)
         have C4:=Lib.hid (C3.out.trans q2)
         clear q1 q2 HE)
       |(go_at_call 218
         refine(HX.out _ L4.out).mono ?_
         rintro e w5 ⟨rfl,q2⟩
         have C5:=Lib.hid (C4.out.trans q2)
         clear q2 HX
         unfold pan31))
      exact⟨rfl,rfl,C5.out⟩
     |some p=>
      obtain⟨ps,r⟩:=p
      rw[h5]at hX
      have HX:=Lib.hid hX
      unfold EsP at HX
      dsimp only at HX ⊢
      clear h5 hE hX
      go_enter Tryz.func216,Tryz.ntmps216
      go_wp2_with (first
       |(go_at_call 180
         first
          |(refine(HT2.out _ L1.out).mono ?_
            rintro e w2 ⟨rfl,q1,q2⟩
            have L2:=Lib.hid q1
            have A2:=Lib.hid (A1.out.next q2)
            have C2:=Lib.hid (C1.out.trans q2)
            clear q1 q2 HT2)
          |(refine(HT.out _ L0.out).mono ?_
            rintro e w1 ⟨rfl,q1,q2⟩
            have L1:=Lib.hid q1
            have A1:=Lib.hid (A0.out.next q2)
            have C1:=Lib.hid (C0.out.trans q2)
            clear q1 q2 HT))
       |(go_at_call 226
         refine(HA.out _ L2.out).mono ?_
         rintro e w3 ⟨rfl,q1,q2⟩
         have L3:=Lib.hid q1
         have A3:=Lib.hid (A2.out.next q2)
         have C3:=Lib.hid (C2.out.trans q2)
         clear q1 q2 HA)
       |(go_at_call 227
         refine(HE.out _ L3.out).mono ?_
         rintro e w4 ⟨rfl,q1,q2⟩
         have L4:=Lib.hid q1
         have A4:=Lib.hid (A3.out.next q2)
         have C4:=Lib.hid (C3.out.trans q2)
         clear q1 q2 HE)
       |(go_at_call 218
         refine(HX.out _ L4.out).mono ?_
         rintro e w5 ⟨vp,ys,rfl,rfl,q0,q1,q2⟩
         obtain⟨o5,j5,rfl⟩:=q0.form
         have L5:=Lib.hid q1
         have A5:=Lib.hid (A4.out.next q2)
         have Y5:=Lib.hid (StOn.move (F':=(w.heap.size+1≤ ·)) (fun b _ hF=>⟨Nat.le_trans A4.out.lt hF,rfl⟩) (.mk a te.1 te.2.1 te.2.2 (ys.map (·.1))) (.slice o5 ys.length j5) (StOn.iff.2 q0.on))
         obtain⟨_,gf⟩:=boxSt_blk (A4.out.next q2).2
         have C5:=Lib.hid (C4.out.trans q2)
         clear q0 q1 q2 HX))
      have fin:=fun aa=>@endStP _ _ Tryz.results216 aa R w w5 (.mk a te.1 te.2.1 te.2.2 (ys.map (·.1))) r _ _ _ A5.out.2 L5.out C5.out Y5.out hlt
      exact fin _ rfl rfl
end Char
namespace Char
open Go.RowKit Go.Lib
open Go.Proofs.YtlmpkpjjakallaaGreatDoor.Fig (outT outV)
def onwL (E:List Wd→Option (Ex×List Wd)):Nat→List Wd→List St→Option (List St×List Wd)
 |0,_,_=>none
 |f+1,ts,acc=>if aheadL 5 [47] ts then (match stepL E ts.tail with
   |none=>none
   |some (s,r)=>onwL E f r (acc++[s])) else if aheadL 5 [47,47] ts then (match stepL E ts.tail with
   |none=>none
   |some (s,r)=>onwL E f r ((acc++[anySt 11])++[s])) else some (acc,ts)
theorem onw_len {E:List Wd→Option (Ex×List Wd)}(hS:ShrE E):∀(f:Nat) (ts t:List Wd) (acc ps:List St),onwL E f ts acc=some (ps,t)→t.length≤ts.length
 |0,_,_,_,_,h=>by cases h
 |f+1,ts,t,acc,ps,h=>by
  unfold onwL at h
  split at h
  ·rename_i h1
   have h2:=ahead_len h1
   cases he:stepL E ts.tail with
   |none=>rw[he]at h;cases h
   |some p=>
    obtain⟨x,r⟩:=p
    rw[he]at h
    have h3:=step_len hS he
    have h5:=onw_len hS f r t _ ps h
    omega
  ·split at h
   ·rename_i h1
    have h2:=ahead_len h1
    cases he:stepL E ts.tail with
    |none=>rw[he]at h;cases h
    |some p=>
     obtain⟨x,r⟩:=p
     rw[he]at h
     have h3:=step_len hS he
     have h5:=onw_len hS f r t _ ps h
     omega
   ·cases h
    exact Nat.le_refl _
def BuB (R B:Nat)(w w':World):Prop:=Below R w w'∧∀k,k<B→k≠R→w'.heap[k]? =w.heap[k]?
theorem BuB.refl (R B:Nat)(w:World):BuB R B w w:=⟨Below.refl _ _,fun _ _ _=>rfl⟩
theorem BuB.but {R B:Nat}{w w1 w2:World}(h:BuB R B w w1)(hb:But R w1 w2)(hB:B≤w1.heap.size):BuB R B w w2:=
 ⟨h.1.trans hb.1,fun k hk hr=>(hb.2 k (by omega) hr).trans (h.2 k hk hr)⟩
theorem BuB.up {R B:Nat}{w w1 w2:World}(h:BuB R B w w1)(hb:Below B w1 w2)(hR:R<B):BuB R B w w2:=
 ⟨h.1.trans (hb.mono (by omega)),fun k hk hr=>(hb.block k hk).trans (h.2 k hk hr)⟩
theorem rowSt_apart {B C:Nat}{w W1:World}{v:Value}{xs:List (St×Value)}{x:St}{vp:Value}(h:RowSt B w v xs)(hs:w.heap.size≤C)(hB:B≤C)(ho:StOn W1 (C≤ ·) x vp):StOn W1 (fun b=>B≤b∧v.ownBlock≠some b) x vp:=
 StOn.move (fun b _ hF=>⟨⟨Nat.le_trans hB hF,fun hv=>by have :=(h.blk hv).2;omega⟩,rfl⟩) _ _ ho
def SsP (R B:Nat)(w:World)(x:Option (List St×List Wd))(e:Ending)(w':World):Prop:=match x with
 |none=>e=pan31∧BuB R B w w'
 |some (xs,ts)=>∃v ys,e= .returned v∧ys.map (·.1)=xs∧RowSt B w' v ys∧LfB R ts w'∧BuB R B w w'
set_option maxRecDepth 100000 in
set_option maxHeartbeats 8000000 in
theorem onw_any (R N B:Nat)(E:List Wd→Option (Ex×List Wd))(ts:List Wd)(w:World)(o:Option Addr)(i j:Nat)(xs:List (St×Value))(hE:SubE R N E)(hS:ShrE E)(h:LfB R ts w)(hr:RowSt B w (.slice o i j) xs)(hB:B≤w.heap.size)(hR:R<B)(hn:ts.length≤N)(hl:xs.length+ts.length≤900):
 Calls Tryz.prog 200 #[.pointer (some ⟨R,0,none⟩),.slice o i j] w (SsP R B w (onwL E (ts.length+1) ts (xs.map (·.1)))):=by
 obtain⟨G,hG⟩:∃G,onwL E (ts.length+1) ts (xs.map (·.1))=G:=⟨_,rfl⟩
 rw[hG]
 obtain⟨_,_,hf⟩:=hr.form
 obtain⟨-,hf,-⟩:=Value.slice.inj hf
 subst hf
 have HG:=Lib.hid hG
 have H0:=Lib.hid h
 have HR:=Lib.hid hr
 have HE:=Lib.hid hE
 have HS:=Lib.hid hS
 have HL:=Lib.hid hl
 have HN:=Lib.hid hn
 have HB:=Lib.hid hB
 clear hG h hr hE hS hl hn hB
 go_enter Tryz.func200,Tryz.ntmps200
 go_wp2_with fail
 go_loopw [1] (fun v wr=>∃(f:Nat) (cur:List Wd) (ys:List (St×Value)) (o:Option Addr) (j:Nat),v= .slice o ys.length j∧Hid (LfB R cur wr∧RowSt B wr v ys∧BuB R B w wr∧cur.length<f∧onwL E f cur (ys.map (·.1))=G∧ys.length+cur.length≤900∧cur.length≤N∧B≤wr.heap.size)) (fun _ wr=>leftN R wr)
 case atStart=>exact⟨ts.length+1,ts,xs,o,j,rfl,Lib.hid ⟨H0.out,HR.out,BuB.refl _ _ _,by omega,HG.out,HL.out,HN.out,HB.out⟩⟩
 case round=>
  clear HG H0 HR HL HN HB
  obtain⟨f,cur,ys,o,j,rfl,HI⟩:=hrel
  have HT:=Lib.hid fun(W:World) (hw:LfB R cur W)=>take_any R 5 [47] cur W hw
  have HT2:=Lib.hid fun(W:World) (hw:LfB R cur W)=>take_any R 5 [47,47] cur W hw
  unfold takeL TkP at HT HT2
  have HMZ:=Lib.hid (leftN_of HI.out.1)
  have hgs:=HI.out.2.2.2.2.2.2.2
  have hfl:=HI.out.2.2.2.1
  have hlen:=HI.out.2.2.2.2.2.1
  have hnn:=HI.out.2.2.2.2.2.2.1
  cases f with
  |zero=>exact absurd hfl (by omega)
  |succ f=>
  cases h1:aheadL 5 [47] cur with
  |true=>
   rw[h1]at HT
   simp only[if_true]at HT
   have hcl:=ahead_len h1
   have hg:=HI.out.2.2.2.2.1
   unfold onwL at hg
   rw[if_pos h1]at hg
   have hX:=fun(W:World) (hw:LfB R cur.tail W)=>step_any R N E cur.tail W HE.out HS.out hw (by omega) (by omega)
   generalize hct:cur.tail=ct at *
   clear HT2
   cases h2:stepL E ct with
   |none=>
    rw[h2]at hX hg
    have HGE:=Lib.hid hg
    have HX:=Lib.hid hX
    unfold StP PaP at HX
    dsimp only at HX
    clear h1 h2 hg hct hX
    go_wp2_with (first
     |(go_at_call 180
       refine(HT.out _ HI.out.1).mono ?_
       rintro e w1 ⟨rfl,q1,q2⟩
       have L1:=Lib.hid q1
       have C1:=Lib.hid (HI.out.2.2.1.but q2 hgs)
       have R1:=Lib.hid (HI.out.2.1.but q2 hR)
       have g1:=Nat.le_trans hgs q2.size
       clear q1 q2 HT)
     |(go_at_call 216
       refine(HX.out _ L1.out).mono ?_
       rintro e wz ⟨rfl,q2⟩
       have Z:=Lib.hid (C1.out.but q2 g1)
       clear q2 HX
       unfold pan31))
    refine⟨rfl,?_⟩
    rw[←HGE.out]
    exact⟨rfl,Z.out⟩
   |some p=>
    obtain⟨x,r⟩:=p
    rw[h2]at hX hg
    have HX:=Lib.hid hX
    unfold StP at HX
    dsimp only at HX hg
    unfold stpV at HX
    have hrl:=step_len HS.out h2
    have HGE:=Lib.hid hg
    clear h1 h2 hg hct hX
    go_wp2_with (first
     |(go_at_call 180
       refine(HT.out _ HI.out.1).mono ?_
       rintro e w1 ⟨rfl,q1,q2⟩
       have L1:=Lib.hid q1
       have C1:=Lib.hid (HI.out.2.2.1.but q2 hgs)
       have R1:=Lib.hid (HI.out.2.1.but q2 hR)
       have g1:=Nat.le_trans hgs q2.size
       clear q1 q2 HT)
     |(go_at_call 216
       refine(HX.out _ L1.out).mono ?_
       rintro e w2 ⟨vp,rfl,q0,q1,q2⟩
       have Y2:=Lib.hid (rowSt_apart R1.out (Nat.le_refl _) g1 q0)
       have L2:=Lib.hid q1
       have C2:=Lib.hid (C1.out.but q2 g1)
       have R2:=Lib.hid (R1.out.but q2 hR)
       have g2:=Nat.le_trans g1 q2.size
       clear q0 q1 q2 HX)
     |(at_builtin
       (refine wpList_pushSt rfl (.tmp 16) (.tmp 19) rfl x vp R2.out Y2.out rfl (by simp[Act.eval]) g2 (by omega) ?_
        intro v' w3 hr3 hb3
        obtain⟨o3,j3,hv⟩:=hr3.form
        have hv2:v'= .slice o3 (ys.length+1) j3:=by rw[hv];simp
        subst hv2
        clear hv
        have R3:=Lib.hid hr3
        have C3:=Lib.hid (C2.out.up hb3 hR)
        have L3:=Lib.hid (L2.out.keep (fun k hk=>hb3.block k (by omega)) hb3.size)
        have g3:=Nat.le_trans g2 hb3.size
        clear hr3 hb3)))
    have hln:(ys++[(x,vp)]).length=ys.length+1:=by simp
    have HLN:=Lib.hid hln
    clear hln
    go_roundw
    case rel=>
     refine⟨f,r,ys++[(x,vp)],o3,j3,by rw[HLN.out],Lib.hid ⟨L3.out,R3.out,C3.out,by omega,?_,by rw[HLN.out];omega,by omega,g3⟩⟩
     rw[←HGE.out,List.map_append]
     rfl
    case measure=>
     rw[leftN_of L3.out,HMZ.out]
     omega
  |false=>
   rw[h1]at HT
   simp only[Bool.false_eq_true,if_false]at HT
   cases h3:aheadL 5 [47,47] cur with
   |false=>
    rw[h3]at HT2
    simp only[Bool.false_eq_true,if_false]at HT2
    have hg:=HI.out.2.2.2.2.1
    unfold onwL at hg
    rw[if_neg (by rw[h1];simp),if_neg (by rw[h3];simp)]at hg
    have HGE:=Lib.hid hg
    clear hg h1 h3
    go_wp2_with (first
     |(go_at_call 180
       first
        |(refine(HT2.out _ L1.out).mono ?_
          rintro e w2 ⟨rfl,q1,q2⟩
          have L2:=Lib.hid q1
          have C2:=Lib.hid (C1.out.but q2 g1)
          have R2:=Lib.hid (R1.out.but q2 hR)
          have g2:=Nat.le_trans g1 q2.size
          clear q1 q2 HT2)
        |(refine(HT.out _ HI.out.1).mono ?_
          rintro e w1 ⟨rfl,q1,q2⟩
          have L1:=Lib.hid q1
          have C1:=Lib.hid (HI.out.2.2.1.but q2 hgs)
          have R1:=Lib.hid (HI.out.2.1.but q2 hR)
          have g1:=Nat.le_trans hgs q2.size
          clear q1 q2 HT)))
    go_ret
    rw[←HGE.out]
    exact⟨_,ys,rfl,rfl,R2.out,L2.out,C2.out⟩
   |true=>
    rw[h3]at HT2
    simp only[if_true]at HT2
    have hcl:=ahead_len h3
    have hg:=HI.out.2.2.2.2.1
    unfold onwL at hg
    rw[if_neg (by rw[h1];simp),if_pos h3]at hg
    have hX:=fun(W:World) (hw:LfB R cur.tail W)=>step_any R N E cur.tail W HE.out HS.out hw (by omega) (by omega)
    generalize hct:cur.tail=ct at *
    cases h2:stepL E ct with
    |none=>
     rw[h2]at hX hg
     have HGE:=Lib.hid hg
     have HX:=Lib.hid hX
     unfold StP PaP at HX
     dsimp only at HX
     clear h1 h2 h3 hg hct hX
     go_wp2_with (first
      |(go_at_call 180
        first
         |(refine(HT2.out _ L1.out).mono ?_
           rintro e w2 ⟨rfl,q1,q2⟩
           have L2:=Lib.hid q1
           have C2:=Lib.hid (C1.out.but q2 g1)
           have R2:=Lib.hid (R1.out.but q2 hR)
           have g2:=Nat.le_trans g1 q2.size
           clear q1 q2 HT2)
         |(refine(HT.out _ HI.out.1).mono ?_
           rintro e w1 ⟨rfl,q1,q2⟩
           have L1:=Lib.hid q1
           have C1:=Lib.hid (HI.out.2.2.1.but q2 hgs)
           have R1:=Lib.hid (HI.out.2.1.but q2 hR)
           have g1:=Nat.le_trans hgs q2.size
           clear q1 q2 HT))
      |(go_at_call 219
        refine(anyNode_any _ _).mono ?_
        unfold stpV
        rintro e w3 ⟨rfl,q2⟩
        have L3:=Lib.hid (L2.out.below q2)
        have C3:=Lib.hid (C2.out.but (But.of q2 L2.out.lt) g2)
        have R3:=Lib.hid (R2.out.below q2)
        have g3:=Nat.le_trans g2 q2.size
        clear q2)
      |(at_builtin
        (refine wpList_pushSt rfl (.tmp 12) (.tmp 14) rfl (anySt 11) (.slice none 0 0) R3.out (StOn.iff.2 (KdOn.nil _ _)) rfl (by simp[Act.eval]) g3 (by omega) ?_
         intro v' w4 hr3 hb3
         obtain⟨o4,j4,hv⟩:=hr3.form
         have hv2:v'= .slice o4 (ys.length+1) j4:=by rw[hv];simp
         subst hv2
         clear hv
         have R4:=Lib.hid hr3
         have C4:=Lib.hid (C3.out.up hb3 hR)
         have L4:=Lib.hid (L3.out.keep (fun k hk=>hb3.block k (by omega)) hb3.size)
         have g4:=Nat.le_trans g3 hb3.size
         clear hr3 hb3))
      |(go_at_call 216
        refine(HX.out _ L4.out).mono ?_
        rintro e wz ⟨rfl,q2⟩
        have Z:=Lib.hid (C4.out.but q2 g4)
        clear q2 HX
        unfold pan31))
     refine⟨rfl,?_⟩
     rw[←HGE.out]
     exact⟨rfl,Z.out⟩
    |some p=>
     obtain⟨x,r⟩:=p
     rw[h2]at hX hg
     have HX:=Lib.hid hX
     unfold StP at HX
     dsimp only at HX hg
     unfold stpV at HX
     have hrl:=step_len HS.out h2
     have HGE:=Lib.hid hg
     have hln:(ys++[(anySt 11,Value.slice none 0 0)]).length=ys.length+1:=by simp
     have HLN:=Lib.hid hln
     clear h1 h2 h3 hg hct hX hln
     go_wp2_with (first
      |(go_at_call 180
        first
         |(refine(HT2.out _ L1.out).mono ?_
           rintro e w2 ⟨rfl,q1,q2⟩
           have L2:=Lib.hid q1
           have C2:=Lib.hid (C1.out.but q2 g1)
           have R2:=Lib.hid (R1.out.but q2 hR)
           have g2:=Nat.le_trans g1 q2.size
           clear q1 q2 HT2)
         |(refine(HT.out _ HI.out.1).mono ?_
           rintro e w1 ⟨rfl,q1,q2⟩
           have L1:=Lib.hid q1
           have C1:=Lib.hid (HI.out.2.2.1.but q2 hgs)
           have R1:=Lib.hid (HI.out.2.1.but q2 hR)
           have g1:=Nat.le_trans hgs q2.size
           clear q1 q2 HT))
      |(go_at_call 219
        refine(anyNode_any _ _).mono ?_
        unfold stpV
        rintro e w3 ⟨rfl,q2⟩
        have L3:=Lib.hid (L2.out.below q2)
        have C3:=Lib.hid (C2.out.but (But.of q2 L2.out.lt) g2)
        have R3:=Lib.hid (R2.out.below q2)
        have g3:=Nat.le_trans g2 q2.size
        clear q2)
      |(at_builtin
        first
         |(refine wpList_pushSt rfl (.tmp 16) (.tmp 19) rfl x vp R5.out Y5.out rfl (by simp[Act.eval]) g5 (by rw[HLN.out];omega) ?_
           intro v' w6 hr3 hb3
           obtain⟨o6,j6,hv⟩:=hr3.form
           have hv2:v'= .slice o6 (ys.length+1+1) j6:=by rw[hv];simp
           subst hv2
           clear hv
           have R6:=Lib.hid hr3
           have C6:=Lib.hid (C5.out.up hb3 hR)
           have L6:=Lib.hid (L5.out.keep (fun k hk=>hb3.block k (by omega)) hb3.size)
           have g6:=Nat.le_trans g5 hb3.size
           clear hr3 hb3)
         |(refine wpList_pushSt rfl (.tmp 12) (.tmp 14) rfl (anySt 11) (.slice none 0 0) R3.out (StOn.iff.2 (KdOn.nil _ _)) rfl (by simp[Act.eval]) g3 (by omega) ?_
           intro v' w4 hr3 hb3
           obtain⟨o4,j4,hv⟩:=hr3.form
           have hv2:v'= .slice o4 (ys.length+1) j4:=by rw[hv];simp
           subst hv2
           clear hv
           have R4:=Lib.hid hr3
           have C4:=Lib.hid (C3.out.up hb3 hR)
           have L4:=Lib.hid (L3.out.keep (fun k hk=>hb3.block k (by omega)) hb3.size)
           have g4:=Nat.le_trans g3 hb3.size
           clear hr3 hb3))
      |(go_at_call 216
        refine(HX.out _ L4.out).mono ?_
        rintro e w5 ⟨vp,rfl,q0,q1,q2⟩
        have Y5:=Lib.hid (rowSt_apart R4.out (Nat.le_refl _) g4 q0)
        have L5:=Lib.hid q1
        have C5:=Lib.hid (C4.out.but q2 g4)
        have R5:=Lib.hid (R4.out.but q2 hR)
        have g5:=Nat.le_trans g4 q2.size
        clear q0 q1 q2 HX))
     have hln2:((ys++[(anySt 11,Value.slice none 0 0)])++[(x,vp)]).length=ys.length+1+1:=by simp
     have HLN2:=Lib.hid hln2
     clear hln2
     go_roundw
     case rel=>
      refine⟨f,r,(ys++[(anySt 11,Value.slice none 0 0)])++[(x,vp)],o6,j6,by rw[HLN2.out],Lib.hid ⟨L6.out,R6.out,C6.out,by omega,?_,by rw[HLN2.out];omega,by omega,g6⟩⟩
      rw[←HGE.out,List.map_append,List.map_append]
      rfl
     case measure=>
      rw[leftN_of L6.out,HMZ.out]
      omega
end Char
namespace Char
open Go.RowKit Go.Lib
open Go.Proofs.YtlmpkpjjakallaaGreatDoor.Fig (outT outV)
def primL (E:List Wd→Option (Ex×List Wd))(ts:List Wd):Option (Ex×List Wd):=match ts with
 |[]=>none
 |x::r=>if x.k=10 then some (.mk 21 x.s 0 0 false [] [],r) else if x.k=8 then some (.mk 18 x.s 0 0 false [] [],r) else if x.k=9 then some (.mk 19 [] (outT x.n) (outV x.n) false [] [],r)
  else if x.k=6 then (match argsL E r with
   |none=>none
   |some (xs,t)=>some (.mk 20 x.s 0 0 false xs [],t))
  else match E r with
   |none=>none
   |some (e,t)=>match mustW [41] t with
    |none=>none
    |some u=>some (e,u)
theorem argsT_len {E:List Wd→Option (Ex×List Wd)}(hS:ShrE E):∀(f:Nat) (ts t:List Wd) (acc ps:List Ex),argsT E f ts acc=some (ps,t)→t.length<ts.length
 |0,_,_,_,_,h=>by cases h
 |f+1,ts,t,acc,ps,h=>by
  unfold argsT at h
  split at h
  ·rename_i h1
   have h2:=ahead_len h1
   cases he:E ts.tail with
   |none=>rw[he]at h;cases h
   |some p=>
    obtain⟨x,r⟩:=p
    rw[he]at h
    have h3:=hS _ _ _ he
    have h5:=argsT_len hS f r t _ ps h
    omega
  ·cases hm:mustW [41] ts with
   |none=>rw[hm]at h;cases h
   |some u=>
    rw[hm]at h
    cases h
    have :=must_len hm
    omega
theorem args_len {E:List Wd→Option (Ex×List Wd)}(hS:ShrE E){ts t:List Wd}{ps:List Ex}(h:argsL E ts=some (ps,t)):t.length<ts.length:=by
 unfold argsL at h
 cases hm:mustW [40] ts with
 |none=>rw[hm]at h;cases h
 |some u=>
  rw[hm]at h
  have h1:=must_len hm
  dsimp only at h
  split at h
  ·rename_i h2
   cases h
   have :=ahead_len h2
   omega
  ·cases he:E u with
   |none=>rw[he]at h;cases h
   |some p=>
    obtain⟨x,r⟩:=p
    rw[he]at h
    have h3:=hS _ _ _ he
    have h5:=argsT_len hS _ _ _ _ _ h
    omega
theorem prim_len {E:List Wd→Option (Ex×List Wd)}(hS:ShrE E){ts t:List Wd}{e:Ex}(h:primL E ts=some (e,t)):t.length<ts.length:=by
 cases ts with
 |nil=>cases h
 |cons x r=>
  simp only[primL]at h
  rw[List.length_cons]
  split at h
  ·cases h;omega
  split at h
  ·cases h;omega
  split at h
  ·cases h;omega
  split at h
  ·cases ha:argsL E r with
   |none=>rw[ha]at h;cases h
   |some p=>
    obtain⟨xs,u⟩:=p
    rw[ha]at h
    cases h
    have :=args_len hS ha
    omega
  ·cases he:E r with
   |none=>rw[he]at h;cases h
   |some p=>
    obtain⟨y,u⟩:=p
    rw[he]at h
    dsimp only at h
    have h3:=hS _ _ _ he
    cases hm:mustW [41] u with
    |none=>rw[hm]at h;cases h
    |some v=>
     rw[hm]at h
     cases h
     have :=must_len hm
     omega
set_option maxRecDepth 100000 in
set_option maxHeartbeats 8000000 in
theorem prim_any (R N:Nat)(E:List Wd→Option (Ex×List Wd))(ts:List Wd)(w:World)(hE:SubE R N E)(hS:ShrE E)(h:LfB R ts w)(hn:ts.length≤N)(hl:ts.length≤900):
 Calls Tryz.prog 217 #[.pointer (some ⟨R,0,none⟩)] w (ExP R w (primL E ts)):=by
 have hlt:=h.lt
 have L0:Hid (LfB R ts (w.alloc (.cells #[.int .i64 0,.string ⟨#[]⟩,.int .i64 0,.int .i64 0,.bool false,.slice none 0 0,.slice none 0 0] 28))):=Lib.hid (h.box _)
 have A0:=Lib.hid (Bx.new hlt (boxEx ex0 (.slice none 0 0) (.slice none 0 0)))
 have C0:=Lib.hid (But.new R w hlt (boxEx ex0 (.slice none 0 0) (.slice none 0 0)))
 cases ts with
 |nil=>
  have HN:=Lib.hid fun(W:World) (hl:LfB R [] W)=>next_no R W hl
  unfold PaP at HN
  show Calls _ _ _ _ (PaP R w)
  unfold PaP
  clear h
  go_enter Tryz.func217,Tryz.ntmps217
  go_wp2_with (first
   |(go_at_call 228
     refine(HN.out _ L0.out).mono ?_
     rintro e w1 ⟨rfl,q2⟩
     have C1:=Lib.hid (C0.out.trans q2)
     clear q2
     unfold pan31))
  exact⟨rfl,rfl,C1.out⟩
 |cons x r=>
  have HN:=Lib.hid fun(W:World) (hl:LfB R (x::r) W)=>next_ok R x r W hl
  have hrN:r.length<N:=by rw[List.length_cons]at hn;omega
  have hrl:r.length≤900:=by rw[List.length_cons]at hl;omega
  unfold TkP wdV at HN
  simp only[primL]
  clear h hn hl
  by_cases h10:x.k=10
  ·rw[if_pos h10]
   have k10:((x.k:Int)==10)=true:=by rw[h10];rfl
   clear h10 hE
   go_enter Tryz.func217,Tryz.ntmps217
   go_wp2_with (first
    |(go_at_call 228
      refine(HN.out _ L0.out).mono ?_
      rintro e w1 ⟨rfl,q1,q2⟩
      have L1:=Lib.hid q1
      have A1:=Lib.hid (A0.out.next q2)
      have C1:=Lib.hid (C0.out.trans q2)
      obtain⟨_,gf⟩:=boxEx_blk (A0.out.next q2).2
      have ga:=(A0.out.next q2).lt
      clear q1 q2 HN))
   exact endExPb Tryz.results217 (x:=(.mk 21 x.s 0 0 false [] [])) (boxWd x) A1.out.2 L1.out C1.out (ExOn.iff.2 ⟨KdOn.nil _ _,SdOn.nil _ _⟩) hlt rfl rfl
  rw[if_neg h10]
  have k10:((x.k:Int)==10)=false:=by rw[beq_eq_false_iff_ne];omega
  clear h10
  by_cases h8:x.k=8
  ·rw[if_pos h8]
   have k8:((x.k:Int)==8)=true:=by rw[h8];rfl
   clear h8 hE
   go_enter Tryz.func217,Tryz.ntmps217
   go_wp2_with (first
    |(go_at_call 228
      refine(HN.out _ L0.out).mono ?_
      rintro e w1 ⟨rfl,q1,q2⟩
      have L1:=Lib.hid q1
      have A1:=Lib.hid (A0.out.next q2)
      have C1:=Lib.hid (C0.out.trans q2)
      obtain⟨_,gf⟩:=boxEx_blk (A0.out.next q2).2
      have ga:=(A0.out.next q2).lt
      clear q1 q2 HN))
   exact endExPb Tryz.results217 (x:=(.mk 18 x.s 0 0 false [] [])) (boxWd x) A1.out.2 L1.out C1.out (ExOn.iff.2 ⟨KdOn.nil _ _,SdOn.nil _ _⟩) hlt rfl rfl
  rw[if_neg h8]
  have k8:((x.k:Int)==8)=false:=by rw[beq_eq_false_iff_ne];omega
  clear h8
  by_cases h9:x.k=9
  ·rw[if_pos h9]
   have k9:((x.k:Int)==9)=true:=by rw[h9];rfl
   clear h9 hE
   go_enter Tryz.func217,Tryz.ntmps217
   go_wp2_with (first
    |(go_at_call 228
      refine(HN.out _ L0.out).mono ?_
      rintro e w1 ⟨rfl,q1,q2⟩
      have L1:=Lib.hid q1
      have A1:=Lib.hid (A0.out.next q2)
      have C1:=Lib.hid (C0.out.trans q2)
      obtain⟨_,gf⟩:=boxEx_blk (A0.out.next q2).2
      have ga:=(A0.out.next q2).lt
      clear q1 q2 HN))
   exact endExPb Tryz.results217 (x:=(.mk 19 [] (outT x.n) (outV x.n) false [] [])) (boxWd x) A1.out.2 L1.out C1.out (ExOn.iff.2 ⟨KdOn.nil _ _,SdOn.nil _ _⟩) hlt rfl rfl
  rw[if_neg h9]
  have k9:((x.k:Int)==9)=false:=by rw[beq_eq_false_iff_ne];omega
  clear h9
  by_cases h6:x.k=6
  ·rw[if_pos h6]
   have k6:((x.k:Int)==6)=true:=by rw[h6];rfl
   have hX:=fun(W:World) (hw:LfB R r W)=>args_any R N E r W hE hS hw (by omega) hrl
   clear h6 hE
   cases h5:argsL E r with
   |none=>
    rw[h5]at hX
    have HX:=Lib.hid hX
    unfold EsP PaP at HX
    dsimp only at HX
    show Calls _ _ _ _ (PaP R w)
    unfold PaP
    clear h5 hX
    go_enter Tryz.func217,Tryz.ntmps217
    go_wp2_with (first
     |(go_at_call 228
       refine(HN.out _ L0.out).mono ?_
       rintro e w1 ⟨rfl,q1,q2⟩
       have L1:=Lib.hid q1
       have A1:=Lib.hid (A0.out.next q2)
       have C1:=Lib.hid (C0.out.trans q2)
       obtain⟨_,gf⟩:=boxEx_blk (A0.out.next q2).2
       have ga:=(A0.out.next q2).lt
       clear q1 q2 HN))
    have LD:=Lib.hid (((L1.out.box (boxWd x)).below ((Below.refl _ _).drew)))
    have CD:=Lib.hid ((C1.out.box hlt (boxWd x)).trans (But.of ((Below.refl _ _).drew) ((L1.out.box (boxWd x)).lt)))
    have AD:=Lib.hid ((A1.out.box (boxWd x)).below ((Below.refl _ _).drew))
    refine wp_region_any (by kernel_rfl) ?_
    change wpAny _ _ _ _ _ _ _ (World.drew _)
    refine wpAny_take (i:=0) (v:= .pointer (some ⟨w1.heap.size,1,none⟩)) rfl (by kernel_rfl) (by kernel_rfl) (by kernel_rfl) (fun _ _ _ h=>h) (Or.inl ⟨by rfl,?_⟩) ?_
    ·intro w;go_simp
    refine wpAny_take (i:=2) (v:= .pointer (some ⟨R,0,none⟩)) rfl (by kernel_rfl) (by kernel_rfl) (by kernel_rfl) (fun _ _ _ h=>h) (Or.inl ⟨by rfl,?_⟩) ?_
    ·intro w;go_simp
    refine wpAny_ready (rs:=[1,3]) (by kernel_rfl) (by simp) ?_
    refine AllReady.cons rfl (fun K hK=> ?_) (AllReady.cons rfl (fun K hK=> ?_) AllReady.nil)
    ·go_simp
     refine hK _ _ ?_
     clear hK K
     refine wpAny_ready (rs:=[3]) (by kernel_rfl) (by simp) ?_
     refine AllReady.cons rfl (fun K hK=> ?_) AllReady.nil
     go_simp
     refine(HX.out _ LD.out).mono ?_
     rintro e w4 ⟨rfl,hb4⟩
     exact⟨rfl,rfl,CD.out.trans hb4⟩
    ·go_simp
     refine(HX.out _ LD.out).mono ?_
     rintro e w4 ⟨rfl,hb4⟩
     exact⟨rfl,rfl,CD.out.trans hb4⟩
   |some p=>
    obtain⟨xs,t⟩:=p
    rw[h5]at hX
    have HX:=Lib.hid hX
    unfold EsP at HX
    dsimp only at HX
    clear h5 hX
    go_enter Tryz.func217,Tryz.ntmps217
    go_wp2_with (first
     |(go_at_call 228
       refine(HN.out _ L0.out).mono ?_
       rintro e w1 ⟨rfl,q1,q2⟩
       have L1:=Lib.hid q1
       have A1:=Lib.hid (A0.out.next q2)
       have C1:=Lib.hid (C0.out.trans q2)
       obtain⟨_,gf⟩:=boxEx_blk (A0.out.next q2).2
       have ga:=(A0.out.next q2).lt
       clear q1 q2 HN))
    have LD:=Lib.hid (((L1.out.box (boxWd x)).below ((Below.refl _ _).drew)))
    have CD:=Lib.hid ((C1.out.box hlt (boxWd x)).trans (But.of ((Below.refl _ _).drew) ((L1.out.box (boxWd x)).lt)))
    have AD:=Lib.hid ((A1.out.box (boxWd x)).below ((Below.refl _ _).drew))
    have hwx:=boxWd_blk (((Bx.new (Nat.lt_of_lt_of_le hlt C1.out.size) (boxWd x):Bx R w1.heap.size (boxWd x) (w1.alloc (boxWd x))).below ((Below.refl _ _).drew)).2)
    have HWB:=Lib.hid (((Bx.new (Nat.lt_of_lt_of_le hlt C1.out.size) (boxWd x):Bx R w1.heap.size (boxWd x) (w1.alloc (boxWd x))).below ((Below.refl _ _).drew)))
    go_region_with (first
     |(go_at_call 229
       refine(HX.out _ LD.out).mono ?_
       rintro e w4 ⟨vk,ys,rfl,rfl,q0,q1,q2⟩
       obtain⟨o5,j5,rfl⟩:=q0.form
       have L4:=Lib.hid q1
       have A4:=Lib.hid (AD.out.next q2)
       have C4:=Lib.hid (CD.out.trans q2)
       have Y4:=Lib.hid (KdOn.low (B':=w.heap.size+1) q0.on (by have :=AD.out.lt;omega))
       obtain⟨⟨z0,z1,z2,z3⟩,zf⟩:=boxWd_blk (HWB.out.next q2).2
       obtain⟨_,gf⟩:=boxEx_blk (AD.out.next q2).2
       clear q0 q1 q2))
    all_goals
     go_wp2_with fail
     have fin:=fun aa=>@endExP _ _ Tryz.results217 aa R w w4 (.mk 20 x.s 0 0 false (List.map (fun z:Ex×Value×Value=>z.1) ys) []) t (.slice o5 ys.length j5) (.slice none 0 0) _ _ _ A4.out.2 L4.out C4.out (ExOn.iff.2 ⟨Y4.out,SdOn.nil _ _⟩) hlt
     exact fin _ rfl rfl
  rw[if_neg h6]
  have k6:((x.k:Int)==6)=false:=by rw[beq_eq_false_iff_ne];omega
  clear h6
  have hX:=fun(W:World) (hw:LfB R r W)=>hE r W hw hrN
  cases h5:E r with
  |none=>
   rw[h5]at hX
   have HX:=Lib.hid hX
   unfold ExP PaP at HX
   dsimp only at HX
   show Calls _ _ _ _ (PaP R w)
   unfold PaP
   clear h5 hX
   go_enter Tryz.func217,Tryz.ntmps217
   go_wp2_with (first
    |(go_at_call 228
      refine(HN.out _ L0.out).mono ?_
      rintro e w1 ⟨rfl,q1,q2⟩
      have L1:=Lib.hid q1
      have A1:=Lib.hid (A0.out.next q2)
      have C1:=Lib.hid (C0.out.trans q2)
      obtain⟨_,gf⟩:=boxEx_blk (A0.out.next q2).2
      have ga:=(A0.out.next q2).lt
      clear q1 q2 HN)
    |(go_at_call 60
      refine(HX.out _ (L1.out.box (boxWd x))).mono ?_
      rintro e w2 ⟨rfl,q2⟩
      have C2:=Lib.hid ((C1.out.box hlt (boxWd x)).trans q2)
      clear q2
      unfold pan31))
   exact⟨rfl,rfl,C2.out⟩
  |some p=>
   obtain⟨y,t⟩:=p
   rw[h5]at hX
   have HX:=Lib.hid hX
   unfold ExP exV at HX
   dsimp only at HX ⊢
   have HM:=Lib.hid fun(W:World) (hw:LfB R t W)=>must_any R [41] t W hw
   clear h5 hX
   cases h7:mustW [41] t with
   |none=>
    rw[h7]at HM
    unfold MuP PaP at HM
    dsimp only at HM
    show Calls _ _ _ _ (PaP R w)
    unfold PaP
    clear h7
    go_enter Tryz.func217,Tryz.ntmps217
    go_wp2_with (first
     |(go_at_call 228
       refine(HN.out _ L0.out).mono ?_
       rintro e w1 ⟨rfl,q1,q2⟩
       have L1:=Lib.hid q1
       have A1:=Lib.hid (A0.out.next q2)
       have C1:=Lib.hid (C0.out.trans q2)
       obtain⟨_,gf⟩:=boxEx_blk (A0.out.next q2).2
       have ga:=(A0.out.next q2).lt
       clear q1 q2 HN)
     |(go_at_call 60
       refine(HX.out _ (L1.out.box (boxWd x))).mono ?_
       rintro e w2 ⟨vk,vs,rfl,q0,q1,q2⟩
       obtain⟨⟨o1,j1,rfl,_⟩,⟨o2,j2,rfl,_⟩⟩:=ExOn.iff.1 q0
       have C2:=Lib.hid ((C1.out.box hlt (boxWd x)).trans q2)
       have L2:=Lib.hid q1
       have A2:=Lib.hid ((A1.out.box (boxWd x)).next q2)
       have Y2:=Lib.hid (ExOn.low (B':=w.heap.size+1) q0 (by have :=(A1.out.box (boxWd x)).lt;omega))
       clear q0 q1 q2 HX)
     |(go_at_call 230
       refine(HM.out _ (L2.out.box (boxEx y (.slice o1 y.ks.length j1) (.slice o2 y.ss.length j2)))).mono ?_
       rintro e w3 ⟨rfl,q2⟩
       have C3:=Lib.hid ((C2.out.box hlt (boxEx y (.slice o1 y.ks.length j1) (.slice o2 y.ss.length j2))).trans q2)
       clear q2
       unfold pan31))
    exact⟨rfl,rfl,C3.out⟩
   |some u=>
    rw[h7]at HM
    unfold MuP TkP at HM
    dsimp only at HM ⊢
    clear h7
    go_enter Tryz.func217,Tryz.ntmps217
    go_wp2_with (first
     |(go_at_call 228
       refine(HN.out _ L0.out).mono ?_
       rintro e w1 ⟨rfl,q1,q2⟩
       have L1:=Lib.hid q1
       have A1:=Lib.hid (A0.out.next q2)
       have C1:=Lib.hid (C0.out.trans q2)
       obtain⟨_,gf⟩:=boxEx_blk (A0.out.next q2).2
       have ga:=(A0.out.next q2).lt
       clear q1 q2 HN)
     |(go_at_call 60
       refine(HX.out _ (L1.out.box (boxWd x))).mono ?_
       rintro e w2 ⟨vk,vs,rfl,q0,q1,q2⟩
       obtain⟨⟨o1,j1,rfl,_⟩,⟨o2,j2,rfl,_⟩⟩:=ExOn.iff.1 q0
       have C2:=Lib.hid ((C1.out.box hlt (boxWd x)).trans q2)
       have L2:=Lib.hid q1
       have A2:=Lib.hid ((A1.out.box (boxWd x)).next q2)
       have Y2:=Lib.hid (ExOn.low (B':=w.heap.size+1) q0 (by have :=(A1.out.box (boxWd x)).lt;omega))
       clear q0 q1 q2 HX)
     |(go_at_call 230
       refine(HM.out _ (L2.out.box (boxEx y (.slice o1 y.ks.length j1) (.slice o2 y.ss.length j2)))).mono ?_
       rintro e w3 ⟨rfl,q1,q2⟩
       have C3:=Lib.hid ((C2.out.box hlt (boxEx y (.slice o1 y.ks.length j1) (.slice o2 y.ss.length j2))).trans q2)
       have L3:=Lib.hid q1
       have A3:=Lib.hid ((A2.out.box (boxEx y (.slice o1 y.ks.length j1) (.slice o2 y.ss.length j2))).next q2)
       have Y3:=Lib.hid ((Y2.out.below (below_box (boxEx y (.slice o1 y.ks.length j1) (.slice o2 y.ss.length j2)))).but q2 (by omega))
       obtain⟨⟨z0,z1,z2,z3,z4,z5,z6⟩,_⟩:=boxEx_blk (((Bx.new (Nat.lt_of_lt_of_le hlt C2.out.size) (boxEx y (.slice o1 y.ks.length j1) (.slice o2 y.ss.length j2))).next q2).2)
       obtain⟨_,hf⟩:=boxEx_blk ((A2.out.box (boxEx y (.slice o1 y.ks.length j1) (.slice o2 y.ss.length j2))).next q2).2
       clear q1 q2 HM))
    exact endExP Tryz.results217 (x:=y) A3.out.2 L3.out C3.out Y3.out hlt rfl rfl
end Char
namespace Char
open Go.RowKit Go.Lib
theorem wpList_catEx {ops:Array Oper}{rest:List Oper}{o:Oper}{a:Act}{Q:Exit→Act→World→Prop}{B C:Nat}{W:World}{v u:Value}{xs ys:List (Ex×Value×Value)}
 (hgd:o.guard=none) (s x:Operand) (ho:o.op= .call {callee:= .builtin .append,args:= #[s,x],argTypes:= #[25,25]})
 (hown:RowEx B W v xs) (hsrc:W.ownsRow C 28 7 u ys.length (exsC ys)) (hys:∀y∈ys,ExOn W (fun b=>B≤b∧v.ownBlock≠some b) y.1 y.2.1 y.2.2) (hne:ys≠[]) (hs:a.eval s=v) (hx:a.eval x=u) (hB:B≤W.heap.size) (hlen:xs.length+ys.length≤1000)
 (h:∀v' w1,RowEx B w1 v' (xs++ys)→Below B W w1→wpList Tryz.prog ops Q rest (a.put o.dst v') w1):
 wpList Tryz.prog ops Q (o::rest) a W:=by
 rcases hsrc.2 with⟨_,h0⟩|⟨g,cap,cur,rfl,_⟩
 ·exact absurd (List.length_eq_zero_iff.1 h0) hne
 obtain⟨i0,hi,hz0,hz1,hz2⟩:=info_parts info_ex
 refine wpList_append_own_at _ hgd s x 25 ho B 28 i0 _ 7 96 Tryz.underlying25 hi hz0 hz1 hz2 rfl (by decide) v xs.length (exsC xs) hs hown.1 ⟨g,0,none⟩ ys.length cap (exsC ys) hx (exsC_len ys) (hsrc.cells rfl) ?_ ?_ ?_ hB ?_
 ·intro z hz
  obtain⟨y,hy,hz⟩:=List.mem_flatMap.1 hz
  obtain⟨⟨o1,j1,e1,_⟩,⟨o2,j2,e2,_⟩⟩:=ExOn.iff.1 (hys y hy)
  simp[exC,e1,e2]at hz
  rcases hz with rfl|rfl|rfl|rfl|rfl|rfl|rfl<;>rfl
 ·unfold maxLen;omega
 ·omega
 ·intro v' w' h2 h3 _ h5
  have hgr:Below B W w':=(Below.refl B W).grown h3 hB (fun k hk=>(hown.blk hk).1)
  refine h v' w' ⟨?_,fun z hz=> ?_⟩ hgr
  ·rw[List.length_append,exsC_app]
   exact h2
  ·have hmv:∀b,b<W.heap.size→(B≤b∧v.ownBlock≠some b)→(B≤b∧v'.ownBlock≠some b)∧w'.heap[b]? =W.heap[b]? :=fun b hb hF=>by
    refine⟨⟨hF.1,fun hv=> ?_⟩,h3.block b hb (fun e=>hF.2 e.symm)⟩
    rcases h5 with h5|h5
    ·rw[h5]at hv
     exact hF.2 hv
    ·rw[h5]at hv
     simp at hv
     omega
   rw[List.mem_append]at hz
   rcases hz with hz|hz
   ·exact ExOn.move hmv _ _ _ (hown.2 z hz)
   ·exact ExOn.move hmv _ _ _ (hys z hz)
end Char
end Go.Proofs.YtlmpkpjjakallaaGreatDoor
