/- WayX NameX OfX RightT -/
import Derived.Test.YtbbfcjaggdpfbaaPk13
import Derived.Test.YtbbfcjaggdpfbaaPk00
import Derived.Deep.WholeRow
import Derived.Great.BuildSlice
import Derived.WalkLawsBesides
/- The walk of an axis's way: a method value of a node in its view; and of Nodes, by what that tells. -/
namespace Go.Proofs.Ytbbfcjaggdpfbaa.Char
open Go.RowKit Go.Lib Go.Shelf

/-- the method of an axis -/
def wayN (a : Int) : Option FuncId :=
  if a = 1 then some 100
  else if a = 2 then some 101
  else if a = 3 then some 102
  else if a = 4 then some 103
  else if a = 5 then some 104
  else if a = 6 then some 105
  else if a = 7 then some 106
  else if a = 8 then some 107
  else if a = 9 then some 108
  else if a = 10 then some 109
  else if a = 11 then some 110
  else if a = 12 then some 111
  else none
theorem wayN_none {a : Int} (h : ¬ (1 ≤ a ∧ a ≤ 12)) : wayN a = none := by
  unfold wayN
  rw [if_neg (by omega), if_neg (by omega), if_neg (by omega), if_neg (by omega), if_neg (by omega), if_neg (by omega), if_neg (by omega), if_neg (by omega), if_neg (by omega), if_neg (by omega), if_neg (by omega), if_neg (by omega)]
/-- what is behind way -/
def WayP (w : World) (sv : Value) (a : Int) : Ending → World → Prop := fun e w' => e = .returned (match wayN a with | some g => .func (.func g) #[sv] #[] | none => .nilFunc) ∧ Below w.heap.size w w'
set_option maxRecDepth 100000 in
set_option maxHeartbeats 8000000 in
theorem wayX_any (vp : Option Addr) (id : Int) (r : Rc) (ok : Option Addr) (jk : Nat) (oa : Option Addr) (ja : Nat) (a : Int) (w : World) :
    Calls Try.prog 74 #[spV vp id r ok jk oa ja, .int .i64 a] w (WayP w (spV vp id r ok jk oa ja) a) := by
  have HB := Lib.hid fun ob => (Below.refl _ w).alloc (Nat.le_refl _) ob
  have hmf : ∀ (fn : Fn) (first cap : Array Value) (w : World), (Instr.makeFunc fn first cap).run Try.prog w = .ok (.func fn first cap) w := fun _ _ _ _ => rfl
  unfold spV
  by_cases h : 1 ≤ a ∧ a ≤ 12
  · have h : a = 1 ∨ a = 2 ∨ a = 3 ∨ a = 4 ∨ a = 5 ∨ a = 6 ∨ a = 7 ∨ a = 8 ∨ a = 9 ∨ a = 10 ∨ a = 11 ∨ a = 12 := by omega
    rcases h with rfl | rfl | rfl | rfl | rfl | rfl | rfl | rfl | rfl | rfl | rfl | rfl <;>
    · go_enter Try.func74, Try.ntmps74
      go_wp2_with fail
      go_ret
      exact ⟨rfl, HB.out _⟩
  · have k1 : (a == 1) = false := beq_eq_false_iff_ne.2 (by omega)
    have k2 : (a == 2) = false := beq_eq_false_iff_ne.2 (by omega)
    have k3 : (a == 3) = false := beq_eq_false_iff_ne.2 (by omega)
    have k4 : (a == 4) = false := beq_eq_false_iff_ne.2 (by omega)
    have k5 : (a == 5) = false := beq_eq_false_iff_ne.2 (by omega)
    have k6 : (a == 6) = false := beq_eq_false_iff_ne.2 (by omega)
    have k7 : (a == 7) = false := beq_eq_false_iff_ne.2 (by omega)
    have k8 : (a == 8) = false := beq_eq_false_iff_ne.2 (by omega)
    have k9 : (a == 9) = false := beq_eq_false_iff_ne.2 (by omega)
    have k10 : (a == 10) = false := beq_eq_false_iff_ne.2 (by omega)
    have k11 : (a == 11) = false := beq_eq_false_iff_ne.2 (by omega)
    have k12 : (a == 12) = false := beq_eq_false_iff_ne.2 (by omega)
    have HW := Lib.hid (wayN_none h)
    clear h
    go_enter Try.func74, Try.ntmps74
    go_wp2_with fail
    go_ret
    refine ⟨?_, HB.out _⟩
    rw [HW.out]
    rfl
section
variable {Z : Nat → Prop} {w : World} {vp : Option Addr} {look : Int → Option Rc}
set_option maxRecDepth 100000 in
set_option maxHeartbeats 4000000 in
/-- of no node, and of no axis -/
theorem nodes_no (h : VH Z w vp look) (id a : Int) (hid : (Lit.int .i64 id).wf = true) (hno : look id = none ∨ wayN a = none) :
    Calls Try.prog 40 #[.pointer vp, .int .i64 id, .int .i64 a] w (OncP w []) := by
  have hG := getV_gen h id hid
  obtain ⟨R, hR⟩ : ∃ R, look id = R := ⟨_, rfl⟩
  rw [hR] at hG hno
  obtain ⟨V, hV⟩ : ∃ V : Value → Value, V = fun sv => match wayN a with | some g => .func (.func g) #[sv] #[] | none => .nilFunc := ⟨_, rfl⟩
  have HG := Lib.hid hG
  have HWY := Lib.hid fun (r : Rc) ok jk oa ja (W : World) => (wayX_any vp id r ok jk oa ja a W)
  clear h hid hG hR hV
  cases hr : R with
  | none =>
    rw [hr] at HG
    clear hno hr
    unfold WayP spV at HWY
    cases hw : wayN a with
    | none =>
      rw [hw] at HWY
      go_enter Try.func40, Try.ntmps40
      go_wp2_with (first
        | (go_at_call 29
           refine HG.out.mono ?_
           rintro e w2 ⟨⟨r2, va, vb⟩, rfl, q1, q2, q3⟩
           obtain ⟨ok2, jk2, oa2, ja2, e1, e2⟩ := q2.form
           dsimp only at e1 e2
           subst e1 e2
           have HQ3 := Lib.hid q3
           have hs2 := q3.size
           clear q1 q2 q3
           unfold rcV
           dsimp only)
        | (go_at_call 74
           refine (HWY.out _ _ _ _ _ _).mono ?_
           rintro e w3 ⟨rfl, q3⟩
           have HQ4 := Lib.hid q3
           clear q3))
      go_ret
      exact ⟨_, rfl, OwnsInt.nil _ _, (HQ3.out.alloc hs2 _).trans (HQ4.out.mono (by simp; omega))⟩
    | some g =>
      rw [hw] at HWY
      go_enter Try.func40, Try.ntmps40
      go_wp2_with (first
        | (go_at_call 29
           refine HG.out.mono ?_
           rintro e w2 ⟨⟨r2, va, vb⟩, rfl, q1, q2, q3⟩
           obtain ⟨ok2, jk2, oa2, ja2, e1, e2⟩ := q2.form
           dsimp only at e1 e2
           subst e1 e2
           have HQ3 := Lib.hid q3
           have hs2 := q3.size
           clear q1 q2 q3
           unfold rcV
           dsimp only)
        | (go_at_call 74
           refine (HWY.out _ _ _ _ _ _).mono ?_
           rintro e w3 ⟨rfl, q3⟩
           have HQ4 := Lib.hid q3
           clear q3))
      go_ret
      exact ⟨_, rfl, OwnsInt.nil _ _, (HQ3.out.alloc hs2 _).trans (HQ4.out.mono (by simp; omega))⟩
  | some r =>
    rw [hr] at HG hno
    have hw : wayN a = none := hno.resolve_left (fun e => by cases e)
    clear hno hr
    unfold WayP spV at HWY
    rw [hw] at HWY
    have hnn : ∀ w, (binOp .eql 42 .nilFunc .nilFunc).run Try.prog w = .ok (.bool true) w := fun _ => rfl
    go_enter Try.func40, Try.ntmps40
    go_wp2_with (first
      | (go_at_call 29
         refine HG.out.mono ?_
         rintro e w2 ⟨⟨r2, va, vb⟩, rfl, q1, q2, q3⟩
         obtain ⟨ok2, jk2, oa2, ja2, e1, e2⟩ := q2.form
         dsimp only at e1 e2
         subst e1 e2
         have HQ3 := Lib.hid q3
         have hs2 := q3.size
         clear q1 q2 q3
         unfold rcV
         dsimp only)
      | (go_at_call 74
         refine (HWY.out _ _ _ _ _ _).mono ?_
         rintro e w3 ⟨rfl, q3⟩
         have HQ4 := Lib.hid q3
         clear q3))
    go_ret
    exact ⟨_, rfl, OwnsInt.nil _ _, (HQ3.out.alloc hs2 _).trans (HQ4.out.mono (by simp; omega))⟩
set_option maxRecDepth 100000 in
set_option maxHeartbeats 4000000 in
/-- of a node that is there, by what its method tells -/
theorem nodes_yes (h : VH Z w vp look) (id a : Int) (hid : (Lit.int .i64 id).wf = true) {r : Rc} (hr : look id = some r) {g : FuncId} (hw : wayN a = some g) (hE : Enters Try.prog g) {l : List Int}
    (hM : ∀ (W : World) ok jk oa ja, Below w.heap.size w W → RcOn W (fun k => k < W.heap.size) (r, .slice ok r.ks.length jk, .slice oa r.ats.length ja) → Calls Try.prog g #[spV vp id r ok jk oa ja] W (OncP W l)) :
    Calls Try.prog 40 #[.pointer vp, .int .i64 id, .int .i64 a] w (OncP w l) := by
  have hG := getV_gen h id hid
  rw [hr] at hG
  have HG := Lib.hid hG
  have HWY := Lib.hid fun (r : Rc) ok jk oa ja (W : World) => (wayX_any vp id r ok jk oa ja a W)
  unfold WayP at HWY
  rw [hw] at HWY
  have HM := Lib.hid hM
  have hE2 : ∀ (args : Array Value) (w : World), (callFunc g args).run Try.prog w = .ok (.enter g args) w := hE
  have hnn : ∀ (sv : Value) (w : World), (binOp .eql 42 (.func (.func g) #[sv] #[]) .nilFunc).run Try.prog w = .ok (.bool false) w := fun _ _ => rfl
  obtain ⟨P, hP⟩ : ∃ P, OncP w l = P := ⟨_, rfl⟩
  rw [hP]
  have HP := Lib.hid hP
  clear h hid hG hr hw hM hP
  unfold spV at HWY
  go_enter Try.func40, Try.ntmps40
  go_wp2_with (first
    | (go_at_call 29
       refine HG.out.mono ?_
       rintro e w2 ⟨⟨r2, va, vb⟩, rfl, q1, q2, q3⟩
       obtain ⟨ok2, jk2, oa2, ja2, e1, e2⟩ := q2.form
       dsimp only [Option.getD] at e1 e2 q1
       subst e1 e2 q1
       have HQ2 := Lib.hid q2
       have HQ3 := Lib.hid q3
       have hs2 := q3.size
       clear q2 q3
       unfold rcV
       dsimp only)
    | (go_at_call 74
       refine (HWY.out _ _ _ _ _ _).mono ?_
       rintro e w3 ⟨rfl, q3⟩
       have HB3 := Lib.hid ((HQ3.out.alloc hs2 _).trans (q3.mono (by simp; omega)))
       have HR3 := Lib.hid (HQ2.out.move (F' := fun k => k < w3.heap.size) fun k hk _ => ⟨Nat.lt_of_lt_of_le hk (by have := q3.size; simp at this; omega), (q3.block k (by simp; omega)).trans (Below.heap_alloc _ _ _ hk)⟩)
       have HC := Lib.hid (HM.out w3 _ _ _ _ HB3.out HR3.out)
       unfold spV at HC
       clear q3)
    | (go_at_fn g
       refine HC.out.mono ?_
       intro e w4 hq
       have hq2 := OncP.grow HB3.out hq
       rw [HP.out] at hq2
       obtain ⟨u, rfl, _⟩ := hq
       have HQ := Lib.hid hq2
       clear hq2))
  exact HQ.out
end
end Go.Proofs.Ytbbfcjaggdpfbaa.Char

/- The names of the axes: the program's and the document's. -/
namespace Go.Proofs.Ytbbfcjaggdpfbaa.Char
open Go.RowKit Go.Lib

def nmA : List (List UInt8) := [[], [99, 104, 105, 108, 100], [100, 101, 115, 99, 101, 110, 100, 97, 110, 116], [112, 97, 114, 101, 110, 116], [97, 110, 99, 101, 115, 116, 111, 114], [102, 111, 108, 108, 111, 119, 105, 110, 103, 45, 115, 105, 98, 108, 105, 110, 103], [112, 114, 101, 99, 101, 100, 105, 110, 103, 45, 115, 105, 98, 108, 105, 110, 103], [102, 111, 108, 108, 111, 119, 105, 110, 103], [112, 114, 101, 99, 101, 100, 105, 110, 103], [97, 116, 116, 114, 105, 98, 117, 116, 101], [115, 101, 108, 102], [100, 101, 115, 99, 101, 110, 100, 97, 110, 116, 45, 111, 114, 45, 115, 101, 108, 102], [97, 110, 99, 101, 115, 116, 111, 114, 45, 111, 114, 45, 115, 101, 108, 102]]
/-- an axis's name; empty of no axis -/
def nmX (a : Int) : List UInt8 := if a < 0 then [] else nmA.getD a.toNat []
def nmC : Array Value := (nmA.map fun l => Value.string (bs l)).toArray
def nmD : Array Value := (nmA.tail.map fun l => Value.string (bs l)).toArray
theorem nmX_no {a : Int} (h : a < 0 ∨ 13 ≤ a) : nmX a = [] := by
  unfold nmX
  split
  · rfl
  · rw [List.getD_eq_getElem?_getD, List.getElem?_eq_none (by show 13 ≤ _; omega)]
    rfl
theorem nmC_at {a : Int} (h0 : 0 ≤ a) (h1 : a < 13) : nmC[a.toNat]? = some (.string (bs (nmX a))) := by
  have hl : a.toNat < nmA.length := by show _ < 13; omega
  unfold nmC nmX
  rw [if_neg (by omega), List.getElem?_toArray, List.getElem?_map, List.getElem?_eq_getElem hl, List.getD_eq_getElem?_getD, List.getElem?_eq_getElem hl]
  rfl
theorem nmD_at {a : Int} (h0 : 1 ≤ a) (h1 : a ≤ 12) : nmD[(a - 1).toNat]? = some (.string (bs (nmX a))) := by
  have hl : a.toNat < nmA.length := by show _ < 13; omega
  have ht : (a - 1).toNat + 1 = a.toNat := by omega
  unfold nmD nmX
  rw [if_neg (by omega), List.getElem?_toArray, List.getElem?_map, List.getElem?_tail, ht, List.getElem?_eq_getElem hl, List.getD_eq_getElem?_getD, List.getElem?_eq_getElem hl]
  rfl
set_option maxRecDepth 100000 in
set_option maxHeartbeats 4000000 in
theorem nameX_any (a : Int) (w : World) :
    Calls Try.prog 47 #[.int .i64 a] w fun e w' => e = .returned (.string (bs (nmX a))) ∧ Below w.heap.size w w' := by
  have hb := (Below.refl w.heap.size w).alloc (Nat.le_refl _) (.cells nmC 156)
  have HB := Lib.hid hb
  clear hb
  by_cases h0 : a < 0
  · have k0 : decide (a < 0) = true := decide_eq_true h0
    have HX := Lib.hid (nmX_no (.inl h0))
    go_enter Try.func47, Try.ntmps47
    go_wp2_with (first
      | ((with_reducible refine wpList_buildTo rfl 156 _ rfl _ rfl nmC (by kernel_rfl) ?_))
      | ((with_reducible refine wpList_store_row rfl 156 _ _ rfl w.heap.size nmC rfl rfl 156 _ (heap_alloc_last w _) (by kernel_rfl) rfl (by kernel_rfl) ?_); rw [World.setRow_alloc_new]))
    go_ret
    exact ⟨by rw [HX.out]; rfl, HB.out⟩
  · have k0 : decide (a < 0) = false := decide_eq_false h0
    by_cases h1 : 13 ≤ a
    · have k1 : decide (13 ≤ a) = true := decide_eq_true h1
      have HX := Lib.hid (nmX_no (.inr h1))
      go_enter Try.func47, Try.ntmps47
      go_wp2_with (first
        | ((with_reducible refine wpList_buildTo rfl 156 _ rfl _ rfl nmC (by kernel_rfl) ?_))
        | ((with_reducible refine wpList_store_row rfl 156 _ _ rfl w.heap.size nmC rfl rfl 156 _ (heap_alloc_last w _) (by kernel_rfl) rfl (by kernel_rfl) ?_); rw [World.setRow_alloc_new]))
      go_ret
      exact ⟨by rw [HX.out]; rfl, HB.out⟩
    · have k1 : decide (13 ≤ a) = false := decide_eq_false h1
      have hc : (w.alloc (.cells nmC 156)).cell? ⟨w.heap.size, a.toNat, none⟩ = some (.string (bs (nmX a))) := by
        rw [World.cell?_alloc_new]
        exact nmC_at (by omega) (by omega)
      have hz : 0 ≤ a := by omega
      have hz1 : a < 13 := by omega
      generalize nmX a = X at *
      go_enter Try.func47, Try.ntmps47
      go_wp2_with (first
        | ((with_reducible refine wpList_buildTo rfl 156 _ rfl _ rfl nmC (by kernel_rfl) ?_))
        | ((with_reducible refine wpList_store_row rfl 156 _ _ rfl w.heap.size nmC rfl rfl 156 _ (heap_alloc_last w _) (by kernel_rfl) rfl (by kernel_rfl) ?_); rw [World.setRow_alloc_new]))
      go_ret
      exact ⟨rfl, HB.out⟩
set_option maxRecDepth 100000 in
set_option maxHeartbeats 4000000 in
theorem nameR_any (a : Int) (w : World) :
    Calls Try.prog 48 #[.int .i64 a] w fun e w' => e = .returned (.string (bs (nmX a))) ∧ Below w.heap.size w w' := by
  have HB0 := Lib.hid (Below.refl w.heap.size w)
  by_cases h0 : a < 1
  · have k0 : decide (a < 1) = true := decide_eq_true h0
    have HX : Hid (nmX a = []) := Lib.hid (by
      by_cases h : a < 0
      · exact nmX_no (.inl h)
      · obtain rfl : a = 0 := by omega
        rfl)
    go_enter Try.func48, Try.ntmps48
    go_wp2_with fail
    go_ret
    exact ⟨by rw [HX.out]; rfl, HB0.out⟩
  · have k0 : decide (a < 1) = false := decide_eq_false h0
    by_cases h1 : 12 < a
    · have k1 : decide (12 < a) = true := decide_eq_true h1
      have HX := Lib.hid (nmX_no (a := a) (.inr (by omega)))
      go_enter Try.func48, Try.ntmps48
      go_wp2_with fail
      go_ret
      exact ⟨by rw [HX.out]; rfl, HB0.out⟩
    · have k1 : decide (12 < a) = false := decide_eq_false h1
      have HB := Lib.hid fun o => (Below.refl w.heap.size w).alloc (Nat.le_refl _) o
      have hc : (w.alloc (.cells #[Value.string { data := #[99, 104, 105, 108, 100] }, Value.string { data := #[100, 101, 115, 99, 101, 110, 100, 97, 110, 116] }, Value.string { data := #[112, 97, 114, 101, 110, 116] }, Value.string { data := #[97, 110, 99, 101, 115, 116, 111, 114] }, Value.string { data := #[102, 111, 108, 108, 111, 119, 105, 110, 103, 45, 115, 105, 98, 108, 105, 110, 103] }, Value.string { data := #[112, 114, 101, 99, 101, 100, 105, 110, 103, 45, 115, 105, 98, 108, 105, 110, 103] }, Value.string { data := #[102, 111, 108, 108, 111, 119, 105, 110, 103] }, Value.string { data := #[112, 114, 101, 99, 101, 100, 105, 110, 103] }, Value.string { data := #[97, 116, 116, 114, 105, 98, 117, 116, 101] }, Value.string { data := #[115, 101, 108, 102] }, Value.string { data := #[100, 101, 115, 99, 101, 110, 100, 97, 110, 116, 45, 111, 114, 45, 115, 101, 108, 102] }, Value.string { data := #[97, 110, 99, 101, 115, 116, 111, 114, 45, 111, 114, 45, 115, 101, 108, 102] }] 9)).cell? ⟨w.heap.size, a.toNat - 1, none⟩ = some (.string (bs (nmX a))) := by
        rw [World.cell?_alloc_new]
        have := nmD_at (a := a) (by omega) (by omega)
        rw [show (a - 1).toNat = a.toNat - 1 by omega] at this
        exact this
      have hz : 0 ≤ a - 1 := by omega
      have hz1 : a - 1 < 12 := by omega
      generalize nmX a = X at *
      go_enter Try.func48, Try.ntmps48
      go_wp2_with fail
      go_ret
      exact ⟨rfl, HB.out _⟩
end Go.Proofs.Ytbbfcjaggdpfbaa.Char

/- The walks of an axis's number by its name, and of whether it goes back. -/
namespace Go.Proofs.Ytbbfcjaggdpfbaa.Char
open Go.RowKit Go.Lib

def ofF (s : List UInt8) : Nat → Nat → Nat
  | 0, _ => 0
  | n + 1, a => if nmX a = s then a else ofF s n (a + 1)
/-- the axis of a name; 0: there is none -/
def ofX (s : List UInt8) : Nat := ofF s 12 1
theorem bs_eqv (a b : List UInt8) (v : Bool) (h : decide (a = b) = v) : ((bs a).toList == (bs b).toList) = v := by
  rw [bs_tl, bs_tl, ← h, Bool.eq_iff_iff, beq_iff_eq, decide_eq_true_eq]
set_option maxRecDepth 100000 in
set_option maxHeartbeats 4000000 in
theorem ofX_any (s : List UInt8) (w : World) :
    Calls Try.prog 46 #[.string (bs s)] w fun e w' => e = .returned (.int .i64 (ofX s : Int)) ∧ Below w.heap.size w w' := by
  obtain ⟨R, hR⟩ : ∃ R, ofX s = R := ⟨_, rfl⟩
  rw [hR]
  have HR := Lib.hid hR
  clear hR
  have HB := Lib.hid (Below.refl w.heap.size w)
  go_enter Try.func46, Try.ntmps46
  go_wp2_with fail
  go_loopw [3] (fun v wr => ∃ k : Nat, v = .int .i64 (k : Int) ∧ 1 ≤ k ∧ k ≤ 13 ∧ Hid (R = ofF s (13 - k) k ∧ Below w.heap.size w wr)) (fun v _ => 13 - (RowKit.intOf v).toNat)
  case atStart => exact ⟨1, rfl, by omega, by omega, Lib.hid ⟨HR.out.symm, HB.out⟩⟩
  case round =>
    obtain ⟨k, rfl, hk1, hk13, HI⟩ := hrel
    by_cases hlt : k ≤ 12
    · have k0 : decide ((k : Int) ≤ 12) = true := decide_eq_true (by omega)
      have HN := Lib.hid (nameX_any (k : Int) wr)
      have hstep : ofF s (13 - k) k = if nmX (k : Int) = s then k else ofF s (13 - (k + 1)) (k + 1) := by
        rw [show 13 - k = (13 - (k + 1)) + 1 by omega]
        rfl
      have HS := Lib.hid hstep
      clear hstep
      cases he : decide (nmX (k : Int) = s) with
      | true =>
        have hq := bs_eqv _ _ _ he
        have HE := Lib.hid (of_decide_eq_true he)
        clear he
        generalize nmX (k : Int) = X at *
        go_wp2_with (first
          | (go_at_call 47
             refine HN.out.mono ?_
             rintro e w2 ⟨rfl, q2⟩))
        go_ret
        refine ⟨?_, HI.out.2.trans (q2.mono HI.out.2.size)⟩
        rw [HI.out.1, HS.out, if_pos HE.out]; rfl
      | false =>
        have hq := bs_eqv _ _ _ he
        have HE := Lib.hid (of_decide_eq_false he)
        clear he
        generalize nmX (k : Int) = X at *
        go_wp2_with (first
          | (go_at_call 47
             refine HN.out.mono ?_
             rintro e w2 ⟨rfl, q2⟩))
        go_roundw
        case rel => exact ⟨k + 1, by go_num, by omega, by omega, Lib.hid ⟨by rw [HI.out.1, HS.out, if_neg HE.out], HI.out.2.trans (q2.mono HI.out.2.size)⟩⟩
        case measure => simp [RowKit.intOf]; omega
    · have e : k = 13 := by omega
      subst e
      have k0 : decide ((13 : Int) ≤ 12) = false := by decide
      go_wp2_with fail
      go_ret
      exact ⟨by rw [HI.out.1]; rfl, HI.out.2⟩
/-- whether an axis goes back -/
def revX (a : Int) : Bool := decide (a = 3) || decide (a = 4) || decide (a = 6) || decide (a = 8) || decide (a = 12)
set_option maxRecDepth 100000 in
set_option maxHeartbeats 4000000 in
theorem revX_any (a : Int) (w : World) :
    Calls Try.prog 49 #[.int .i64 a] w fun e w' => e = .returned (.bool (revX a)) ∧ w' = w := by
  by_cases h3 : a = 3
  · subst h3
    go_enter Try.func49, Try.ntmps49
    go_wp2_with fail
    go_ret
    exact ⟨rfl, rfl⟩
  · by_cases h4 : a = 4
    · subst h4
      go_enter Try.func49, Try.ntmps49
      go_wp2_with fail
      go_ret
      exact ⟨rfl, rfl⟩
    · by_cases h6 : a = 6
      · subst h6
        go_enter Try.func49, Try.ntmps49
        go_wp2_with fail
        go_ret
        exact ⟨rfl, rfl⟩
      · by_cases h8 : a = 8
        · subst h8
          go_enter Try.func49, Try.ntmps49
          go_wp2_with fail
          go_ret
          exact ⟨rfl, rfl⟩
        · by_cases hc : a = 12
          · subst hc
            go_enter Try.func49, Try.ntmps49
            go_wp2_with fail
            go_ret
            exact ⟨rfl, rfl⟩
          · have k3 : (a == 3) = false := beq_eq_false_iff_ne.2 h3
            have k4 : (a == 4) = false := beq_eq_false_iff_ne.2 h4
            have k6 : (a == 6) = false := beq_eq_false_iff_ne.2 h6
            have k8 : (a == 8) = false := beq_eq_false_iff_ne.2 h8
            have kc : (a == 12) = false := beq_eq_false_iff_ne.2 hc
            have HX : Hid (revX a = false) := Lib.hid (by unfold revX; simp [h3, h4, h6, h8, hc])
            clear h3 h4 h6 h8 hc
            go_enter Try.func49, Try.ntmps49
            go_wp2_with fail
            go_ret
            exact ⟨by rw [HX.out]; rfl, rfl⟩
end Go.Proofs.Ytbbfcjaggdpfbaa.Char

/- Tests of nodes: which may be. -/
namespace Go.Proofs.Ytbbfcjaggdpfbaa.Char
open Go.RowKit Go.Lib

/-- a test as a value -/
def teV (k : Int) (nm : List UInt8) (hs : Bool) : Value := .agg #[.int .i64 k, .string (bs nm), .bool hs]
/-- whether a test may be -/
def rightT (k : Int) (nm : List UInt8) (hs : Bool) : Bool :=
  if k = 1 then !nm.isEmpty && !hs else if k = 6 then nm.isEmpty || hs else if 2 ≤ k ∧ k ≤ 5 then nm.isEmpty && !hs else false
theorem bs_emp (a : List UInt8) (v : Bool) (h : a.isEmpty = v) : (bs a).toList.isEmpty = v := by rw [bs_tl, h]
set_option maxRecDepth 100000 in
set_option maxHeartbeats 4000000 in
theorem rightT_any (k : Int) (nm : List UInt8) (hs : Bool) (w : World) :
    Calls Try.prog 44 #[teV k nm hs] w fun e w' => e = .returned (.bool (rightT k nm hs)) ∧ Below w.heap.size w w' := by
  have HB := Lib.hid fun ob => (Below.refl _ w).alloc (Nat.le_refl _) ob
  unfold teV
  obtain ⟨R, hR⟩ : ∃ R, rightT k nm hs = R := ⟨_, rfl⟩
  rw [hR]
  unfold rightT at hR
  obtain ⟨E, hE⟩ : ∃ E, nm.isEmpty = E := ⟨_, rfl⟩
  rw [hE] at hR
  have he := bs_emp _ _ hE
  clear hE
  by_cases h1 : k = 1
  · subst h1
    rw [if_pos rfl] at hR
    have HR := Lib.hid hR
    clear hR
    cases E <;> cases hs <;>
    · go_enter Try.func44, Try.ntmps44
      go_wp2_with fail
      go_ret
      exact ⟨by rw [← HR.out]; rfl, HB.out _⟩
  · rw [if_neg h1] at hR
    have k1 : (k == 1) = false := beq_eq_false_iff_ne.2 h1
    by_cases h6 : k = 6
    · subst h6
      rw [if_pos rfl] at hR
      have HR := Lib.hid hR
      clear hR h1 k1
      cases E <;> cases hs <;>
      · go_enter Try.func44, Try.ntmps44
        go_wp2_with fail
        go_ret
        exact ⟨by rw [← HR.out]; rfl, HB.out _⟩
    · rw [if_neg h6] at hR
      have k6 : (k == 6) = false := beq_eq_false_iff_ne.2 h6
      by_cases h25 : 2 ≤ k ∧ k ≤ 5
      · rw [if_pos h25] at hR
        have HR := Lib.hid hR
        have h : k = 2 ∨ k = 3 ∨ k = 4 ∨ k = 5 := by omega
        clear hR h1 k1 h6 k6 h25
        rcases h with rfl | rfl | rfl | rfl <;> cases E <;> cases hs <;>
        · go_enter Try.func44, Try.ntmps44
          go_wp2_with fail
          go_ret
          exact ⟨by rw [← HR.out]; rfl, HB.out _⟩
      · rw [if_neg h25] at hR
        have k2 : (k == 2) = false := beq_eq_false_iff_ne.2 (by omega)
        have k3 : (k == 3) = false := beq_eq_false_iff_ne.2 (by omega)
        have k4 : (k == 4) = false := beq_eq_false_iff_ne.2 (by omega)
        have k5 : (k == 5) = false := beq_eq_false_iff_ne.2 (by omega)
        have HR := Lib.hid hR
        clear hR h1 h6 h25
        go_enter Try.func44, Try.ntmps44
        go_wp2_with fail
        go_ret
        exact ⟨by rw [← HR.out]; rfl, HB.out _⟩
set_option maxRecDepth 100000 in
set_option maxHeartbeats 4000000 in
theorem rightTR_any (k : Int) (nm : List UInt8) (hs : Bool) (w : World) :
    Calls Try.prog 45 #[teV k nm hs] w fun e w' => e = .returned (.bool (rightT k nm hs)) ∧ Below w.heap.size w w' := by
  have HB := Lib.hid fun ob => (Below.refl _ w).alloc (Nat.le_refl _) ob
  unfold teV
  obtain ⟨R, hR⟩ : ∃ R, rightT k nm hs = R := ⟨_, rfl⟩
  rw [hR]
  unfold rightT at hR
  obtain ⟨E, hE⟩ : ∃ E, nm.isEmpty = E := ⟨_, rfl⟩
  rw [hE] at hR
  have he := bs_emp _ _ hE
  clear hE
  by_cases hk : 1 ≤ k ∧ k ≤ 6
  · have h : k = 1 ∨ k = 2 ∨ k = 3 ∨ k = 4 ∨ k = 5 ∨ k = 6 := by omega
    clear hk
    have HR := Lib.hid hR
    clear hR
    rcases h with rfl | rfl | rfl | rfl | rfl | rfl <;> cases E <;> cases hs <;>
    · go_enter Try.func45, Try.ntmps45
      go_wp2_with fail
      go_ret
      exact ⟨by rw [← HR.out]; rfl, HB.out _⟩
  · have HR : Hid (R = false) := Lib.hid (by rw [← hR, if_neg (by omega), if_neg (by omega), if_neg (by omega)])
    clear hR
    by_cases h1 : k < 1
    · have k1 : decide (k < 1) = true := decide_eq_true h1
      clear h1 hk
      cases hs <;>
      · go_enter Try.func45, Try.ntmps45
        go_wp2_with fail
        go_ret
        exact ⟨by rw [HR.out]; rfl, HB.out _⟩
    · have k1 : decide (k < 1) = false := decide_eq_false h1
      have k6 : decide (6 < k) = true := decide_eq_true (by omega)
      clear h1 hk
      cases hs <;>
      · go_enter Try.func45, Try.ntmps45
        go_wp2_with fail
        go_ret
        exact ⟨by rw [HR.out]; rfl, HB.out _⟩
end Go.Proofs.Ytbbfcjaggdpfbaa.Char
