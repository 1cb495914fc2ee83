/- The walks of the two closures of figure's shown: one byte more ahead of the text, one digit more. -/
import Derived.Test.YtgoicjeegfflpaaDoorStr
import Derived.Test.YtgoicjeegfflpaaDoorSmall4
namespace Go.Proofs.YtgoicjeegfflpaaDoor.Char
open Go.RowKit Go.Lib

/-- the array, and where its text begins: the text's bytes lie at the array's end -/
def Laid (W : World) (T A : Nat) (acc : List UInt8) : Prop :=
  acc.length ≤ 21 ∧ W.cell? ⟨A, 0, none⟩ = some (.int .i64 (21 - (acc.length : Int))) ∧ W.frozen? ⟨A, 0, none⟩ = false ∧
  (∀ j, j < 21 → W.frozen? ⟨T, j, none⟩ = false ∧ ∃ v, W.cell? ⟨T, j, none⟩ = some v) ∧ ∀ j, j < acc.length → W.cell? ⟨T, 21 - acc.length + j, none⟩ = some (.int .u8 ((acc.getD j 0).toNat : Int))
/-- the boxes of shown: the array, the place, what is left, the first closure -/
def St (n : Nat) (w W : World) (acc : List UInt8) (left : Nat) : Prop :=
  Laid W n (n + 1) acc ∧ W.cell? ⟨n + 2, 0, none⟩ = some (.int .i64 (left : Int)) ∧ W.frozen? ⟨n + 2, 0, none⟩ = false ∧
  W.cell? ⟨n + 3, 0, none⟩ = some (.func (.func 40) #[] #[.pointer (some ⟨n + 1, 0, none⟩), .pointer (some ⟨n, 0, none⟩)]) ∧ n + 3 < W.heap.size ∧ Below n w W

theorem enters_lay : ∀ args w, (callFunc 40 args).run Tryd.prog w = .ok (.enter 40 args) w := enters_of Tryd.func40 (by kernel_rfl) rfl
theorem enters_digit : ∀ args w, (callFunc 41 args).run Tryd.prog w = .ok (.enter 41 args) w := enters_of Tryd.func41 (by kernel_rfl) rfl

theorem St.lay {n : Nat} {w W : World} {acc : List UInt8} {left : Nat} (h : St n w W acc left) (b : UInt8) (k : Nat) (hk : acc.length + k + 1 = 21) :
    St n w ((W.setCell ⟨n + 1, 0, none⟩ (.int .i64 (k : Int))).setCell ⟨n, k, none⟩ (.int .u8 (b.toNat : Int))) (b :: acc) left := by
  obtain ⟨⟨h1, h2, h3, h4, h5⟩, h6, h7, h8, h9, h10⟩ := h
  have ne1 : ∀ j k : Nat, (⟨n + 1, j, none⟩ : Addr) ≠ ⟨n, k, none⟩ := fun j k e => by injection e; omega
  have ne2 : ∀ (j k i : Nat), (⟨n + 2 + i, j, none⟩ : Addr) ≠ ⟨n, k, none⟩ := fun j k i e => by injection e; omega
  have ne3 : ∀ (j k i : Nat), (⟨n + 2 + i, j, none⟩ : Addr) ≠ ⟨n + 1, k, none⟩ := fun j k i e => by injection e; omega
  refine ⟨⟨by rw [List.length_cons]; omega, ?_, ?_, ?_, ?_⟩, ?_, ?_, ?_, by simpa using h9, (h10.setCell (by show n ≤ n + 1; omega) _).setCell (Nat.le_refl _) _⟩
  · rw [World.cell?_setCell_other _ _ _ _ (Ne.symm (ne1 _ _)), World.cell?_setCell_same _ _ _ h2, List.length_cons]
    congr 2
    omega
  · rw [World.frozen?_setCell, World.frozen?_setCell]; exact h3
  · intro j hj
    obtain ⟨f, v, hv⟩ := h4 j hj
    refine ⟨by rw [World.frozen?_setCell, World.frozen?_setCell]; exact f, ?_⟩
    have hv' : (W.setCell ⟨n + 1, 0, none⟩ (.int .i64 (k : Int))).cell? ⟨n, j, none⟩ = some v := by rw [World.cell?_setCell_other _ _ _ _ (ne1 _ _)]; exact hv
    by_cases e : k = j
    · subst e; exact ⟨_, World.cell?_setCell_same _ _ _ hv'⟩
    · exact ⟨v, by rw [World.cell?_setCell_other _ _ _ _ (fun h => by injection h; omega)]; exact hv'⟩
  · intro j hj
    rw [List.length_cons] at hj ⊢
    match j with
    | 0 =>
      obtain ⟨_, v, hv⟩ := h4 k (by omega)
      have hv' : (W.setCell ⟨n + 1, 0, none⟩ (.int .i64 (k : Int))).cell? ⟨n, k, none⟩ = some v := by rw [World.cell?_setCell_other _ _ _ _ (ne1 _ _)]; exact hv
      rw [show 21 - (acc.length + 1) + 0 = k by omega]
      exact World.cell?_setCell_same _ _ _ hv'
    | j + 1 =>
      rw [World.cell?_setCell_other _ _ _ _ (fun h => by injection h; omega), World.cell?_setCell_other _ _ _ _ (ne1 _ _)]
      have := h5 j (by omega)
      rw [show 21 - acc.length + j = 21 - (acc.length + 1) + (j + 1) by omega] at this
      rw [this]
      rfl
  · rw [World.cell?_setCell_other _ _ _ _ (Ne.symm (ne2 0 k 0)), World.cell?_setCell_other _ _ _ _ (Ne.symm (ne3 0 0 0))]; exact h6
  · rw [World.frozen?_setCell, World.frozen?_setCell]; exact h7
  · rw [World.cell?_setCell_other _ _ _ _ (Ne.symm (ne2 0 k 1)), World.cell?_setCell_other _ _ _ _ (Ne.symm (ne3 0 0 1))]; exact h8
theorem St.left {n : Nat} {w W : World} {acc : List UInt8} {left : Nat} (h : St n w W acc left) (m : Nat) : St n w (W.setCell ⟨n + 2, 0, none⟩ (.int .i64 (m : Int))) acc m := by
  obtain ⟨⟨h1, h2, h3, h4, h5⟩, h6, h7, h8, h9, h10⟩ := h
  have ne : ∀ (i j : Nat) (hi : i ≠ 2), (⟨n + 2, 0, none⟩ : Addr) ≠ ⟨n + i, j, none⟩ := fun i j hi e => by injection e; omega
  refine ⟨⟨h1, ?_, ?_, ?_, ?_⟩, World.cell?_setCell_same _ _ _ h6, ?_, ?_, by simpa using h9, h10.setCell (by show n ≤ n + 2; omega) _⟩
  · rw [World.cell?_setCell_other _ _ _ _ (ne 1 0 (by omega))]; exact h2
  · rw [World.frozen?_setCell]; exact h3
  · intro j hj
    obtain ⟨f, v, hv⟩ := h4 j hj
    exact ⟨by rw [World.frozen?_setCell]; exact f, v, by rw [World.cell?_setCell_other _ _ _ _ (fun e => by injection e; omega)]; exact hv⟩
  · intro j hj
    rw [World.cell?_setCell_other _ _ _ _ (fun e => by injection e; omega)]; exact h5 j hj
  · rw [World.frozen?_setCell]; exact h7
  · rw [World.cell?_setCell_other _ _ _ _ (ne 3 0 (by omega))]; exact h8

set_option maxRecDepth 100000 in
set_option maxHeartbeats 2000000 in
theorem lay_any (n : Nat) (w W : World) (acc : List UInt8) (left : Nat) (b : UInt8) (h : St n w W acc left) (hl : acc.length < 21) :
    Calls Tryd.prog 40 #[.int .u8 (b.toNat : Int), .pointer (some ⟨n + 1, 0, none⟩), .pointer (some ⟨n, 0, none⟩)] W fun e w' => e = .returned (.tuple #[]) ∧ St n w w' (b :: acc) left := by
  obtain ⟨k, hk⟩ : ∃ k, acc.length + k + 1 = 21 := ⟨20 - acc.length, by omega⟩
  have hst := h.lay b k hk
  have hA := h.1.2.1
  have hfA := h.1.2.2.1
  obtain ⟨hfT, v, hT⟩ := h.1.2.2.2.1 k (by omega)
  rw [show 21 - (acc.length : Int) = (k : Int) + 1 by omega] at hA
  have HST := Lib.hid hst
  have hk20 : k < 21 := by omega
  clear h hst hk hl
  generalize b.toNat = B at *
  go_enter Tryd.func40, Tryd.ntmps40
  go_wp2_with fail
  exact ⟨rfl, .tuple #[], by simp [results, Tryd.results40, go_sem], rfl, HST.out⟩

set_option maxRecDepth 100000 in
set_option maxHeartbeats 2000000 in
theorem layDigit_any (n : Nat) (w W : World) (acc : List UInt8) (left : Nat) (h : St n w W acc left) (hl : acc.length < 21) (hleft : left ≤ 9223372036854775807) :
    Calls Tryd.prog 41 #[.pointer (some ⟨n + 3, 0, none⟩), .pointer (some ⟨n + 2, 0, none⟩)] W fun e w' => e = .returned (.tuple #[]) ∧ St n w w' (chr (left % 10) :: acc) (left / 10) := by
  have CL := lay_any n w W acc left (chr (left % 10)) h hl
  rw [chr_toNat _ (Nat.mod_lt _ (by omega))] at CL
  have hL := h.2.2.2.1
  have hG := h.2.1
  have ecast : ((48 + left % 10 : Nat) : Int) = 48 + (left : Int) % 10 := by omega
  rw [ecast] at CL
  have H1 := Lib.hid CL
  have el := enters_lay
  have hm : (left : Int) % 10 ≤ 9 := by omega
  have hm0 : 0 ≤ (left : Int) % 10 := by omega
  clear h CL ecast hl
  go_enter Tryd.func41, Tryd.ntmps41
  go_wp2_with fail
  refine H1.out.mono ?_
  rintro e w1 ⟨rfl, h1⟩
  have hG1 := h1.2.1
  have hf1 := h1.2.2.1
  have hs1 : n + 2 < w1.heap.size := by have := h1.2.2.2.2.1; omega
  have h2 := h1.left (left / 10)
  have ecast : ((left / 10 : Nat) : Int) = (left : Int) / 10 := by omega
  rw [ecast] at h2
  have HST := Lib.hid h2
  clear h1 h2 ecast
  go_wp2_with fail
  exact ⟨rfl, .tuple #[], by simp [results, Tryd.results41, go_sem], rfl, HST.out⟩
end Go.Proofs.YtgoicjeegfflpaaDoor.Char
