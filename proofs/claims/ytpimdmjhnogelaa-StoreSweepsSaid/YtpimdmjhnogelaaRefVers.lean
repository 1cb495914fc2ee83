/- The walk of the document's own Versions. -/
import Derived.Test.YtpimdmjhnogelaaPushVe
namespace Go.Proofs.Ytpimdmjhnogelaa.Char
open Go.RowKit Go.Lib

/-- a node's versions -/
def versV (xs : List OnV) (id : Int) : List VeV := (xs.filter fun x => decide (x.1 = id)).map (·.2)
theorem versV_step {xs : List OnV} {id : Int} {k : Nat} (h : k < xs.length) : versV (xs.take (k + 1)) id = if xs[k].1 = id then versV (xs.take k) id ++ [xs[k].2] else versV (xs.take k) id := by
  unfold versV
  rw [List.take_succ_eq_append_getElem h, List.filter_append]
  by_cases hf : xs[k].1 = id
  · rw [if_pos hf]; simp [hf]
  · rw [if_neg hf]; simp [hf]
theorem versV_toVe (xs : List OnV) (id : Int) : (versV xs id).map toVe = versL (xs.map toOn) id := by
  unfold versV versL
  rw [List.map_map, List.filter_map, List.map_map]
  congr 1
theorem versV_len (xs : List OnV) (id : Int) : (versV xs id).length ≤ xs.length := by
  unfold versV
  rw [List.length_map]
  exact List.length_filter_le _ _
theorem versV_on {B : Nat} {w : World} {b : Nat} {v : Value} {xs : List OnV} {gv lt : Nat} (h : RefS B w b v xs gv lt) (id : Int) : ∀ x, x ∈ versV xs id → RcOn w (fun g => g < B) x.2 := by
  intro x hx
  unfold versV at hx
  obtain ⟨y, hy, rfl⟩ := List.mem_map.1 hx
  exact h.row.2 y (List.mem_filter.1 hy).1
set_option maxRecDepth 100000 in
set_option maxHeartbeats 4000000 in
theorem refVers_any {B : Nat} {w : World} {b : Nat} {v : Value} {xs : List OnV} {gv lt : Nat} (h : RefS B w b v xs gv lt) (id : Int) (hl : xs.length ≤ 1000000) :
    Calls Try.prog 46 #[.pointer (some ⟨b, 0, none⟩), .int .i64 id] w fun e w' => ∃ u, e = .returned u ∧ OwnsVe w.heap.size w' u (versV xs id) ∧ Below w.heap.size w w' := by
  have H := Lib.hid h
  obtain ⟨o, j, rfl⟩ := h.row.form
  have HR := Lib.hid (fun wr (hb : Below w.heap.size w wr) => h.below hb)
  have c0 := (h.cells).1
  clear h
  go_enter Try.func46, Try.ntmps46
  go_wp2_with fail
  go_loopw [5, 6] (fun u i wr => ∃ k : Nat, i = .int .i64 (k : Int) ∧ k ≤ xs.length ∧ (∃ p q r, u = .slice p q r) ∧ Hid (OwnsVe w.heap.size wr u (versV (xs.take k) id) ∧ Below w.heap.size w wr)) (fun _ v _ => xs.length - (RowKit.intOf v).toNat)
  case atStart => exact ⟨0, rfl, Nat.zero_le _, ⟨_, _, _, rfl⟩, Lib.hid ⟨OwnsVe.nil _ _, Below.refl _ _⟩⟩
  case round =>
    obtain ⟨k, rfl, hk, ⟨p, q, r, rfl⟩, HK⟩ := hrel
    have hS := HR.out _ HK.out.2
    obtain ⟨c0, _, _, _⟩ := hS.cells
    by_cases hlt : k < xs.length
    · obtain ⟨g, rfl, hg1, hg2, a0, a1, a2, a3, a4, a5, a6, a7, a8, hon⟩ := hS.row.reads k hlt
      have hst := versV_step (id := id) hlt
      have hvl := Nat.le_trans (versV_len (xs.take k) id) (List.length_take_le k xs)
      generalize xs[k] = y at *
      obtain ⟨yi, yt, r, va, vb⟩ := y
      obtain ⟨ok, jk, oa, ja, e1, e2⟩ := hon.form
      dsimp only at e1 e2
      subst e1 e2
      dsimp only at a0 a1 a2 a3 a4 a5 a6 a7 a8 hst
      clear hS hon
      by_cases hi : yi = id
      · have k1 : (yi == id) = true := by rw [hi, beq_self_eq_true]
        rw [if_pos hi] at hst
        have HA := Lib.hid hst
        have HV := Lib.hid hvl
        clear hi hst hvl
        go_wp2_with (first | (at_builtin; refine wpList_pushVe rfl _ _ rfl yt r ok _ jk oa _ ja HK.out.1 rfl rfl HK.out.2.size (by have := HV.out; omega) ?_; intro u' w1 hown1 hb1 hk1 _) | go_in)
        have hfm : ∃ p q r, u' = .slice p q r := by
          obtain ⟨p', q', e⟩ := hown1.form
          exact ⟨_, _, _, e⟩
        exact ⟨⟨k + 1, by go_num, by omega, hfm, Lib.hid ⟨by rw [HA.out]; exact hown1, HK.out.2.trans hb1⟩⟩, by simp [RowKit.intOf]; omega⟩
      · have k1 : (yi == id) = false := beq_eq_false_iff_ne.2 hi
        rw [if_neg hi] at hst
        have HA := Lib.hid hst
        clear hi hst hvl
        go_wp2_with fail
        go_roundw
        case rel => exact ⟨k + 1, by go_num, by omega, ⟨_, _, _, rfl⟩, Lib.hid (by rw [HA.out]; exact HK.out)⟩
        case measure => simp [RowKit.intOf]; omega
    · have e : k = xs.length := by omega
      subst e
      rw [List.take_length] at HK
      go_wp2_with fail
      go_ret
      exact ⟨_, rfl, HK.out.1, HK.out.2⟩
end Go.Proofs.Ytpimdmjhnogelaa.Char
