/- The walk of Go's internal/strconv.ParseUint at the base 10, 31 bits. -/
import Derived.Test.YtffbooapdlpocaaDoorPuM
namespace Go.Proofs.YtffbooapdlpocaaDoor.Char
open Go.RowKit Go.Lib Go.Shelf

set_option maxHeartbeats 32000000 in
set_option maxRecDepth 100000 in
theorem pu10_any (l : List UInt8) (w : World) (hne : l ≠ []) (hl : l.length ≤ 100000) :
    Calls Tryd.prog 53 #[.string (bs l), .int .i64 10, .int .i64 31] w fun e w' => (∃ v, e = .returned v ∧ PuR 10 l v) ∧ Below w.heap.size w w' := by
  have hsz := bs_size l
  obtain ⟨t, ht⟩ : ∃ t, t = bs l := ⟨_, rfl⟩
  have hpos : 0 < l.length := List.length_pos_iff.2 hne
  rw [← ht] at hsz ⊢
  have hemp : t.toList.isEmpty = false := by
    rw [ht, bs_tl]
    cases l with
    | nil => exact absurd rfl hne
    | cons _ _ => rfl
  have hcv := Lib.run_convert_string_bytes (P := Tryd.prog) w 9 44 5 t (u := .string) Tryd.underlying9 Tryd.underlying44 Tryd.underlying5
  have hB : ∀ j, j < t.size → (Lib.bytesWorld w 5 t).cell? ⟨w.heap.size, j, none⟩ = some (.int .u8 (t.data.toList.getD j 0).toNat) := fun j hj => Lib.bytesWorld_cell w 5 t j hj
  have hbb : Below w.heap.size w (Lib.bytesWorld w 5 t) := Lib.bytesWorld_below _ _ _
  obtain ⟨W1, hW1⟩ : ∃ W1, W1 = Lib.bytesWorld w 5 t := ⟨_, rfl⟩
  rw [← hW1] at hcv hB hbb
  clear hW1
  rw [show t.data.toList = l by rw [ht]; rfl] at hB
  clear ht
  have HNE := Lib.hid hne
  clear hne
  have hmv : IntKind.u64.wrap (IntKind.u64.wrap 2147483648 - 1) = 2147483647 := by
    rw [IntKind.wrap_u64, IntKind.wrap_u64]
    decide
  go_enter Tryd.func53, Tryd.ntmps53
  go_wp2
  go_loop [12, 13, 101] (fun vu vn vi => ∃ (k acc : Nat) (a : Int), vu = .bool false ∧ vn = .int .u64 a ∧ vi = .int .i64 k ∧ k ≤ t.size ∧ Hid (a = (acc : Int) ∧ acc ≤ 2147483647 ∧ valN 10 0 l = valN 10 acc (l.drop k)))
    (fun _ _ vi => t.size - (RowKit.intOf vi).toNat)
  case atStart => exact ⟨0, 0, 0, rfl, rfl, rfl, by omega, rfl, by omega, rfl⟩
  case round =>
    obtain ⟨k, acc, a, rfl, rfl, rfl, hk, hh⟩ := hrel
    obtain ⟨ha, hacc, hdec⟩ := hh.out
    clear hh
    have a0 : 0 ≤ a := by omega
    have a1 : a ≤ 2147483647 := by omega
    by_cases hkn : k < t.size
    · have hc := hB k hkn
      rw [drop_cons l k (by omega)] at hdec
      generalize l.getD k 0 = c at hc hdec
      have hc256 : c.toNat < 256 := c.toNat_lt
      have hlow := low_all ⟨c.toNat, hc256⟩
      dsimp only at hlow
      clear hB
      by_cases hdig : 48 ≤ c.toNat ∧ c.toNat ≤ 57
      · have hd : dgV c = c.toNat - 48 := by unfold dgV; rw [if_pos hdig]
        obtain ⟨hd0, hd1⟩ := hdig
        have hF : valN 10 acc (c :: l.drop (k + 1)) = valN 10 (acc * 10 + (c.toNat - 48)) (l.drop (k + 1)) := by
          conv => lhs; unfold valN
          rw [hd, if_pos (by omega)]
        rw [hF] at hdec
        clear hlow hd hF
        by_cases hov : 2147483647 < acc * 10 + (c.toNat - 48)
        · have HR := Lib.hid (PuR.range (by omega) hdec hov)
          have iov : 2147483647 < a * 10 + ((c.toNat : Int) - 48) := by omega
          clear hacc hov ha hdec
          go_wp2
          go_ret2
          exact ⟨⟨_, rfl, HR⟩, hbb⟩
        · have HN : Hid (a * 10 + ((c.toNat : Int) - 48) = ((acc * 10 + (c.toNat - 48) : Nat) : Int) ∧ acc * 10 + (c.toNat - 48) ≤ 2147483647 ∧ valN 10 0 l = valN 10 (acc * 10 + (c.toNat - 48)) (l.drop (k + 1))) := Lib.hid ⟨by omega, by omega, hdec⟩
          have iov : a * 10 + ((c.toNat : Int) - 48) ≤ 2147483647 := by omega
          clear hacc hov hdec ha
          go_wp2
          refine ⟨⟨k + 1, acc * 10 + (c.toNat - 48), a * 10 + ((c.toNat : Int) - 48), rfl, (by first | rfl | (congr 1; omega)), (by first | rfl | (congr 1; omega)), by omega, HN⟩, by simp [RowKit.intOf]; omega⟩
      · have hd : ¬ dgV c < 10 := by
          unfold dgV
          rw [if_neg hdig]
          split
          · omega
          · split <;> omega
        have hF : valN 10 acc (c :: l.drop (k + 1)) = none := by
          conv => lhs; unfold valN
          rw [if_neg hd]
        rw [hF] at hdec
        have HR := Lib.hid (PuR.bad hdec)
        clear hacc hF ha hd hlow hdec
        have hv0 := bits_lo_u8 .or (c.toNat : Int) 32
        have hv1 := bits_hi_u8 .or (c.toNat : Int) 32
        have hu0 := bits_lo_u8 .or 95 32
        have hu1 := bits_hi_u8 .or 95 32
        have e59 : ∀ args w, (callFunc 59 args).run Tryd.prog w = .ok (.enter 59 args) w := enters_of Tryd.func59 (by kernel_rfl) rfl
        go_wp2_with (go_at_fn 59; refine (AnyPu.internal_strconv_lower layLower _ _).mono ?_; rintro e w' ⟨rfl, rfl⟩)
        all_goals go_ret2
        all_goals exact ⟨⟨_, rfl, HR⟩, hbb⟩
    · have hF : valN 10 acc (l.drop k) = some acc := by rw [List.drop_eq_nil_of_le (by omega)]; rfl
      rw [hF] at hdec
      have HR := Lib.hid (PuR.ok hdec hacc HNE.out ha)
      clear hacc hF ha hdec
      go_wp2
      go_ret2
      exact ⟨⟨_, rfl, HR⟩, hbb⟩
end Go.Proofs.YtffbooapdlpocaaDoor.Char
