/- The walks of the document's own value and UTF8. -/
import Derived.Test.YtffbooapdlpocaaDoorBs
import Derived.Test.YtffbooapdlpocaaDoorEscM
import Derived.Laws.IdiomStrings
namespace Go.Proofs.YtffbooapdlpocaaDoor.Char
open Go.RowKit Go.Lib

theorem ret_int {k : IntKind} {a b : Int} (h : a = b) : Ending.returned (.int k a) = .returned (.int k b) := by rw [h]
set_option maxHeartbeats 2000000 in
theorem value_any (c : UInt8) (w : World) : Calls Tryd.prog 31 #[.int .u8 (c.toNat : Int)] w fun e w' => e = .returned (.int .i64 (dgV c : Int)) ∧ w' = w := by
  have hlt := c.toNat_lt
  unfold dgV
  generalize c.toNat = n at *
  go_enter Tryd.func31, Tryd.ntmps31
  by_cases h1 : 48 ≤ n ∧ n ≤ 57
  · rw [if_pos h1]
    obtain ⟨a1, a2⟩ := h1
    go_wp2_with fail
    go_ret
    exact ⟨ret_int (by omega), rfl⟩
  · rw [if_neg h1]
    by_cases h2 : 97 ≤ n ∧ n ≤ 102
    · rw [if_pos h2]
      obtain ⟨a1, a2⟩ := h2
      have a3 : ¬ n ≤ 57 := by omega
      clear h1
      go_wp2_with fail
      go_ret
      exact ⟨ret_int (by omega), rfl⟩
    · rw [if_neg h2]
      by_cases h3 : 65 ≤ n ∧ n ≤ 70
      · rw [if_pos h3]
        obtain ⟨a1, a2⟩ := h3
        clear h1 h2
        go_wp2_with fail
        go_ret
        exact ⟨ret_int (by omega), rfl⟩
      · rw [if_neg h3]
        go_wp2_with fail
        all_goals go_ret
        all_goals exact ⟨rfl, rfl⟩

theorem conv_back (w : World) (L : List Int) (hL : ∀ x ∈ L, 0 ≤ x ∧ x < 256) :
    (convert 44 9 (.slice (some ⟨w.heap.size, 0, none⟩) L.length L.length)).run Tryd.prog (w.alloc (.cells (L.map (Value.int .u8)).toArray 5)) = .ok (.string (bs (L.map fun x => x.toNat.toUInt8))) (w.alloc (.cells (L.map (Value.int .u8)).toArray 5)) := by
  have h := run_convert_bytes_back (P := Tryd.prog) (w.alloc (.cells (L.map (Value.int .u8)).toArray 5)) 44 9 5 ⟨w.heap.size, 0, none⟩ L.length (L.map fun x => x.toNat.toUInt8) Tryd.underlying44 Tryd.underlying5 Tryd.underlying9 ?_
  · rw [List.length_map] at h
    exact h
  · intro j hj
    have hadd : (⟨w.heap.size, 0, none⟩ : Addr).add j = ⟨w.heap.size, j, none⟩ := by unfold Addr.add; split <;> simp_all
    rw [List.length_map] at hj
    have hx := hL L[j] (List.getElem_mem hj)
    rw [hadd, World.cell?_alloc_new]
    simp only [List.getElem?_toArray, List.getElem?_map, List.getElem?_eq_getElem hj, Option.map_some, List.getElem_map]
    congr 2
    simp
    omega
def UtPost (z : Int) (w : World) (e : Ending) (w' : World) : Prop := e = .returned (.string (bs (encodeRune z))) ∧ Below w.heap.size w w'
set_option maxRecDepth 100000 in
set_option maxHeartbeats 2000000 in
theorem utf_one (z : Int) (h : 0 ≤ z) (h2 : z < 128) (w : World) : Calls Tryd.prog 32 #[.int .i64 z] w (UtPost z w) := by
  have hcv : (convert 44 9 (.slice (some ⟨w.heap.size, 0, none⟩) 1 1)).run Tryd.prog (w.alloc (.cells #[.int .u8 (z)] 5)) = .ok (.string (bs (encodeRune z))) (w.alloc (.cells #[.int .u8 (z)] 5)) := by
    have h := conv_back w [z] (by rw [← encodeRuneZ_one (by omega) (by omega)]; exact encodeRuneZ_byte z)
    have e : encodeRune z = [z].map fun x => x.toNat.toUInt8 := by unfold encodeRune; rw [encodeRuneZ_one (by omega) (by omega)]
    rw [e]
    exact h
  unfold UtPost
  generalize encodeRune z = X at *
  go_enter Tryd.func32, Tryd.ntmps32
  go_wp2_with fail
  go_ret
  exact ⟨rfl, (Below.refl _ _).alloc (Nat.le_refl _) _⟩
set_option maxRecDepth 100000 in
set_option maxHeartbeats 2000000 in
theorem utf_two (z : Int) (h : 128 ≤ z) (h2 : z < 2048) (w : World) : Calls Tryd.prog 32 #[.int .i64 z] w (UtPost z w) := by
  have hcv : (convert 44 9 (.slice (some ⟨w.heap.size, 0, none⟩) 2 2)).run Tryd.prog (w.alloc (.cells #[.int .u8 (192 + z / 64), .int .u8 (128 + z % 64)] 5)) = .ok (.string (bs (encodeRune z))) (w.alloc (.cells #[.int .u8 (192 + z / 64), .int .u8 (128 + z % 64)] 5)) := by
    have h := conv_back w [192 + z / 64, 128 + z % 64] (by rw [← encodeRuneZ_two (by omega) (by omega)]; exact encodeRuneZ_byte z)
    have e : encodeRune z = [192 + z / 64, 128 + z % 64].map fun x => x.toNat.toUInt8 := by unfold encodeRune; rw [encodeRuneZ_two (by omega) (by omega)]
    rw [e]
    exact h
  unfold UtPost
  generalize encodeRune z = X at *
  go_enter Tryd.func32, Tryd.ntmps32
  go_wp2_with fail
  go_ret
  exact ⟨rfl, (Below.refl _ _).alloc (Nat.le_refl _) _⟩
set_option maxRecDepth 100000 in
set_option maxHeartbeats 2000000 in
theorem utf_three (z : Int) (h : 2048 ≤ z) (h2 : z < 65536) (h3 : z < 55296 ∨ 57343 < z) (w : World) : Calls Tryd.prog 32 #[.int .i64 z] w (UtPost z w) := by
  have hcv : (convert 44 9 (.slice (some ⟨w.heap.size, 0, none⟩) 3 3)).run Tryd.prog (w.alloc (.cells #[.int .u8 (224 + z / 4096), .int .u8 (128 + z / 64 % 64), .int .u8 (128 + z % 64)] 5)) = .ok (.string (bs (encodeRune z))) (w.alloc (.cells #[.int .u8 (224 + z / 4096), .int .u8 (128 + z / 64 % 64), .int .u8 (128 + z % 64)] 5)) := by
    have h := conv_back w [224 + z / 4096, 128 + z / 64 % 64, 128 + z % 64] (by rw [← encodeRuneZ_three (by omega)]; exact encodeRuneZ_byte z)
    have e : encodeRune z = [224 + z / 4096, 128 + z / 64 % 64, 128 + z % 64].map fun x => x.toNat.toUInt8 := by unfold encodeRune; rw [encodeRuneZ_three (by omega)]
    rw [e]
    exact h
  clear h3
  unfold UtPost
  generalize encodeRune z = X at *
  go_enter Tryd.func32, Tryd.ntmps32
  go_wp2_with fail
  go_ret
  exact ⟨rfl, (Below.refl _ _).alloc (Nat.le_refl _) _⟩
set_option maxRecDepth 100000 in
set_option maxHeartbeats 2000000 in
theorem utf_four (z : Int) (h : 65536 ≤ z) (h2 : z ≤ 1114111) (w : World) : Calls Tryd.prog 32 #[.int .i64 z] w (UtPost z w) := by
  have hcv : (convert 44 9 (.slice (some ⟨w.heap.size, 0, none⟩) 4 4)).run Tryd.prog (w.alloc (.cells #[.int .u8 (240 + z / 262144), .int .u8 (128 + z / 4096 % 64), .int .u8 (128 + z / 64 % 64), .int .u8 (128 + z % 64)] 5)) = .ok (.string (bs (encodeRune z))) (w.alloc (.cells #[.int .u8 (240 + z / 262144), .int .u8 (128 + z / 4096 % 64), .int .u8 (128 + z / 64 % 64), .int .u8 (128 + z % 64)] 5)) := by
    have h := conv_back w [240 + z / 262144, 128 + z / 4096 % 64, 128 + z / 64 % 64, 128 + z % 64] (by rw [← encodeRuneZ_four (by omega) (by omega)]; exact encodeRuneZ_byte z)
    have e : encodeRune z = [240 + z / 262144, 128 + z / 4096 % 64, 128 + z / 64 % 64, 128 + z % 64].map fun x => x.toNat.toUInt8 := by unfold encodeRune; rw [encodeRuneZ_four (by omega) (by omega)]
    rw [e]
    exact h
  unfold UtPost
  generalize encodeRune z = X at *
  go_enter Tryd.func32, Tryd.ntmps32
  go_wp2_with fail
  go_ret
  exact ⟨rfl, (Below.refl _ _).alloc (Nat.le_refl _) _⟩
theorem utf_any (z : Int) (h : isC z = true) (w : World) : Calls Tryd.prog 32 #[.int .i64 z] w (UtPost z w) := by
  have hc := isC_le h
  by_cases h1 : z < 128
  · exact utf_one z (by omega) h1 w
  by_cases h2 : z < 2048
  · exact utf_two z (by omega) h2 w
  by_cases h3 : z < 65536
  · exact utf_three z (by omega) h3 (by omega) w
  · exact utf_four z (by omega) (by omega) w
end Go.Proofs.YtffbooapdlpocaaDoor.Char
