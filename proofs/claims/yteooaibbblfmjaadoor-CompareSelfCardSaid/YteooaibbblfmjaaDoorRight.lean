/- The walk of package dec's Right. -/
import Derived.Test.YteooaibbblfmjaaDoorSort
namespace Go.Proofs.YteooaibbblfmjaaDoor.Char
open Go.RowKit

set_option maxRecDepth 100000 in
set_option maxHeartbeats 2000000 in
theorem right_any (t v : Int) (w : World) :
    Calls Tryd.prog 8 #[aggV t v] w fun e w' => e = .returned (.bool (rightB t v)) ∧ Below w.heap.size w w' := by
  have hb := (Below.refl w.heap.size w).alloc (Nat.le_refl _) (Obj.cells #[.int .i64 t, .int .i64 v] 24)
  have CS := Lib.hid (sortOf_any t v (w.alloc (Obj.cells #[.int .i64 t, .int .i64 v] 24)))
  have hsz : (w.alloc (Obj.cells #[.int .i64 t, .int .i64 v] 24)).heap.size = w.heap.size + 1 := by simp
  have HSZ := Lib.hid hsz
  clear hsz
  have fin : ∀ w1, Below (w.alloc (Obj.cells #[.int .i64 t, .int .i64 v] 24)).heap.size (w.alloc (Obj.cells #[.int .i64 t, .int .i64 v] 24)) w1 → Below w.heap.size w w1 := fun w1 h => hb.trans (h.mono (by rw [HSZ.out]; omega))
  have HC : ∀ w1, Below (w.alloc (Obj.cells #[.int .i64 t, .int .i64 v] 24)).heap.size (w.alloc (Obj.cells #[.int .i64 t, .int .i64 v] 24)) w1 →
      w1.cell? ⟨w.heap.size, 0, none⟩ = some (.int .i64 t) ∧ w1.cell? ⟨w.heap.size, 1, none⟩ = some (.int .i64 v) := fun w1 h =>
    ⟨(h.cell (p := ⟨w.heap.size, 0, none⟩) (by rw [HSZ.out]; show w.heap.size < w.heap.size + 1; omega)).trans (by rw [World.cell?_alloc_new]; rfl),
     (h.cell (p := ⟨w.heap.size, 1, none⟩) (by rw [HSZ.out]; show w.heap.size < w.heap.size + 1; omega)).trans (by rw [World.cell?_alloc_new]; rfl)⟩
  have HHC := Lib.hid HC
  have FIN := Lib.hid fin
  clear HC fin hb
  unfold aggV at CS ⊢
  rcases toD_cases t v with ⟨rfl, h2, e, er⟩ | ⟨rfl, rfl, e, er⟩ | ⟨rfl, rfl, e, er⟩ | ⟨rfl, rfl, e, er⟩ | ⟨h1, h2, h3, h4, e, er⟩
  · rw [e] at CS
    rw [er]
    have hs5 : ((srt (.num v) : Nat) : Int) ≠ 5 := by
      show (((if v < 0 then 1 else if 0 < v then 3 else 2 : Nat)) : Int) ≠ 5
      split
      · omega
      · split <;> omega
    have hs : (((srt (.num v) : Nat) : Int) != 5) = true := by simpa using hs5
    generalize srt (.num v) = s at CS hs
    clear h2 e er hs5
    go_enter Tryd.func8, Tryd.ntmps8
    go_wp2_with fail
    refine CS.out.mono ?_
    rintro e w1 ⟨rfl, h1⟩
    go_wp2_with fail
    go_ret
    exact ⟨rfl, FIN.out _ h1⟩
  · rw [e] at CS
    rw [er]
    clear e er
    go_enter Tryd.func8, Tryd.ntmps8
    go_wp2_with fail
    refine CS.out.mono ?_
    rintro e w1 ⟨rfl, h1⟩
    have hs : ((srt .over : Nat) : Int) = 4 := rfl
    go_wp2_with fail
    go_ret
    exact ⟨rfl, FIN.out _ h1⟩
  · rw [e] at CS
    rw [er]
    clear e er
    go_enter Tryd.func8, Tryd.ntmps8
    go_wp2_with fail
    refine CS.out.mono ?_
    rintro e w1 ⟨rfl, h1⟩
    have hs : ((srt .under : Nat) : Int) = 0 := rfl
    go_wp2_with fail
    go_ret
    exact ⟨rfl, FIN.out _ h1⟩
  · rw [e] at CS
    rw [er]
    clear e er
    go_enter Tryd.func8, Tryd.ntmps8
    go_wp2_with fail
    refine CS.out.mono ?_
    rintro e w1 ⟨rfl, h1⟩
    have hs : ((srt .nan : Nat) : Int) = 5 := rfl
    obtain ⟨hc0, hc1⟩ := HHC.out _ h1
    go_wp2_with fail
    go_ret
    exact ⟨rfl, FIN.out _ h1⟩
  · rw [e] at CS
    rw [er]
    have hs : ((srt .nan : Nat) : Int) = 5 := rfl
    by_cases ht : t = 1
    · have hvb : (v == 0) = false := by rw [beq_eq_false_iff_ne]; omega
      subst ht
      clear h1 h2 h3 h4 e er
      go_enter Tryd.func8, Tryd.ntmps8
      go_wp2_with fail
      refine CS.out.mono ?_
      rintro e w1 ⟨rfl, h1⟩
      obtain ⟨hc0, hc1⟩ := HHC.out _ h1
      go_wp2_with fail
      go_ret
      exact ⟨rfl, FIN.out _ h1⟩
    · have htb : (t == 1) = false := by rw [beq_eq_false_iff_ne]; exact ht
      clear h1 h2 h3 h4 e er ht
      go_enter Tryd.func8, Tryd.ntmps8
      go_wp2_with fail
      refine CS.out.mono ?_
      rintro e w1 ⟨rfl, h1⟩
      obtain ⟨hc0, hc1⟩ := HHC.out _ h1
      go_wp2_with fail
      go_ret
      exact ⟨rfl, FIN.out _ h1⟩

end Go.Proofs.YteooaibbblfmjaaDoor.Char
