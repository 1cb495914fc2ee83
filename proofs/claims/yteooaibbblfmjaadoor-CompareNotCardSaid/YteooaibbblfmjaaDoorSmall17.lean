/- What CompareNot asks ahead (written by gen_law17.py). -/
import Derived.Test.YteooaibbblfmjaaDoorWorks17
namespace Go.Proofs.YteooaibbblfmjaaDoor.Char
open Go.RowKit Go.Lib

theorem three_cells {W : World} {p : Nat} {op : Int} {ta : Int} {oa : Option Addr} {na ja : Nat} {ba : Bool} {ga va : Int} {sa : ByteArray} {tb : Int} {ob : Option Addr} {nb jb : Nat} {bb : Bool} {gb vb : Int} {sb : ByteArray} (h : W.heap[p]? = some (.cells #[.int .i64 op, .int .i64 ta, .slice oa na ja, .bool ba, .int .i64 ga, .int .i64 va, .string sa, .int .i64 tb, .slice ob nb jb, .bool bb, .int .i64 gb, .int .i64 vb, .string sb] 28 (0, 0))) :
    W.cell? ⟨p, 0, none⟩ = some (.int .i64 op) ∧ W.cell? ⟨p, 1, none⟩ = some (.int .i64 ta) ∧ W.cell? ⟨p, 2, none⟩ = some (.slice oa na ja) ∧ W.cell? ⟨p, 3, none⟩ = some (.bool ba) ∧ W.cell? ⟨p, 4, none⟩ = some (.int .i64 ga) ∧ W.cell? ⟨p, 5, none⟩ = some (.int .i64 va) ∧ W.cell? ⟨p, 6, none⟩ = some (.string sa) ∧ W.cell? ⟨p, 7, none⟩ = some (.int .i64 tb) ∧ W.cell? ⟨p, 8, none⟩ = some (.slice ob nb jb) ∧ W.cell? ⟨p, 9, none⟩ = some (.bool bb) ∧ W.cell? ⟨p, 10, none⟩ = some (.int .i64 gb) ∧ W.cell? ⟨p, 11, none⟩ = some (.int .i64 vb) ∧ W.cell? ⟨p, 12, none⟩ = some (.string sb) := by
  refine ⟨?_, ?_, ?_, ?_, ?_, ?_, ?_, ?_, ?_, ?_, ?_, ?_, ?_⟩ <;> simp [World.cell?, h]
set_option maxRecDepth 100000 in
set_option maxHeartbeats 8000000 in
theorem small_any (op : Int) (ta : Int) (oa : Option Addr) (na ja : Nat) (ba : Bool) (ga va : Int) (sa : ByteArray) (tb : Int) (ob : Option Addr) (nb jb : Nat) (bb : Bool) (gb vb : Int) (sb : ByteArray) (w : World) : Calls Tryd.prog 5 #[.agg #[.int .i64 op, .int .i64 ta, .slice oa na ja, .bool ba, .int .i64 ga, .int .i64 va, .string sa, .int .i64 tb, .slice ob nb jb, .bool bb, .int .i64 gb, .int .i64 vb, .string sb]] w fun e w' => e = .returned (.bool (decide (sa.size ≤ 300) && decide (sb.size ≤ 300) && decide (na ≤ 40) && decide (nb ≤ 40))) ∧ Below w.heap.size w w' := by
  have HB := Lib.hid (below_box w (.cells #[.int .i64 op, .int .i64 ta, .slice oa na ja, .bool ba, .int .i64 ga, .int .i64 va, .string sa, .int .i64 tb, .slice ob nb jb, .bool bb, .int .i64 gb, .int .i64 vb, .string sb] 28))
  by_cases h1 : sa.size ≤ 300
  · have k1 : (sa.size : Int) ≤ 300 := by omega
    by_cases h2 : sb.size ≤ 300
    · have k2 : (sb.size : Int) ≤ 300 := by omega
      by_cases h3 : na ≤ 40
      · have k3 : (na : Int) ≤ 40 := by omega
        by_cases h4 : nb ≤ 40
        · have k4 : (nb : Int) ≤ 40 := by omega
          rw [decide_eq_true h1, decide_eq_true h2, decide_eq_true h3, decide_eq_true h4]
          clear h1 h2 h3 h4
          go_enter Tryd.func5, Tryd.ntmps5
          go_wp2_with fail
          go_ret
          exact ⟨rfl, HB.out⟩
        · have k4 : ¬ (nb : Int) ≤ 40 := by omega
          rw [decide_eq_true h1, decide_eq_true h2, decide_eq_true h3, decide_eq_false h4]
          clear h1 h2 h3 h4
          go_enter Tryd.func5, Tryd.ntmps5
          go_wp2_with fail
          go_ret
          exact ⟨rfl, HB.out⟩
      · have k3 : ¬ (na : Int) ≤ 40 := by omega
        rw [decide_eq_true h1, decide_eq_true h2, decide_eq_false h3]
        clear h1 h2 h3
        go_enter Tryd.func5, Tryd.ntmps5
        go_wp2_with fail
        go_ret
        exact ⟨rfl, HB.out⟩
    · have k2 : ¬ (sb.size : Int) ≤ 300 := by omega
      rw [decide_eq_true h1, decide_eq_false h2]
      clear h1 h2
      go_enter Tryd.func5, Tryd.ntmps5
      go_wp2_with fail
      go_ret
      exact ⟨rfl, HB.out⟩
  · have k1 : ¬ (sa.size : Int) ≤ 300 := by omega
    rw [decide_eq_false h1]
    clear h1
    go_enter Tryd.func5, Tryd.ntmps5
    go_wp2_with fail
    go_ret
    exact ⟨rfl, HB.out⟩
end Go.Proofs.YteooaibbblfmjaaDoor.Char
