/- A whole number. -/
import Derived.Test.YteooaibbblfmjaaDoorScaled
namespace Go.Proofs.YteooaibbblfmjaaDoor.Char
open Go.RowKit Go.Lib

set_option maxHeartbeats 2000000 in
theorem int_any (n : Int) (w : World) (h : -9223372036854775808 ≤ n ∧ n ≤ 9223372036854775807) :
    Calls Tryd.prog 23 #[.int .i64 n] w fun e w' => e = .returned (decV (intD n)) ∧ Below w.heap.size w w' := by
  have CS := fun W => Lib.hid (scaled_any n 1000000 1 W h (by omega) (by omega) (by omega))
  rw [Int.tdiv_one] at CS
  unfold intD
  generalize fitD (n * 1000000) = X at *
  clear h
  go_enter Tryd.func23, Tryd.ntmps23
  go_wp2_with fail
  refine (CS _).out.mono ?_
  rintro e w1 ⟨rfl, h1⟩
  obtain ⟨k0, k1, f0, f1, hs1, hbb⟩ := kept_new w _ _ 24 w1 h1
  unfold decV
  go_wp2_with fail
  exact end_dec rfl w1 w.heap.size _ _ k0 k1 rfl rfl ⟨rfl, (hbb.setCell (Nat.le_refl _) _).setCell (Nat.le_refl _) _⟩
end Go.Proofs.YteooaibbblfmjaaDoor.Char
