/- The walks of the document's own low and Ints. -/
import Derived.Test.YtpimdmjhnogelaaRecOn
namespace Go.Proofs.Ytpimdmjhnogelaa.Char
open Go.RowKit Go.Lib

/-- has a row a number below 1? -/
def lowL (zs : List Int) : Bool := zs.any fun k => decide (k < 1)
theorem lowL_drop {zs : List Int} {k : Nat} (h : k < zs.length) : lowL (zs.drop k) = (decide (zs[k] < 1) || lowL (zs.drop (k + 1))) := by
  rw [List.drop_eq_getElem_cons h]; rfl
set_option maxRecDepth 100000 in
set_option maxHeartbeats 4000000 in
theorem low_any (zs : List Int) (F : Nat → Prop) (o : Option Addr) (j : Nat) (w : World) (hz : zs.length ≤ 2 ^ 62) (h : IntsOn w F (.slice o zs.length j) zs) :
    Calls Try.prog 91 #[.slice o zs.length j] w fun e w' => e = .returned (.bool (lowL zs)) ∧ w' = w := by
  have H := Lib.hid h
  clear h
  obtain ⟨R, hR⟩ : ∃ R, lowL zs = R := ⟨_, rfl⟩
  rw [hR]
  have HR := Lib.hid hR
  clear hR
  go_enter Try.func91, Try.ntmps91
  go_wp2_with fail
  go_loop [3] (fun v => ∃ k : Nat, v = .int .i64 (k : Int) ∧ k ≤ zs.length ∧ Hid (lowL (zs.drop k) = R)) (fun v => zs.length - (RowKit.intOf v).toNat)
  case atStart => exact ⟨0, rfl, Nat.zero_le _, HR⟩
  case round =>
    obtain ⟨k, rfl, hk, HK⟩ := hrel
    by_cases hlt : k < zs.length
    · obtain ⟨g, off, rfl, hg, r0⟩ := H.out.reads k hlt
      have HK2 := Lib.hid ((lowL_drop hlt).symm.trans HK.out)
      generalize zs[k] = x at *
      clear HK
      by_cases hx : x < 1
      · have HX : Hid (true = R) := Lib.hid (by rw [← HK2.out, decide_eq_true hx]; rfl)
        go_wp2_with fail
        go_ret
        exact ⟨by rw [← HX.out]; rfl, rfl⟩
      · have HX : Hid (lowL (zs.drop (k + 1)) = R) := Lib.hid (by rw [← HK2.out, decide_eq_false hx]; rfl)
        go_wp2_with fail
        go_round
        case rel => exact ⟨k + 1, by go_num, by omega, HX⟩
        case measure => simp [RowKit.intOf]; omega
    · have HX : Hid (false = R) := Lib.hid (by rw [← HK.out, List.drop_eq_nil_of_le (by omega)]; rfl)
      go_wp2_with fail
      go_ret
      exact ⟨by rw [← HX.out]; rfl, rfl⟩

set_option maxRecDepth 100000 in
set_option maxHeartbeats 4000000 in
theorem ints_any (qs rs : List Int) (F1 F2 : Nat → Prop) (o1 : Option Addr) (j1 : Nat) (o2 : Option Addr) (j2 : Nat) (w : World) (hq : qs.length ≤ 2 ^ 62) (h1 : IntsOn w F1 (.slice o1 qs.length j1) qs) (h2 : IntsOn w F2 (.slice o2 rs.length j2) rs) :
    Calls Try.prog 21 #[.slice o1 qs.length j1, .slice o2 rs.length j2] w fun e w' => e = .returned (.bool (decide (qs = rs))) ∧ ∃ n, w' = w.drewN n := by
  have H1 := Lib.hid h1
  have H2 := Lib.hid h2
  clear h1 h2
  by_cases hlen : qs.length = rs.length
  · have k0 : ((qs.length : Int) != (rs.length : Int)) = false := by rw [hlen]; simp
    go_enter Try.func21, Try.ntmps21
    go_wp2_with fail
    go_loopw [5] (fun v wr => ∃ j : Nat, v = .int .i64 (j : Int) ∧ j ≤ qs.length ∧ qs.take j = rs.take j ∧ ∃ n, wr = w.drewN n) (fun v _ => qs.length - (RowKit.intOf v).toNat)
    case atStart => exact ⟨0, rfl, Nat.zero_le _, by simp, 0, rfl⟩
    case round =>
      obtain ⟨j, rfl, hj, htk, n, rfl⟩ := hrel
      by_cases hlt : j < qs.length
      · obtain ⟨g1, f1, rfl, hg1, r0⟩ := H1.out.reads j hlt
        obtain ⟨g2, f2, rfl, hg2, s0⟩ := H2.out.reads j (by omega)
        have hts := take_eq_succ hlt (by omega : j < rs.length) htk
        have hxy : qs[j] ≠ rs[j]'(by omega) → qs ≠ rs := fun h e => h (by subst e; rfl)
        generalize qs[j] = x at *
        generalize rs[j]'(by omega) = y at *
        by_cases hx : x = y
        · have kx : (x != y) = false := by simp [hx]
          have HT := Lib.hid (hts hx)
          clear hts hxy htk hx
          go_wp2_with fail
          go_quiet (fail)
          go_wp2_with fail
          exact ⟨⟨j + 1, by go_num, by omega, HT.out, _, rfl⟩, by simp [RowKit.intOf]; omega⟩
        · have kx : (x != y) = true := by simp [hx]
          have HT := Lib.hid (hxy hx)
          clear hts hxy htk hx
          go_wp2_with fail
          go_quiet (fail)
          go_wp2_with fail
          go_ret
          exact ⟨by rw [decide_eq_false HT.out]; rfl, _, World.drewN_drewN _ _ _⟩
      · have e : j = qs.length := by omega
        subst e
        rw [List.take_length, hlen, List.take_length] at htk
        have HT := Lib.hid htk
        clear htk
        go_wp2_with fail
        go_ret
        exact ⟨by rw [decide_eq_true HT.out]; rfl, n, rfl⟩
  · have k0 : ((qs.length : Int) != (rs.length : Int)) = true := by simp; omega
    go_enter Try.func21, Try.ntmps21
    go_wp2_with fail
    go_ret
    exact ⟨by rw [decide_eq_false (fun e => hlen (by rw [e]))]; rfl, 0, rfl⟩
end Go.Proofs.Ytpimdmjhnogelaa.Char
