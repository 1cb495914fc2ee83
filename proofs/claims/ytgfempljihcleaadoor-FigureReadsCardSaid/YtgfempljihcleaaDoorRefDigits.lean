/- The walk of the document's own digits as a text. -/
import Derived.Test.YtgfempljihcleaaDoorStr
import Derived.Test.YtgfempljihcleaaDoorLeast
namespace Go.Proofs.YtgfempljihcleaaDoor.Char
open Go.RowKit Go.Lib

def tenB : ByteArray := ⟨#[48, 49, 50, 51, 52, 53, 54, 55, 56, 57]⟩
theorem ten_ext (d : Nat) (h : d < 10) : tenB.extract d (d + 1) = bs [chr d] := by
  rw [← bs_of (tenB.extract d (d + 1)), extract_data]
  match d, h with
  | 0, _ => rfl
  | 1, _ => rfl
  | 2, _ => rfl
  | 3, _ => rfl
  | 4, _ => rfl
  | 5, _ => rfl
  | 6, _ => rfl
  | 7, _ => rfl
  | 8, _ => rfl
  | 9, _ => rfl
theorem ten_slice (d : Nat) (h : d < 10) (wx : World) : (Instr.slice 9 (.string ⟨#[48, 49, 50, 51, 52, 53, 54, 55, 56, 57]⟩) (some (.int .i64 (d : Int))) (some (.int .i64 ((d : Int) + 1))) none).run Tryd.prog wx = .ok (.string (bs [chr d])) wx := by
  have hsz : tenB.size = 10 := rfl
  have := run_slice_string (P := Tryd.prog) wx 9 tenB .i64 .i64 (d : Int) ((d : Int) + 1) Tryd.underlying9 (by omega) (by omega) (by rw [hsz]; omega)
  rw [show (d : Int).toNat = d by omega, show ((d : Int) + 1).toNat = d + 1 by omega, ten_ext d h] at this
  exact this

set_option maxRecDepth 100000 in
set_option maxHeartbeats 4000000 in
theorem refDigits_any (v : Value) (m : Nat) (w : World) (hv : Holds w v (dg m)) (hm : (dg m).length ≤ 20) :
    Calls Tryd.prog 18 #[v, .int .i64 7] w fun e w' => e = .returned (.string (bs (lo (max (dg m).length 7) m))) ∧ w = w' := by
  have hgd := dg_getD
  obtain ⟨a, cap, rfl, hcap, _, hc⟩ := hv
  have hover := fun k h => dg_over m k h
  obtain ⟨n, hn⟩ : ∃ n, (dg m).length = n := ⟨_, rfl⟩
  obtain ⟨R, hR⟩ : ∃ R, bs (lo (max (dg m).length 7) m) = R := ⟨_, rfl⟩
  rw [hR]
  rw [hn] at hcap hc hm hover hR
  rw [hn]
  have HC := Lib.hid hc
  have HGD := Lib.hid hgd
  have HOV := Lib.hid hover
  have HR := Lib.hid hR
  clear hc hgd hover hn hR
  go_enter Tryd.func18, Tryd.ntmps18
  go_wp2_with fail
  go_loop [5, 6] (fun s i => ∃ (k : Nat) (S : ByteArray), i = .int .i64 (k : Int) ∧ s = .string S ∧ k ≤ max n 7 ∧ S.size = k ∧ Hid (S = bs (lo k m))) (fun _ i => 100 - (RowKit.intOf i).toNat)
  case atStart => exact ⟨0, _, rfl, rfl, by omega, rfl, Lib.hid rfl⟩
  case round =>
    obtain ⟨k, S, rfl, rfl, hk, hsz, HS⟩ := hrel
    by_cases hlt : k < n
    · obtain ⟨g, rfl, hg, hcell⟩ := HC.out k hlt
      rw [HGD.out] at hcell
      have hd : m / 10 ^ k % 10 < 10 := Nat.mod_lt _ (by omega)
      have hf := lo_front k m
      generalize m / 10 ^ k % 10 = d at *
      have hsl := ten_slice d hd
      obtain ⟨S', hS'⟩ : ∃ S', S' = bs (lo (k + 1) m) := ⟨_, rfl⟩
      have hs' : S'.size = k + 1 := by rw [hS', bs_size, lo_length]
      have h1 : (bs [chr d]).size = 1 := rfl
      have hadd : ∀ wx, (Op.stringOp .add (bs [chr d]) S).run Tryd.prog wx = .ok (.string S') wx := fun wx => by
        rw [run_string_add wx _ _ (by rw [h1]; omega) (by omega), HS.out, bs_add, hS', hf]
        rfl
      have HS' := Lib.hid hS'
      clear hf hS' HS
      go_wp2_with fail
      go_round
      case rel => exact ⟨k + 1, S', by go_num, rfl, by omega, hs', HS'⟩
      case measure => simp [RowKit.intOf]; omega
    · by_cases h7 : k < 7
      · have hd : m / 10 ^ k % 10 = 0 := (HOV.out k (by omega)).2
        have hf := lo_front k m
        rw [hd] at hf
        obtain ⟨S', hS'⟩ : ∃ S', S' = bs (lo (k + 1) m) := ⟨_, rfl⟩
        have hs' : S'.size = k + 1 := by rw [hS', bs_size, lo_length]
        have hE : (⟨#[48, 49, 50, 51, 52, 53, 54, 55, 56, 57]⟩ : ByteArray).extract 0 1 ++ S = S' := by
          rw [show (⟨#[48, 49, 50, 51, 52, 53, 54, 55, 56, 57]⟩ : ByteArray).extract 0 1 = bs [chr 0] from ten_ext 0 (by omega), HS.out, bs_add, hS', hf]
          rfl
        have HE := Lib.hid hE
        have HS' := Lib.hid hS'
        clear hf hS' HS hd hE
        go_wp2_with fail
        go_round
        case rel => exact ⟨k + 1, S', by go_num, congrArg Value.string HE.out, by omega, hs', HS'⟩
        case measure => simp [RowKit.intOf]; omega
      · obtain rfl : k = max n 7 := by omega
        have hfin : S = R := by rw [HS.out, HR.out]
        subst hfin
        clear HS HR
        go_wp2_with fail
        go_ret
        exact ⟨rfl, rfl⟩
end Go.Proofs.YtgfempljihcleaaDoor.Char
