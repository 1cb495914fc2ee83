/- The walks of the laws FigureAgain, FigureOne. -/
import Derived.Test.YtgfempljihcleaaDoorLawReads
namespace Go.Proofs.YtgfempljihcleaaDoor.Char
open Go.RowKit Go.Lib

set_option maxRecDepth 100000 in
set_option maxHeartbeats 8000000 in
theorem again_law (s : ByteArray) (w : World) (hT : Tabs w) :
    Calls Tryd.prog 6 #[.string s] w fun e w' => e = .returned (.bool true) ∧ Below w.heap.size w w' := by
  have C0 := fun W hW => Lib.hid (works_any W hW)
  have HT := Lib.hid hT
  clear hT
  by_cases hs : 500 < s.size
  · go_enter Tryd.func6, Tryd.ntmps6
    go_wp2_with fail
    refine (C0 _ HT.out).out.mono ?_
    rintro e w1 ⟨rfl, h1⟩
    go_wp2_with fail
    go_ret
    exact ⟨rfl, h1⟩
  · have hs' : s.data.toList.length ≤ 500 := by rw [← size_eq]; omega
    have R1 := fun W hW => read_any s.data.toList W hs' hW
    have hok : okD (readD s.data.toList) := readU_ok _
    generalize readD s.data.toList = X at R1 hok
    rw [bs_of] at R1
    unfold decV at R1
    have C3 := fun W hW => Lib.hid (R1 W hW)
    clear R1 hs'
    have other : outT X ≠ 0 → Calls Tryd.prog 6 #[.string s] w fun e w' => e = .returned (.bool true) ∧ Below w.heap.size w w' := by
      intro hne
      have hnb : (outT X == 0) = false := by rw [beq_eq_false_iff_ne]; exact hne
      clear hne
      go_enter Tryd.func6, Tryd.ntmps6
      go_wp2_with fail
      refine (C3 _ HT.out).out.mono ?_
      rintro e w1 ⟨rfl, h1⟩
      go_wp2_with fail
      refine (C0 _ (HT.out.below (h1.alloc h1.size _))).out.mono ?_
      rintro e w2 ⟨rfl, h2⟩
      go_wp2_with fail
      go_ret
      exact ⟨rfl, (h1.alloc h1.size _).trans (h2.mono (by simp; have := h1.size; omega))⟩
    match X, hok, other, C3 with
    | .nan, _, other, _ => exact other (by decide)
    | .over, _, other, _ => exact other (by decide)
    | .under, _, other, _ => exact other (by decide)
    | .num n, hok, _, C3 =>
      have hb : -9223372036854775807 ≤ n ∧ n ≤ 9223372036854775807 := hok
      have hto : toD 0 n = .num n := toD_out (.num n) hok
      have hrs := read_show (.num n) hok
      have hlen := show_len (.num n) hok
      have C1' := fun W => show_any 0 n W (by omega)
      rw [hto] at C1'
      generalize showB (.num n) = B at C1' hrs hlen
      have C2' := fun W hW => read_any B W (by omega) hW
      rw [hrs] at C2'
      unfold aggV at C1'
      unfold decV outT outV at C2'
      simp only at C2'
      have C1 := fun W => Lib.hid (C1' W)
      have C2 := fun W hW => Lib.hid (C2' W hW)
      have C4 : ∀ W, Tabs W → Hid (Calls Tryd.prog 13 #[.string s] W fun e w' => e = .returned (.agg #[.int .i64 0, .int .i64 n]) ∧ Below W.heap.size W w') := fun W hW => C3 W hW
      clear C1' C2' hrs hlen hto hb hok C3 other
      go_enter Tryd.func6, Tryd.ntmps6
      go_wp2_with fail
      refine (C4 _ HT.out).out.mono ?_
      rintro e w1 ⟨rfl, h1⟩
      obtain ⟨W0, hW0⟩ : ∃ W0, W0 = w1.alloc (Obj.cells #[Value.int IntKind.i64 0, Value.int IntKind.i64 n] 23) := ⟨_, rfl⟩
      have hsz : W0.heap.size = w1.heap.size + 1 := by rw [hW0]; simp
      have a0 : W0.cell? ⟨w1.heap.size, 0, none⟩ = some (.int .i64 0) := by rw [hW0]; go_simp
      have a1 : W0.cell? ⟨w1.heap.size, 1, none⟩ = some (.int .i64 n) := by rw [hW0]; go_simp
      have hbw : Below w.heap.size w W0 := by rw [hW0]; exact h1.alloc h1.size _
      have A0 : ∀ q : KeptT W0, q.at.cell? ⟨w1.heap.size, 0, none⟩ = some (.int .i64 0) := fun q => q.cell a0 (by omega)
      have A1 : ∀ q : KeptT W0, q.at.cell? ⟨w1.heap.size, 1, none⟩ = some (.int .i64 n) := fun q => q.cell a1 (by omega)
      have OK : Hid (∀ q : KeptT W0, Below w.heap.size w q.at) := Lib.hid (fun q => hbw.trans (q.ok.mono hbw.size))
      have HW0 := Lib.hid hW0
      clear hW0 hsz a0 a1 hbw h1 C4
      haveI : Nonempty (KeptT W0) := ⟨⟨W0, Below.refl _ _⟩⟩
      go_wp2_with fail
      rw [← HW0.out]
      refine wp_region_kept (KeptT W0) KeptT.at (by kernel_rfl) (by kernel_rfl) ⟨⟨W0.drew, (Below.refl _ _).drew⟩, rfl⟩ ?_
      repeat (go_big_quiet_step (first
        | (go_at_call 8; rename_i q; with_reducible exact (C1 q.at).out.mono (fun e w' h => ⟨h.1, q.on h.2⟩))
        | (go_at_call 13; rename_i q; with_reducible exact (C2 q.at (HT.out.below (OK.out q))).out.mono (fun e w' h => ⟨h.1, q.on h.2⟩))
        | (go_at_call 10; rename_i q; with_reducible exact (C0 q.at (HT.out.below (OK.out q))).out.mono (fun e w' h => ⟨h.1, q.on h.2⟩))))
      refine wpQuiet_nil ?_
      rintro w' ⟨q, rfl⟩
      go_wp2_with fail
      go_ret
      exact ⟨rfl, OK.out q⟩

theorem show_inj : ∀ x y : Nm, okD x → okD y → showB x = showB y → outT x = outT y ∧ outV x = outV y
  | x, y, hx, hy, h => by
    have hr := congrArg readD h
    rw [read_show x hx, read_show y hy] at hr
    match x, y, hr, h with
    | .num a, .num b, hr, _ =>
      have e : Nm.num a = Nm.num b := hr
      injection e with e
      exact ⟨rfl, e⟩
    | .num a, .nan, hr, _ => cases hr
    | .num a, .over, hr, _ => cases hr
    | .num a, .under, hr, _ => cases hr
    | .nan, .num b, hr, _ => cases hr
    | .over, .num b, hr, _ => cases hr
    | .under, .num b, hr, _ => cases hr
    | .nan, .nan, _, _ => exact ⟨rfl, rfl⟩
    | .over, .over, _, _ => exact ⟨rfl, rfl⟩
    | .under, .under, _, _ => exact ⟨rfl, rfl⟩
    | .nan, .over, _, h => exact absurd h (by decide)
    | .nan, .under, _, h => exact absurd h (by decide)
    | .over, .nan, _, h => exact absurd h (by decide)
    | .over, .under, _, h => exact absurd h (by decide)
    | .under, .nan, _, h => exact absurd h (by decide)
    | .under, .over, _, h => exact absurd h (by decide)
theorem toD_back (t v : Int) (h : rightB t v = true) : t = outT (toD t v) ∧ v = outV (toD t v) := by
  rcases toD_cases t v with ⟨rfl, h2, e, er⟩ | ⟨rfl, rfl, e, er⟩ | ⟨rfl, rfl, e, er⟩ | ⟨rfl, rfl, e, er⟩ | ⟨_, _, _, _, e, er⟩
  · rw [e]; exact ⟨rfl, rfl⟩
  · rw [e]; exact ⟨rfl, rfl⟩
  · rw [e]; exact ⟨rfl, rfl⟩
  · rw [e]; exact ⟨rfl, rfl⟩
  · rw [er] at h; cases h
theorem toD_wrong (t v : Int) (h : rightB t v = false) : toD t v = .nan := by
  rcases toD_cases t v with ⟨rfl, h2, e, er⟩ | ⟨rfl, rfl, e, er⟩ | ⟨rfl, rfl, e, er⟩ | ⟨rfl, rfl, e, er⟩ | ⟨_, _, _, _, e, er⟩
  · rw [er] at h; cases h
  · rw [er] at h; cases h
  · rw [er] at h; cases h
  · rw [er] at h; cases h
  · exact e
end Go.Proofs.YtgfempljihcleaaDoor.Char
