/- The walk of package dec's Cmp. -/
import Derived.Test.YteooaibbblfmjaaDoorCmp
import Derived.Test.YteooaibbblfmjaaDoorKept
namespace Go.Proofs.YteooaibbblfmjaaDoor.Char
open Go.RowKit

theorem srt_le : ∀ x, srt x ≤ 5
  | .nan => Nat.le_refl _
  | .over => by decide
  | .under => by decide
  | .num n => by
    show (if n < 0 then 1 else if 0 < n then 3 else 2) ≤ 5
    split
    · omega
    · split <;> omega

set_option maxRecDepth 100000 in
set_option maxHeartbeats 8000000 in
theorem cmp_any (t1 v1 t2 v2 : Int) (w : World) :
    Calls Tryd.prog 21 #[aggV t1 v1, aggV t2 v2] w fun e w' => e = .returned (.tuple #[.int .i64 (cmpD (toD t1 v1) (toD t2 v2)).1, .bool (cmpD (toD t1 v1) (toD t2 v2)).2]) ∧ Below w.heap.size w w' := by
  have CA := fun W => Lib.hid (sortOf_any t1 v1 W)
  have CB := fun W => Lib.hid (sortOf_any t2 v2 W)
  have hnan := @cmp_nan (toD t1 v1) (toD t2 v2)
  have hsame : t1 = t2 ∧ v1 = v2 → srt (toD t1 v1) ≠ 5 → cmpD (toD t1 v1) (toD t2 v2) = (0, true) := fun h h5 => by rw [← h.1, ← h.2]; exact cmp_same t1 v1 h5
  have hmath := cmp_math t1 v1 t2 v2
  have hs1 := srt_le (toD t1 v1)
  have hs2 := srt_le (toD t2 v2)
  generalize cmpD (toD t1 v1) (toD t2 v2) = X at *
  generalize srt (toD t1 v1) = s1 at *
  generalize srt (toD t2 v2) = s2 at *
  unfold aggV at CA CB ⊢
  obtain ⟨W0, hW0⟩ : ∃ W0, W0 = (w.alloc (Obj.cells #[Value.int IntKind.i64 t1, Value.int IntKind.i64 v1] 24)).alloc (Obj.cells #[Value.int IntKind.i64 t2, Value.int IntKind.i64 v2] 24) := ⟨_, rfl⟩
  have hsz : W0.heap.size = w.heap.size + 1 + 1 := by rw [hW0]; simp
  have a0 : W0.cell? ⟨w.heap.size, 0, none⟩ = some (.int .i64 t1) := by rw [hW0]; go_simp
  have a1 : W0.cell? ⟨w.heap.size, 1, none⟩ = some (.int .i64 v1) := by rw [hW0]; go_simp
  have b0 : W0.cell? ⟨w.heap.size + 1, 0, none⟩ = some (.int .i64 t2) := by rw [hW0]; go_simp
  have b1 : W0.cell? ⟨w.heap.size + 1, 1, none⟩ = some (.int .i64 v2) := by rw [hW0]; go_simp
  have hbw : Below w.heap.size w W0 := by rw [hW0]; exact ((Below.refl _ _).alloc (Nat.le_refl _) _).alloc (by simp) _
  have A0 : ∀ q : KeptT W0, q.at.cell? ⟨w.heap.size, 0, none⟩ = some (.int .i64 t1) := fun q => q.cell a0 (by omega)
  have A1 : ∀ q : KeptT W0, q.at.cell? ⟨w.heap.size, 1, none⟩ = some (.int .i64 v1) := fun q => q.cell a1 (by omega)
  have B0 : ∀ q : KeptT W0, q.at.cell? ⟨w.heap.size + 1, 0, none⟩ = some (.int .i64 t2) := fun q => q.cell b0 (by omega)
  have B1 : ∀ q : KeptT W0, q.at.cell? ⟨w.heap.size + 1, 1, none⟩ = some (.int .i64 v2) := fun q => q.cell b1 (by omega)
  have OK : Hid (∀ q : KeptT W0, Below w.heap.size w q.at) := Lib.hid (fun q => hbw.trans (q.ok.mono hbw.size))
  have HW0 := Lib.hid hW0
  have HN := Lib.hid hnan
  have HS := Lib.hid hsame
  have HM := Lib.hid hmath
  clear hW0 hsz a0 a1 b0 b1 hbw hnan hsame hmath
  haveI : Nonempty (KeptT W0) := ⟨⟨W0, Below.refl _ _⟩⟩
  go_enter Tryd.func21, Tryd.ntmps21
  go_wp2_with fail
  rw [← HW0.out]
  refine wp_region_kept (KeptT W0) KeptT.at (by kernel_rfl) (by kernel_rfl) ⟨⟨W0.drew, (Below.refl _ _).drew⟩, rfl⟩ ?_
  repeat (go_big_quiet_step (first
    | (go_at_call 19; rename_i q; with_reducible exact (CA q.at).out.mono (fun e w' h => ⟨h.1, q.on h.2⟩))
    | (go_at_call 19; rename_i q; with_reducible exact (CB q.at).out.mono (fun e w' h => ⟨h.1, q.on h.2⟩))))
  refine wpQuiet_nil ?_
  rintro w' ⟨q, rfl⟩
  have a0 := A0 q
  have a1 := A1 q
  have b0 := B0 q
  have b1 := B1 q
  have hbq := OK.out q
  generalize q.at = W1 at *
  clear A0 A1 B0 B1 CA CB OK HW0
  by_cases n1 : s1 = 5
  · have hX := HN.out (.inl n1)
    subst hX n1
    clear HN HS HM hs1 hs2
    go_wp2_with fail
    go_ret2
    exact ⟨rfl, hbq⟩
  · have n1b : ((s1 : Int) == 5) = false := by rw [beq_eq_false_iff_ne]; omega
    by_cases n2 : s2 = 5
    · have hX := HN.out (.inr n2)
      subst hX n2
      clear HN HS HM hs1 hs2 n1
      go_wp2_with fail
      go_ret2
      exact ⟨rfl, hbq⟩
    · have n2b : ((s2 : Int) == 5) = false := by rw [beq_eq_false_iff_ne]; omega
      by_cases he : t1 = t2 ∧ v1 = v2
      · have hX := HS.out he n1
        obtain ⟨rfl, rfl⟩ := he
        subst hX
        clear HN HS HM hs1 hs2 n1 n2
        go_wp2_with fail
        go_ret2
        exact ⟨rfl, hbq⟩
      · have hX := HM.out n1 n2 he
        have hd : (t1 = t2 ∧ (v1 == v2) = false) ∨ (t1 == t2) = false := by
          by_cases ht : t1 = t2
          · exact .inl ⟨ht, by rw [beq_eq_false_iff_ne]; exact fun h => he ⟨ht, h⟩⟩
          · exact .inr (by rw [beq_eq_false_iff_ne]; exact ht)
        clear HN HS HM hs1 hs2 n1 n2 he
        by_cases hl : s1 < s2
        · rw [if_pos (.inl hl)] at hX
          subst hX
          rcases hd with ⟨rfl, hv⟩ | ht
          all_goals
            go_wp2_with fail
            go_ret2
            exact ⟨rfl, hbq⟩
        · by_cases hq : s1 = s2
          · subst hq
            by_cases hlv : v1 < v2
            · rw [if_pos (.inr ⟨rfl, hlv⟩)] at hX
              subst hX
              rcases hd with ⟨rfl, hv⟩ | ht
              all_goals
                go_wp2_with fail
                go_ret2
                exact ⟨rfl, hbq⟩
            · rw [if_neg (fun h => by rcases h with h | h; exact hl h; exact hlv h.2)] at hX
              subst hX
              rcases hd with ⟨rfl, hv⟩ | ht
              all_goals
                go_wp2_with fail
                go_ret2
                exact ⟨rfl, hbq⟩
          · have hqb : ((s1 : Int) == (s2 : Int)) = false := by rw [beq_eq_false_iff_ne]; omega
            rw [if_neg (fun h => by rcases h with h | h; exact hl h; exact hq h.1)] at hX
            subst hX
            clear hq
            rcases hd with ⟨rfl, hv⟩ | ht
            all_goals
              go_wp2_with fail
              go_ret2
              exact ⟨rfl, hbq⟩
end Go.Proofs.YteooaibbblfmjaaDoor.Char
