/- GrW -/
import Derived.Test.YtognlnjamlhmhaaGreatDoorPkGrS
import Derived.Test.YtognlnjamlhmhaaGreatDoorBegun
import Derived.Test.YtognlnjamlhmhaaGreatDoorBlank
import Derived.Deep.QuietTactic
import Derived.BigQuiet
/- The walks of grown's small functions: top, lastText, leftOut, more, fault, leaf. -/
namespace Go.Proofs.YtognlnjamlhmhaaGreatDoor.Char
open Go.RowKit Go.Lib

set_option maxRecDepth 100000 in
theorem top_any {B H : Nat} {fut : List Nat} {w : World} {vo : Value} {f : Fr} {r : List Fr} (h : GS B H fut w vo (f :: r)) (hl : r.length ≤ 1000) :
    Calls Tryz.prog 34 #[.pointer (some ⟨H + 3, 0, none⟩)] w fun e w' => e = .returned (.pointer (some ⟨f.e, 0, none⟩)) ∧ w' = w := by
  obtain ⟨g, cap, rfl, hc, hg, hk⟩ := h.form (by simp)
  have h0 := hk 0 (by simp)
  simp only [List.length_cons, List.getElem_cons_zero, Nat.add_sub_cancel, Nat.sub_zero] at h0
  have ho : w.cell? ⟨H + 3, 0, none⟩ = some (.slice (some ⟨g, 0, none⟩) (r.length + 1) cap) := by simp [World.cell?, h.ob]
  generalize r.length = m at *
  clear h hk hc hg
  go_enter Tryz.func34, Tryz.ntmps34
  go_wp2_with fail
  go_ret
  exact ⟨rfl, rfl⟩
/-- the last kid's kind, and its text, where they lie -/
def LastAt (w : World) (vk : Value) (ks : List Tr) : Prop := ∃ o j, vk = .slice o ks.length j ∧ ∀ k, ks.getLast? = some k → ∃ g, o = some ⟨g, 0, none⟩ ∧ w.cell? ⟨g, (ks.length - 1) * 5, none⟩ = some (.int .i64 k.kd)
theorem OwnsNd.last {B : Nat} {w : World} {F : Nat → Prop} {v : Value} {ks : List Tr} (h : OwnsNd B w F v ks) : LastAt w v ks := by
  obtain ⟨o, j, rfl⟩ := h.form
  obtain ⟨xs, rfl, h2, _⟩ := h
  refine ⟨o, j, rfl, fun k hk => ?_⟩
  rw [List.getLast?_map] at hk
  have hne : xs ≠ [] := by rintro rfl; cases hk
  have hpos : 0 < xs.length := List.length_pos_iff.2 hne
  rw [List.length_map] at h2 ⊢
  obtain ⟨g, hg, hc, _⟩ := ownsNd_cells h2 (xs.length - 1) (by omega)
  rw [List.getLast?_eq_getElem?, List.getElem?_eq_getElem (by omega)] at hk
  simp only [Option.map_some, Option.some.injEq] at hk
  rw [hk] at hc
  exact ⟨g, hg, hc⟩
theorem LastAt.keep {w w' : World} {vk : Value} {ks : List Tr} (h : LastAt w vk ks) (hb : Below w.heap.size w w') : LastAt w' vk ks := by
  obtain ⟨o, j, e, hk⟩ := h
  refine ⟨o, j, e, fun k hl => ?_⟩
  obtain ⟨g, h1, h2⟩ := hk k hl
  exact ⟨g, h1, (hb.cell (p := ⟨g, (ks.length - 1) * 5, none⟩) (cell_lt h2)).trans h2⟩
set_option maxRecDepth 100000 in
set_option maxHeartbeats 4000000 in
theorem lastText_nil (w : World) (e : Nat) (o : Option Addr) (j : Nat) (hc : w.cell? ⟨e, 4, none⟩ = some (.slice o 0 j)) :
    Calls Tryz.prog 36 #[.pointer (some ⟨e, 0, none⟩)] w fun en w' => en = .returned (.pointer none) ∧ ∃ n, w' = w.drewN n := by
  go_enter Tryz.func36, Tryz.ntmps36
  go_wp2_with fail
  go_quiet (fail)
  go_wp2_with fail
  go_ret
  exact ⟨rfl, _, rfl⟩
theorem wrap_sub1 (m : Nat) (h : m ≤ 1000000) : IntKind.i64.wrap ((m : Int) + 1 - 1) = (m : Int) := by
  rw [Int.add_sub_cancel, IntKind.wrap_i64]
  omega
set_option maxRecDepth 100000 in
set_option maxHeartbeats 4000000 in
theorem lastText_no (w : World) (e g m j : Nat) (c : Int) (hc : w.cell? ⟨e, 4, none⟩ = some (.slice (some ⟨g, 0, none⟩) (m + 1) j)) (h1 : w.cell? ⟨g, m * 5, none⟩ = some (.int .i64 c)) (hl : m ≤ 1000000) (h4 : c ≠ 4) :
    Calls Tryz.prog 36 #[.pointer (some ⟨e, 0, none⟩)] w fun en w' => en = .returned (.pointer none) ∧ ∃ n, w' = w.drewN n := by
  have k1 : ((m : Int) + 1 == 0) = false := by rw [beq_eq_false_iff_ne]; omega
  have k2 := wrap_sub1 m hl
  have k3 : (c != 4) = true := by simpa using h4
  go_enter Tryz.func36, Tryz.ntmps36
  go_wp2_with fail
  go_quiet (fail)
  go_wp2_with fail
  go_ret
  exact ⟨rfl, _, rfl⟩
set_option maxRecDepth 100000 in
set_option maxHeartbeats 4000000 in
theorem lastText_yes (w : World) (e g m j : Nat) (hc : w.cell? ⟨e, 4, none⟩ = some (.slice (some ⟨g, 0, none⟩) (m + 1) j)) (h1 : w.cell? ⟨g, m * 5, none⟩ = some (.int .i64 4)) (hl : m ≤ 1000000) :
    Calls Tryz.prog 36 #[.pointer (some ⟨e, 0, none⟩)] w fun en w' => en = .returned (.pointer (some ⟨g, m * 5, none⟩)) ∧ ∃ n, w' = w.drewN n := by
  have k1 : ((m : Int) + 1 == 0) = false := by rw [beq_eq_false_iff_ne]; omega
  have k2 := wrap_sub1 m hl
  go_enter Tryz.func36, Tryz.ntmps36
  go_wp2_with fail
  go_quiet (fail)
  go_wp2_with fail
  go_quiet (fail)
  go_wp2_with fail
  go_ret
  exact ⟨rfl, _, World.drewN_drewN _ _ _⟩
/-- where the last kid lies, if it is a text -/
def lastP (vk : Value) (ks : List Tr) : Option Addr := if lastTx ks = true then vk.ownBlock.map fun g => ⟨g, (ks.length - 1) * 5, none⟩ else none
theorem lastText_any (w : World) (e : Nat) (vk : Value) (ks : List Tr) (hc : w.cell? ⟨e, 4, none⟩ = some vk) (hk : LastAt w vk ks) (hl : ks.length ≤ 1000000) :
    Calls Tryz.prog 36 #[.pointer (some ⟨e, 0, none⟩)] w fun en w' => en = .returned (.pointer (lastP vk ks)) ∧ ∃ n, w' = w.drewN n := by
  obtain ⟨o, j, rfl, hk⟩ := hk
  unfold lastP lastTx
  cases hg : ks.getLast? with
  | none =>
    have hz : ks.length = 0 := by
      rw [List.getLast?_eq_none_iff] at hg
      rw [hg]; rfl
    rw [hz] at hc
    exact lastText_nil w e o j hc
  | some k =>
    obtain ⟨g, rfl, h1⟩ := hk k hg
    obtain ⟨m, hm⟩ : ∃ m, ks.length = m + 1 := ⟨ks.length - 1, by
      have : ks ≠ [] := by rintro rfl; cases hg
      have := List.length_pos_iff.2 this
      omega⟩
    rw [hm, Nat.add_sub_cancel] at h1
    rw [hm] at hc
    rw [hm, Nat.add_sub_cancel]
    by_cases h4 : k.kd = 4
    · rw [h4] at h1
      rw [if_pos (by simp [h4])]
      exact lastText_yes w e g m j hc h1 (by omega)
    · rw [if_neg (by simpa using h4)]
      exact lastText_no w e g m j k.kd hc h1 (by omega) h4

set_option maxRecDepth 100000 in
set_option maxHeartbeats 4000000 in
theorem leftOut_any (w : World) (kd : Int) (nm tx : List UInt8) (va : Value) (hva : ∃ o i j, va = .slice o i j) (em out : Bool) :
    Calls Tryz.prog 38 #[.agg #[.int .i64 kd, .string (bs nm), .string (bs tx), va, .bool em], .bool out] w fun e w' => e = .returned (.bool (kd == 3 && (tx.isEmpty || (out && tx.all fun c => spC (c.toNat : Int))))) ∧ Below w.heap.size w w' := by
  obtain ⟨o, i, j, rfl⟩ := hva
  have HB := fun (W : World) => Lib.hid (blank_any (bs tx) W)
  simp only [bs_list, blank_bytes _ tx (Nat.le_refl _)] at HB
  obtain ⟨bl, hbl⟩ : ∃ bl, (tx.all fun c => spC (c.toNat : Int)) = bl := ⟨_, rfl⟩
  rw [hbl] at HB ⊢
  clear hbl
  have e1 : ((bs tx).toList == []) = tx.isEmpty := by rw [bs_tl]; cases tx <;> rfl
  generalize tx.isEmpty = emp at *
  have e2 : (bs tx).toList.isEmpty = emp := by rw [← e1]; cases (bs tx).toList <;> rfl
  have hb0 : ∀ o, Below w.heap.size w (w.alloc o) := fun o => (Below.refl _ _).alloc (Nat.le_refl _) _
  have HB0 := Lib.hid hb0
  clear hb0
  obtain ⟨P, hP⟩ : ∃ P : Ending → World → Prop, P = fun e w' => e = .returned (.bool (kd == 3 && (emp || (out && bl)))) ∧ Below w.heap.size w w' := ⟨_, rfl⟩
  rw [← hP]
  have HP := Lib.hid hP
  clear hP
  by_cases h3 : kd = 3
  · subst h3
    cases emp <;> cases out
    · go_enter Tryz.func38, Tryz.ntmps38
      go_wp2_with fail
      rw [HP.out]
      exact ⟨rfl, HB0.out _⟩
    · go_enter Tryz.func38, Tryz.ntmps38
      go_wp2_with (go_at_call 64; refine (HB _).out.mono ?_; rintro e w1 ⟨rfl, hb1⟩)
      rw [HP.out]
      exact ⟨rfl, (HB0.out _).trans (hb1.mono (by simp))⟩
    · go_enter Tryz.func38, Tryz.ntmps38
      go_wp2_with fail
      rw [HP.out]
      exact ⟨rfl, HB0.out _⟩
    · go_enter Tryz.func38, Tryz.ntmps38
      go_wp2_with fail
      rw [HP.out]
      exact ⟨rfl, HB0.out _⟩
  · have k3 : (kd == 3) = false := by simpa using h3
    go_enter Tryz.func38, Tryz.ntmps38
    go_wp2_with fail
    rw [HP.out, k3]
    exact ⟨rfl, HB0.out _⟩
theorem lastP_no {vk : Value} {ks : List Tr} (h : lastTx ks = false) : lastP vk ks = none := by unfold lastP; rw [h]; rfl
theorem lastP_yes {w : World} {vk : Value} {ks : List Tr} (h : lastTx ks = true) (hk : LastAt w vk ks) : ∃ g j, vk = .slice (some ⟨g, 0, none⟩) ks.length j ∧ lastP vk ks = some ⟨g, (ks.length - 1) * 5, none⟩ := by
  obtain ⟨o, j, rfl, hk⟩ := hk
  cases hg : ks.getLast? with
  | none => unfold lastTx at h; rw [hg] at h; cases h
  | some k =>
    obtain ⟨g, rfl, _⟩ := hk k hg
    refine ⟨g, j, rfl, ?_⟩
    unfold lastP
    rw [if_pos h]
    rfl
def moreN (kd : Int) (n : Nat) (ks : List Tr) : Nat := if kd = 1 then 1 + n else if kd = 2 ∨ (kd = 3 ∧ lastTx ks = true) then 0 else 1
set_option maxRecDepth 100000 in
set_option maxHeartbeats 4000000 in
theorem more_any (w : World) (kd : Int) (nm tx : List UInt8) (o : Option Addr) (n j : Nat) (em : Bool) (e : Nat) (vk : Value) (ks : List Tr) (hc : w.cell? ⟨e, 4, none⟩ = some vk) (hk : LastAt w vk ks) (hl : ks.length ≤ 1000000) (hn : n ≤ 1000000) :
    Calls Tryz.prog 39 #[.agg #[.int .i64 kd, .string (bs nm), .string (bs tx), .slice o n j, .bool em], .pointer (some ⟨e, 0, none⟩)] w fun en w' => en = .returned (.int .i64 (moreN kd n ks : Int)) ∧ Below w.heap.size w w' := by
  have hb0 : ∀ o, Below w.heap.size w (w.alloc o) := fun o => (Below.refl _ _).alloc (Nat.le_refl _) _
  have HL := fun o => Lib.hid (lastText_any (w.alloc o) e vk ks (((hb0 o).cell (p := ⟨e, 4, none⟩) (cell_lt hc)).trans hc) (hk.keep (hb0 o)) hl)
  have HB0 := Lib.hid hb0
  have HK := Lib.hid hk
  clear hb0 hc hk
  unfold moreN
  by_cases h1 : kd = 1
  · rw [if_pos h1]
    subst h1
    obtain ⟨P, hP⟩ : ∃ P : Ending → World → Prop, P = fun en w' => en = .returned (.int .i64 ((1 + n : Nat) : Int)) ∧ Below w.heap.size w w' := ⟨_, rfl⟩
    rw [← hP]
    have HP := Lib.hid hP
    clear hP HL
    go_enter Tryz.func39, Tryz.ntmps39
    go_wp2_with fail
    rw [HP.out]
    exact ⟨by go_num, HB0.out _⟩
  · rw [if_neg h1]
    by_cases h2 : kd = 2
    · rw [if_pos (.inl h2)]
      subst h2
      obtain ⟨P, hP⟩ : ∃ P : Ending → World → Prop, P = fun en w' => en = .returned (.int .i64 ((0 : Nat) : Int)) ∧ Below w.heap.size w w' := ⟨_, rfl⟩
      rw [← hP]
      have HP := Lib.hid hP
      clear hP HL
      go_enter Tryz.func39, Tryz.ntmps39
      go_wp2_with fail
      rw [HP.out]
      exact ⟨rfl, HB0.out _⟩
    · by_cases h3 : kd = 3
      · subst h3
        cases ht : lastTx ks with
        | false =>
          rw [if_neg (by simp)]
          simp only [lastP_no ht] at HL
          obtain ⟨P, hP⟩ : ∃ P : Ending → World → Prop, P = fun en w' => en = .returned (.int .i64 ((1 : Nat) : Int)) ∧ Below w.heap.size w w' := ⟨_, rfl⟩
          rw [← hP]
          have HP := Lib.hid hP
          clear hP HK ht
          go_enter Tryz.func39, Tryz.ntmps39
          go_wp2_with (go_at_call 36; refine (HL _).out.mono ?_; rintro en w1 ⟨rfl, m, rfl⟩)
          rw [HP.out]
          exact ⟨rfl, (HB0.out _).trans ⟨rfl, rfl, rfl, Nat.le_refl _, fun _ _ => rfl⟩⟩
        | true =>
          rw [if_pos (.inr ⟨rfl, rfl⟩)]
          obtain ⟨g, j2, hv, hlp⟩ := lastP_yes ht HK.out
          simp only [hlp] at HL
          obtain ⟨P, hP⟩ : ∃ P : Ending → World → Prop, P = fun en w' => en = .returned (.int .i64 ((0 : Nat) : Int)) ∧ Below w.heap.size w w' := ⟨_, rfl⟩
          rw [← hP]
          have HP := Lib.hid hP
          clear hP HK ht hv hlp
          generalize (ks.length - 1) * 5 = z at HL
          go_enter Tryz.func39, Tryz.ntmps39
          go_wp2_with (go_at_call 36; refine (HL _).out.mono ?_; rintro en w1 ⟨rfl, m, rfl⟩)
          rw [HP.out]
          exact ⟨rfl, (HB0.out _).trans ⟨rfl, rfl, rfl, Nat.le_refl _, fun _ _ => rfl⟩⟩
      · rw [if_neg (by simp [h2, h3])]
        obtain ⟨P, hP⟩ : ∃ P : Ending → World → Prop, P = fun en w' => en = .returned (.int .i64 ((1 : Nat) : Int)) ∧ Below w.heap.size w w' := ⟨_, rfl⟩
        rw [← hP]
        have k1 : (kd == 1) = false := by simpa using h1
        have k2 : (kd == 2) = false := by simpa using h2
        have k3 : (kd == 3) = false := by simpa using h3
        have HP := Lib.hid hP
        clear hP HL h1 h2 h3
        go_enter Tryz.func39, Tryz.ntmps39
        go_wp2_with fail
        rw [HP.out]
        exact ⟨rfl, HB0.out _⟩
def faultN (kd : Int) (nm tnm : List UInt8) (m ng : Nat) (sz : Nat) : Nat :=
  if kd = 2 ∧ nm ≠ tnm then 14 else if kd = 2 then 0 else if m = 0 ∧ (kd ≠ 1 ∨ ng ≠ 0) then 17 else if kd = 1 ∧ m = 12 then 18 else if 120 < sz then 19 else 0
set_option maxRecDepth 100000 in
set_option maxHeartbeats 8000000 in
theorem fault_any (w : World) (kd : Int) (nm tx : List UInt8) (va : Value) (hva : ∃ o i j, va = .slice o i j) (em : Bool) (g m cap eg et : Nat) (tnm : List UInt8) (og : Option Addr) (ng cg sz : Nat) (hm : m ≤ 1000) (hz : sz ≤ 1000000)
    (h0 : w.cell? ⟨g, 0, none⟩ = some (.pointer (some ⟨eg, 0, none⟩))) (h1 : w.cell? ⟨g, m, none⟩ = some (.pointer (some ⟨et, 0, none⟩))) (h2 : w.cell? ⟨et, 1, none⟩ = some (.string (bs tnm))) (h3 : w.cell? ⟨eg, 4, none⟩ = some (.slice og ng cg)) :
    Calls Tryz.prog 40 #[.agg #[.int .i64 kd, .string (bs nm), .string (bs tx), va, .bool em], .slice (some ⟨g, 0, none⟩) (m + 1) cap, .int .i64 (sz : Int)] w fun en w' => en = .returned (.int .i64 (faultN kd nm tnm m ng sz : Int)) ∧ Below w.heap.size w w' := by
  obtain ⟨oa, ia, ja, rfl⟩ := hva
  have hb0 : ∀ o n, Below w.heap.size w ((w.alloc o).drewN n) := fun o n => ((Below.refl _ _).alloc (Nat.le_refl _) _).trans ⟨rfl, rfl, rfl, Nat.le_refl _, fun _ _ => rfl⟩
  have HB0 := Lib.hid hb0
  have l0 := cell_lt h0
  have l1 := cell_lt h1
  have l2 := cell_lt h2
  have l3 := cell_lt h3
  dsimp only at l0 l1 l2 l3
  clear hb0
  have kw := wrap_sub1 m (by omega)
  obtain ⟨P, hP⟩ : ∃ P : Ending → World → Prop, P = fun en w' => en = .returned (.int .i64 (faultN kd nm tnm m ng sz : Int)) ∧ Below w.heap.size w w' := ⟨_, rfl⟩
  rw [← hP]
  have HQ : ∀ c : Nat, faultN kd nm tnm m ng sz = c → Hid (∀ w', Below w.heap.size w w' → P (.returned (.int .i64 (c : Int))) w') := fun c hc => Lib.hid (fun w' hw => by rw [hP]; exact ⟨by rw [hc], hw⟩)
  clear hP
  unfold faultN at HQ
  by_cases c2 : kd = 2
  · subst c2
    by_cases cn : nm = tnm
    · have HF : Hid (∀ w', Below w.heap.size w w' → P (.returned (.int .i64 0)) w') := HQ 0 (by simp [cn])
      have e1 : ((bs nm).toList == (bs tnm).toList) = true := by simp [cn]
      clear HQ cn
      go_enter Tryz.func40, Tryz.ntmps40
      go_wp2_with fail
      go_quiet (fail)
      go_wp2_with fail
      go_quiet (fail)
      go_wp2_with fail
      exact HF.out _ (HB0.out _ _)
    · have HF : Hid (∀ w', Below w.heap.size w w' → P (.returned (.int .i64 14)) w') := HQ 14 (by simp [cn])
      have e1 : ((bs nm).toList == (bs tnm).toList) = false := by rw [bs_tl, bs_tl]; simpa using cn
      clear HQ cn
      go_enter Tryz.func40, Tryz.ntmps40
      go_wp2_with fail
      go_quiet (fail)
      go_wp2_with fail
      go_quiet (fail)
      go_wp2_with fail
      simp only [World.drewN_drewN]
      exact HF.out _ (HB0.out _ _)
  · have k2 : (kd == 2) = false := by simpa using c2
    by_cases c17 : m = 0 ∧ (kd ≠ 1 ∨ ng ≠ 0)
    · have HF : Hid (∀ w', Below w.heap.size w w' → P (.returned (.int .i64 17)) w') := HQ 17 (by rw [if_neg (by simp [c2]), if_neg c2, if_pos c17])
      obtain ⟨rfl, c17⟩ := c17
      by_cases c1 : kd = 1
      · subst c1
        have hng : 0 < (ng : Int) := by
          rcases c17 with c | c
          · exact absurd rfl c
          · omega
        clear HQ c17 c2
        go_enter Tryz.func40, Tryz.ntmps40
        go_wp2_with fail
        go_quiet (fail)
        go_wp2_with fail
        go_quiet (fail)
        go_wp2_with fail
        try go_quiet (fail)
        try go_wp2_with fail
        exact HF.out _ (HB0.out _ _)
      · have k1 : (kd == 1) = false := by simpa using c1
        clear HQ c17 c2
        go_enter Tryz.func40, Tryz.ntmps40
        go_wp2_with fail
        go_quiet (fail)
        go_wp2_with fail
        go_quiet (fail)
        go_wp2_with fail
        try go_quiet (fail)
        try go_wp2_with fail
        exact HF.out _ (HB0.out _ _)
    · by_cases c18 : kd = 1 ∧ m = 12
      · have HF : Hid (∀ w', Below w.heap.size w w' → P (.returned (.int .i64 18)) w') := HQ 18 (by rw [if_neg (by simp [c2]), if_neg c2, if_neg c17, if_pos c18])
        obtain ⟨rfl, rfl⟩ := c18
        clear HQ c17 c2
        go_enter Tryz.func40, Tryz.ntmps40
        go_wp2_with fail
        go_quiet (fail)
        go_wp2_with fail
        go_quiet (fail)
        go_wp2_with fail
        exact HF.out _ (HB0.out _ _)
      · by_cases c19 : 120 < sz
        · have HF : Hid (∀ w', Below w.heap.size w w' → P (.returned (.int .i64 19)) w') := HQ 19 (by rw [if_neg (by simp [c2]), if_neg c2, if_neg c17, if_neg c18, if_pos c19])
          clear HQ c2
          by_cases cm : m = 0
          · subst cm
            obtain ⟨rfl, rfl⟩ : kd = 1 ∧ ng = 0 := by
              constructor
              · exact Decidable.byContradiction fun x => c17 ⟨rfl, .inl x⟩
              · exact Decidable.byContradiction fun x => c17 ⟨rfl, .inr x⟩
            clear c17 c18
            go_enter Tryz.func40, Tryz.ntmps40
            go_wp2_with fail
            go_quiet (fail)
            go_wp2_with fail
            go_quiet (fail)
            go_wp2_with fail
            exact HF.out _ (HB0.out _ _)
          · have km : ((m : Int) == 0) = false := by rw [beq_eq_false_iff_ne]; omega
            by_cases k1 : kd = 1
            · subst k1
              have k12 : ((m : Int) == 12) = false := by rw [beq_eq_false_iff_ne]; intro h; exact c18 ⟨rfl, by omega⟩
              clear c17 c18
              go_enter Tryz.func40, Tryz.ntmps40
              go_wp2_with fail
              go_quiet (fail)
              go_wp2_with fail
              go_quiet (fail)
              go_wp2_with fail
              exact HF.out _ (HB0.out _ _)
            · have k1' : (kd == 1) = false := by simpa using k1
              clear c17 c18 k1
              go_enter Tryz.func40, Tryz.ntmps40
              go_wp2_with fail
              go_quiet (fail)
              go_wp2_with fail
              go_quiet (fail)
              go_wp2_with fail
              exact HF.out _ (HB0.out _ _)
        · have HF : Hid (∀ w', Below w.heap.size w w' → P (.returned (.int .i64 0)) w') := HQ 0 (by rw [if_neg (by simp [c2]), if_neg c2, if_neg c17, if_neg c18, if_neg c19])
          clear HQ c2
          by_cases cm : m = 0
          · subst cm
            obtain ⟨rfl, rfl⟩ : kd = 1 ∧ ng = 0 := by
              constructor
              · exact Decidable.byContradiction fun x => c17 ⟨rfl, .inl x⟩
              · exact Decidable.byContradiction fun x => c17 ⟨rfl, .inr x⟩
            clear c17 c18
            go_enter Tryz.func40, Tryz.ntmps40
            go_wp2_with fail
            go_quiet (fail)
            go_wp2_with fail
            go_quiet (fail)
            go_wp2_with fail
            exact HF.out _ (HB0.out _ _)
          · have km : ((m : Int) == 0) = false := by rw [beq_eq_false_iff_ne]; omega
            by_cases k1 : kd = 1
            · subst k1
              have k12 : ((m : Int) == 12) = false := by rw [beq_eq_false_iff_ne]; intro h; exact c18 ⟨rfl, by omega⟩
              clear c17 c18
              go_enter Tryz.func40, Tryz.ntmps40
              go_wp2_with fail
              go_quiet (fail)
              go_wp2_with fail
              go_quiet (fail)
              go_wp2_with fail
              exact HF.out _ (HB0.out _ _)
            · have k1' : (kd == 1) = false := by simpa using k1
              clear c17 c18 k1
              go_enter Tryz.func40, Tryz.ntmps40
              go_wp2_with fail
              go_quiet (fail)
              go_wp2_with fail
              go_quiet (fail)
              go_wp2_with fail
              exact HF.out _ (HB0.out _ _)
/-- a node in its cell is what is returned -/
theorem end_nd {fn : Func} {p : Tmp} (h : fn.results = #[.cell p 26]) {a : Act} {R : Ending → World → Prop} (w1 : World) (g : Nat) {kd : Int} {n t : ByteArray} {va vk : Value} (hva : ∃ o i j, va = .slice o i j) (hvk : ∃ o i j, vk = .slice o i j)
    (hk : w1.cell? ⟨g, 0, none⟩ = some (.int .i64 kd) ∧ w1.cell? ⟨g, 1, none⟩ = some (.string n) ∧ w1.cell? ⟨g, 2, none⟩ = some (.string t) ∧ w1.cell? ⟨g, 3, none⟩ = some va ∧ w1.cell? ⟨g, 4, none⟩ = some vk)
    (hp : a.tmps.getD p undef = .pointer (some ⟨g, 0, none⟩)) (hd : a.defers = []) (hR : R (.returned (.agg #[.int .i64 kd, .string n, .string t, va, vk])) w1) : bodyPost Tryz.prog fn R .ret a w1 := by
  have hp' : a.tmps[p]?.getD undef = .pointer (some ⟨g, 0, none⟩) := by simpa using hp
  obtain ⟨a0, a1, a2, a3, a4⟩ := hk
  obtain ⟨_, _, _, rfl⟩ := hva
  obtain ⟨_, _, _, rfl⟩ := hvk
  exact bodyPost_ret (by simp [results, h, hp', go_sem, a0, a1, a2, a3, a4]) hd hR
/-- likewise, with a number behind -/
theorem end_nd2 {fn : Func} {p q : Tmp} (h : fn.results = #[.cell p 26, .tmp q]) {a : Act} {R : Ending → World → Prop} (w1 : World) (g : Nat) {kd : Int} {n t : ByteArray} {va vk c : Value} (hva : ∃ o i j, va = .slice o i j) (hvk : ∃ o i j, vk = .slice o i j)
    (hk : w1.cell? ⟨g, 0, none⟩ = some (.int .i64 kd) ∧ w1.cell? ⟨g, 1, none⟩ = some (.string n) ∧ w1.cell? ⟨g, 2, none⟩ = some (.string t) ∧ w1.cell? ⟨g, 3, none⟩ = some va ∧ w1.cell? ⟨g, 4, none⟩ = some vk)
    (hp : a.tmps.getD p undef = .pointer (some ⟨g, 0, none⟩)) (hq : a.tmps.getD q undef = c) (hd : a.defers = []) (hR : R (.returned (.tuple #[.agg #[.int .i64 kd, .string n, .string t, va, vk], c])) w1) : bodyPost Tryz.prog fn R .ret a w1 := by
  have hp' : a.tmps[p]?.getD undef = .pointer (some ⟨g, 0, none⟩) := by simpa using hp
  have hq' : a.tmps[q]?.getD undef = c := by simpa using hq
  obtain ⟨a0, a1, a2, a3, a4⟩ := hk
  obtain ⟨_, _, _, rfl⟩ := hva
  obtain ⟨_, _, _, rfl⟩ := hvk
  exact bodyPost_ret (by simp [results, h, hp', hq', go_sem, a0, a1, a2, a3, a4]) hd hR
set_option maxRecDepth 100000 in
set_option maxHeartbeats 4000000 in
theorem leaf_any (w : World) (kd : Int) (nm tx : List UInt8) (va : Value) (hva : ∃ o i j, va = .slice o i j) (em : Bool) (h : kd = 3 ∨ kd = 4 ∨ kd = 5) :
    Calls Tryz.prog 42 #[.agg #[.int .i64 kd, .string (bs nm), .string (bs tx), va, .bool em]] w fun en w' => en = .returned (.agg #[.int .i64 (kd + 1), .string (bs nm), .string (bs tx), .slice none 0 0, .slice none 0 0]) ∧ Below w.heap.size w w' := by
  obtain ⟨oa, ia, ja, rfl⟩ := hva
  have hb0 : ∀ o1 o2 o3, Below w.heap.size w (((w.alloc o1).alloc o2).alloc o3) := fun o1 o2 o3 => (((Below.refl _ _).alloc (Nat.le_refl _) _).alloc (by simp) _).alloc (by simp; omega) _
  have HB0 := Lib.hid hb0
  clear hb0
  rcases h with rfl | rfl | rfl
  all_goals
    go_enter Tryz.func42, Tryz.ntmps42
    go_wp2_with fail
    refine end_nd Tryz.results42 _ (w.heap.size + 1) ⟨_, _, _, rfl⟩ ⟨_, _, _, rfl⟩ ⟨by go_simp, by go_simp, by go_simp, by go_simp, by go_simp⟩ rfl rfl ⟨rfl, ?_⟩
    exact HB0.out _ _ _
end Go.Proofs.YtognlnjamlhmhaaGreatDoor.Char
