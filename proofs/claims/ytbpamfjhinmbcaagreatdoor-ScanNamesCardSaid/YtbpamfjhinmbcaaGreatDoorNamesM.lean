/- NamesM -/
import Derived.Test.YtbpamfjhinmbcaaGreatDoorLawPieces
import Derived.Test.YtbpamfjhinmbcaaGreatDoorPkPieces
import Derived.Test.YtbpamfjhinmbcaaGreatDoorEncTx
/- Mathematics without a program: what holds of every piece: its name is a name, no attribute stands twice, all is of characters. -/
namespace Go.Proofs.YtbpamfjhinmbcaaGreatDoor.Char
open Go.Lib

/-- an error is none of 0 -/
theorem scanN_errne : ∀ (n : Nat) (r : List UInt8) (acc : List Tk) (e : Nat), scanN n r acc = .inl e → e ≠ 0
  | 0, _, _, _, h => by cases h
  | n + 1, r, acc, e, h => by
    unfold scanN at h
    split at h
    · cases h
    · cases ho : oneP r with
      | inl e1 =>
        rw [ho] at h
        cases h
        exact oneP_err ho
      | inr y =>
        obtain ⟨t, rest⟩ := y
        rw [ho] at h
        exact scanN_errne n rest _ e h
theorem scanF_errne {r : List UInt8} {acc : List Tk} {e : Nat} (h : scanF r acc = .inl e) : e ≠ 0 := scanN_errne _ _ _ _ h
/-- a piece as it should be -/
structure GdT (t : Tk) : Prop where
  nm : t.kd ≠ 3 → t.kd ≠ 4 → nmD (bs t.nm) = true
  tx : txD t.tx = true
  tl : t.tx.length ≤ 16000
  ats : ∀ a, a ∈ t.ats → nmD (bs a.1) = true
  nd : (t.ats.map (·.1)).Nodup
theorem nmE_ok {r : List UInt8} (h : ¬ nmE r ≠ 0) : nmD (bs (r.take (runL r))) = true := by
  unfold nmE at h
  split at h
  · rename_i h1; exact h1
  · split at h <;> simp at h
theorem attrL_name {r m t : List UInt8} {k : Nat} (h : attrL r = .inr (m, t, k)) : nmD (bs m) = true := by
  unfold attrL at h
  split at h
  · cases h
  · rename_i hn
    split at h
    · cases h
    · unfold attrL.valL attrL.quoL at h
      split at h
      · cases h
      · split at h
        · cases h
        · split at h
          · cases h
          · split at h
            · cases h
            · simp only [Sum.inr.injEq, Prod.mk.injEq] at h
              rw [← h.1]
              exact nmE_ok hn
theorem tagN_good : ∀ (n : Nat) (r : List UInt8) (qs qs' : List At2) (em : Bool) (rest : List UInt8), (∀ a, a ∈ qs → nmD (bs a.1) = true) → (qs.map (·.1)).Nodup → tagN n r qs = .inr (qs', em, rest) → (∀ a, a ∈ qs' → nmD (bs a.1) = true) ∧ (qs'.map (·.1)).Nodup
  | 0, _, _, _, _, _, _, _, h => by cases h
  | n + 1, r, qs, qs', em, rest, hq, hd0, h => by
    unfold tagN at h
    cases hd : r.drop (spcL r) with
    | nil => rw [hd] at h; cases h
    | cons c r2 =>
      rw [hd] at h
      dsimp only at h
      split at h
      · simp only [Sum.inr.injEq, Prod.mk.injEq] at h
        rw [← h.1]; exact ⟨hq, hd0⟩
      · split at h
        · split at h
          · cases h
          · simp only [Sum.inr.injEq, Prod.mk.injEq] at h
            rw [← h.1]; exact ⟨hq, hd0⟩
        · split at h
          · cases h
          · cases ha : attrL (c :: r2) with
            | inl e => rw [ha] at h; cases h
            | inr x =>
              obtain ⟨m, t, k⟩ := x
              rw [ha] at h
              dsimp only at h
              split at h
              · cases h
              · rename_i hc
                split at h
                · cases h
                · refine tagN_good n _ _ _ _ _ ?_ ?_ h
                  · intro a hx
                    rw [List.mem_append, List.mem_singleton] at hx
                    rcases hx with hx | rfl
                    · exact hq a hx
                    · exact attrL_name ha
                  · rw [List.map_append, List.nodup_append]
                    refine ⟨hd0, by simp, ?_⟩
                    intro a hx b hb
                    simp only [List.map_cons, List.map_nil, List.mem_singleton] at hb
                    subst hb
                    rintro rfl
                    exact hc (by simpa using hx)
theorem tx_lt {r : List UInt8} (h : txD r = true) : txD (r.take (ltL r)) = true := by
  have e : r.take (ltL r) = r.takeWhile noL := (List.prefix_iff_eq_take.1 (List.takeWhile_prefix noL)).symm
  rw [e]
  have hs := List.takeWhile_append_dropWhile (p := noL) (l := r)
  have ha : asc0 (r.dropWhile noL) = true := by
    cases hq : r.dropWhile noL with
    | nil => rfl
    | cons x u =>
      have := List.head?_dropWhile_not noL r
      rw [hq] at this
      simp [noL] at this
      rw [this]; rfl
  rw [← hs, tx_split _ _ _ (Nat.le_refl _) ha, Bool.and_eq_true] at h
  exact h.1
theorem oneP_good {r : List UInt8} {t : Tk} {rest : List UInt8} (hl : r.length ≤ 4000) (ht : txD r = true) (h : oneP r = .inr (t, rest)) : GdT t := by
  unfold oneP at h
  split at h
  · rename_i hp
    have hd := tx_take (m := [60, 33, 45, 45]) (by decide) hp ht
    change txD (r.drop 4) = true at hd
    have hl2 : (r.drop 4).length ≤ 4000 := by rw [List.length_drop]; omega
    generalize r.drop 4 = u at *
    unfold comP at h
    split at h
    · cases h
    · rename_i hi
      split at h
      · simp only [Sum.inr.injEq, Prod.mk.injEq] at h
        rw [← h.1]
        obtain ⟨i, hi2⟩ := idx_natP hi
        rw [hi2, Int.toNat_natCast]
        refine ⟨fun _ h4 => absurd rfl h4, (tx_cut (m := [45, 45]) (by simp) (by decide) hi2 hd).1, ?_, (fun a ha => by cases ha), by simp⟩
        dsimp only
        rw [List.length_take]; omega
      · cases h
  · split at h
    · rename_i hp
      have hd := tx_take (m := [60, 33, 91, 67, 68, 65, 84, 65, 91]) (by decide) hp ht
      change txD (r.drop 9) = true at hd
      have hl2 : (r.drop 9).length ≤ 4000 := by rw [List.length_drop]; omega
      generalize r.drop 9 = u at *
      unfold datP at h
      split at h
      · cases h
      · rename_i hi
        simp only [Sum.inr.injEq, Prod.mk.injEq] at h
        rw [← h.1]
        obtain ⟨i, hi2⟩ := idx_natP hi
        rw [hi2, Int.toNat_natCast]
        refine ⟨fun h3 => absurd rfl h3, (tx_cut (m := [93, 93, 62]) (by simp) (by decide) hi2 hd).1, ?_, (fun a ha => by cases ha), by simp⟩
        dsimp only
        rw [List.length_take]; omega
    · split at h
      · rename_i hp
        have hd := tx_take (m := [60, 63]) (by decide) hp ht
        change txD (r.drop 2) = true at hd
        have hl2 : (r.drop 2).length ≤ 4000 := by rw [List.length_drop]; omega
        generalize r.drop 2 = u at *
        unfold insP at h
        split at h
        · cases h
        · rename_i hi
          obtain ⟨i, hi2⟩ := idx_natP hi
          rw [hi2, Int.toNat_natCast] at h
          have hc := (tx_cut (m := [63, 62]) (by simp) (by decide) hi2 hd).1
          have hl3 : (u.take i).length ≤ 4000 := by rw [List.length_take]; omega
          generalize u.take i = s at *
          split at h
          · cases h
          · rename_i hpi
            simp only [Sum.inr.injEq, Prod.mk.injEq] at h
            rw [← h.1]
            unfold piL at hpi
            split at hpi
            · cases hpi
            · rename_i hnm
              split at hpi
              · cases hpi
              · simp only [Sum.inr.injEq, Prod.mk.injEq] at hpi
                rw [← hpi.1, ← hpi.2]
                have k1 := tx_spc (tx_run hc)
                rw [List.drop_drop] at k1
                refine ⟨fun _ _ => ?_, k1, ?_, (fun a ha => by cases ha), by simp⟩
                · rw [not_or] at hnm
                  simpa using hnm.1
                · dsimp only
                  rw [List.length_drop]; omega
      · split at h
        · unfold endP at h
          split at h
          · cases h
          · rename_i hn
            split at h
            · cases h
            · simp only [Sum.inr.injEq, Prod.mk.injEq] at h
              rw [← h.1]
              exact ⟨fun _ _ => nmE_ok hn, rfl, Nat.zero_le _, (fun a ha => by cases ha), by simp⟩
        · split at h
          · cases h
          · split at h
            · unfold staP tagL at h
              split at h
              · cases h
              · rename_i hh
                split at hh
                · cases hh
                · rename_i hn
                  cases hf : tagF ((r.drop 1).drop (runL (r.drop 1))) [] with
                  | inl e => rw [hf] at hh; cases hh
                  | inr y =>
                    obtain ⟨qs1, em1, rest1⟩ := y
                    rw [hf] at hh
                    simp only [Sum.inr.injEq, Prod.mk.injEq] at h hh
                    obtain ⟨k1, k2⟩ := tagN_good _ _ [] _ _ _ (fun a ha => by cases ha) (by simp) hf
                    rw [← h.1, ← hh.2.1, ← hh.1]
                    exact ⟨fun _ _ => nmE_ok hn, rfl, Nat.zero_le _, k1, k2⟩
            · unfold txtP at h
              split at h
              · cases h
              · rename_i h0
                simp only [Sum.inr.injEq, Prod.mk.injEq] at h
                rw [← h.1]
                have hg : getD5 false (r.take (ltL r)) = ((getD5 false (r.take (ltL r))).1, 0) := by
                  rw [Prod.ext_iff]
                  exact ⟨rfl, by simpa using h0⟩
                obtain ⟨k1, k2⟩ := getD5_tx (tx_lt ht) hg
                rw [List.length_take] at k2
                exact ⟨fun h3 => absurd rfl h3, k1, by dsimp only; omega, (fun a ha => by cases ha), by simp⟩
theorem scanL_good {s : List UInt8} {ts : List Tk} (h : scanL s = .inr ts) : ∀ t, t ∈ ts → GdT t := by
  obtain ⟨h1, h2, h3⟩ := scanL_small h
  have hll := lines_le _ s (Nat.le_refl _)
  refine scanN_all GdT (fun r => r.length ≤ 4000 ∧ txD r = true) ?_ _ _ _ _ ⟨by omega, by rw [lines_tx _ s (Nat.le_refl _)]; exact h2⟩ (fun t ht => by cases ht) h3
  rintro r t rest ⟨hr, ht⟩ ho
  refine ⟨oneP_good hr ht ho, ?_, oneP_tx ht ho⟩
  by_cases hne : r = []
  · subst hne
    have : oneP [] = .inr (⟨3, [], [], [], false⟩, []) := by rfl
    rw [this] at ho
    cases ho
    simp
  · have := oneP_lt hne ho
    omega
end Go.Proofs.YtbpamfjhinmbcaaGreatDoor.Char
