/- EncTx -/
import Derived.Test.YtbpamfjhinmbcaaGreatDoorPkMat
import Derived.Lib.TrimUEq
/- Mathematics without a program: a character's bytes are a text; what stands in markup is a text of characters. -/
namespace Go.Proofs.YtbpamfjhinmbcaaGreatDoor.Char
open Go.Lib

theorem isC_bounds {n : Nat} (h : isC (n : Int) = true) : n ≤ 1114111 ∧ ¬ (55296 ≤ n ∧ n ≤ 57343) := by
  unfold isC isL at h
  simp only [inP, Bool.or_eq_true, Bool.and_eq_true, decide_eq_true_eq, Bool.false_eq_true, or_false] at h
  omega
theorem of_mod (k : Nat) (h : k < 256) : (UInt8.ofNat k).toNat = k := by simp; omega
set_option maxHeartbeats 1000000 in
theorem enc_dec {n : Nat} (h : isC (n : Int) = true) : decodeL (encodeRune (n : Int)) = (n, (encodeRune (n : Int)).length) := by
  obtain ⟨hb, hs⟩ := isC_bounds h
  rw [decodeL_N]
  by_cases h1 : n < 128
  · have e : encodeRune (n : Int) = [UInt8.ofNat n] := by
      unfold encodeRune
      rw [encodeRuneZ_one (by omega) (by omega)]
      simp
    rw [e]
    simp only [List.getD_cons_zero, List.length_singleton]
    rw [of_mod _ (by omega)]
    unfold decodeN
    rw [if_pos h1]
  by_cases h2 : n < 2048
  · have e1 : (192 + (n : Int) / 64).toNat = 192 + n / 64 := by omega
    have e2 : (128 + (n : Int) % 64).toNat = 128 + n % 64 := by omega
    have e : encodeRune (n : Int) = [UInt8.ofNat (192 + n / 64), UInt8.ofNat (128 + n % 64)] := by
      unfold encodeRune
      rw [encodeRuneZ_two (by omega) (by omega)]
      simp [e1, e2]
    rw [e]
    have a0 : ([UInt8.ofNat (192 + n / 64), UInt8.ofNat (128 + n % 64)].getD 0 0).toNat = 192 + n / 64 := of_mod _ (by omega)
    have a1 : ([UInt8.ofNat (192 + n / 64), UInt8.ofNat (128 + n % 64)].getD 1 0).toNat = 128 + n % 64 := of_mod _ (by omega)
    rw [a0, a1]
    generalize (List.getD [UInt8.ofNat (192 + n / 64), UInt8.ofNat (128 + n % 64)] 2 0).toNat = b2
    generalize (List.getD [UInt8.ofNat (192 + n / 64), UInt8.ofNat (128 + n % 64)] 3 0).toNat = b3
    simp only [List.length_cons, List.length_nil]
    unfold decodeN
    have q : (192 + n / 64) % 32 * 64 + (128 + n % 64) % 64 = n := by omega
    rw [if_neg (by omega), if_pos (by omega), q, if_pos (by omega)]
  by_cases h3 : n < 65536
  · have e1 : (224 + (n : Int) / 4096).toNat = 224 + n / 4096 := by omega
    have e2 : (128 + (n : Int) / 64 % 64).toNat = 128 + n / 64 % 64 := by omega
    have e3 : (128 + (n : Int) % 64).toNat = 128 + n % 64 := by omega
    have e : encodeRune (n : Int) = [UInt8.ofNat (224 + n / 4096), UInt8.ofNat (128 + n / 64 % 64), UInt8.ofNat (128 + n % 64)] := by
      unfold encodeRune
      rw [encodeRuneZ_three (by omega)]
      simp [e1, e2, e3]
    rw [e]
    have a0 : ([UInt8.ofNat (224 + n / 4096), UInt8.ofNat (128 + n / 64 % 64), UInt8.ofNat (128 + n % 64)].getD 0 0).toNat = 224 + n / 4096 := of_mod _ (by omega)
    have a1 : ([UInt8.ofNat (224 + n / 4096), UInt8.ofNat (128 + n / 64 % 64), UInt8.ofNat (128 + n % 64)].getD 1 0).toNat = 128 + n / 64 % 64 := of_mod _ (by omega)
    have a2 : ([UInt8.ofNat (224 + n / 4096), UInt8.ofNat (128 + n / 64 % 64), UInt8.ofNat (128 + n % 64)].getD 2 0).toNat = 128 + n % 64 := of_mod _ (by omega)
    rw [a0, a1, a2]
    generalize (List.getD [UInt8.ofNat (224 + n / 4096), UInt8.ofNat (128 + n / 64 % 64), UInt8.ofNat (128 + n % 64)] 3 0).toNat = b3
    simp only [List.length_cons, List.length_nil]
    unfold decodeN
    have q : (224 + n / 4096) % 16 * 4096 + (128 + n / 64 % 64) % 64 * 64 + (128 + n % 64) % 64 = n := by omega
    rw [if_neg (by omega), if_neg (by omega), if_pos (by omega), q, if_pos (by omega)]
  · have e1 : (240 + (n : Int) / 262144).toNat = 240 + n / 262144 := by omega
    have e2 : (128 + (n : Int) / 4096 % 64).toNat = 128 + n / 4096 % 64 := by omega
    have e3 : (128 + (n : Int) / 64 % 64).toNat = 128 + n / 64 % 64 := by omega
    have e4 : (128 + (n : Int) % 64).toNat = 128 + n % 64 := by omega
    have e : encodeRune (n : Int) = [UInt8.ofNat (240 + n / 262144), UInt8.ofNat (128 + n / 4096 % 64), UInt8.ofNat (128 + n / 64 % 64), UInt8.ofNat (128 + n % 64)] := by
      unfold encodeRune
      rw [encodeRuneZ_four (by omega) (by omega)]
      simp [e1, e2, e3, e4]
    rw [e]
    have a0 : ([UInt8.ofNat (240 + n / 262144), UInt8.ofNat (128 + n / 4096 % 64), UInt8.ofNat (128 + n / 64 % 64), UInt8.ofNat (128 + n % 64)].getD 0 0).toNat = 240 + n / 262144 := of_mod _ (by omega)
    have a1 : ([UInt8.ofNat (240 + n / 262144), UInt8.ofNat (128 + n / 4096 % 64), UInt8.ofNat (128 + n / 64 % 64), UInt8.ofNat (128 + n % 64)].getD 1 0).toNat = 128 + n / 4096 % 64 := of_mod _ (by omega)
    have a2 : ([UInt8.ofNat (240 + n / 262144), UInt8.ofNat (128 + n / 4096 % 64), UInt8.ofNat (128 + n / 64 % 64), UInt8.ofNat (128 + n % 64)].getD 2 0).toNat = 128 + n / 64 % 64 := of_mod _ (by omega)
    have a3 : ([UInt8.ofNat (240 + n / 262144), UInt8.ofNat (128 + n / 4096 % 64), UInt8.ofNat (128 + n / 64 % 64), UInt8.ofNat (128 + n % 64)].getD 3 0).toNat = 128 + n % 64 := of_mod _ (by omega)
    rw [a0, a1, a2, a3]
    simp only [List.length_cons, List.length_nil]
    unfold decodeN
    have q : (240 + n / 262144) % 8 * 262144 + (128 + n / 4096 % 64) % 64 * 4096 + (128 + n / 64 % 64) % 64 * 64 + (128 + n % 64) % 64 = n := by omega
    rw [if_neg (by omega), if_neg (by omega), if_neg (by omega), if_pos (by omega), q, if_pos (by omega)]
theorem enc_tx {n : Nat} (h : isC (n : Int) = true) : txD (encodeRune (n : Int)) = true := by
  have he := enc_ne (n : Int)
  rw [tx_eq, txL_step _ he, enc_dec h]
  dsimp only
  rw [List.drop_length, h]
  have hb := isC_bounds h
  have hl := List.length_pos_iff.2 he
  rw [if_neg]
  · rfl
  · rintro ⟨rfl, h2⟩
    revert h2
    decide
theorem tw_mem2 (p : UInt8 → Bool) : ∀ (l : List UInt8) (x : UInt8), x ∈ l.takeWhile p → p x = true
  | [], _, h => by simp at h
  | b :: t, x, h => by
    rw [List.takeWhile_cons] at h
    by_cases hb : p b = true
    · rw [if_pos hb, List.mem_cons] at h
      rcases h with rfl | h
      · exact hb
      · exact tw_mem2 p t x h
    · rw [if_neg hb] at h; simp at h
/-- what a reference tells is a character -/
theorem ch_isC {a : List UInt8} {n : Nat} (h : chL a = some n) : isC (n : Int) = true := by
  have hk : ∀ base l, chrN base l = some n → isC (n : Int) = true := fun base l hc => by
    unfold chrN at hc
    split at hc
    · cases hc
    · rw [Option.bind_eq_some_iff] at hc
      obtain ⟨m, _, hm⟩ := hc
      split at hm
      · rename_i hi
        cases hm
        exact hi
      · cases hm
  unfold chL at h
  split at h
  · cases h; decide
  split at h
  · cases h; decide
  split at h
  · cases h; decide
  split at h
  · cases h; decide
  split at h
  · cases h; decide
  split at h
  · exact hk _ _ h
  split at h
  · exact hk _ _ h
  · cases h
theorem stp_c4 {attr : Bool} {l c r : List UInt8} (h : stp attr l = .inr (c, r)) : c.length ≤ 4 := by
  cases l with
  | nil => cases h
  | cons b t =>
    rw [stp_cons] at h
    split at h
    · cases h
    · split at h
      · split at h
        · simp only [Sum.inr.injEq, Prod.mk.injEq] at h
          rw [← h.1]; exact enc_le _
        · cases h
      · split at h
        · simp only [Sum.inr.injEq, Prod.mk.injEq] at h
          rw [← h.1]; simp
        · simp only [Sum.inr.injEq, Prod.mk.injEq] at h
          rw [← h.1]; simp
theorem stp_tx {acc l c r : List UInt8} (h : txD (acc ++ l) = true) (hs : stp false l = .inr (c, r)) : txD (acc ++ c ++ r) = true := by
  cases l with
  | nil => cases hs
  | cons b t =>
    rw [stp_cons] at hs
    split at hs
    · cases hs
    · split at hs
      · rename_i hb
        subst hb
        rw [tx_split _ acc _ (Nat.le_refl _) (by rfl), Bool.and_eq_true] at h
        cases hr : refL t with
        | none => rw [hr] at hs; cases hs
        | some y =>
          obtain ⟨n, r2⟩ := y
          rw [hr] at hs
          simp only [Sum.inr.injEq, Prod.mk.injEq] at hs
          obtain ⟨rfl, rfl⟩ := hs
          unfold refL at hr
          split at hr
          · cases hr
          · rename_i hns
            cases hc : chL (t.takeWhile noS) with
            | none => rw [hc] at hr; cases hr
            | some m =>
              rw [hc] at hr
              simp only [Option.map_some, Option.some.injEq, Prod.mk.injEq] at hr
              obtain ⟨rfl, rfl⟩ := hr
              rw [List.append_assoc, tx_more acc _ h.1, tx_more _ _ (enc_tx (ch_isC hc))]
              have hd : ∃ u, t.dropWhile noS = 59 :: u := by
                cases hq : t.dropWhile noS with
                | nil =>
                  exfalso
                  apply hns
                  rw [List.all_eq_true]
                  intro x hx
                  have h0 := List.takeWhile_append_dropWhile (p := noS) (l := t)
                  rw [hq, List.append_nil] at h0
                  rw [← h0] at hx
                  exact tw_mem2 noS t x hx
                | cons x u =>
                  have := List.head?_dropWhile_not noS t
                  rw [hq] at this
                  simp [noS] at this
                  exact ⟨u, by rw [this]⟩
              obtain ⟨u, hu⟩ := hd
              have ht : t = t.takeWhile noS ++ 59 :: u := by
                conv => lhs; rw [← List.takeWhile_append_dropWhile (p := noS) (l := t), hu]
              have h2 := h.2
              rw [ht, ← List.cons_append, tx_split _ (38 :: t.takeWhile noS) _ (Nat.le_refl _) (by rfl), Bool.and_eq_true] at h2
              rw [hu]
              exact tx_behind [59] u (by decide) h2.2
      · split at hs
        · rename_i hb
          subst hb
          simp only [Sum.inr.injEq, Prod.mk.injEq] at hs
          obtain ⟨rfl, rfl⟩ := hs
          rw [tx_split _ acc _ (Nat.le_refl _) (by rfl), Bool.and_eq_true] at h
          have ht := tx_behind [13] t (by decide) h.2
          rw [List.append_assoc, tx_more acc _ h.1]
          show txD (10 :: _) = true
          rw [tx_ascii 10 _ (by decide)]
          rw [show isC (((10 : UInt8).toNat : Nat) : Int) = true by decide, Bool.true_and]
          split
          · rename_i hp
            exact tx_take (m := [10]) (by decide) hp ht
          · exact ht
        · simp only [Sum.inr.injEq, Prod.mk.injEq] at hs
          obtain ⟨rfl, rfl⟩ := hs
          simpa using h
theorem gL_tx : ∀ (n : Nat) (l acc x : List UInt8), l.length ≤ n → txD (acc ++ l) = true → gL false acc l = (x, 0) → txD x = true ∧ x.length ≤ acc.length + 4 * l.length
  | n, l, acc, x, hn, h, hg => by
    cases hs : stp false l with
    | inl e =>
      by_cases he : e = 0
      · subst he
        rw [gL_end acc hs] at hg
        simp only [Prod.mk.injEq] at hg
        obtain ⟨rfl, _⟩ := hg
        have hl : l = [] := by
          cases l with
          | nil => rfl
          | cons b t =>
            rw [stp_cons] at hs
            split at hs
            · cases hs
            · split at hs
              · split at hs
                · cases hs
                · cases hs
              · split at hs
                · cases hs
                · cases hs
        subst hl
        rw [List.append_nil] at h
        exact ⟨h, by simp⟩
      · rw [gL_err acc hs he] at hg
        simp only [Prod.mk.injEq] at hg
        exact absurd hg.2 he
    | inr y =>
      obtain ⟨c, r⟩ := y
      rw [gL_step acc hs] at hg
      have hl := stp_lt hs
      have h4 := stp_c4 hs
      match n, hn with
      | 0, hn => omega
      | n + 1, hn =>
        obtain ⟨h1, h2⟩ := gL_tx n r (acc ++ c) x (by omega) (stp_tx h hs) hg
        rw [List.length_append] at h2
        exact ⟨h1, by omega⟩
theorem getD5_tx {l x : List UInt8} (h : txD l = true) (hg : getD5 false l = (x, 0)) : txD x = true ∧ x.length ≤ 4 * l.length := by
  rw [get_yes h] at hg
  have := gL_tx _ l [] x (Nat.le_refl _) (by simpa using h) hg
  simpa using this
end Go.Proofs.YtbpamfjhinmbcaaGreatDoor.Char
