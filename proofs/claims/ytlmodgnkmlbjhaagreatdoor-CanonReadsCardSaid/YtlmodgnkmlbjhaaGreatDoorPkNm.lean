import Derived.Test.YtlmodgnkmlbjhaaGreatDoorPkMat
import Derived.Lib.TrimUEq
import Derived.Test.YtlmodgnkmlbjhaaGreatDoorPkScan
import Derived.Test.YtlmodgnkmlbjhaaGreatDoorPkPieces
import Derived.Test.YtlmodgnkmlbjhaaGreatDoorPkGrE
namespace Go.Proofs.YtlmodgnkmlbjhaaGreatDoor
namespace Char
open Go.Lib
theorem isC_bounds {n : Nat} (h : isC (n : Int) = true) : n ≤ 1114111 ∧ ¬ (55296 ≤ n ∧ n ≤ 57343) := by
 unfold isC isL at h
 simp only [inP, Bool.or_eq_true, Bool.and_eq_true, decide_eq_true_eq, Bool.false_eq_true, or_false] at h
 omega
theorem of_mod (k : Nat) (h : k < 256) : (UInt8.ofNat k).toNat = k := by simp; omega
set_option maxHeartbeats 1000000 in
theorem enc_dec {n : Nat} (h : isC (n : Int) = true) : decodeL (encodeRune (n : Int)) = (n, (encodeRune (n : Int)).length) := by
 obtain ⟨hb, hs⟩ := isC_bounds h
 rw [decodeL_N]
 by_cases h1 : n < 128
 ·have e : encodeRune (n : Int) = [UInt8.ofNat n] := by
   unfold encodeRune
   rw [encodeRuneZ_one (by omega) (by omega)]
   simp
  rw [e]
  simp only [List.getD_cons_zero, List.length_singleton]
  rw [of_mod _ (by omega)]
  unfold decodeN
  rw [if_pos h1]
 by_cases h2 : n < 2048
 ·have e1 : (192 + (n : Int) / 64).toNat = 192 + n / 64 := by omega
  have e2 : (128 + (n : Int) % 64).toNat = 128 + n % 64 := by omega
  have e : encodeRune (n : Int) = [UInt8.ofNat (192 + n / 64), UInt8.ofNat (128 + n % 64)] := by
   unfold encodeRune
   rw [encodeRuneZ_two (by omega) (by omega)]
   simp [e1, e2]
  rw [e]
  have a0 : ([UInt8.ofNat (192 + n / 64), UInt8.ofNat (128 + n % 64)].getD 0 0).toNat = 192 + n / 64 := of_mod _ (by omega)
  have a1 : ([UInt8.ofNat (192 + n / 64), UInt8.ofNat (128 + n % 64)].getD 1 0).toNat = 128 + n % 64 := of_mod _ (by omega)
  rw [a0, a1]
  generalize (List.getD [UInt8.ofNat (192 + n / 64), UInt8.ofNat (128 + n % 64)] 2 0).toNat = b2
  generalize (List.getD [UInt8.ofNat (192 + n / 64), UInt8.ofNat (128 + n % 64)] 3 0).toNat = b3
  simp only [List.length_cons, List.length_nil]
  unfold decodeN
  have q : (192 + n / 64) % 32 * 64 + (128 + n % 64) % 64 = n := by omega
  rw [if_neg (by omega), if_pos (by omega), q, if_pos (by omega)]
 by_cases h3 : n < 65536
 ·have e1 : (224 + (n : Int) / 4096).toNat = 224 + n / 4096 := by omega
  have e2 : (128 + (n : Int) / 64 % 64).toNat = 128 + n / 64 % 64 := by omega
  have e3 : (128 + (n : Int) % 64).toNat = 128 + n % 64 := by omega
  have e : encodeRune (n : Int) = [UInt8.ofNat (224 + n / 4096), UInt8.ofNat (128 + n / 64 % 64), UInt8.ofNat (128 + n % 64)] := by
   unfold encodeRune
   rw [encodeRuneZ_three (by omega)]
   simp [e1, e2, e3]
  rw [e]
  have a0 : ([UInt8.ofNat (224 + n / 4096), UInt8.ofNat (128 + n / 64 % 64), UInt8.ofNat (128 + n % 64)].getD 0 0).toNat = 224 + n / 4096 := of_mod _ (by omega)
  have a1 : ([UInt8.ofNat (224 + n / 4096), UInt8.ofNat (128 + n / 64 % 64), UInt8.ofNat (128 + n % 64)].getD 1 0).toNat = 128 + n / 64 % 64 := of_mod _ (by omega)
  have a2 : ([UInt8.ofNat (224 + n / 4096), UInt8.ofNat (128 + n / 64 % 64), UInt8.ofNat (128 + n % 64)].getD 2 0).toNat = 128 + n % 64 := of_mod _ (by omega)
  rw [a0, a1, a2]
  generalize (List.getD [UInt8.ofNat (224 + n / 4096), UInt8.ofNat (128 + n / 64 % 64), UInt8.ofNat (128 + n % 64)] 3 0).toNat = b3
  simp only [List.length_cons, List.length_nil]
  unfold decodeN
  have q : (224 + n / 4096) % 16 * 4096 + (128 + n / 64 % 64) % 64 * 64 + (128 + n % 64) % 64 = n := by omega
  rw [if_neg (by omega), if_neg (by omega), if_pos (by omega), q, if_pos (by omega)]
 ·have e1 : (240 + (n : Int) / 262144).toNat = 240 + n / 262144 := by omega
  have e2 : (128 + (n : Int) / 4096 % 64).toNat = 128 + n / 4096 % 64 := by omega
  have e3 : (128 + (n : Int) / 64 % 64).toNat = 128 + n / 64 % 64 := by omega
  have e4 : (128 + (n : Int) % 64).toNat = 128 + n % 64 := by omega
  have e : encodeRune (n : Int) = [UInt8.ofNat (240 + n / 262144), UInt8.ofNat (128 + n / 4096 % 64), UInt8.ofNat (128 + n / 64 % 64), UInt8.ofNat (128 + n % 64)] := by
   unfold encodeRune
   rw [encodeRuneZ_four (by omega) (by omega)]
   simp [e1, e2, e3, e4]
  rw [e]
  have a0 : ([UInt8.ofNat (240 + n / 262144), UInt8.ofNat (128 + n / 4096 % 64), UInt8.ofNat (128 + n / 64 % 64), UInt8.ofNat (128 + n % 64)].getD 0 0).toNat = 240 + n / 262144 := of_mod _ (by omega)
  have a1 : ([UInt8.ofNat (240 + n / 262144), UInt8.ofNat (128 + n / 4096 % 64), UInt8.ofNat (128 + n / 64 % 64), UInt8.ofNat (128 + n % 64)].getD 1 0).toNat = 128 + n / 4096 % 64 := of_mod _ (by omega)
  have a2 : ([UInt8.ofNat (240 + n / 262144), UInt8.ofNat (128 + n / 4096 % 64), UInt8.ofNat (128 + n / 64 % 64), UInt8.ofNat (128 + n % 64)].getD 2 0).toNat = 128 + n / 64 % 64 := of_mod _ (by omega)
  have a3 : ([UInt8.ofNat (240 + n / 262144), UInt8.ofNat (128 + n / 4096 % 64), UInt8.ofNat (128 + n / 64 % 64), UInt8.ofNat (128 + n % 64)].getD 3 0).toNat = 128 + n % 64 := of_mod _ (by omega)
  rw [a0, a1, a2, a3]
  simp only [List.length_cons, List.length_nil]
  unfold decodeN
  have q : (240 + n / 262144) % 8 * 262144 + (128 + n / 4096 % 64) % 64 * 4096 + (128 + n / 64 % 64) % 64 * 64 + (128 + n % 64) % 64 = n := by omega
  rw [if_neg (by omega), if_neg (by omega), if_neg (by omega), if_pos (by omega), q, if_pos (by omega)]
theorem enc_tx {n : Nat} (h : isC (n : Int) = true) : txD (encodeRune (n : Int)) = true := by
 have he := enc_ne (n : Int)
 rw [tx_eq, txL_step _ he, enc_dec h]
 dsimp only
 rw [List.drop_length, h]
 have hb := isC_bounds h
 have hl := List.length_pos_iff.2 he
 rw [if_neg]
 ·rfl
 ·rintro ⟨rfl, h2⟩
  revert h2
  decide
theorem tw_mem2 (p : UInt8 → Bool) : ∀ (l : List UInt8) (x : UInt8), x ∈ l.takeWhile p → p x = true
 | [], _, h => by simp at h
 | b :: t, x, h => by
  rw [List.takeWhile_cons] at h
  by_cases hb : p b = true
  ·rw [if_pos hb, List.mem_cons] at h
   rcases h with rfl | h
   ·exact hb
   ·exact tw_mem2 p t x h
  ·rw [if_neg hb] at h; simp at h
theorem ch_isC {a : List UInt8} {n : Nat} (h : chL a = some n) : isC (n : Int) = true := by
 have hk : ∀ base l, chrN base l = some n → isC (n : Int) = true := fun base l hc => by
  unfold chrN at hc
  split at hc
  ·cases hc
  ·rw [Option.bind_eq_some_iff] at hc
   obtain ⟨m, _, hm⟩ := hc
   split at hm
   ·rename_i hi
    cases hm
    exact hi
   ·cases hm
 unfold chL at h
 split at h
 ·cases h; decide
 split at h
 ·cases h; decide
 split at h
 ·cases h; decide
 split at h
 ·cases h; decide
 split at h
 ·cases h; decide
 split at h
 ·exact hk _ _ h
 split at h
 ·exact hk _ _ h
 ·cases h
theorem stp_c4 {attr : Bool} {l c r : List UInt8} (h : stp attr l = .inr (c, r)) : c.length ≤ 4 := by
 cases l with
 | nil => cases h
 | cons b t =>
  rw [stp_cons] at h
  split at h
  ·cases h
  ·split at h
   ·split at h
    ·simp only [Sum.inr.injEq, Prod.mk.injEq] at h
     rw [← h.1]; exact enc_le _
    ·cases h
   ·split at h
    ·simp only [Sum.inr.injEq, Prod.mk.injEq] at h
     rw [← h.1]; simp
    ·simp only [Sum.inr.injEq, Prod.mk.injEq] at h
     rw [← h.1]; simp
theorem stp_tx {acc l c r : List UInt8} (h : txD (acc ++ l) = true) (hs : stp false l = .inr (c, r)) : txD (acc ++ c ++ r) = true := by
 cases l with
 | nil => cases hs
 | cons b t =>
  rw [stp_cons] at hs
  split at hs
  ·cases hs
  ·split at hs
   ·rename_i hb
    subst hb
    rw [tx_split _ acc _ (Nat.le_refl _) (by rfl), Bool.and_eq_true] at h
    cases hr : refL t with
    | none => rw [hr] at hs; cases hs
    | some y =>
     obtain ⟨n, r2⟩ := y
     rw [hr] at hs
     simp only [Sum.inr.injEq, Prod.mk.injEq] at hs
     obtain ⟨rfl, rfl⟩ := hs
     unfold refL at hr
     split at hr
     ·cases hr
     ·rename_i hns
      cases hc : chL (t.takeWhile noS) with
      | none => rw [hc] at hr; cases hr
      | some m =>
       rw [hc] at hr
       simp only [Option.map_some, Option.some.injEq, Prod.mk.injEq] at hr
       obtain ⟨rfl, rfl⟩ := hr
       rw [List.append_assoc, tx_more acc _ h.1, tx_more _ _ (enc_tx (ch_isC hc))]
       have hd : ∃ u, t.dropWhile noS = 59 :: u := by
        cases hq : t.dropWhile noS with
        | nil =>
         exfalso
         apply hns
         rw [List.all_eq_true]
         intro x hx
         have h0 := List.takeWhile_append_dropWhile (p := noS) (l := t)
         rw [hq, List.append_nil] at h0
         rw [← h0] at hx
         exact tw_mem2 noS t x hx
        | cons x u =>
         have := List.head?_dropWhile_not noS t
         rw [hq] at this
         simp [noS] at this
         exact ⟨u, by rw [this]⟩
       obtain ⟨u, hu⟩ := hd
       have ht : t = t.takeWhile noS ++ 59 :: u := by
        conv => lhs; rw [← List.takeWhile_append_dropWhile (p := noS) (l := t), hu]
       have h2 := h.2
       rw [ht, ← List.cons_append, tx_split _ (38 :: t.takeWhile noS) _ (Nat.le_refl _) (by rfl), Bool.and_eq_true] at h2
       rw [hu]
       exact tx_behind [59] u (by decide) h2.2
   ·split at hs
    ·rename_i hb
     subst hb
     simp only [Sum.inr.injEq, Prod.mk.injEq] at hs
     obtain ⟨rfl, rfl⟩ := hs
     rw [tx_split _ acc _ (Nat.le_refl _) (by rfl), Bool.and_eq_true] at h
     have ht := tx_behind [13] t (by decide) h.2
     rw [List.append_assoc, tx_more acc _ h.1]
     show txD (10 :: _) = true
     rw [tx_ascii 10 _ (by decide)]
     rw [show isC (((10 : UInt8).toNat : Nat) : Int) = true by decide, Bool.true_and]
     split
     ·rename_i hp
      exact tx_take (m := [10]) (by decide) hp ht
     ·exact ht
    ·simp only [Sum.inr.injEq, Prod.mk.injEq] at hs
     obtain ⟨rfl, rfl⟩ := hs
     simpa using h
theorem gL_tx : ∀ (n : Nat) (l acc x : List UInt8), l.length ≤ n → txD (acc ++ l) = true → gL false acc l = (x, 0) → txD x = true ∧ x.length ≤ acc.length + 4 * l.length
 | n, l, acc, x, hn, h, hg => by
  cases hs : stp false l with
  | inl e =>
   by_cases he : e = 0
   ·subst he
    rw [gL_end acc hs] at hg
    simp only [Prod.mk.injEq] at hg
    obtain ⟨rfl, _⟩ := hg
    have hl : l = [] := by
     cases l with
     | nil => rfl
     | cons b t =>
      rw [stp_cons] at hs
      split at hs
      ·cases hs
      ·split at hs
       ·split at hs
        ·cases hs
        ·cases hs
       ·split at hs
        ·cases hs
        ·cases hs
    subst hl
    rw [List.append_nil] at h
    exact ⟨h, by simp⟩
   ·rw [gL_err acc hs he] at hg
    simp only [Prod.mk.injEq] at hg
    exact absurd hg.2 he
  | inr y =>
   obtain ⟨c, r⟩ := y
   rw [gL_step acc hs] at hg
   have hl := stp_lt hs
   have h4 := stp_c4 hs
   match n, hn with
   | 0, hn => omega
   | n + 1, hn =>
    obtain ⟨h1, h2⟩ := gL_tx n r (acc ++ c) x (by omega) (stp_tx h hs) hg
    rw [List.length_append] at h2
    exact ⟨h1, by omega⟩
theorem getD5_tx {l x : List UInt8} (h : txD l = true) (hg : getD5 false l = (x, 0)) : txD x = true ∧ x.length ≤ 4 * l.length := by
 rw [get_yes h] at hg
 have := gL_tx _ l [] x (Nat.le_refl _) (by simpa using h) hg
 simpa using this
end Char
namespace Char
open Go.Lib
theorem scanN_errne : ∀ (n : Nat) (r : List UInt8) (acc : List Tk) (e : Nat), scanN n r acc = .inl e → e ≠ 0
 | 0, _, _, _, h => by cases h
 | n + 1, r, acc, e, h => by
  unfold scanN at h
  split at h
  ·cases h
  ·cases ho : oneP r with
   | inl e1 =>
    rw [ho] at h
    cases h
    exact oneP_err ho
   | inr y =>
    obtain ⟨t, rest⟩ := y
    rw [ho] at h
    exact scanN_errne n rest _ e h
theorem scanF_errne {r : List UInt8} {acc : List Tk} {e : Nat} (h : scanF r acc = .inl e) : e ≠ 0 := scanN_errne _ _ _ _ h
structure GdT (t : Tk) : Prop where
 nm : t.kd ≠ 3 → t.kd ≠ 4 → nmD (bs t.nm) = true
 tx : txD t.tx = true
 tl : t.tx.length ≤ 16000
 ats : ∀ a, a ∈ t.ats → nmD (bs a.1) = true
 nd : (t.ats.map (·.1)).Nodup
theorem nmE_ok {r : List UInt8} (h : ¬ nmE r ≠ 0) : nmD (bs (r.take (runL r))) = true := by
 unfold nmE at h
 split at h
 ·rename_i h1; exact h1
 ·split at h <;> simp at h
theorem attrL_name {r m t : List UInt8} {k : Nat} (h : attrL r = .inr (m, t, k)) : nmD (bs m) = true := by
 unfold attrL at h
 split at h
 ·cases h
 ·rename_i hn
  split at h
  ·cases h
  ·unfold attrL.valL attrL.quoL at h
   split at h
   ·cases h
   ·split at h
    ·cases h
    ·split at h
     ·cases h
     ·split at h
      ·cases h
      ·simp only [Sum.inr.injEq, Prod.mk.injEq] at h
       rw [← h.1]
       exact nmE_ok hn
theorem tagN_good : ∀ (n : Nat) (r : List UInt8) (qs qs' : List At2) (em : Bool) (rest : List UInt8), (∀ a, a ∈ qs → nmD (bs a.1) = true) → (qs.map (·.1)).Nodup → tagN n r qs = .inr (qs', em, rest) → (∀ a, a ∈ qs' → nmD (bs a.1) = true) ∧ (qs'.map (·.1)).Nodup
 | 0, _, _, _, _, _, _, _, h => by cases h
 | n + 1, r, qs, qs', em, rest, hq, hd0, h => by
  unfold tagN at h
  cases hd : r.drop (spcL r) with
  | nil => rw [hd] at h; cases h
  | cons c r2 =>
   rw [hd] at h
   dsimp only at h
   split at h
   ·simp only [Sum.inr.injEq, Prod.mk.injEq] at h
    rw [← h.1]; exact ⟨hq, hd0⟩
   ·split at h
    ·split at h
     ·cases h
     ·simp only [Sum.inr.injEq, Prod.mk.injEq] at h
      rw [← h.1]; exact ⟨hq, hd0⟩
    ·split at h
     ·cases h
     ·cases ha : attrL (c :: r2) with
      | inl e => rw [ha] at h; cases h
      | inr x =>
       obtain ⟨m, t, k⟩ := x
       rw [ha] at h
       dsimp only at h
       split at h
       ·cases h
       ·rename_i hc
        split at h
        ·cases h
        ·refine tagN_good n _ _ _ _ _ ?_ ?_ h
         ·intro a hx
          rw [List.mem_append, List.mem_singleton] at hx
          rcases hx with hx | rfl
          ·exact hq a hx
          ·exact attrL_name ha
         ·rw [List.map_append, List.nodup_append]
          refine ⟨hd0, by simp, ?_⟩
          intro a hx b hb
          simp only [List.map_cons, List.map_nil, List.mem_singleton] at hb
          subst hb
          rintro rfl
          exact hc (by simpa using hx)
theorem tx_lt {r : List UInt8} (h : txD r = true) : txD (r.take (ltL r)) = true := by
 have e : r.take (ltL r) = r.takeWhile noL := (List.prefix_iff_eq_take.1 (List.takeWhile_prefix noL)).symm
 rw [e]
 have hs := List.takeWhile_append_dropWhile (p := noL) (l := r)
 have ha : asc0 (r.dropWhile noL) = true := by
  cases hq : r.dropWhile noL with
  | nil => rfl
  | cons x u =>
   have := List.head?_dropWhile_not noL r
   rw [hq] at this
   simp [noL] at this
   rw [this]; rfl
 rw [← hs, tx_split _ _ _ (Nat.le_refl _) ha, Bool.and_eq_true] at h
 exact h.1
theorem oneP_good {r : List UInt8} {t : Tk} {rest : List UInt8} (hl : r.length ≤ 4000) (ht : txD r = true) (h : oneP r = .inr (t, rest)) : GdT t := by
 unfold oneP at h
 split at h
 ·rename_i hp
  have hd := tx_take (m := [60, 33, 45, 45]) (by decide) hp ht
  change txD (r.drop 4) = true at hd
  have hl2 : (r.drop 4).length ≤ 4000 := by rw [List.length_drop]; omega
  generalize r.drop 4 = u at *
  unfold comP at h
  split at h
  ·cases h
  ·rename_i hi
   split at h
   ·simp only [Sum.inr.injEq, Prod.mk.injEq] at h
    rw [← h.1]
    obtain ⟨i, hi2⟩ := idx_natP hi
    rw [hi2, Int.toNat_natCast]
    refine ⟨fun _ h4 => absurd rfl h4, (tx_cut (m := [45, 45]) (by simp) (by decide) hi2 hd).1, ?_, (fun a ha => by cases ha), by simp⟩
    dsimp only
    rw [List.length_take]; omega
   ·cases h
 ·split at h
  ·rename_i hp
   have hd := tx_take (m := [60, 33, 91, 67, 68, 65, 84, 65, 91]) (by decide) hp ht
   change txD (r.drop 9) = true at hd
   have hl2 : (r.drop 9).length ≤ 4000 := by rw [List.length_drop]; omega
   generalize r.drop 9 = u at *
   unfold datP at h
   split at h
   ·cases h
   ·rename_i hi
    simp only [Sum.inr.injEq, Prod.mk.injEq] at h
    rw [← h.1]
    obtain ⟨i, hi2⟩ := idx_natP hi
    rw [hi2, Int.toNat_natCast]
    refine ⟨fun h3 => absurd rfl h3, (tx_cut (m := [93, 93, 62]) (by simp) (by decide) hi2 hd).1, ?_, (fun a ha => by cases ha), by simp⟩
    dsimp only
    rw [List.length_take]; omega
  ·split at h
   ·rename_i hp
    have hd := tx_take (m := [60, 63]) (by decide) hp ht
    change txD (r.drop 2) = true at hd
    have hl2 : (r.drop 2).length ≤ 4000 := by rw [List.length_drop]; omega
    generalize r.drop 2 = u at *
    unfold insP at h
    split at h
    ·cases h
    ·rename_i hi
     obtain ⟨i, hi2⟩ := idx_natP hi
     rw [hi2, Int.toNat_natCast] at h
     have hc := (tx_cut (m := [63, 62]) (by simp) (by decide) hi2 hd).1
     have hl3 : (u.take i).length ≤ 4000 := by rw [List.length_take]; omega
     generalize u.take i = s at *
     split at h
     ·cases h
     ·rename_i hpi
      simp only [Sum.inr.injEq, Prod.mk.injEq] at h
      rw [← h.1]
      unfold piL at hpi
      split at hpi
      ·cases hpi
      ·rename_i hnm
       split at hpi
       ·cases hpi
       ·simp only [Sum.inr.injEq, Prod.mk.injEq] at hpi
        rw [← hpi.1, ← hpi.2]
        have k1 := tx_spc (tx_run hc)
        rw [List.drop_drop] at k1
        refine ⟨fun _ _ => ?_, k1, ?_, (fun a ha => by cases ha), by simp⟩
        ·rw [not_or] at hnm
         simpa using hnm.1
        ·dsimp only
         rw [List.length_drop]; omega
   ·split at h
    ·unfold endP at h
     split at h
     ·cases h
     ·rename_i hn
      split at h
      ·cases h
      ·simp only [Sum.inr.injEq, Prod.mk.injEq] at h
       rw [← h.1]
       exact ⟨fun _ _ => nmE_ok hn, rfl, Nat.zero_le _, (fun a ha => by cases ha), by simp⟩
    ·split at h
     ·cases h
     ·split at h
      ·unfold staP tagL at h
       split at h
       ·cases h
       ·rename_i hh
        split at hh
        ·cases hh
        ·rename_i hn
         cases hf : tagF ((r.drop 1).drop (runL (r.drop 1))) [] with
         | inl e => rw [hf] at hh; cases hh
         | inr y =>
          obtain ⟨qs1, em1, rest1⟩ := y
          rw [hf] at hh
          simp only [Sum.inr.injEq, Prod.mk.injEq] at h hh
          obtain ⟨k1, k2⟩ := tagN_good _ _ [] _ _ _ (fun a ha => by cases ha) (by simp) hf
          rw [← h.1, ← hh.2.1, ← hh.1]
          exact ⟨fun _ _ => nmE_ok hn, rfl, Nat.zero_le _, k1, k2⟩
      ·unfold txtP at h
       split at h
       ·cases h
       ·rename_i h0
        simp only [Sum.inr.injEq, Prod.mk.injEq] at h
        rw [← h.1]
        have hg : getD5 false (r.take (ltL r)) = ((getD5 false (r.take (ltL r))).1, 0) := by
         rw [Prod.ext_iff]
         exact ⟨rfl, by simpa using h0⟩
        obtain ⟨k1, k2⟩ := getD5_tx (tx_lt ht) hg
        rw [List.length_take] at k2
        exact ⟨fun h3 => absurd rfl h3, k1, by dsimp only; omega, (fun a ha => by cases ha), by simp⟩
theorem scanL_good {s : List UInt8} {ts : List Tk} (h : scanL s = .inr ts) : ∀ t, t ∈ ts → GdT t := by
 obtain ⟨h1, h2, h3⟩ := scanL_small h
 have hll := lines_le _ s (Nat.le_refl _)
 refine scanN_all GdT (fun r => r.length ≤ 4000 ∧ txD r = true) ?_ _ _ _ _ ⟨by omega, by rw [lines_tx _ s (Nat.le_refl _)]; exact h2⟩ (fun t ht => by cases ht) h3
 rintro r t rest ⟨hr, ht⟩ ho
 refine ⟨oneP_good hr ht ho, ?_, oneP_tx ht ho⟩
 by_cases hne : r = []
 ·subst hne
  have : oneP [] = .inr (⟨3, [], [], [], false⟩, []) := by rfl
  rw [this] at ho
  cases ho
  simp
 ·have := oneP_lt hne ho
  omega
end Char
namespace Char
open Go.Lib
theorem tagN_eight : ∀ (n : Nat) (r : List UInt8) (qs qs' : List At2) (em : Bool) (rest : List UInt8), qs.length ≤ 8 → tagN n r qs = .inr (qs', em, rest) → qs'.length ≤ 8
 | 0, _, _, _, _, _, _, h => by cases h
 | n + 1, r, qs, qs', em, rest, hq, h => by
  unfold tagN at h
  cases hd : r.drop (spcL r) with
  | nil => rw [hd] at h; cases h
  | cons c r2 =>
   rw [hd] at h
   dsimp only at h
   split at h
   ·simp only [Sum.inr.injEq, Prod.mk.injEq] at h
    rw [← h.1]; exact hq
   ·split at h
    ·split at h
     ·cases h
     ·simp only [Sum.inr.injEq, Prod.mk.injEq] at h
      rw [← h.1]; exact hq
    ·split at h
     ·cases h
     ·cases ha : attrL (c :: r2) with
      | inl e => rw [ha] at h; cases h
      | inr x =>
       obtain ⟨m, t, k⟩ := x
       rw [ha] at h
       dsimp only at h
       split at h
       ·cases h
       ·split at h
        ·cases h
        ·refine tagN_eight n _ _ _ _ _ ?_ h
         rw [List.length_append]
         simp
         omega
theorem oneP_kind {r : List UInt8} {t : Tk} {rest : List UInt8} (h : oneP r = .inr (t, rest)) : (t.kd = 1 ∨ t.kd = 2 ∨ t.kd = 3 ∨ t.kd = 4 ∨ t.kd = 5) ∧ t.ats.length ≤ 8 := by
 unfold oneP at h
 split at h
 ·unfold comP at h
  split at h
  ·cases h
  ·split at h
   ·simp only [Sum.inr.injEq, Prod.mk.injEq] at h
    rw [← h.1]; simp
   ·cases h
 ·split at h
  ·unfold datP at h
   split at h
   ·cases h
   ·simp only [Sum.inr.injEq, Prod.mk.injEq] at h
    rw [← h.1]; simp
  ·split at h
   ·unfold insP at h
    split at h
    ·cases h
    ·split at h
     ·cases h
     ·simp only [Sum.inr.injEq, Prod.mk.injEq] at h
      rw [← h.1]; simp
   ·split at h
    ·unfold endP at h
     split at h
     ·cases h
     ·split at h
      ·cases h
      ·simp only [Sum.inr.injEq, Prod.mk.injEq] at h
       rw [← h.1]; simp
    ·split at h
     ·cases h
     ·split at h
      ·unfold staP tagL at h
       split at h
       ·cases h
       ·rename_i hh
        split at hh
        ·cases hh
        ·cases hf : tagF ((r.drop 1).drop (runL (r.drop 1))) [] with
         | inl e => rw [hf] at hh; cases hh
         | inr y =>
          obtain ⟨qs1, em1, rest1⟩ := y
          rw [hf] at hh
          simp only [Sum.inr.injEq, Prod.mk.injEq] at h hh
          have := tagN_eight _ _ [] _ _ _ (by simp) hf
          rw [← h.1, ← hh.2.1]
          exact ⟨.inl rfl, this⟩
      ·unfold txtP at h
       split at h
       ·cases h
       ·simp only [Sum.inr.injEq, Prod.mk.injEq] at h
        rw [← h.1]; simp
theorem scanL_kind {s : List UInt8} {ts : List Tk} (h : scanL s = .inr ts) : ∀ t, t ∈ ts → (t.kd = 1 ∨ t.kd = 2 ∨ t.kd = 3 ∨ t.kd = 4 ∨ t.kd = 5) ∧ t.ats.length ≤ 8 := by
 obtain ⟨_, _, h3⟩ := scanL_small h
 exact scanN_all _ (fun _ => True) (fun r t rest _ ho => ⟨oneP_kind ho, trivial⟩) _ _ _ _ trivial (fun t ht => by cases ht) h3
theorem scanL_tok {s : List UInt8} {ts : List Tk} (h : scanL s = .inr ts) : ∀ t, t ∈ ts → TkOk t := fun t ht => by
 obtain ⟨h1, h2⟩ := scanL_kind h t ht
 have hg := scanL_good h t ht
 refine ⟨h1, fun h2 hn => ?_, by omega, hg.nd, hg.tl⟩
 have := hg.nm (by omega) (by omega)
 rw [hn] at this
 exact absurd this (by decide)
end Char
end Go.Proofs.YtlmodgnkmlbjhaaGreatDoor
