import Derived.Test.YtlmodgnkmlbjhaaGreatDoorPkRtA
import Derived.Test.YtlmodgnkmlbjhaaGreatDoorPkFit
namespace Go.Proofs.YtlmodgnkmlbjhaaGreatDoor
namespace Char
open Go.RowKit Go.Lib
mutual
def smT (N : Nat) : Tr → Prop
 | .mk _ nm tx ats ks => nm.length ≤ N ∧ tx.length ≤ N ∧ ats.length ≤ 2 ^ 43 ∧ (∀ a, a ∈ ats → a.1.length ≤ N ∧ a.2.length ≤ N) ∧ ks.length ≤ N ∧ smK N ks
def smK (N : Nat) : List Tr → Prop
 | [] => True
 | k :: r => smT N k ∧ smK N r
end
theorem smT_def {N : Nat} {t : Tr} : smT N t ↔ (t.nm.length ≤ N ∧ t.tx.length ≤ N ∧ t.ats.length ≤ 2 ^ 43 ∧ (∀ a, a ∈ t.ats → a.1.length ≤ N ∧ a.2.length ≤ N) ∧ t.ks.length ≤ N ∧ smK N t.ks) := by
 cases t
 rw [smT]
 rfl
theorem smK_at {N : Nat} : ∀ {ks : List Tr}, smK N ks → ∀ k (h : k < ks.length), smT N ks[k]
 | [], _, k, h => by cases h
 | x :: r, hs, 0, _ => by rw [smK] at hs; exact hs.1
 | x :: r, hs, k + 1, h => by
  rw [smK] at hs
  simp only [List.getElem_cons_succ]
  exact smK_at hs.2 k (by simpa using h)
mutual
theorem sm_seq {N : Nat} : ∀ (t : Tr) (lv : Nat), smT N t → ∀ x, x ∈ seqT lv t → smT N x.2
 | .mk kd nm tx ats ks, lv, h, x, hx => by
  rw [seqT] at hx
  split at hx
  ·rcases List.mem_cons.1 hx with rfl | hx
   ·exact h
   ·exact sm_seqK ks (lv + 1) (smT_def.1 h).2.2.2.2.2 x hx
  ·rw [List.mem_singleton] at hx
   subst hx
   exact h
theorem sm_seqK {N : Nat} : ∀ (ks : List Tr) (lv : Nat), smK N ks → ∀ x, x ∈ seqK lv ks → smT N x.2
 | [], lv, _, x, hx => by rw [seqK] at hx; cases hx
 | k :: r, lv, h, x, hx => by
  rw [smK] at h
  rw [seqK, List.mem_append] at hx
  rcases hx with hx | hx
  ·exact sm_seq k lv h.1 x hx
  ·exact sm_seqK r lv h.2 x hx
end
theorem smT.fit {t : Tr} (h : smT 1048576 t) : FitB t := by
 obtain ⟨a, b, c, d, e, _⟩ := smT_def.1 h
 exact ⟨by omega, by omega, by omega, fun x hx => by have := d x hx; omega, by omega⟩
end Char
namespace Char
open Go.Lib
theorem gL_len : ∀ (attr : Bool) (n : Nat) (l acc x : List UInt8), l.length ≤ n → gL attr acc l = (x, 0) → x.length ≤ acc.length + 4 * l.length
 | attr, n, l, acc, x, hn, hg => by
  cases hs : stp attr l with
  | inl e =>
   by_cases he : e = 0
   ·subst he
    rw [gL_end acc hs] at hg
    simp only [Prod.mk.injEq] at hg
    obtain ⟨rfl, _⟩ := hg
    omega
   ·rw [gL_err acc hs he] at hg
    simp only [Prod.mk.injEq] at hg
    exact absurd hg.2 he
  | inr y =>
   obtain ⟨c, r⟩ := y
   rw [gL_step acc hs] at hg
   have hl := stp_lt hs
   have h4 := stp_c4 hs
   match n, hn with
   | 0, hn => omega
   | n + 1, hn =>
    have := gL_len attr n r (acc ++ c) x (by omega) hg
    rw [List.length_append] at this
    omega
theorem getD5_len {attr : Bool} {l : List UInt8} (h : ¬ (getD5 attr l).2 ≠ 0) : (getD5 attr l).1.length ≤ 4 * l.length := by
 cases ht : txD l with
 | false => rw [get_no ht] at h; exact absurd (by simp) h
 | true =>
  have hg : gL attr [] l = ((getD5 attr l).1, 0) := by
   rw [← get_yes ht, Prod.ext_iff]
   exact ⟨rfl, by simpa using h⟩
  have := gL_len attr _ l [] _ (Nat.le_refl _) hg
  simpa using this
theorem oneP_sz {r : List UInt8} {t : Tk} {rest : List UInt8} (h : oneP r = .inr (t, rest)) : t.tx.length + 4 * rest.length ≤ 4 * r.length := by
 have hsl := (oneP_suf h).length_le
 unfold oneP at h
 split at h
 ·unfold comP at h
  split at h
  ·cases h
  ·split at h
   ·simp only [Sum.inr.injEq, Prod.mk.injEq] at h
    obtain ⟨rfl, rfl⟩ := h
    simp only [List.length_take, List.length_drop] at hsl ⊢
    omega
   ·cases h
 ·split at h
  ·unfold datP at h
   split at h
   ·cases h
   ·simp only [Sum.inr.injEq, Prod.mk.injEq] at h
    obtain ⟨rfl, rfl⟩ := h
    simp only [List.length_take, List.length_drop] at hsl ⊢
    omega
  ·split at h
   ·unfold insP at h
    split at h
    ·cases h
    ·split at h
     ·cases h
     ·rename_i hpi
      simp only [Sum.inr.injEq, Prod.mk.injEq] at h
      unfold piL at hpi
      split at hpi
      ·cases hpi
      ·split at hpi
       ·cases hpi
       ·simp only [Sum.inr.injEq, Prod.mk.injEq] at hpi
        obtain ⟨rfl, rfl⟩ := h
        rw [← hpi.2]
        simp only [List.length_take, List.length_drop] at hsl ⊢
        omega
   ·split at h
    ·unfold endP at h
     split at h
     ·cases h
     ·split at h
      ·cases h
      ·simp only [Sum.inr.injEq, Prod.mk.injEq] at h
       obtain ⟨rfl, rfl⟩ := h
       simp only [List.length_nil]
       omega
    ·split at h
     ·cases h
     ·split at h
      ·unfold staP at h
       split at h
       ·cases h
       ·simp only [Sum.inr.injEq, Prod.mk.injEq] at h
        obtain ⟨rfl, rfl⟩ := h
        simp only [List.length_nil]
        omega
      ·unfold txtP at h
       split at h
       ·cases h
       ·rename_i h0
        simp only [Sum.inr.injEq, Prod.mk.injEq] at h
        obtain ⟨rfl, rfl⟩ := h
        have := getD5_len h0
        simp only [List.length_take, List.length_drop] at this hsl ⊢
        omega
def txsum (ts : List Tk) : Nat := (ts.map fun t => t.tx.length).sum
theorem txsum_snoc (ts : List Tk) (t : Tk) : txsum (ts ++ [t]) = txsum ts + t.tx.length := by simp [txsum]
theorem scanN_sum : ∀ (n : Nat) (r : List UInt8) (acc ts : List Tk), scanN n r acc = .inr ts → txsum ts ≤ txsum acc + 4 * r.length
 | 0, r, acc, ts, h => by
  unfold scanN at h
  simp only [Sum.inr.injEq] at h
  rw [← h]; omega
 | n + 1, r, acc, ts, h => by
  unfold scanN at h
  split at h
  ·simp only [Sum.inr.injEq] at h
   rw [← h]; omega
  ·cases ho : oneP r with
   | inl e => rw [ho] at h; cases h
   | inr y =>
    obtain ⟨t, rest⟩ := y
    rw [ho] at h
    have h1 := scanN_sum n rest _ ts h
    have h2 := oneP_sz ho
    rw [txsum_snoc] at h1
    omega
theorem attrL_len {r m t : List UInt8} {k : Nat} (h : attrL r = .inr (m, t, k)) : t.length ≤ 4 * r.length := by
 unfold attrL at h
 split at h
 ·cases h
 ·split at h
  ·cases h
  ·unfold attrL.valL attrL.quoL at h
   split at h
   ·cases h
   ·split at h
    ·cases h
    ·split at h
     ·cases h
     ·split at h
      ·cases h
      ·rename_i h0
       simp only [Sum.inr.injEq, Prod.mk.injEq] at h
       rw [← h.2.1]
       have := getD5_len h0
       simp only [List.length_take, List.length_drop] at this
       omega
theorem tagN_len (M : Nat) : ∀ (n : Nat) (r : List UInt8) (qs qs' : List At2) (em : Bool) (rest : List UInt8), 4 * r.length ≤ M → (∀ a, a ∈ qs → a.2.length ≤ M) → tagN n r qs = .inr (qs', em, rest) → ∀ a, a ∈ qs' → a.2.length ≤ M
 | 0, _, _, _, _, _, _, _, h => by cases h
 | n + 1, r, qs, qs', em, rest, hr, hq, h => by
  unfold tagN at h
  cases hd : r.drop (spcL r) with
  | nil => rw [hd] at h; cases h
  | cons c r2 =>
   have hl : (c :: r2).length ≤ r.length := by rw [← hd, List.length_drop]; omega
   rw [hd] at h
   dsimp only at h
   split at h
   ·simp only [Sum.inr.injEq, Prod.mk.injEq] at h
    rw [← h.1]; exact hq
   ·split at h
    ·split at h
     ·cases h
     ·simp only [Sum.inr.injEq, Prod.mk.injEq] at h
      rw [← h.1]; exact hq
    ·split at h
     ·cases h
     ·cases ha : attrL (c :: r2) with
      | inl e => rw [ha] at h; cases h
      | inr x =>
       obtain ⟨m, t, k⟩ := x
       have hal := attrL_len ha
       rw [ha] at h
       dsimp only at h
       split at h
       ·cases h
       ·split at h
        ·cases h
        ·refine tagN_len M n _ _ _ _ _ (by rw [List.length_drop]; omega) (fun a ha2 => ?_) h
         rw [List.mem_append, List.mem_singleton] at ha2
         rcases ha2 with ha2 | rfl
         ·exact hq a ha2
         ·dsimp only; omega
theorem oneP_atl {r : List UInt8} {t : Tk} {rest : List UInt8} (h : oneP r = .inr (t, rest)) : ∀ a, a ∈ t.ats → a.2.length ≤ 4 * r.length := by
 unfold oneP at h
 split at h
 ·unfold comP at h
  split at h
  ·cases h
  ·split at h
   ·simp only [Sum.inr.injEq, Prod.mk.injEq] at h
    rw [← h.1]; exact fun a ha => by cases ha
   ·cases h
 ·split at h
  ·unfold datP at h
   split at h
   ·cases h
   ·simp only [Sum.inr.injEq, Prod.mk.injEq] at h
    rw [← h.1]; exact fun a ha => by cases ha
  ·split at h
   ·unfold insP at h
    split at h
    ·cases h
    ·split at h
     ·cases h
     ·simp only [Sum.inr.injEq, Prod.mk.injEq] at h
      rw [← h.1]; exact fun a ha => by cases ha
   ·split at h
    ·unfold endP at h
     split at h
     ·cases h
     ·split at h
      ·cases h
      ·simp only [Sum.inr.injEq, Prod.mk.injEq] at h
       rw [← h.1]; exact fun a ha => by cases ha
    ·split at h
     ·cases h
     ·split at h
      ·unfold staP tagL at h
       split at h
       ·cases h
       ·rename_i hh
        split at hh
        ·cases hh
        ·cases hf : tagF ((r.drop 1).drop (runL (r.drop 1))) [] with
         | inl e => rw [hf] at hh; cases hh
         | inr y =>
          obtain ⟨qs1, em1, rest1⟩ := y
          rw [hf] at hh
          simp only [Sum.inr.injEq, Prod.mk.injEq] at h hh
          rw [← h.1, ← hh.2.1]
          exact tagN_len _ _ _ [] _ _ _ (by simp only [List.length_drop]; omega) (fun a ha => by cases ha) hf
      ·unfold txtP at h
       split at h
       ·cases h
       ·simp only [Sum.inr.injEq, Prod.mk.injEq] at h
        rw [← h.1]; exact fun a ha => by cases ha
structure TkS (t : Tk) : Prop where
 nm : t.nm.length ≤ 16000
 al : t.ats.length ≤ 16000
 an : ∀ a, a ∈ t.ats → a.1.length ≤ 16000 ∧ a.2.length ≤ 16000
theorem scanL_short {s : List UInt8} {ts : List Tk} (h : scanL s = .inr ts) : (∀ t, t ∈ ts → TkS t) ∧ txsum ts ≤ 16000 := by
 obtain ⟨h1, h2, h3⟩ := scanL_small h
 have hll := lines_le _ s (Nat.le_refl _)
 have hg := scanL_good h
 have hr := scanL_right h
 have hk := scanL_kind h
 have ha : ∀ t, t ∈ ts → ∀ a, a ∈ t.ats → a.2.length ≤ 16000 := by
  refine scanN_all (fun t => ∀ a, a ∈ t.ats → a.2.length ≤ 16000) (fun r => r.length ≤ 4000) ?_ _ _ _ _ (by omega) (fun t ht => by cases ht) h3
  intro r t rest hr ho
  have := (oneP_suf ho).length_le
  exact ⟨fun a ha => by have := oneP_atl ho a ha; omega, by omega⟩
 refine ⟨fun t ht => ⟨?_, by have := (hk t ht).2; omega, fun a hm => ⟨?_, ha t ht a hm⟩⟩, ?_⟩
 ·by_cases h34 : t.kd = 3 ∨ t.kd = 4
  ·rw [(hr t ht).n3 h34]; simp
  ·rw [not_or] at h34
   have := nmD_le ((hg t ht).nm h34.1 h34.2)
   omega
 ·have := nmD_le ((hg t ht).ats a hm)
  omega
 ·have := scanN_sum _ _ _ _ h3
  have e : txsum [] = 0 := rfl
  omega
mutual
def smA (N : Nat) : Tr → Prop
 | .mk _ nm _ ats ks => nm.length ≤ N ∧ ats.length ≤ N ∧ (∀ a, a ∈ ats → a.1.length ≤ N ∧ a.2.length ≤ N) ∧ smAK N ks
def smAK (N : Nat) : List Tr → Prop
 | [] => True
 | k :: r => smA N k ∧ smAK N r
end
mutual
def txT : Tr → Nat
 | .mk _ _ tx _ ks => tx.length + txK ks
def txK : List Tr → Nat
 | [] => 0
 | k :: r => txT k + txK r
end
theorem smA_def {N : Nat} {t : Tr} : smA N t ↔ (t.nm.length ≤ N ∧ t.ats.length ≤ N ∧ (∀ a, a ∈ t.ats → a.1.length ≤ N ∧ a.2.length ≤ N) ∧ smAK N t.ks) := by
 cases t
 rw [smA]
 rfl
theorem txT_def (t : Tr) : txT t = t.tx.length + txK t.ks := by
 cases t
 rw [txT]
 rfl
theorem smAK_app {N : Nat} : ∀ (a b : List Tr), smAK N (a ++ b) ↔ smAK N a ∧ smAK N b
 | [], b => by rw [List.nil_append, smAK]; simp
 | x :: r, b => by rw [List.cons_append, smAK, smAK, smAK_app r b, and_assoc]
theorem txK_app : ∀ a b : List Tr, txK (a ++ b) = txK a + txK b
 | [], b => by rw [List.nil_append, txK]; omega
 | x :: r, b => by rw [List.cons_append, txK, txK, txK_app r b]; omega
theorem put_sm {N : Nat} {ks : List Tr} {n : Tr} (h : smAK N ks) (hn : smA N n) : smAK N (putK ks n) := by
 have h1 : smAK N [n] := by rw [smAK, smAK]; exact ⟨hn, trivial⟩
 unfold putK
 cases hg : ks.getLast? with
 | none => dsimp only; rw [smAK_app]; exact ⟨h, h1⟩
 | some t =>
  dsimp only
  split
  ·have e := last_split hg
   rw [e, smAK_app, smAK, smAK] at h
   rw [smAK_app, smAK, smAK]
   refine ⟨h.1, ?_, trivial⟩
   have := smA_def.1 h.2.1
   exact smA_def.2 this
  ·rw [smAK_app]; exact ⟨h, h1⟩
theorem put_tx (ks : List Tr) (n : Tr) : txK (putK ks n) ≤ txK ks + txT n := by
 unfold putK
 cases hg : ks.getLast? with
 | none => dsimp only; rw [txK_app, txK, txK]; omega
 | some t =>
  dsimp only
  split
  ·have e := last_split hg
   have h2 : txK ks = txK ks.dropLast + txT t := by
    have := congrArg txK e
    rw [txK_app, txK, txK] at this
    omega
   have h3 := txT_def t
   have h4 := txT_def n
   rw [txK_app, txK, txK, txT, List.length_append]
   omega
  ·rw [txK_app, txK, txK]; omega
def txSt : List Tr → Nat
 | [] => 0
 | t :: r => txT t + txSt r
theorem putT_txS (n : Tr) : ∀ os, txSt (putT n os) ≤ txSt os + txT n
 | [] => by rw [putT, txSt]; omega
 | t :: r => by
  have h1 := put_tx t.ks n
  have h2 := txT_def t
  rw [putT, txSt, txSt, Tr.put, txT]
  omega
theorem putT_smA {N : Nat} {n : Tr} (hn : smA N n) : ∀ {os : List Tr}, (∀ t, t ∈ os → smA N t) → ∀ t, t ∈ putT n os → smA N t
 | [], h => h
 | t :: r, h => by
  intro u hu
  rw [putT, List.mem_cons] at hu
  rcases hu with rfl | hu
  ·obtain ⟨a, b, c, d⟩ := smA_def.1 (h t (by simp))
   exact smA_def.2 ⟨a, b, c, put_sm d hn⟩
  ·exact h u (by simp [hu])
theorem begin_sm {p : Tk} (h : TkS p) : smA 16000 (beginT p) := by
 refine smA_def.2 ⟨h.nm, ?_, fun a ha => h.an a ((perm_sortA p.ats).mem_iff.1 ha), ?_⟩
 ·show (sortA p.ats).length ≤ 16000
  rw [sortA_len]; exact h.al
 ·show smAK 16000 []
  rw [smAK]; trivial
theorem leaf_sm {p : Tk} (h : TkS p) : smA 16000 (leafT p) := smA_def.2 ⟨h.nm, Nat.zero_le _, (fun a ha => by cases ha), by show smAK 16000 []; rw [smAK]; trivial⟩
theorem next_sm {p : Tk} {os : List Tr} (h : TkS p) (ho : ∀ t, t ∈ os → smA 16000 t) : (∀ t, t ∈ nextT p os → smA 16000 t) ∧ txSt (nextT p os) ≤ txSt os + p.tx.length := by
 have hb : txT (beginT p) = 0 := by rw [txT_def]; show 0 + txK [] = 0; rw [txK]
 have hl : txT (leafT p) = p.tx.length := by rw [txT_def]; show p.tx.length + txK [] = _; rw [txK]; omega
 unfold nextT
 split
 ·split
  ·rw [endT]
   have := putT_txS (beginT p) os
   exact ⟨putT_smA (begin_sm h) ho, by omega⟩
  ·refine ⟨fun t ht => ?_, by rw [txSt]; omega⟩
   rcases List.mem_cons.1 ht with rfl | ht
   ·exact begin_sm h
   ·exact ho t ht
 ·split
  ·cases os with
   | nil => exact ⟨ho, by rw [endT]; omega⟩
   | cons t r =>
    rw [endT]
    have := putT_txS t r
    exact ⟨putT_smA (ho t (by simp)) (fun u hu => ho u (by simp [hu])), by rw [txSt]; omega⟩
  ·have := putT_txS (leafT p) os
   exact ⟨putT_smA (leaf_sm h) ho, by omega⟩
theorem run_sm : ∀ (ts : List Tk) (os : List Tr) (sz : Nat) (t : Tr), (∀ p, p ∈ ts → TkS p) → (∀ u, u ∈ os → smA 16000 u) → txSt os + txsum ts ≤ 16000 → runT ts os sz = .inr t → smA 16000 t ∧ txT t ≤ 16000
 | [], os, sz, t, _, ho, hs, h => by
  rw [runT] at h
  unfold finT at h
  split at h
  ·cases h
  ·cases os with
   | nil => cases h
   | cons g r =>
    rw [topT_cons] at h
    have hg := (smA_def.1 (ho g (by simp))).2.2.2
    have hx := txT_def g
    rw [txSt] at hs
    cases hk : g.ks with
    | nil => rw [hk] at h; cases h
    | cons k l =>
     rw [hk] at h hg hx
     cases h
     rw [smAK] at hg
     rw [txK] at hx
     exact ⟨hg.1, by omega⟩
 | p :: r, os, sz, t, hp, ho, hs, h => by
  have hx : txsum (p :: r) = p.tx.length + txsum r := by simp [txsum]
  cases hl : leftT p os with
  | true =>
   rw [run_left hl] at h
   exact run_sm r os sz t (fun q hq => hp q (by simp [hq])) ho (by omega) h
  | false =>
   by_cases hf : faultT p os (sz + moreT p (topT os)) = 0
   ·rw [run_next hl hf] at h
    obtain ⟨n1, n2⟩ := next_sm (hp p (by simp)) ho
    exact run_sm r _ _ t (fun q hq => hp q (by simp [hq])) n1 (by omega) h
   ·rw [run_fault hl hf] at h
    cases h
mutual
theorem sm_of {N : Nat} (hN : N ≤ 2 ^ 43) : ∀ t : Tr, smA N t → txT t ≤ N → cntT t ≤ N → smT N t
 | .mk kd nm tx ats ks, h, hx, hc => by
  obtain ⟨a, b, c, d⟩ := smA_def.1 h
  rw [txT] at hx
  rw [cntT] at hc
  have hl := cntK_len ks
  exact smT_def.2 ⟨a, by show tx.length ≤ N; omega, Nat.le_trans b hN, c, by show ks.length ≤ N; omega, smK_of hN ks d (by omega) (by omega)⟩
theorem smK_of {N : Nat} (hN : N ≤ 2 ^ 43) : ∀ ks : List Tr, smAK N ks → txK ks ≤ N → cntK ks ≤ N → smK N ks
 | [], _, _, _ => by rw [smK]; trivial
 | k :: r, h, hx, hc => by
  rw [smAK] at h
  rw [txK] at hx
  rw [cntK] at hc
  rw [smK]
  exact ⟨sm_of hN k h.1 (by omega) (by omega), smK_of hN r h.2 (by omega) (by omega)⟩
end
mutual
theorem smT_le {N M : Nat} (hNM : N ≤ M) : ∀ t : Tr, smT N t → smT M t
 | .mk kd nm tx ats ks, h => by
  obtain ⟨a, b, c, d, e, f⟩ := smT_def.1 h
  exact smT_def.2 ⟨by omega, by omega, by omega, fun x hx => by have := d x hx; omega, by omega, smK_le hNM ks f⟩
theorem smK_le {N M : Nat} (hNM : N ≤ M) : ∀ ks : List Tr, smK N ks → smK M ks
 | [], _ => by rw [smK]; trivial
 | k :: r, h => by
  rw [smK] at h ⊢
  exact ⟨smT_le hNM k h.1, smK_le hNM r h.2⟩
end
theorem parse_sm {s : List UInt8} {t : Tr} (h : parseL s = .inr t) : smT 1048576 t := by
 have hc := (parse_cnt h).1
 unfold parseL at h
 cases hs : scanL s with
 | inl e => rw [hs] at h; cases h
 | inr ts =>
  rw [hs] at h
  obtain ⟨h1, h2⟩ := scanL_short hs
  obtain ⟨h3, h4⟩ := run_sm ts [grd0] 0 t h1 (fun u hu => by
   rw [List.mem_singleton] at hu
   subst hu
   exact smA_def.2 ⟨Nat.zero_le _, Nat.zero_le _, (fun a ha => by cases ha), by show smAK 16000 []; rw [smAK]; trivial⟩) (by
   have : txSt [grd0] = 0 := by rw [txSt, txSt, txT_def]; show 0 + txK [] + 0 = 0; rw [txK]
   omega) h
  exact smT_le (by omega) t (sm_of (by omega) t h3 h4 (by omega))
end Char
end Go.Proofs.YtlmodgnkmlbjhaaGreatDoor
