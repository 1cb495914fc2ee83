/- TokB LawRights -/
import Derived.Test.YtognlnjamlhmhaaGreatDoorPkRtM
import Derived.Test.YtognlnjamlhmhaaGreatDoorPkRefR
import Derived.Test.YtognlnjamlhmhaaGreatDoorPkLawA
import Derived.Test.YtognlnjamlhmhaaGreatDoorRefSameW
/- Mathematics without a program: how long the texts are of what comes of markup. -/
namespace Go.Proofs.YtognlnjamlhmhaaGreatDoor.Char
open Go.Lib

theorem gL_len : ∀ (attr : Bool) (n : Nat) (l acc x : List UInt8), l.length ≤ n → gL attr acc l = (x, 0) → x.length ≤ acc.length + 4 * l.length
  | attr, n, l, acc, x, hn, hg => by
    cases hs : stp attr l with
    | inl e =>
      by_cases he : e = 0
      · subst he
        rw [gL_end acc hs] at hg
        simp only [Prod.mk.injEq] at hg
        obtain ⟨rfl, _⟩ := hg
        omega
      · rw [gL_err acc hs he] at hg
        simp only [Prod.mk.injEq] at hg
        exact absurd hg.2 he
    | inr y =>
      obtain ⟨c, r⟩ := y
      rw [gL_step acc hs] at hg
      have hl := stp_lt hs
      have h4 := stp_c4 hs
      match n, hn with
      | 0, hn => omega
      | n + 1, hn =>
        have := gL_len attr n r (acc ++ c) x (by omega) hg
        rw [List.length_append] at this
        omega
theorem getD5_len {attr : Bool} {l : List UInt8} (h : ¬ (getD5 attr l).2 ≠ 0) : (getD5 attr l).1.length ≤ 4 * l.length := by
  cases ht : txD l with
  | false => rw [get_no ht] at h; exact absurd (by simp) h
  | true =>
    have hg : gL attr [] l = ((getD5 attr l).1, 0) := by
      rw [← get_yes ht, Prod.ext_iff]
      exact ⟨rfl, by simpa using h⟩
    have := gL_len attr _ l [] _ (Nat.le_refl _) hg
    simpa using this
theorem oneP_sz {r : List UInt8} {t : Tk} {rest : List UInt8} (h : oneP r = .inr (t, rest)) : t.tx.length + 4 * rest.length ≤ 4 * r.length := by
  have hsl := (oneP_suf h).length_le
  unfold oneP at h
  split at h
  · unfold comP at h
    split at h
    · cases h
    · split at h
      · simp only [Sum.inr.injEq, Prod.mk.injEq] at h
        obtain ⟨rfl, rfl⟩ := h
        simp only [List.length_take, List.length_drop] at hsl ⊢
        omega
      · cases h
  · split at h
    · unfold datP at h
      split at h
      · cases h
      · simp only [Sum.inr.injEq, Prod.mk.injEq] at h
        obtain ⟨rfl, rfl⟩ := h
        simp only [List.length_take, List.length_drop] at hsl ⊢
        omega
    · split at h
      · unfold insP at h
        split at h
        · cases h
        · split at h
          · cases h
          · rename_i hpi
            simp only [Sum.inr.injEq, Prod.mk.injEq] at h
            unfold piL at hpi
            split at hpi
            · cases hpi
            · split at hpi
              · cases hpi
              · simp only [Sum.inr.injEq, Prod.mk.injEq] at hpi
                obtain ⟨rfl, rfl⟩ := h
                rw [← hpi.2]
                simp only [List.length_take, List.length_drop] at hsl ⊢
                omega
      · split at h
        · unfold endP at h
          split at h
          · cases h
          · split at h
            · cases h
            · simp only [Sum.inr.injEq, Prod.mk.injEq] at h
              obtain ⟨rfl, rfl⟩ := h
              simp only [List.length_nil]
              omega
        · split at h
          · cases h
          · split at h
            · unfold staP at h
              split at h
              · cases h
              · simp only [Sum.inr.injEq, Prod.mk.injEq] at h
                obtain ⟨rfl, rfl⟩ := h
                simp only [List.length_nil]
                omega
            · unfold txtP at h
              split at h
              · cases h
              · rename_i h0
                simp only [Sum.inr.injEq, Prod.mk.injEq] at h
                obtain ⟨rfl, rfl⟩ := h
                have := getD5_len h0
                simp only [List.length_take, List.length_drop] at this hsl ⊢
                omega
/-- how many bytes the texts of pieces have -/
def txsum (ts : List Tk) : Nat := (ts.map fun t => t.tx.length).sum
theorem txsum_snoc (ts : List Tk) (t : Tk) : txsum (ts ++ [t]) = txsum ts + t.tx.length := by simp [txsum]
theorem scanN_sum : ∀ (n : Nat) (r : List UInt8) (acc ts : List Tk), scanN n r acc = .inr ts → txsum ts ≤ txsum acc + 4 * r.length
  | 0, r, acc, ts, h => by
    unfold scanN at h
    simp only [Sum.inr.injEq] at h
    rw [← h]; omega
  | n + 1, r, acc, ts, h => by
    unfold scanN at h
    split at h
    · simp only [Sum.inr.injEq] at h
      rw [← h]; omega
    · cases ho : oneP r with
      | inl e => rw [ho] at h; cases h
      | inr y =>
        obtain ⟨t, rest⟩ := y
        rw [ho] at h
        have h1 := scanN_sum n rest _ ts h
        have h2 := oneP_sz ho
        rw [txsum_snoc] at h1
        omega
theorem attrL_len {r m t : List UInt8} {k : Nat} (h : attrL r = .inr (m, t, k)) : t.length ≤ 4 * r.length := by
  unfold attrL at h
  split at h
  · cases h
  · split at h
    · cases h
    · unfold attrL.valL attrL.quoL at h
      split at h
      · cases h
      · split at h
        · cases h
        · split at h
          · cases h
          · split at h
            · cases h
            · rename_i h0
              simp only [Sum.inr.injEq, Prod.mk.injEq] at h
              rw [← h.2.1]
              have := getD5_len h0
              simp only [List.length_take, List.length_drop] at this
              omega
theorem tagN_len (M : Nat) : ∀ (n : Nat) (r : List UInt8) (qs qs' : List At2) (em : Bool) (rest : List UInt8), 4 * r.length ≤ M → (∀ a, a ∈ qs → a.2.length ≤ M) → tagN n r qs = .inr (qs', em, rest) → ∀ a, a ∈ qs' → a.2.length ≤ M
  | 0, _, _, _, _, _, _, _, h => by cases h
  | n + 1, r, qs, qs', em, rest, hr, hq, h => by
    unfold tagN at h
    cases hd : r.drop (spcL r) with
    | nil => rw [hd] at h; cases h
    | cons c r2 =>
      have hl : (c :: r2).length ≤ r.length := by rw [← hd, List.length_drop]; omega
      rw [hd] at h
      dsimp only at h
      split at h
      · simp only [Sum.inr.injEq, Prod.mk.injEq] at h
        rw [← h.1]; exact hq
      · split at h
        · split at h
          · cases h
          · simp only [Sum.inr.injEq, Prod.mk.injEq] at h
            rw [← h.1]; exact hq
        · split at h
          · cases h
          · cases ha : attrL (c :: r2) with
            | inl e => rw [ha] at h; cases h
            | inr x =>
              obtain ⟨m, t, k⟩ := x
              have hal := attrL_len ha
              rw [ha] at h
              dsimp only at h
              split at h
              · cases h
              · split at h
                · cases h
                · refine tagN_len M n _ _ _ _ _ (by rw [List.length_drop]; omega) (fun a ha2 => ?_) h
                  rw [List.mem_append, List.mem_singleton] at ha2
                  rcases ha2 with ha2 | rfl
                  · exact hq a ha2
                  · dsimp only; omega
theorem oneP_atl {r : List UInt8} {t : Tk} {rest : List UInt8} (h : oneP r = .inr (t, rest)) : ∀ a, a ∈ t.ats → a.2.length ≤ 4 * r.length := by
  unfold oneP at h
  split at h
  · unfold comP at h
    split at h
    · cases h
    · split at h
      · simp only [Sum.inr.injEq, Prod.mk.injEq] at h
        rw [← h.1]; exact fun a ha => by cases ha
      · cases h
  · split at h
    · unfold datP at h
      split at h
      · cases h
      · simp only [Sum.inr.injEq, Prod.mk.injEq] at h
        rw [← h.1]; exact fun a ha => by cases ha
    · split at h
      · unfold insP at h
        split at h
        · cases h
        · split at h
          · cases h
          · simp only [Sum.inr.injEq, Prod.mk.injEq] at h
            rw [← h.1]; exact fun a ha => by cases ha
      · split at h
        · unfold endP at h
          split at h
          · cases h
          · split at h
            · cases h
            · simp only [Sum.inr.injEq, Prod.mk.injEq] at h
              rw [← h.1]; exact fun a ha => by cases ha
        · split at h
          · cases h
          · split at h
            · unfold staP tagL at h
              split at h
              · cases h
              · rename_i hh
                split at hh
                · cases hh
                · cases hf : tagF ((r.drop 1).drop (runL (r.drop 1))) [] with
                  | inl e => rw [hf] at hh; cases hh
                  | inr y =>
                    obtain ⟨qs1, em1, rest1⟩ := y
                    rw [hf] at hh
                    simp only [Sum.inr.injEq, Prod.mk.injEq] at h hh
                    rw [← h.1, ← hh.2.1]
                    exact tagN_len _ _ _ [] _ _ _ (by simp only [List.length_drop]; omega) (fun a ha => by cases ha) hf
            · unfold txtP at h
              split at h
              · cases h
              · simp only [Sum.inr.injEq, Prod.mk.injEq] at h
                rw [← h.1]; exact fun a ha => by cases ha
/-- what holds of how long things in a piece are -/
structure TkS (t : Tk) : Prop where
  nm : t.nm.length ≤ 16000
  al : t.ats.length ≤ 16000
  an : ∀ a, a ∈ t.ats → a.1.length ≤ 16000 ∧ a.2.length ≤ 16000
theorem scanL_short {s : List UInt8} {ts : List Tk} (h : scanL s = .inr ts) : (∀ t, t ∈ ts → TkS t) ∧ txsum ts ≤ 16000 := by
  obtain ⟨h1, h2, h3⟩ := scanL_small h
  have hll := lines_le _ s (Nat.le_refl _)
  have hg := scanL_good h
  have hr := scanL_right h
  have hk := scanL_kind h
  have ha : ∀ t, t ∈ ts → ∀ a, a ∈ t.ats → a.2.length ≤ 16000 := by
    refine scanN_all (fun t => ∀ a, a ∈ t.ats → a.2.length ≤ 16000) (fun r => r.length ≤ 4000) ?_ _ _ _ _ (by omega) (fun t ht => by cases ht) h3
    intro r t rest hr ho
    have := (oneP_suf ho).length_le
    exact ⟨fun a ha => by have := oneP_atl ho a ha; omega, by omega⟩
  refine ⟨fun t ht => ⟨?_, by have := (hk t ht).2; omega, fun a hm => ⟨?_, ha t ht a hm⟩⟩, ?_⟩
  · by_cases h34 : t.kd = 3 ∨ t.kd = 4
    · rw [(hr t ht).n3 h34]; simp
    · rw [not_or] at h34
      have := nmD_le ((hg t ht).nm h34.1 h34.2)
      omega
  · have := nmD_le ((hg t ht).ats a hm)
    omega
  · have := scanN_sum _ _ _ _ h3
    have e : txsum [] = 0 := rfl
    omega

mutual
/-- names and attributes no longer than so many -/
def smA (N : Nat) : Tr → Prop
  | .mk _ nm _ ats ks => nm.length ≤ N ∧ ats.length ≤ N ∧ (∀ a, a ∈ ats → a.1.length ≤ N ∧ a.2.length ≤ N) ∧ smAK N ks
def smAK (N : Nat) : List Tr → Prop
  | [] => True
  | k :: r => smA N k ∧ smAK N r
end
mutual
/-- how many bytes all texts have -/
def txT : Tr → Nat
  | .mk _ _ tx _ ks => tx.length + txK ks
def txK : List Tr → Nat
  | [] => 0
  | k :: r => txT k + txK r
end
theorem smA_def {N : Nat} {t : Tr} : smA N t ↔ (t.nm.length ≤ N ∧ t.ats.length ≤ N ∧ (∀ a, a ∈ t.ats → a.1.length ≤ N ∧ a.2.length ≤ N) ∧ smAK N t.ks) := by
  cases t
  rw [smA]
  rfl
theorem txT_def (t : Tr) : txT t = t.tx.length + txK t.ks := by
  cases t
  rw [txT]
  rfl
theorem smAK_app {N : Nat} : ∀ (a b : List Tr), smAK N (a ++ b) ↔ smAK N a ∧ smAK N b
  | [], b => by rw [List.nil_append, smAK]; simp
  | x :: r, b => by rw [List.cons_append, smAK, smAK, smAK_app r b, and_assoc]
theorem txK_app : ∀ a b : List Tr, txK (a ++ b) = txK a + txK b
  | [], b => by rw [List.nil_append, txK]; omega
  | x :: r, b => by rw [List.cons_append, txK, txK, txK_app r b]; omega
theorem put_sm {N : Nat} {ks : List Tr} {n : Tr} (h : smAK N ks) (hn : smA N n) : smAK N (putK ks n) := by
  have h1 : smAK N [n] := by rw [smAK, smAK]; exact ⟨hn, trivial⟩
  unfold putK
  cases hg : ks.getLast? with
  | none => dsimp only; rw [smAK_app]; exact ⟨h, h1⟩
  | some t =>
    dsimp only
    split
    · have e := last_split hg
      rw [e, smAK_app, smAK, smAK] at h
      rw [smAK_app, smAK, smAK]
      refine ⟨h.1, ?_, trivial⟩
      have := smA_def.1 h.2.1
      exact smA_def.2 this
    · rw [smAK_app]; exact ⟨h, h1⟩
theorem put_tx (ks : List Tr) (n : Tr) : txK (putK ks n) ≤ txK ks + txT n := by
  unfold putK
  cases hg : ks.getLast? with
  | none => dsimp only; rw [txK_app, txK, txK]; omega
  | some t =>
    dsimp only
    split
    · have e := last_split hg
      have h2 : txK ks = txK ks.dropLast + txT t := by
        have := congrArg txK e
        rw [txK_app, txK, txK] at this
        omega
      have h3 := txT_def t
      have h4 := txT_def n
      rw [txK_app, txK, txK, txT, List.length_append]
      omega
    · rw [txK_app, txK, txK]; omega
def txSt : List Tr → Nat
  | [] => 0
  | t :: r => txT t + txSt r
theorem putT_txS (n : Tr) : ∀ os, txSt (putT n os) ≤ txSt os + txT n
  | [] => by rw [putT, txSt]; omega
  | t :: r => by
    have h1 := put_tx t.ks n
    have h2 := txT_def t
    rw [putT, txSt, txSt, Tr.put, txT]
    omega
theorem putT_smA {N : Nat} {n : Tr} (hn : smA N n) : ∀ {os : List Tr}, (∀ t, t ∈ os → smA N t) → ∀ t, t ∈ putT n os → smA N t
  | [], h => h
  | t :: r, h => by
    intro u hu
    rw [putT, List.mem_cons] at hu
    rcases hu with rfl | hu
    · obtain ⟨a, b, c, d⟩ := smA_def.1 (h t (by simp))
      exact smA_def.2 ⟨a, b, c, put_sm d hn⟩
    · exact h u (by simp [hu])
theorem begin_sm {p : Tk} (h : TkS p) : smA 16000 (beginT p) := by
  refine smA_def.2 ⟨h.nm, ?_, fun a ha => h.an a ((perm_sortA p.ats).mem_iff.1 ha), ?_⟩
  · show (sortA p.ats).length ≤ 16000
    rw [sortA_len]; exact h.al
  · show smAK 16000 []
    rw [smAK]; trivial
theorem leaf_sm {p : Tk} (h : TkS p) : smA 16000 (leafT p) := smA_def.2 ⟨h.nm, Nat.zero_le _, (fun a ha => by cases ha), by show smAK 16000 []; rw [smAK]; trivial⟩
theorem next_sm {p : Tk} {os : List Tr} (h : TkS p) (ho : ∀ t, t ∈ os → smA 16000 t) : (∀ t, t ∈ nextT p os → smA 16000 t) ∧ txSt (nextT p os) ≤ txSt os + p.tx.length := by
  have hb : txT (beginT p) = 0 := by rw [txT_def]; show 0 + txK [] = 0; rw [txK]
  have hl : txT (leafT p) = p.tx.length := by rw [txT_def]; show p.tx.length + txK [] = _; rw [txK]; omega
  unfold nextT
  split
  · split
    · rw [endT]
      have := putT_txS (beginT p) os
      exact ⟨putT_smA (begin_sm h) ho, by omega⟩
    · refine ⟨fun t ht => ?_, by rw [txSt]; omega⟩
      rcases List.mem_cons.1 ht with rfl | ht
      · exact begin_sm h
      · exact ho t ht
  · split
    · cases os with
      | nil => exact ⟨ho, by rw [endT]; omega⟩
      | cons t r =>
        rw [endT]
        have := putT_txS t r
        exact ⟨putT_smA (ho t (by simp)) (fun u hu => ho u (by simp [hu])), by rw [txSt]; omega⟩
    · have := putT_txS (leafT p) os
      exact ⟨putT_smA (leaf_sm h) ho, by omega⟩
theorem run_sm : ∀ (ts : List Tk) (os : List Tr) (sz : Nat) (t : Tr), (∀ p, p ∈ ts → TkS p) → (∀ u, u ∈ os → smA 16000 u) → txSt os + txsum ts ≤ 16000 → runT ts os sz = .inr t → smA 16000 t ∧ txT t ≤ 16000
  | [], os, sz, t, _, ho, hs, h => by
    rw [runT] at h
    unfold finT at h
    split at h
    · cases h
    · cases os with
      | nil => cases h
      | cons g r =>
        rw [topT_cons] at h
        have hg := (smA_def.1 (ho g (by simp))).2.2.2
        have hx := txT_def g
        rw [txSt] at hs
        cases hk : g.ks with
        | nil => rw [hk] at h; cases h
        | cons k l =>
          rw [hk] at h hg hx
          cases h
          rw [smAK] at hg
          rw [txK] at hx
          exact ⟨hg.1, by omega⟩
  | p :: r, os, sz, t, hp, ho, hs, h => by
    have hx : txsum (p :: r) = p.tx.length + txsum r := by simp [txsum]
    cases hl : leftT p os with
    | true =>
      rw [run_left hl] at h
      exact run_sm r os sz t (fun q hq => hp q (by simp [hq])) ho (by omega) h
    | false =>
      by_cases hf : faultT p os (sz + moreT p (topT os)) = 0
      · rw [run_next hl hf] at h
        obtain ⟨n1, n2⟩ := next_sm (hp p (by simp)) ho
        exact run_sm r _ _ t (fun q hq => hp q (by simp [hq])) n1 (by omega) h
      · rw [run_fault hl hf] at h
        cases h
mutual
theorem sm_of {N : Nat} : ∀ t : Tr, smA N t → txT t ≤ N → cntT t ≤ N → smT N t
  | .mk kd nm tx ats ks, h, hx, hc => by
    obtain ⟨a, b, c, d⟩ := smA_def.1 h
    rw [txT] at hx
    rw [cntT] at hc
    have hl := cntK_len ks
    exact smT_def.2 ⟨a, by show tx.length ≤ N; omega, b, c, by show ks.length ≤ N; omega, smK_of ks d (by omega) (by omega)⟩
theorem smK_of {N : Nat} : ∀ ks : List Tr, smAK N ks → txK ks ≤ N → cntK ks ≤ N → smK N ks
  | [], _, _, _ => by rw [smK]; trivial
  | k :: r, h, hx, hc => by
    rw [smAK] at h
    rw [txK] at hx
    rw [cntK] at hc
    rw [smK]
    exact ⟨sm_of k h.1 (by omega) (by omega), smK_of r h.2 (by omega) (by omega)⟩
end
mutual
theorem smT_le {N M : Nat} (hNM : N ≤ M) : ∀ t : Tr, smT N t → smT M t
  | .mk kd nm tx ats ks, h => by
    obtain ⟨a, b, c, d, e, f⟩ := smT_def.1 h
    exact smT_def.2 ⟨by omega, by omega, by omega, fun x hx => by have := d x hx; omega, by omega, smK_le hNM ks f⟩
theorem smK_le {N M : Nat} (hNM : N ≤ M) : ∀ ks : List Tr, smK N ks → smK M ks
  | [], _ => by rw [smK]; trivial
  | k :: r, h => by
    rw [smK] at h ⊢
    exact ⟨smT_le hNM k h.1, smK_le hNM r h.2⟩
end
theorem parse_sm {s : List UInt8} {t : Tr} (h : parseL s = .inr t) : smT 1048576 t := by
  have hc := (parse_cnt h).1
  unfold parseL at h
  cases hs : scanL s with
  | inl e => rw [hs] at h; cases h
  | inr ts =>
    rw [hs] at h
    obtain ⟨h1, h2⟩ := scanL_short hs
    obtain ⟨h3, h4⟩ := run_sm ts [grd0] 0 t h1 (fun u hu => by
      rw [List.mem_singleton] at hu
      subst hu
      exact smA_def.2 ⟨Nat.zero_le _, Nat.zero_le _, (fun a ha => by cases ha), by show smAK 16000 []; rw [smAK]; trivial⟩) (by
      have : txSt [grd0] = 0 := by rw [txSt, txSt, txT_def]; show 0 + txK [] + 0 = 0; rw [txK]
      omega) h
    exact smT_le (by omega) t (sm_of t h3 h4 (by omega))
end Go.Proofs.YtognlnjamlhmhaaGreatDoor.Char

/- The walk of the statement on Right of what comes of markup. -/
namespace Go.Proofs.YtognlnjamlhmhaaGreatDoor.Char
open Go.RowKit Go.Lib

theorem run_errne : ∀ (ts : List Tk) (os : List Tr) (sz e : Nat), runT ts os sz = .inl e → e ≠ 0
  | [], os, sz, e, h => by
    rw [runT] at h
    unfold finT at h
    split at h
    · cases h; omega
    · split at h
      · cases h; omega
      · cases h
  | p :: r, os, sz, e, h => by
    cases hl : leftT p os with
    | true =>
      rw [run_left hl] at h
      exact run_errne r os sz e h
    | false =>
      by_cases hf : faultT p os (sz + moreT p (topT os)) = 0
      · rw [run_next hl hf] at h
        exact run_errne r _ _ e h
      · rw [run_fault hl hf] at h
        cases h
        exact hf
theorem parse_errne {s : List UInt8} {e : Nat} (h : parseL s = .inl e) : e ≠ 0 := by
  unfold parseL at h
  cases hs : scanL s with
  | inl x =>
    rw [hs] at h
    cases h
    unfold scanL at hs
    split at hs
    · cases hs; decide
    · split at hs
      · cases hs; decide
      · exact scanF_errne hs
  | inr ts =>
    rw [hs] at h
    exact run_errne _ _ _ _ h
set_option maxRecDepth 100000 in
set_option maxHeartbeats 8000000 in
theorem lawRights_any (s : List UInt8) (w : World) (hz : s.length ≤ 9223372036854775807) (hG : Gl6 w) :
    Calls Tryz.prog 4 #[.string (bs s)] w fun e w' => e = .returned (.bool true) ∧ Below w.heap.size w w' := by
  have hsz := bs_size s
  have hp := parse_any s w hz hG
  have HWK := Lib.hid (fun W (hW : Below w.heap.size w W) => works_any W (hG.below hW))
  have HGL := Lib.hid hG
  cases hg : parseL s with
  | inl err =>
    rw [hg] at hp
    have hp2 : Calls Tryz.prog 8 #[.string (bs s)] w fun e w' => e = .returned (.tuple #[.agg #[.int .i64 0, .string ⟨#[]⟩, .string ⟨#[]⟩, .slice none 0 0, .slice none 0 0], .int .i64 (err : Int)]) ∧ Below w.heap.size w w' := hp
    have hne := parse_errne hg
    have k1 : ((err : Int) != 0) = true := by rw [bne_iff_ne]; omega
    have hs : ∀ W, Calls Tryz.prog 10 #[.agg #[.int .i64 0, .string ⟨#[]⟩, .string ⟨#[]⟩, .slice none 0 0, .slice none 0 0], .agg #[.int .i64 0, .string ⟨#[]⟩, .string ⟨#[]⟩, .slice none 0 0, .slice none 0 0]] W fun e w' => e = .returned (.bool true) ∧ Below W.heap.size W w' := fun W => by
      have h := refSame_any 2000 (.mk 0 [] [] [] []) (.mk 0 [] [] [] []) (.slice none 0 0) (.slice none 0 0) (.slice none 0 0) (.slice none 0 0) W (fun _ => True) (fun _ => True) (by rw [cntT, cntK]; omega) (NdOn.of ⟨none, 0, 0, rfl, rfl, .inl rfl⟩ ⟨none, 0, 0, rfl, rfl, .inl rfl⟩) (NdOn.of ⟨none, 0, 0, rfl, rfl, .inl rfl⟩ ⟨none, 0, 0, rfl, rfl, .inl rfl⟩) (by rw [mxT, mxK]; simp) (by omega)
      rw [eqT_self] at h
      exact h
    have HP := Lib.hid hp2
    have HS := Lib.hid hs
    clear hp hp2 hne hs hg hG hz
    go_enter Tryz.func4, Tryz.ntmps4
    go_wp2_with fail
    refine HP.out.mono ?_
    rintro e w1 ⟨rfl, hb1⟩
    go_wp2_with fail
    refine (HS.out _).mono ?_
    rintro e w2 ⟨rfl, hb2⟩
    have hb3 : Below w.heap.size w w2 := (hb1.alloc hb1.size _).trans (hb2.mono (Nat.le_trans hb1.size (by simp)))
    have HB3 := Lib.hid hb3
    have HW := Lib.hid (HWK.out w2 hb3)
    clear hb1 hb2 hb3
    go_wp2_with fail
    refine HW.out.mono ?_
    rintro e w3 ⟨rfl, hb4⟩
    have hb5 := HB3.out.trans (hb4.mono HB3.out.size)
    clear hb4
    go_wp2_with fail
    go_ret
    exact ⟨rfl, hb5⟩
  | inr t =>
    rw [hg] at hp
    have hc := (parse_cnt hg).1
    have hsm := parse_sm hg
    have hrt := parse_right hg
    have hz2 : szT t < 2 ^ 63 := by
      have h1 := sz_cnt t hsm
      have h2 : cntT t * (1048576 + 1) ≤ 121 * (1048576 + 1) := Nat.mul_le_mul_right _ hc
      omega
    have HP := Lib.hid hp
    have HSM := Lib.hid hsm
    have HRT := Lib.hid hrt
    have HC := Lib.hid hc
    have HZ2 := Lib.hid hz2
    clear hp hg hG hz hsm hrt hc hz2
    go_enter Tryz.func4, Tryz.ntmps4
    go_wp2_with fail
    refine HP.out.mono ?_
    intro e w1 h1
    obtain ⟨va, vk, rfl, hn1, hb1⟩ := h1
    obtain ⟨oa, ja, ok, jk, rfl, rfl⟩ := hn1.form
    obtain ⟨B, hB⟩ : ∃ B, B = w1.heap.size := ⟨_, rfl⟩
    obtain ⟨W1, hW1⟩ : ∃ W1, W1 = w1.alloc (.cells #[.int .i64 t.kd, .string (bs t.nm), .string (bs t.tx), .slice oa t.ats.length ja, .slice ok t.ks.length jk] 26) := ⟨_, rfl⟩
    have b1 : Below w1.heap.size w1 W1 := by rw [hW1]; exact (Below.refl _ _).alloc (Nat.le_refl _) _
    have hbk1 : W1.heap[B]? = some (.cells #[.int .i64 t.kd, .string (bs t.nm), .string (bs t.tx), .slice oa t.ats.length ja, .slice ok t.ks.length jk] 26 (0, 0)) := by rw [hW1, hB]; exact World.alloc_heap_new w1 _
    have hBl := block_of_heap hbk1
    have hbq : ∀ q : KeptT W1, q.at.heap[B]? = some (.cells #[.int .i64 t.kd, .string (bs t.nm), .string (bs t.tx), .slice oa t.ats.length ja, .slice ok t.ks.length jk] 26 (0, 0)) := fun q => (q.ok.block B hBl).trans hbk1
    have z0 : ∀ q : KeptT W1, q.at.cell? ⟨B, 0, none⟩ = some (.int .i64 t.kd) := fun q => by simp [World.cell?, hbq q]
    have z1 : ∀ q : KeptT W1, q.at.cell? ⟨B, 1, none⟩ = some (.string (bs t.nm)) := fun q => by simp [World.cell?, hbq q]
    have z2 : ∀ q : KeptT W1, q.at.cell? ⟨B, 2, none⟩ = some (.string (bs t.tx)) := fun q => by simp [World.cell?, hbq q]
    have z3 : ∀ q : KeptT W1, q.at.cell? ⟨B, 3, none⟩ = some (.slice oa t.ats.length ja) := fun q => by simp [World.cell?, hbq q]
    have z4 : ∀ q : KeptT W1, q.at.cell? ⟨B, 4, none⟩ = some (.slice ok t.ks.length jk) := fun q => by simp [World.cell?, hbq q]
    have hupq : ∀ q : KeptT W1, Below w1.heap.size w1 q.at := fun q => b1.trans (q.ok.mono b1.size)
    have hup : ∀ q : KeptT W1, Below w.heap.size w q.at := fun q => hb1.trans ((hupq q).mono hb1.size)
    obtain ⟨q0, hq0⟩ : ∃ q0 : KeptT W1, W1 = q0.at := ⟨⟨W1, Below.refl _ _⟩, rfl⟩
    have hon : ∀ q : KeptT W1, NdOn q.at (fun b => b < q.at.heap.size) t (.slice oa t.ats.length ja) (.slice ok t.ks.length jk) := fun q => hn1.move (fun b hb _ => ⟨Nat.lt_of_lt_of_le hb (hupq q).size, (hupq q).block b hb⟩)
    have hWK : ∀ q : KeptT W1, Calls Tryz.prog 7 #[] q.at fun e w' => e = .returned (.bool true) ∧ ∃ q' : KeptT W1, w' = q'.at := fun q => (HWK.out q.at (hup q)).mono fun e w' h => ⟨h.1, q.on h.2⟩
    have hP : ∀ q : KeptT W1, Calls Tryz.prog 11 #[.agg #[.int .i64 t.kd, .string (bs t.nm), .string (bs t.tx), .slice oa t.ats.length ja, .slice ok t.ks.length jk]] q.at fun e w' => e = .returned (.bool true) ∧ ∃ q' : KeptT W1, w' = q'.at := fun q => (right_any t _ _ q.at (hon q) (by have := HC.out; omega) (fun x hx => (sm_seq t 0 HSM.out x hx).fit) (HGL.out.below (hup q))).mono fun e w' h => ⟨by rw [← HRT.out, ← right_same]; exact h.1, q.on h.2⟩
    have hR : ∀ q : KeptT W1, Calls Tryz.prog 12 #[.agg #[.int .i64 t.kd, .string (bs t.nm), .string (bs t.tx), .slice oa t.ats.length ja, .slice ok t.ks.length jk]] q.at fun e w' => e = .returned (.bool true) ∧ ∃ q' : KeptT W1, w' = q'.at := fun q => (refRights_any t _ _ q.at (by have := HC.out; omega) HZ2.out (hon q) HSM.out).mono fun e w' h => ⟨by rw [← HRT.out]; exact h.1, q.on h.2⟩
    have HW1 := Lib.hid (hW1.symm.trans hq0)
    have HB := Lib.hid hB
    have HUP := Lib.hid hup
    have HWK2 := Lib.hid hWK
    have HPP := Lib.hid hP
    have HRR := Lib.hid hR
    clear hn1 hb1 hW1 b1 hbk1 hBl hbq hupq hup hq0 hon hWK hP hR hB
    unfold ndV
    go_wp2_with fail
    rw [← HB.out, HW1.out]
    go_wp2_with (first
      | (go_at_call 11; (with_reducible refine (HPP.out _).mono ?_); rintro e _ ⟨rfl, q, rfl⟩)
      | (go_at_call 12; (with_reducible refine (HRR.out _).mono ?_); rintro e _ ⟨rfl, q, rfl⟩)
      | (go_at_call 7; (with_reducible refine (HWK2.out _).mono ?_); rintro e _ ⟨rfl, q, rfl⟩))
    go_ret
    exact ⟨rfl, HUP.out _⟩
theorem rights_law (s : ByteArray) (w : World) (hz : s.size ≤ maxLen) (hG : Gl6 w) :
    Calls Tryz.prog 4 #[.string s] w fun e w' => e = .returned (.bool true) ∧ Below w.heap.size w w' := by
  obtain ⟨l, rfl⟩ : ∃ l, s = bs l := ⟨s.data.toList, (bs_of s).symm⟩
  have hsz := bs_size l
  unfold maxLen at hz
  exact lawRights_any l w (by omega) hG
end Go.Proofs.YtognlnjamlhmhaaGreatDoor.Char
