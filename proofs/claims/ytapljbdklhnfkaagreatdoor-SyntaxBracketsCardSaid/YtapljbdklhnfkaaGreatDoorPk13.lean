/- LexA LexF OneM -/
import Derived.Test.YtapljbdklhnfkaaGreatDoorPk02
/- Mathematics without a program: what stands behind the words of an expression. -/
namespace Go.Proofs.YtapljbdklhnfkaaGreatDoor.Char
open Go.Lib Go.RowKit
open Go.Proofs.YtapljbdklhnfkaaGreatDoor.Fig (Nm litL digB)

/-- nothing, or what begins with a space -/
def Sp (g : List UInt8) : Prop := g = [] ∨ ∃ b t, g = b :: t ∧ spC (b.toNat : Int) = true
theorem sp_low {b : UInt8} (h : spC (b.toNat : Int) = true) : b.toNat = 9 ∨ b.toNat = 10 ∨ b.toNat = 13 ∨ b.toNat = 32 := by
  unfold spC at h
  simp only [Bool.or_eq_true, beq_iff_eq] at h
  omega
theorem sp_dig {b : UInt8} (h : spC (b.toNat : Int) = true) : digB b = false := by
  have := sp_low h
  unfold digB
  rw [Bool.and_eq_false_iff, decide_eq_false_iff_not, decide_eq_false_iff_not]
  omega
theorem tw_app {p : UInt8 → Bool} {g : List UInt8} (hg : g = [] ∨ ∃ b t, g = b :: t ∧ p b = false) : ∀ l : List UInt8, (l ++ g).takeWhile p = l.takeWhile p
  | [] => by
    rcases hg with rfl | ⟨b, t, rfl, h⟩
    · rfl
    · rw [List.nil_append, List.takeWhile_cons, h]; rfl
  | x :: l => by
    rw [List.cons_append, List.takeWhile_cons, List.takeWhile_cons, tw_app hg l]
theorem Sp.dig {g : List UInt8} (h : Sp g) : g = [] ∨ ∃ b t, g = b :: t ∧ digB b = false := by
  rcases h with h | ⟨b, t, h1, h2⟩
  · exact .inl h
  · exact .inr ⟨b, t, h1, sp_dig h2⟩
theorem Sp.asc {g : List UInt8} (h : Sp g) : asc0 g = true := by
  rcases h with rfl | ⟨b, t, rfl, h2⟩
  · rfl
  · have := sp_low h2
    unfold asc0
    rw [decide_eq_true_eq]
    omega
def noSp (p : List UInt8) : Bool := p.all fun b => !spC (b.toNat : Int)
theorem pre_app {g : List UInt8} (hg : Sp g) : ∀ (p l : List UInt8), noSp p = true → p.isPrefixOf (l ++ g) = p.isPrefixOf l
  | [], l, _ => by cases l <;> cases g <;> rfl
  | x :: p, [], h => by
    rcases hg with rfl | ⟨b, t, rfl, h2⟩
    · rfl
    · unfold noSp at h
      rw [List.all_cons, Bool.and_eq_true] at h
      have hx : x ≠ b := fun e => by rw [e, h2] at h; exact absurd h.1 (by decide)
      simp [List.isPrefixOf, hx]
  | x :: p, y :: l, h => by
    unfold noSp at h
    rw [List.all_cons, Bool.and_eq_true] at h
    rw [List.cons_append, List.isPrefixOf, List.isPrefixOf, pre_app hg p l h.2]
theorem dgs_app {g : List UInt8} (hg : Sp g) (l : List UInt8) : dgs (l ++ g) = dgs l := by
  unfold dgs
  rw [tw_app hg.dig]
theorem siz_app {g : List UInt8} (hg : Sp g) (l : List UInt8) : sizN (l ++ g) = sizN l := by
  have hd := dgs_le l
  unfold sizN
  rw [dgs_app hg, List.drop_append_of_le_length hd, pre_app hg _ _ (by decide)]
  cases hp : ([46] : List UInt8).isPrefixOf (l.drop (dgs l)) with
  | false => rfl
  | true =>
    have h1 : dgs l + 1 ≤ l.length := by
      have := (List.isPrefixOf_iff_prefix.1 hp).length_le
      rw [List.length_drop] at this
      simp at this
      omega
    rw [List.drop_append_of_le_length h1, dgs_app hg]
theorem numW_app {g : List UInt8} (hg : Sp g) (l : List UInt8) : numW (l ++ g) = numW l := by
  unfold numW
  rw [siz_app hg, List.take_append_of_le_length (siz_le l)]
theorem find_congr {α : Type} {f g : α → Bool} : ∀ {l : List α}, (∀ x, x ∈ l → f x = g x) → l.find? f = l.find? g
  | [], _ => rfl
  | x :: l, h => by
    rw [List.find?_cons, List.find?_cons, h x List.mem_cons_self, find_congr fun y hy => h y (List.mem_cons_of_mem _ hy)]
theorem signW_app {g : List UInt8} (hg : Sp g) (k : Nat) (ss : List (List UInt8)) (hs : ss.all noSp = true) (l : List UInt8) : signW k ss (l ++ g) = signW k ss l := by
  unfold signW firstP
  rw [find_congr fun p hp => pre_app hg p l (List.all_eq_true.1 hs p hp)]
theorem one_app {g : List UInt8} (hg : Sp g) {l : List UInt8} (hl : l ≠ []) : oneL (l ++ g) = oneL l := by
  unfold oneL
  rw [if_neg hl, if_neg (by simp [hl]), decode_front l g hl hg.asc]
theorem sp_one {b : UInt8} (t : List UInt8) (h : spC (b.toNat : Int) = true) : oneL (b :: t) = (b.toNat, 1) := by
  have := sp_low h
  unfold oneL
  rw [if_neg (by simp), decodeL_ascii b t (by omega), if_neg (by simp; omega)]
theorem sp_run {g : List UInt8} (hg : Sp g) : runL g = 0 := by
  rcases hg with rfl | ⟨b, t, rfl, h⟩
  · rfl
  · refine run_stop (.inr ?_)
    rw [sp_one t h]
    cases hp : paC (b.toNat : Int) with
    | false => rfl
    | true => rw [pa_sp _ hp] at h; cases h
theorem run_app {g : List UInt8} (hg : Sp g) : ∀ (n : Nat) (l : List UInt8), l.length ≤ n → runL (l ++ g) = runL l
  | n, l, hn => by
    by_cases hl : l = []
    · subst hl
      rw [List.nil_append, sp_run hg]
      rfl
    · have ho := one_app hg hl
      have hlp := List.length_pos_iff.2 hl
      by_cases h0 : (oneL l).2 = 0 ∨ paC ((oneL l).1 : Int) = false
      · rw [run_stop h0, run_stop (by rw [ho]; exact h0)]
      · have h1 : (oneL l).2 ≠ 0 := fun h => h0 (.inl h)
        have h2 : paC ((oneL l).1 : Int) = true := by
          cases hp : paC ((oneL l).1 : Int) with
          | true => rfl
          | false => exact absurd (.inr hp) h0
        have hle := one_le l
        rw [run_go h1 h2, run_go (by rw [ho]; exact h1) (by rw [ho]; exact h2), ho, List.drop_append_of_le_length hle]
        match n, hn with
        | 0, hn => omega
        | n + 1, hn => rw [run_app hg n _ (by rw [List.length_drop]; omega)]
theorem runL_app {g : List UInt8} (hg : Sp g) (l : List UInt8) : runL (l ++ g) = runL l := run_app hg _ l (Nat.le_refl _)
theorem tw_full {p : UInt8 → Bool} : ∀ {l : List UInt8}, (l.takeWhile p).length = l.length → ∀ b ∈ l, p b = true
  | [], _, b, hb => by cases hb
  | x :: l, h, b, hb => by
    rw [List.takeWhile_cons] at h
    split at h
    · rename_i hx
      rcases List.mem_cons.1 hb with rfl | hb
      · exact hx
      · exact tw_full (by simpa using h) b hb
    · simp at h
theorem tw_yes {p : UInt8 → Bool} : ∀ {l : List UInt8}, (∀ b ∈ l, p b = true) → l.takeWhile p = l
  | [], _ => rfl
  | x :: l, h => by rw [List.takeWhile_cons, if_pos (h x List.mem_cons_self), tw_yes fun b hb => h b (List.mem_cons_of_mem _ hb)]
theorem tw_cut {p : UInt8 → Bool} : ∀ {l : List UInt8} (g : List UInt8), (l.takeWhile p).length ≠ l.length → (l ++ g).takeWhile p = l.takeWhile p
  | [], g, h => absurd rfl h
  | x :: l, g, h => by
    rw [List.cons_append, List.takeWhile_cons, List.takeWhile_cons]
    split
    · rename_i hx
      rw [List.takeWhile_cons, if_pos hx] at h
      rw [tw_cut g (by simpa using h)]
    · rfl
theorem litW_app {g : List UInt8} (hq : ∀ b ∈ g, b ≠ 34 ∧ b ≠ 39) {l : List UInt8} (hl : l ≠ []) : litW (l ++ g) = litW l := by
  cases l with
  | nil => exact absurd rfl hl
  | cons c t =>
    rw [List.cons_append, litW_cons, litW_cons]
    by_cases hc : c = 34 ∨ c = 39
    · rw [if_pos hc, if_pos hc]
      by_cases hf : (t.takeWhile (· != c)).length = t.length
      · rw [if_neg (show ¬ (t.takeWhile (· != c)).length < t.length by omega)]
        rw [tw_yes (l := t ++ g) (fun b hb => by
          rcases List.mem_append.1 hb with h | h
          · exact tw_full hf b h
          · have := hq b h
            rw [bne_iff_ne]
            rintro rfl
            rcases hc with rfl | rfl
            · exact this.1 rfl
            · exact this.2 rfl), if_neg (by omega)]
      · have hle := (List.takeWhile_prefix (· != c) (l := t)).length_le
        have h1 : (t.takeWhile (· != c)).length < t.length := by omega
        have h2 : (t.takeWhile (· != c)).length < (t ++ g).length := by rw [List.length_append]; omega
        rw [tw_cut g hf, if_pos h2, if_pos h1]
    · rw [if_neg hc, if_neg hc]
theorem varW_app {g : List UInt8} (hg : Sp g) {l : List UInt8} (hl : l ≠ []) : varW (l ++ g) = varW l := by
  have h1 : 1 ≤ l.length := List.length_pos_iff.2 hl
  unfold varW
  rw [pre_app hg _ _ (by decide), List.drop_append_of_le_length h1, runL_app hg, List.take_append_of_le_length (run_le _ _ (Nat.le_refl _))]
theorem nameW_app {g : List UInt8} (hg : Sp g) (e : Bool) {l : List UInt8} (hx : nxL (l.drop (runL l) ++ g) = nxL (l.drop (runL l))) : nameW e (l ++ g) = nameW e l := by
  unfold nameW
  rw [runL_app hg, List.take_append_of_le_length (run_le _ _ (Nat.le_refl _)), List.drop_append_of_le_length (run_le _ _ (Nat.le_refl _)), hx]
theorem dropS_tw (l : List UInt8) : dropS l = l.dropWhile fun b => spC (b.toNat : Int) := by
  unfold dropS spcL
  have h := List.takeWhile_append_dropWhile (p := fun b : UInt8 => spC (b.toNat : Int)) (l := l)
  have h2 := List.drop_left (l₁ := l.takeWhile fun b : UInt8 => spC (b.toNat : Int)) (l₂ := l.dropWhile fun b : UInt8 => spC (b.toNat : Int))
  rwa [h] at h2
theorem dropS_app (r g : List UInt8) : dropS (r ++ g) = if dropS r = [] then dropS g else dropS r ++ g := by
  rw [dropS_tw, dropS_tw, dropS_tw]
  induction r with
  | nil => rfl
  | cons b r ih =>
    rw [List.cons_append, List.dropWhile_cons, List.dropWhile_cons]
    split
    · exact ih
    · rw [if_neg (by simp)]; rfl
/-- behind the spaces there is none -/
theorem dropS_head {l : List UInt8} {b : UInt8} {t : List UInt8} (h : dropS l = b :: t) : spC (b.toNat : Int) = false := by
  rw [dropS_tw] at h
  induction l with
  | nil => cases h
  | cons c l ih =>
    rw [List.dropWhile_cons] at h
    split at h
    · exact ih h
    · rename_i hc
      cases h
      simpa using hc
theorem dropS_id {b : UInt8} (t : List UInt8) (h : spC (b.toNat : Int) = false) : dropS (b :: t) = b :: t := by
  rw [dropS_tw, List.dropWhile_cons, h]
  rfl
theorem nx_app {g : List UInt8} (hg : Sp g) (h0 : nxL g = 0) (r : List UInt8) : nxL (r ++ g) = nxL r := by
  unfold nxL at h0 ⊢
  rw [dropS_app]
  split
  · rename_i h
    rw [h, h0]
    rfl
  · unfold nx0
    rw [pre_app hg _ _ (by decide), pre_app hg _ _ (by decide)]
/-- more behind a space, without quotes, brackets, colons -/
theorem wd_app {g : List UInt8} (hg : Sp g) (hq : ∀ b ∈ g, b ≠ 34 ∧ b ≠ 39) (h0 : nxL g = 0) {l : List UInt8} (hl : l ≠ []) (e : Bool) : wdL (l ++ g) e = wdL l e := by
  unfold wdL
  rw [litW_app hq hl, numW_app hg, signW_app hg _ _ (by decide), signW_app hg _ _ (by decide), signW_app hg _ _ (by decide), varW_app hg hl, nameW_app hg e (nx_app hg h0 _)]
def lastE (e : Bool) : List Wd → Bool
  | [] => e
  | w :: ws => lastE (endW w) ws
def thenW (r : Nat ⊕ List Wd) (F : List Wd → Nat ⊕ List Wd) : Nat ⊕ List Wd := match r with
  | .inl x => .inl x
  | .inr ws => F ws
theorem lex_app {g : List UInt8} (hg : Sp g) (hq : ∀ b ∈ g, b ≠ 34 ∧ b ≠ 39) (h0 : nxL g = 0) : ∀ (N : Nat) (x : List UInt8), x.length ≤ N → ∀ (e : Bool) (n : Nat),
    lexG (dropS (x ++ g)) e n = thenW (lexG (dropS x) e n) fun ws => appW ws (lexG (dropS g) (lastE e ws) (n + ws.length))
  | N, x, hx, e, n => by
    rw [dropS_app]
    by_cases hl : dropS x = []
    · rw [if_pos hl, hl, lexG_nil]
      show _ = appW [] _
      rw [appW_nil]
      rfl
    · rw [if_neg hl]
      have hd := dropS_le x
      have hlg : dropS x ++ g ≠ [] := by simp [hl]
      have hw := wd_app hg hq h0 hl e
      generalize dropS x = l at *
      cases h : wdL l e with
      | none =>
        rw [h] at hw
        rw [lexG_none n hl h, lexG_none n hlg hw]
        rfl
      | some y =>
        obtain ⟨w, k⟩ := y
        rw [h] at hw
        have hk := wdL_len h
        by_cases hn : n = 120
        · subst hn
          rw [lexG_full hl h, lexG_full hlg hw]
          rfl
        · have hlp := List.length_pos_iff.2 hl
          rw [lexG_some hl h hn, lexG_some hlg hw hn, List.drop_append_of_le_length hk.2]
          match N, hx with
          | 0, hx => omega
          | N + 1, hx =>
            rw [lex_app hg hq h0 N (l.drop k) (by rw [List.length_drop]; omega)]
            cases lexG (dropS (l.drop k)) (endW w) (n + 1) with
            | inl y => rfl
            | inr ws =>
              show appW [w] (appW ws _) = appW (w :: ws) (lexG (dropS g) (lastE (endW w) ws) (n + (ws.length + 1)))
              rw [appW_app, show n + (ws.length + 1) = n + 1 + ws.length by omega]
              rfl
/-- a gap of spaces turns nothing -/
theorem gap_tx : ∀ (g y : List UInt8), (∀ b ∈ g, spC (b.toNat : Int) = true) → txD (g ++ y) = txD y
  | [], _, _ => rfl
  | b :: g, y, h => by
    have hb := h b List.mem_cons_self
    have h2 := sp_low hb
    have hc : isC (b.toNat : Int) = true := by
      rcases h2 with h | h | h | h <;> rw [h] <;> decide
    rw [List.cons_append, tx_ascii b _ (by omega), hc, gap_tx g y fun c hc => h c (List.mem_cons_of_mem _ hc)]
    rfl
theorem gap_drop : ∀ (g y : List UInt8), (∀ b ∈ g, spC (b.toNat : Int) = true) → dropS (g ++ y) = dropS y
  | [], _, _ => rfl
  | b :: g, y, h => by
    have := gap_drop g y fun c hc => h c (List.mem_cons_of_mem _ hc)
    rw [dropS_tw] at this ⊢
    rw [List.cons_append, List.dropWhile_cons, if_pos (h b List.mem_cons_self), this]
theorem gap_sp {g : List UInt8} (h : ∀ b ∈ g, spC (b.toNat : Int) = true) : Sp g := by
  cases g with
  | nil => exact .inl rfl
  | cons b t => exact .inr ⟨b, t, rfl, h b List.mem_cons_self⟩
theorem lex_gap {g s : List UInt8} (h : ∀ b ∈ g, spC (b.toNat : Int) = true) (hl : s.length + 2 * g.length ≤ 400) : lexL (g ++ (s ++ g)) = lexL s := by
  have hd : dropS g = [] := by
    have := gap_drop g [] h
    rw [List.append_nil] at this
    rw [this]
    rfl
  have htx : txD (s ++ g) = txD s := by
    rw [tx_split _ s g (Nat.le_refl _) (gap_sp h).asc]
    have := gap_tx g [] h
    rw [List.append_nil] at this
    rw [this, tx_nil, Bool.and_true]
  unfold lexL
  rw [gap_tx g _ h, gap_drop g _ h, htx, if_neg (by simp only [List.length_append]; omega), if_neg (show ¬ 400 < s.length by omega)]
  split
  · rfl
  · rw [lex_app (gap_sp h) (fun b hb => by have := sp_low (h b hb); exact ⟨fun e => by rw [e] at this; simp at this, fun e => by rw [e] at this; simp at this⟩) (by unfold nxL; rw [hd]; rfl) _ s (Nat.le_refl _), hd]
    cases lexG (dropS s) false 0 with
    | inl x => rfl
    | inr ws =>
      show appW ws (.inr []) = _
      show Sum.inr (ws ++ []) = _
      rw [List.append_nil]
end Go.Proofs.YtapljbdklhnfkaaGreatDoor.Char

/- Mathematics without a program: words written one behind the other are the same words. -/
namespace Go.Proofs.YtapljbdklhnfkaaGreatDoor.Char
open Go.Lib Go.RowKit
open Go.Proofs.YtapljbdklhnfkaaGreatDoor.Fig (Nm litL digB)

/-- how a word stands: e: behind what ends a part; x: what a bracket or colons behind it say -/
inductive Form (e : Bool) (x : Nat) : Wd → List UInt8 → Prop
  | lit (q : UInt8) (s : List UInt8) (hq : q = 34 ∨ q = 39) (hs : ∀ b ∈ s, b ≠ q) : Form e x ⟨8, s, .num 0⟩ (q :: (s ++ [q]))
  | num (u : List UInt8) (v : Int) (h : litL u = some (.num v)) (hz : sizN u = u.length) : Form e x ⟨9, u, .num v⟩ u
  | mark (u : List UInt8) (h : u ∈ marksL) : Form e x ⟨1, u, .num 0⟩ u
  | op (u : List UInt8) (h : u ∈ opsL) : Form e x ⟨5, u, .num 0⟩ u
  | star : Form e x ⟨starK e, [42], .num 0⟩ [42]
  | var (n : List UInt8) (h : nmD (bs n) = true) : Form e x ⟨10, n, .num 0⟩ (36 :: n)
  | name (n : List UInt8) (h : nmD (bs n) = true) (hj : (!e || joinsL.contains n) = true) : Form e x ⟨kindN e n x, n, .num 0⟩ n
theorem dgs_take (l : List UInt8) : l.take (dgs l) = l.takeWhile digB := by
  have h := List.takeWhile_append_dropWhile (p := digB) (l := l)
  have h2 := List.take_left (l₁ := l.takeWhile digB) (l₂ := l.dropWhile digB)
  rwa [h] at h2
theorem take_add (A B : List UInt8) (m : Nat) : (A ++ B).take (A.length + m) = A ++ B.take m := by
  rw [List.take_append, List.take_of_length_le (by omega), Nat.add_sub_cancel_left]
theorem drop_add (A B : List UInt8) (m : Nat) : (A ++ B).drop (A.length + m) = B.drop m := by
  rw [List.drop_append, List.drop_eq_nil_of_le (by omega), Nat.add_sub_cancel_left, List.nil_append]
theorem dw_head {p : UInt8 → Bool} : ∀ {l : List UInt8} {c : UInt8} {r : List UInt8}, l.dropWhile p = c :: r → p c = false
  | [], _, _, h => by cases h
  | x :: l, c, r, h => by
    rw [List.dropWhile_cons] at h
    split at h
    · exact dw_head h
    · rename_i hx
      cases h
      simpa using hx
theorem dgs_self {w r : List UInt8} (hw : ∀ b ∈ w, digB b = true) (hr : r = [] ∨ ∃ b t, r = b :: t ∧ digB b = false) : dgs (w ++ r) = w.length := by
  unfold dgs
  rw [tw_app hr, tw_yes hw]
theorem tw_mem {p : UInt8 → Bool} : ∀ {l : List UInt8} {b : UInt8}, b ∈ l.takeWhile p → p b = true
  | [], _, h => by cases h
  | x :: l, b, h => by
    rw [List.takeWhile_cons] at h
    split at h
    · rename_i hx
      rcases List.mem_cons.1 h with rfl | h
      · exact hx
      · exact tw_mem h
    · cases h
/-- the number's own bytes are its bytes -/
theorem siz_take (l : List UInt8) : sizN (l.take (sizN l)) = (l.take (sizN l)).length := by
  have hle := siz_le l
  rw [List.length_take, Nat.min_eq_left hle]
  have hd := dgs_le l
  have hw : ∀ b ∈ l.take (dgs l), digB b = true := fun b hb => by rw [dgs_take] at hb; exact tw_mem hb
  have hwl : (l.take (dgs l)).length = dgs l := by rw [List.length_take]; omega
  have hc := List.take_append_drop (dgs l) l
  unfold sizN
  cases hp : ([46] : List UInt8).isPrefixOf (l.drop (dgs l)) with
  | false =>
    simp only [Bool.false_eq_true, if_false, Nat.add_zero]
    have h1 : dgs (l.take (dgs l)) = dgs l := by
      have := dgs_self (r := []) hw (.inl rfl)
      rw [List.append_nil, hwl] at this
      exact this
    rw [h1, List.drop_eq_nil_of_le (by omega)]
    rfl
  | true =>
    simp only [if_true]
    obtain ⟨t, ht⟩ := List.isPrefixOf_iff_prefix.1 hp
    have htl : (l.drop (dgs l + 1)) = t := by
      rw [← List.drop_drop, ← ht]
      rfl
    rw [htl]
    have hft := dgs_take t
    have hfl : (t.take (dgs t)).length = dgs t := by have := dgs_le t; rw [List.length_take]; omega
    have hu : l.take (dgs l + (1 + dgs t)) = l.take (dgs l) ++ (46 :: t.take (dgs t)) := by
      have h5 : l.take (dgs l) ++ (46 :: t) = l := by
        rw [show (46 :: t : List UInt8) = [46] ++ t from rfl, ht, hc]
      have key := take_add (l.take (dgs l)) (46 :: t) (dgs t + 1)
      rw [h5, hwl] at key
      rw [show dgs l + (1 + dgs t) = dgs l + (dgs t + 1) by omega, key]
      rfl
    rw [hu]
    have h1 : dgs (l.take (dgs l) ++ (46 :: t.take (dgs t))) = dgs l := by
      rw [dgs_self hw (.inr ⟨46, _, rfl, by decide⟩), hwl]
    have hd0 := drop_add (l.take (dgs l)) (46 :: t.take (dgs t)) 0
    have hd1 := drop_add (l.take (dgs l)) (46 :: t.take (dgs t)) 1
    rw [hwl] at hd0 hd1
    rw [Nat.add_zero] at hd0
    rw [h1, hd0, hd1]
    have h2 : ([46] : List UInt8).isPrefixOf (List.drop 0 (46 :: t.take (dgs t))) = true := rfl
    rw [h2, if_pos rfl]
    have h3 : dgs (t.take (dgs t)) = dgs t := by
      have := dgs_self (w := t.take (dgs t)) (r := []) (fun b hb => by rw [hft] at hb; exact tw_mem hb) (.inl rfl)
      rw [List.append_nil, hfl] at this
      exact this
    show dgs l + (1 + dgs (t.take (dgs t))) = _
    rw [h3]
/-- how each word stands -/
theorem wd_form {l : List UInt8} {e : Bool} {w : Wd} {k : Nat} (h : wdL l e = some (w, k)) : Form e (nxL (l.drop k)) w (l.take k) := by
  unfold wdL at h
  cases h1 : litW l with
  | some x =>
    rw [h1] at h
    cases h
    cases l with
    | nil => cases h1
    | cons c t =>
      rw [litW_cons] at h1
      split at h1
      · rename_i hc
        split at h1
        · rename_i hlt
          cases h1
          have hs : ∀ b ∈ t.takeWhile (· != c), b ≠ c := fun b hb => by have := tw_mem hb; simpa using this
          have hcut : t.take ((t.takeWhile (· != c)).length + 1) = t.takeWhile (· != c) ++ [c] := by
            have hp := List.takeWhile_append_dropWhile (p := (· != c)) (l := t)
            obtain ⟨y, r, hr⟩ : ∃ y r, t.dropWhile (· != c) = y :: r := by
              cases hd : t.dropWhile (· != c) with
              | nil => rw [hd, List.append_nil] at hp; rw [hp] at hlt; omega
              | cons y r => exact ⟨y, r, rfl⟩
            have hy : y = c := by
              have := dw_head hr
              simpa using this
            subst hy
            rw [hr] at hp
            have key := take_add (t.takeWhile (· != y)) (y :: r) 1
            rw [hp] at key
            exact key
          rw [List.take_succ_cons, hcut]
          exact .lit c _ hc hs
        · cases h1
      · cases h1
  | none =>
    rw [h1, orW_none] at h
    cases h2 : numW l with
    | some x =>
      rw [h2] at h
      cases h
      obtain ⟨v, q1, rfl, rfl⟩ := num_some h2
      exact .num _ v q1 (siz_take l)
    | none =>
      rw [h2, orW_none] at h
      have hpre : ∀ {p : List UInt8}, p.isPrefixOf l = true → l.take p.length = p := fun {p} hp => by
        obtain ⟨t, rfl⟩ := List.isPrefixOf_iff_prefix.1 hp
        rw [List.take_left']
        rfl
      cases h3 : signW 1 marksL l with
      | some x =>
        rw [h3] at h
        cases h
        obtain ⟨p, hp, rfl, rfl⟩ := sign_some h3
        rw [hpre (first_mem hp).2]
        exact .mark p (first_mem hp).1
      | none =>
        rw [h3, orW_none] at h
        cases h4 : signW 5 opsL l with
        | some x =>
          rw [h4] at h
          cases h
          obtain ⟨p, hp, rfl, rfl⟩ := sign_some h4
          rw [hpre (first_mem hp).2]
          exact .op p (first_mem hp).1
        | none =>
          rw [h4, orW_none] at h
          cases h5 : signW (starK e) [[42]] l with
          | some x =>
            rw [h5] at h
            cases h
            obtain ⟨p, hp, rfl, rfl⟩ := sign_some h5
            rw [hpre (first_mem hp).2]
            have hm := (first_mem hp).1
            rw [List.mem_singleton] at hm
            subst hm
            exact .star
          | none =>
            rw [h5, orW_none] at h
            cases h6 : varW l with
            | some x =>
              rw [h6] at h
              cases h
              unfold varW at h6
              split at h6
              · rename_i hc
                cases h6
                rw [Bool.and_eq_true] at hc
                obtain ⟨t, rfl⟩ := List.isPrefixOf_iff_prefix.1 hc.1
                have e1 : (([36] ++ t : List UInt8)).drop 1 = t := rfl
                rw [e1] at hc ⊢
                have e2 : ([36] ++ t : List UInt8).take (1 + runL t) = 36 :: t.take (runL t) := by rw [Nat.add_comm]; rfl
                rw [e2]
                exact .var _ hc.2
              · cases h6
            | none =>
              rw [h6, orW_none] at h
              unfold nameW at h
              split at h
              · rename_i hc
                cases h
                rw [Bool.and_eq_true] at hc
                exact .name _ hc.1 hc.2
              · cases h
/-- a name's run is the name -/
theorem nm_run {n : List UInt8} (h : nmD (bs n) = true) : runL n = n.length := by
  unfold nmD at h
  simp only [Bool.and_eq_true, bs_list] at h
  have ht := h.1.2
  have hp := h.2.2
  clear h
  have key : ∀ (m : Nat) (l : List UInt8), l.length ≤ m → txD l = true → allR paC l = true → runL l = l.length := by
    intro m
    induction m with
    | zero =>
      intro l hl _ _
      obtain rfl : l = [] := List.eq_nil_of_length_eq_zero (by omega)
      rfl
    | succ m ih =>
      intro l hl h1 h2
      by_cases hne : l = []
      · subst hne; rfl
      · obtain ⟨q1, q2, q3⟩ := tx_step hne h1
        rw [allR_step paC l hne, Bool.and_eq_true] at h2
        have ho : oneL l = decodeL l := by
          unfold oneL
          rw [if_neg hne, if_neg q1]
        have hw := decodeL_width l
        have hle := decodeL_le l hne
        have := ih (l.drop (decodeL l).2) (by rw [List.length_drop]; omega) q3 h2.2
        rw [run_go (by rw [ho]; omega) (by rw [ho]; exact h2.1), ho, this, List.length_drop]
        omega
  exact key _ n (Nat.le_refl _) ht hp
/-- a name's first byte begins nothing else -/
theorem nm_other {c : UInt8} {t : List UInt8} (h : nmD (bs (c :: t)) = true) : headB c = false := by
  cases hc : headB c with
  | false => rfl
  | true =>
    obtain ⟨h1, h2⟩ := head_low c hc
    rw [nm_head h h1] at h2
    cases h2
theorem other_none {c : UInt8} (t : List UInt8) (h : headB c = false) (e : Bool) : litW (c :: t) = none ∧ numW (c :: t) = none ∧ signW 1 marksL (c :: t) = none ∧ signW 5 opsL (c :: t) = none ∧ signW (starK e) [[42]] (c :: t) = none ∧ varW (c :: t) = none := by
  unfold headB at h
  simp only [Bool.or_eq_false_iff, beq_eq_false_iff_ne] at h
  obtain ⟨⟨⟨⟨h1, h2⟩, h3⟩, h4⟩, h5⟩ := h
  have h46 : c ≠ 46 := by rintro rfl; exact absurd h4 (by decide)
  obtain ⟨q1, q2, q3⟩ := signs_none t h4 e
  exact ⟨litW_none t ⟨h1, h2⟩, numW_none t h3 h46, q1, q2, q3, varW_none t h5⟩
theorem siz_head {c : UInt8} {t : List UInt8} (h : sizN (c :: t) ≠ 0) : digB c = true ∨ c = 46 := by
  cases hd : digB c with
  | true => exact .inl rfl
  | false =>
    refine .inr ?_
    by_cases h46 : c = 46
    · exact h46
    · exact absurd (siz_none t hd h46) h
theorem num_noq {c : UInt8} {t : List UInt8} (h : sizN (c :: t) ≠ 0) : c ≠ 34 ∧ c ≠ 39 := by
  rcases siz_head h with h | h
  · exact ⟨fun e => by rw [e] at h; exact absurd h (by decide), fun e => by rw [e] at h; exact absurd h (by decide)⟩
  · subst h; decide
/-- a word, and what begins with a space behind it -/
theorem form_wd {e : Bool} {x : Nat} {w : Wd} {u : List UInt8} (h : Form e x w u) {g : List UInt8} (hg : Sp g) (hx : nxL g = x) : wdL (u ++ g) e = some (w, u.length) := by
  unfold wdL
  cases h with
  | lit q s hq hs =>
    have hlit : litW (q :: (s ++ [q]) ++ g) = some (⟨8, s, .num 0⟩, s.length + 2) := by
      have ht : (s ++ [q] ++ g).takeWhile (· != q) = s := by
        rw [List.append_assoc, tw_app (g := [q] ++ g) (.inr ⟨q, g, rfl, by simp⟩), tw_yes fun b hb => by simpa using hs b hb]
      show litW (q :: (s ++ [q] ++ g)) = _
      rw [litW_cons, if_pos hq, ht, if_pos (by simp)]
    rw [hlit, orW_some]
    simp
  | num u v hv hz =>
    cases u with
    | nil => cases hv
    | cons c t =>
      have h0 : sizN (c :: t) ≠ 0 := by rw [hz]; simp
      have hq := num_noq h0
      rw [show (c :: t) ++ g = c :: (t ++ g) from rfl, litW_none _ hq, orW_none]
      rw [show c :: (t ++ g) = (c :: t) ++ g from rfl, numW_app hg]
      have : numW (c :: t) = some (⟨9, c :: t, .num v⟩, (c :: t).length) := by
        unfold numW
        rw [hz, List.take_length, hv]
        rfl
      rw [this, orW_some]
  | mark u hu =>
    rw [numW_app hg, signW_app hg _ _ (by decide)]
    unfold marksL at hu
    simp only [List.mem_cons, List.not_mem_nil, or_false] at hu
    rcases hu with rfl | rfl | rfl | rfl | rfl | rfl | rfl | rfl | rfl <;> rfl
  | op u hu =>
    rw [numW_app hg, signW_app hg _ _ (by decide), signW_app hg _ _ (by decide)]
    unfold opsL at hu
    simp only [List.mem_cons, List.not_mem_nil, or_false] at hu
    rcases hu with rfl | rfl | rfl | rfl | rfl | rfl | rfl | rfl | rfl | rfl | rfl <;> rfl
  | star =>
    rw [numW_app hg, signW_app hg _ _ (by decide), signW_app hg _ _ (by decide), signW_app hg _ _ (by decide)]
    rfl
  | var n hn =>
    have hr : runL (n ++ g) = n.length := by rw [runL_app hg, nm_run hn]
    have hv : varW (36 :: n ++ g) = some (⟨10, n, .num 0⟩, 1 + n.length) := by
      have e1 : (36 :: n ++ g).drop 1 = n ++ g := rfl
      have e2 : (n ++ g).take n.length = n := by rw [List.take_left']; rfl
      unfold varW
      rw [e1, hr, e2, hn]
      rfl
    rw [hv, show 36 :: n ++ g = 36 :: (n ++ g) from rfl, litW_none _ (by decide), numW_none _ (by decide) (by decide), (signs_none (n ++ g) (c := 36) (by decide) e).1, (signs_none (n ++ g) (c := 36) (by decide) e).2.1, (signs_none (n ++ g) (c := 36) (by decide) e).2.2]
    show some _ = some _
    rw [List.length_cons, Nat.add_comm]
  | name u hn hj =>
    have hp := nm_pos hn
    have hr : runL (u ++ g) = u.length := by rw [runL_app hg, nm_run hn]
    have hv : nameW e (u ++ g) = some (⟨kindN e u x, u, .num 0⟩, u.length) := by
      have e2 : (u ++ g).take u.length = u := by rw [List.take_left']; rfl
      have e3 : (u ++ g).drop u.length = g := by rw [List.drop_left']; rfl
      unfold nameW
      rw [hr, e2, e3, hn, hj, hx]
      rfl
    rw [hv]
    cases u with
    | nil => exact absurd hp (by simp)
    | cons c t =>
      obtain ⟨q1, q2, q3, q4, q5, q6⟩ := other_none (t ++ g) (nm_other hn) e
      rw [show (c :: t) ++ g = c :: (t ++ g) from rfl, q1, q2, q3, q4, q5, q6]
      rfl
/-- how a word is written -/
def textW (w : Wd) : List UInt8 := if w.k = 10 then 36 :: w.s else if w.k = 8 then (if w.s.contains 34 then 39 :: (w.s ++ [39]) else 34 :: (w.s ++ [34])) else w.s
theorem kindN_ne (e : Bool) (n : List UInt8) (x : Nat) : kindN e n x ≠ 10 ∧ kindN e n x ≠ 8 ∧ kindN e n x ≠ 1 := by
  unfold kindN
  split
  · decide
  · split
    · split <;> decide
    · split <;> decide
theorem starK_ne (e : Bool) : starK e ≠ 10 ∧ starK e ≠ 8 ∧ starK e ≠ 1 := by cases e <;> decide
theorem form_text {e : Bool} {x : Nat} {w : Wd} {u : List UInt8} (h : Form e x w u) : Form e x w (textW w) := by
  unfold textW
  cases h with
  | lit q s hq hs =>
    rw [if_neg (show ¬ (8 : Nat) = 10 by decide), if_pos rfl]
    split
    · rename_i hc
      have hm : (34 : UInt8) ∈ s := by simpa using hc
      refine .lit 39 s (.inr rfl) ?_
      rcases hq with rfl | rfl
      · exact absurd rfl (hs 34 hm)
      · exact hs
    · rename_i hc
      have hm : ¬ (34 : UInt8) ∈ s := by simpa using hc
      exact .lit 34 s (.inl rfl) fun b hb e => hm (e ▸ hb)
  | num u v hv hz => rw [if_neg (by decide : ¬ (9 : Nat) = 10), if_neg (by decide : ¬ (9 : Nat) = 8)]; exact .num _ v hv hz
  | mark u hu => rw [if_neg (by decide : ¬ (1 : Nat) = 10), if_neg (by decide : ¬ (1 : Nat) = 8)]; exact .mark u hu
  | op u hu => rw [if_neg (by decide : ¬ (5 : Nat) = 10), if_neg (by decide : ¬ (5 : Nat) = 8)]; exact .op u hu
  | star => rw [if_neg (starK_ne e).1, if_neg (starK_ne e).2.1]; exact .star
  | var n hn => rw [if_pos rfl]; exact .var n hn
  | name u hn hj => rw [if_neg (kindN_ne e u x).1, if_neg (kindN_ne e u x).2.1]; exact .name u hn hj
/-- what a word says, as what stands behind a name -/
def nxW (w : Wd) : Nat := if w.k = 1 ∧ w.s = [40] then 1 else if w.k = 1 ∧ w.s = [58, 58] then 2 else 0
theorem nx0_head {c : UInt8} (t : List UInt8) (h : c ≠ 40 ∧ c ≠ 58) : nx0 (c :: t) = 0 := by
  unfold nx0
  have h1 : ([40] : List UInt8).isPrefixOf (c :: t) = false := by simp [List.isPrefixOf]; exact fun e => h.1 e.symm
  have h2 : ([58, 58] : List UInt8).isPrefixOf (c :: t) = false := by simp [List.isPrefixOf]; exact fun e => absurd e.symm h.2
  rw [h1, h2]
  rfl
theorem form_nx {e : Bool} {x : Nat} {w : Wd} {u : List UInt8} (h : Form e x w u) (r : List UInt8) : nx0 (u ++ r) = nxW w := by
  cases h with
  | lit q s hq hs =>
    have : q ≠ 40 ∧ q ≠ 58 := by rcases hq with rfl | rfl <;> decide
    exact nx0_head _ this
  | num u v hv hz =>
    cases u with
    | nil => cases hv
    | cons c t =>
      have h0 : sizN (c :: t) ≠ 0 := by rw [hz]; simp
      refine nx0_head _ ?_
      rcases siz_head h0 with h | h
      · exact ⟨fun e => by rw [e] at h; exact absurd h (by decide), fun e => by rw [e] at h; exact absurd h (by decide)⟩
      · subst h; decide
  | mark u hu =>
    unfold marksL at hu
    simp only [List.mem_cons, List.not_mem_nil, or_false] at hu
    rcases hu with rfl | rfl | rfl | rfl | rfl | rfl | rfl | rfl | rfl <;> rfl
  | op u hu =>
    unfold opsL at hu
    simp only [List.mem_cons, List.not_mem_nil, or_false] at hu
    rcases hu with rfl | rfl | rfl | rfl | rfl | rfl | rfl | rfl | rfl | rfl | rfl <;> rfl
  | star =>
    unfold nxW
    rw [if_neg fun h => (starK_ne e).2.2 h.1, if_neg fun h => (starK_ne e).2.2 h.1]
    rfl
  | var n hn => exact nx0_head _ (by decide)
  | name u hn hj =>
    unfold nxW
    rw [if_neg fun h => (kindN_ne e u x).2.2 h.1, if_neg fun h => (kindN_ne e u x).2.2 h.1]
    have hp := nm_pos hn
    cases u with
    | nil => exact absurd hp (by simp)
    | cons c t =>
      have h := nm_other hn
      exact nx0_head _ ⟨fun e => by rw [e] at h; exact absurd h (by decide), fun e => by rw [e] at h; exact absurd h (by decide)⟩
theorem form_head {e : Bool} {x : Nat} {w : Wd} {u : List UInt8} (h : Form e x w u) : ∃ c t, u = c :: t ∧ spC (c.toNat : Int) = false := by
  cases h with
  | lit q s hq hs => exact ⟨q, _, rfl, by rcases hq with rfl | rfl <;> decide⟩
  | num u v hv hz =>
    cases u with
    | nil => cases hv
    | cons c t =>
      refine ⟨c, t, rfl, ?_⟩
      have h0 : sizN (c :: t) ≠ 0 := by rw [hz]; simp
      cases hs : spC (c.toNat : Int) with
      | false => rfl
      | true =>
        rcases siz_head h0 with h | h
        · rw [sp_dig hs] at h; cases h
        · subst h; exact absurd hs (by decide)
  | mark u hu =>
    unfold marksL at hu
    simp only [List.mem_cons, List.not_mem_nil, or_false] at hu
    rcases hu with rfl | rfl | rfl | rfl | rfl | rfl | rfl | rfl | rfl <;> exact ⟨_, _, rfl, by decide⟩
  | op u hu =>
    unfold opsL at hu
    simp only [List.mem_cons, List.not_mem_nil, or_false] at hu
    rcases hu with rfl | rfl | rfl | rfl | rfl | rfl | rfl | rfl | rfl | rfl | rfl <;> exact ⟨_, _, rfl, by decide⟩
  | star => exact ⟨42, [], rfl, by decide⟩
  | var n hn => exact ⟨36, n, rfl, by decide⟩
  | name u hn hj =>
    have hp := nm_pos hn
    cases u with
    | nil => exact absurd hp (by simp)
    | cons c t =>
      refine ⟨c, t, rfl, ?_⟩
      cases hs : spC (c.toNat : Int) with
      | false => rfl
      | true =>
        have h1 := sp_low hs
        have h2 := nm_head hn (by omega)
        have : paC (c.toNat : Int) = true := by unfold paC; rw [h2]; rfl
        rw [pa_sp _ this] at hs
        cases hs
def ascL (l : List UInt8) : Bool := l.all fun b => decide (b.toNat < 128) && isC (b.toNat : Int)
theorem asc_tx : ∀ {l : List UInt8}, ascL l = true → txD l = true
  | [], _ => rfl
  | b :: l, h => by
    unfold ascL at h
    rw [List.all_cons, Bool.and_eq_true, Bool.and_eq_true, decide_eq_true_eq] at h
    rw [tx_ascii b l h.1.1, h.1.2, asc_tx h.2]
    rfl
theorem quote_tx {q : UInt8} (hq : q = 34 ∨ q = 39) {s : List UInt8} (h : txD s = true) : txD (q :: (s ++ [q])) = true := by
  have hq2 : q.toNat < 128 ∧ isC (q.toNat : Int) = true := by rcases hq with rfl | rfl <;> decide
  rw [tx_ascii q _ hq2.1, hq2.2, tx_more s _ h, tx_ascii q _ hq2.1, hq2.2]
  rfl
/-- what a text's word is written as is a text -/
theorem form_tx {e : Bool} {x : Nat} {w : Wd} {u : List UInt8} (h : Form e x w u) {r : List UInt8} (ht : txD (u ++ r) = true) : txD (textW w) = true := by
  unfold textW
  cases h with
  | lit q s hq hs =>
    have hq2 : q.toNat < 128 := by rcases hq with rfl | rfl <;> decide
    have h1 : txD (s ++ (q :: r)) = true := by
      have e : q :: (s ++ [q]) ++ r = q :: (s ++ (q :: r)) := by simp
      rw [e, tx_ascii q _ hq2, Bool.and_eq_true] at ht
      exact ht.2
    rw [tx_split _ s _ (Nat.le_refl _) (by unfold asc0; rw [decide_eq_true_eq]; exact hq2), Bool.and_eq_true] at h1
    rw [if_neg (show ¬ (8 : Nat) = 10 by decide), if_pos rfl]
    split
    · exact quote_tx (.inr rfl) h1.1
    · exact quote_tx (.inl rfl) h1.1
  | num u v hv hz =>
    rw [if_neg (by decide : ¬ (9 : Nat) = 10), if_neg (by decide : ¬ (9 : Nat) = 8)]
    have hn : ∀ b ∈ u, digB b = true ∨ b = 46 := by
      intro b hb
      have e1 := List.take_append_drop (dgs u) u
      rw [← e1] at hb
      rcases List.mem_append.1 hb with hb | hb
      · rw [dgs_take] at hb
        exact .inl (tw_mem hb)
      · unfold sizN at hz
        cases hp : ([46] : List UInt8).isPrefixOf (u.drop (dgs u)) with
        | false =>
          rw [hp] at hz
          simp at hz
          rw [List.drop_eq_nil_of_le (by omega)] at hb
          cases hb
        | true =>
          rw [hp] at hz
          simp only [if_true] at hz
          obtain ⟨t, ht⟩ := List.isPrefixOf_iff_prefix.1 hp
          have htl : u.drop (dgs u + 1) = t := by rw [← List.drop_drop, ← ht]; rfl
          have hl := congrArg List.length ht
          rw [List.length_drop, List.length_append, List.length_singleton] at hl
          rw [htl] at hz
          rw [← ht] at hb
          rcases List.mem_append.1 hb with hb | hb
          · rw [List.mem_singleton] at hb; exact .inr hb
          · have h3 : t.take (dgs t) = t := List.take_of_length_le (by have := dgs_le u; omega)
            rw [← h3, dgs_take] at hb
            exact .inl (tw_mem hb)
    refine asc_tx (List.all_eq_true.2 fun b hb => ?_)
    have : ∀ n : Fin 256, (digB (UInt8.ofNat n.val) = true ∨ UInt8.ofNat n.val = 46) → (decide ((UInt8.ofNat n.val).toNat < 128) && isC ((UInt8.ofNat n.val).toNat : Int)) = true := by decide +kernel
    have h2 := this ⟨b.toNat, UInt8.toNat_lt b⟩
    rw [UInt8.ofNat_toNat] at h2
    exact h2 (hn b hb)
  | mark u hu =>
    rw [if_neg (by decide : ¬ (1 : Nat) = 10), if_neg (by decide : ¬ (1 : Nat) = 8)]
    unfold marksL at hu
    simp only [List.mem_cons, List.not_mem_nil, or_false] at hu
    rcases hu with rfl | rfl | rfl | rfl | rfl | rfl | rfl | rfl | rfl <;> exact asc_tx (by decide)
  | op u hu =>
    rw [if_neg (by decide : ¬ (5 : Nat) = 10), if_neg (by decide : ¬ (5 : Nat) = 8)]
    unfold opsL at hu
    simp only [List.mem_cons, List.not_mem_nil, or_false] at hu
    rcases hu with rfl | rfl | rfl | rfl | rfl | rfl | rfl | rfl | rfl | rfl | rfl <;> exact asc_tx (by decide)
  | star => rw [if_neg (starK_ne e).1, if_neg (starK_ne e).2.1]; exact asc_tx (l := [42]) (by decide)
  | var n hn =>
    rw [if_pos rfl, tx_ascii 36 n (by decide)]
    unfold nmD at hn
    simp only [Bool.and_eq_true, bs_list] at hn
    rw [hn.1.2]
    decide
  | name u hn hj =>
    rw [if_neg (kindN_ne e u x).1, if_neg (kindN_ne e u x).2.1]
    unfold nmD at hn
    simp only [Bool.and_eq_true, bs_list] at hn
    exact hn.1.2
/-- words, a space behind each -/
def joinW : List Wd → List UInt8
  | [] => []
  | w :: ws => textW w ++ (32 :: joinW ws)
theorem sp32 (t : List UInt8) : Sp (32 :: t) := .inr ⟨32, t, rfl, by decide⟩
theorem drop32 (t : List UInt8) : dropS (32 :: t) = dropS t := by rw [dropS_tw, dropS_tw]; rfl
/-- what words say of the first one of them -/
theorem app_inv {w : Wd} {r : Nat ⊕ List Wd} {ws : List Wd} (h : appW [w] r = .inr ws) : ∃ ws', ws = w :: ws' ∧ r = .inr ws' := by
  cases r with
  | inl x => cases h
  | inr v => cases h; exact ⟨v, rfl, rfl⟩
theorem lexG_inv {l : List UInt8} {e : Bool} {n : Nat} {w : Wd} {ws : List Wd} (h : lexG l e n = .inr (w :: ws)) : l ≠ [] ∧ n ≠ 120 ∧ ∃ k, wdL l e = some (w, k) ∧ lexG (dropS (l.drop k)) (endW w) (n + 1) = .inr ws := by
  by_cases hl : l = []
  · subst hl; rw [lexG_nil] at h; cases h
  · cases hw : wdL l e with
    | none => rw [lexG_none n hl hw] at h; cases h
    | some y =>
      obtain ⟨w', k⟩ := y
      by_cases hn : n = 120
      · subst hn; rw [lexG_full hl hw] at h; cases h
      · rw [lexG_some hl hw hn] at h
        obtain ⟨ws', h1, h2⟩ := app_inv h
        cases h1
        exact ⟨hl, hn, k, rfl, h2⟩
theorem lexG_end {l : List UInt8} {e : Bool} {n : Nat} (h : lexG l e n = .inr []) : l = [] := by
  by_cases hl : l = []
  · exact hl
  · cases hw : wdL l e with
    | none => rw [lexG_none n hl hw] at h; cases h
    | some y =>
      obtain ⟨w', k⟩ := y
      by_cases hn : n = 120
      · subst hn; rw [lexG_full hl hw] at h; cases h
      · rw [lexG_some hl hw hn] at h
        obtain ⟨ws', h1, h2⟩ := app_inv h
        cases h1
theorem take_app {l : List UInt8} (k : Nat) : l.take k ++ l.drop k = l := List.take_append_drop k l
theorem lex_nx {l : List UInt8} {e : Bool} {n : Nat} {ws : List Wd} (h : lexG l e n = .inr ws) : nx0 (joinW ws) = nx0 l ∧ dropS (joinW ws) = joinW ws := by
  cases ws with
  | nil => rw [lexG_end h]; exact ⟨rfl, rfl⟩
  | cons w ws =>
    obtain ⟨hl, hn, k, hw, _⟩ := lexG_inv h
    have hf := wd_form hw
    have h1 := form_nx hf (l.drop k)
    rw [take_app] at h1
    have h2 := form_nx (form_text hf) (32 :: joinW ws)
    refine ⟨h2.trans h1.symm, ?_⟩
    obtain ⟨c, t, hc, hs⟩ := form_head (form_text hf)
    show dropS (textW w ++ (32 :: joinW ws)) = textW w ++ (32 :: joinW ws)
    rw [hc]
    exact dropS_id _ hs
theorem lex_join : ∀ (ws : List Wd) (l : List UInt8) (e : Bool) (n : Nat), lexG l e n = .inr ws → lexG (joinW ws) e n = .inr ws
  | [], _, _, _, _ => rfl
  | w :: ws, l, e, n, h => by
    obtain ⟨hl, hn, k, hw, hr⟩ := lexG_inv h
    have hf := form_text (wd_form hw)
    obtain ⟨q1, q2⟩ := lex_nx hr
    have hx : nxL (32 :: joinW ws) = nxL (l.drop k) := by
      unfold nxL
      rw [drop32, q2, q1]
    have hwd := form_wd hf (sp32 (joinW ws)) hx
    obtain ⟨c, t, hc, hs⟩ := form_head hf
    have hne : textW w ++ (32 :: joinW ws) ≠ [] := by rw [hc]; simp
    show lexG (textW w ++ (32 :: joinW ws)) e n = _
    rw [lexG_some hne hwd hn, List.drop_left' rfl, drop32, q2, lex_join ws _ _ _ hr]
    rfl
theorem tx_dropS {l : List UInt8} (h : txD l = true) : txD (dropS l) = true := by
  have : ∀ (g y : List UInt8), (∀ b ∈ g, spC (b.toNat : Int) = true) → txD (g ++ y) = txD y := gap_tx
  have e := List.takeWhile_append_dropWhile (p := fun b : UInt8 => spC (b.toNat : Int)) (l := l)
  rw [← e, gap_tx _ _ fun b hb => tw_mem (p := fun b : UInt8 => spC (b.toNat : Int)) hb] at h
  rw [dropS_tw]
  exact h
theorem form_rest {e : Bool} {x : Nat} {w : Wd} {u : List UInt8} (h : Form e x w u) : ∀ {r : List UInt8}, txD (u ++ r) = true → txD r = true := by
  intro r ht
  cases h with
  | lit q s hq hs =>
    have hq2 : q.toNat < 128 := by rcases hq with rfl | rfl <;> decide
    have e : q :: (s ++ [q]) ++ r = q :: (s ++ (q :: r)) := by simp
    rw [e, tx_ascii q _ hq2, Bool.and_eq_true, tx_split _ s _ (Nat.le_refl _) (by unfold asc0; rw [decide_eq_true_eq]; exact hq2), Bool.and_eq_true, tx_ascii q _ hq2, Bool.and_eq_true] at ht
    exact ht.2.2.2
  | num u v hv hz =>
    have h := form_tx (e := e) (x := x) (.num u v hv hz) ht
    unfold textW at h
    rw [if_neg (by decide : ¬ (9 : Nat) = 10), if_neg (by decide : ¬ (9 : Nat) = 8)] at h
    rwa [tx_more u r h] at ht
  | mark u hu =>
    have h := form_tx (e := e) (x := x) (.mark u hu) ht
    unfold textW at h
    rw [if_neg (by decide : ¬ (1 : Nat) = 10), if_neg (by decide : ¬ (1 : Nat) = 8)] at h
    rwa [tx_more u r h] at ht
  | op u hu =>
    have h := form_tx (e := e) (x := x) (.op u hu) ht
    unfold textW at h
    rw [if_neg (by decide : ¬ (5 : Nat) = 10), if_neg (by decide : ¬ (5 : Nat) = 8)] at h
    rwa [tx_more u r h] at ht
  | star => rwa [tx_more [42] r (asc_tx (by decide))] at ht
  | var n hn =>
    have h := form_tx (e := e) (x := x) (.var n hn) ht
    unfold textW at h
    rw [if_pos rfl] at h
    rwa [tx_more _ r h] at ht
  | name u hn hj =>
    have h := form_tx (e := e) (x := x) (.name u hn hj) ht
    unfold textW at h
    rw [if_neg (kindN_ne e u x).1, if_neg (kindN_ne e u x).2.1] at h
    rwa [tx_more _ r h] at ht
theorem join_tx : ∀ (ws : List Wd) (l : List UInt8) (e : Bool) (n : Nat), lexG l e n = .inr ws → txD l = true → txD (joinW ws) = true
  | [], _, _, _, _, _ => rfl
  | w :: ws, l, e, n, h, ht => by
    obtain ⟨hl, hn, k, hw, hr⟩ := lexG_inv h
    have hf := wd_form hw
    rw [← take_app (l := l) k] at ht
    have h1 := form_tx hf ht
    have h2 := join_tx ws _ _ _ hr (tx_dropS (form_rest hf ht))
    show txD (textW w ++ (32 :: joinW ws)) = true
    rw [tx_more _ _ h1, tx_ascii 32 _ (by decide), h2]
    decide
/-- the words of a text, a space behind each, are the same words -/
theorem lex_again {s : List UInt8} {ws : List Wd} (h : lexL s = .inr ws) (hl : (joinW ws).length ≤ 400) : lexL (joinW ws) = .inr ws := by
  unfold lexL at h ⊢
  rw [if_neg (by omega)]
  split at h
  · cases h
  · split at h
    · cases h
    · rename_i h1 h2
      have ht : txD s = true := by simpa using h2
      rw [join_tx ws _ _ _ h (tx_dropS ht), if_neg (by simp), (lex_nx h).2]
      exact lex_join ws _ _ _ h
end Go.Proofs.YtapljbdklhnfkaaGreatDoor.Char

/- Mathematics without a program: a word by its first byte, as the document tells it. -/
namespace Go.Proofs.YtapljbdklhnfkaaGreatDoor.Char
open Go.Lib Go.RowKit
open Go.Proofs.YtapljbdklhnfkaaGreatDoor.Fig (litL digB ptB decL dval allD toldD fitD)

theorem decL_bound : ∀ (l : List UInt8) (n : Nat), l.foldl (fun n b => n * 10 + dval b) n ≤ (n + 256) * 11 ^ l.length
  | [], n => by simp
  | b :: l, n => by
    have h := decL_bound l (n * 10 + dval b)
    have hd : dval b ≤ 255 := by unfold dval; have := UInt8.toNat_lt b; omega
    rw [List.foldl_cons, List.length_cons, Nat.pow_succ, Nat.mul_comm (11 ^ l.length) 11, ← Nat.mul_assoc]
    exact Nat.le_trans h (Nat.mul_le_mul_right _ (by omega))
theorem allD_len (f : List UInt8) : (allD [] f).length = 6 := by
  unfold allD
  have : (f.take 6).length ≤ 6 := by rw [List.length_take]; omega
  simp only [List.nil_append, List.length_append, List.length_replicate]
  omega
theorem told_dot (f : List UInt8) : ∃ v, toldD [] f = .num v := by
  have h := decL_bound (allD [] f) 0
  rw [allD_len] at h
  have h2 : decL (allD [] f) ≤ 256 * 11 ^ 6 := by unfold decL; omega
  unfold toldD fitD
  rw [if_neg (by have : (256 * 11 ^ 6 : Nat) = 453519616 := by decide
                 omega), if_neg (by omega)]
  exact ⟨_, rfl⟩
theorem dw_all {q : UInt8 → Bool} : ∀ l : List UInt8, (∀ b ∈ l, q b = true) → l.dropWhile q = [] ∧ l.takeWhile q = l
  | [], _ => ⟨rfl, rfl⟩
  | b :: l, h => by
    obtain ⟨h1, h2⟩ := dw_all l fun c hc => h c (List.mem_cons_of_mem _ hc)
    rw [List.dropWhile_cons, List.takeWhile_cons, if_pos (h b List.mem_cons_self), if_pos (h b List.mem_cons_self), h1, h2]
    exact ⟨rfl, rfl⟩
theorem lit_dot {d : UInt8} {ds : List UInt8} (h : ∀ b ∈ d :: ds, digB b = true) : ∃ v, litL (46 :: d :: ds) = some (.num v) := by
  obtain ⟨v, hv⟩ := told_dot (d :: ds)
  obtain ⟨h1, h2⟩ := dw_all (d :: ds) h
  have hd := h d List.mem_cons_self
  have hp : ptB d = false := by
    unfold digB at hd
    unfold ptB
    simp only [Bool.and_eq_true, decide_eq_true_eq] at hd
    rw [beq_eq_false_iff_ne]
    omega
  have e1 : (46 :: d :: ds : List UInt8).dropWhile digB = 46 :: d :: ds := rfl
  have e2 : (46 :: d :: ds : List UInt8).takeWhile digB = [] := rfl
  have e3 : (46 :: d :: ds : List UInt8).dropWhile ptB = d :: ds := by
    rw [List.dropWhile_cons, if_pos (by decide), List.dropWhile_cons, if_neg (by rw [hp]; decide)]
  have e4 : (46 :: d :: ds : List UInt8).takeWhile ptB = [46] := by
    rw [List.takeWhile_cons, if_pos (by decide), List.takeWhile_cons, if_neg (by rw [hp]; decide)]
  refine ⟨v, ?_⟩
  show (if ((46 :: d :: ds : List UInt8).dropWhile digB |>.dropWhile ptB).dropWhile digB = [] ∧ (((46 :: d :: ds : List UInt8).dropWhile digB).takeWhile ptB).length ≤ 1 ∧ ¬ ((46 :: d :: ds : List UInt8).takeWhile digB = [] ∧ ((46 :: d :: ds : List UInt8).dropWhile digB |>.dropWhile ptB).takeWhile digB = []) then some (toldD ((46 :: d :: ds : List UInt8).takeWhile digB) (((46 :: d :: ds : List UInt8).dropWhile digB |>.dropWhile ptB).takeWhile digB)) else none) = _
  rw [e1, e2, e3, e4, h1, h2, if_pos ⟨rfl, by decide, by simp⟩, hv]
/-- a number that begins with a point is one -/
theorem num_dot (t : List UInt8) (h : 0 < dgs t) : ∃ x, numW (46 :: t) = some x := by
  have h0 : dgs (46 :: t) = 0 := dgs_none t (by decide)
  have hs : sizN (46 :: t) = 1 + dgs t := by
    unfold sizN
    rw [h0]
    show 0 + (if true = true then 1 + dgs t else 0) = _
    rw [if_pos rfl, Nat.zero_add]
  have hm : ∀ b ∈ t.take (dgs t), digB b = true := fun b hb => by rw [dgs_take] at hb; exact tw_mem hb
  have hl : (t.take (dgs t)).length = dgs t := by rw [List.length_take]; exact Nat.min_eq_left (dgs_le t)
  unfold numW
  rw [hs, show 1 + dgs t = dgs t + 1 by omega, List.take_succ_cons]
  cases hd : t.take (dgs t) with
  | nil => rw [hd] at hl; simp at hl; omega
  | cons d ds =>
    rw [hd] at hm
    obtain ⟨v, hv⟩ := lit_dot hm
    rw [hv]
    exact ⟨_, rfl⟩
theorem quote_wd {c : UInt8} (t : List UInt8) (e : Bool) (h : c = 34 ∨ c = 39) : wdL (c :: t) e = litW (c :: t) := by
  obtain ⟨a, b⟩ := head_low c (by rcases h with rfl | rfl <;> decide)
  obtain ⟨s1, s2, s3⟩ := signs_none (c := c) t (by rcases h with rfl | rfl <;> decide) e
  unfold wdL
  rw [numW_none t (by rcases h with rfl | rfl <;> decide) (by rcases h with rfl | rfl <;> decide), s1, s2, s3, varW_none t (by rcases h with rfl | rfl <;> decide), nameW_none t e a b]
  cases litW (c :: t) <;> rfl
theorem dig_ne {c : UInt8} (h : digB c = true) : c ≠ 34 ∧ c ≠ 39 ∧ signB c = false ∧ c ≠ 36 ∧ headB c = true := by
  have : ∀ n : Fin 256, digB (UInt8.ofNat n.val) = true → UInt8.ofNat n.val ≠ 34 ∧ UInt8.ofNat n.val ≠ 39 ∧ signB (UInt8.ofNat n.val) = false ∧ UInt8.ofNat n.val ≠ 36 ∧ headB (UInt8.ofNat n.val) = true := by decide +kernel
  have h2 := this ⟨c.toNat, UInt8.toNat_lt c⟩
  rw [UInt8.ofNat_toNat] at h2
  exact h2 h
theorem digit_wd {c : UInt8} (t : List UInt8) (e : Bool) (h : digB c = true) : wdL (c :: t) e = numW (c :: t) := by
  obtain ⟨n1, n2, n3, n4, n5⟩ := dig_ne h
  obtain ⟨a, b⟩ := head_low c n5
  obtain ⟨s1, s2, s3⟩ := signs_none (c := c) t n3 e
  unfold wdL
  rw [litW_none t ⟨n1, n2⟩, s1, s2, s3, varW_none t n4, nameW_none t e a b]
  cases numW (c :: t) <;> rfl
theorem dot_wd (t : List UInt8) (e : Bool) (h : 0 < dgs t) : wdL (46 :: t) e = numW (46 :: t) := by
  obtain ⟨x, hx⟩ := num_dot t h
  unfold wdL
  rw [litW_none t ⟨by decide, by decide⟩, hx]
  rfl
theorem dot_no (t : List UInt8) (h : dgs t = 0) : numW (46 :: t) = none := by
  have h0 : dgs (46 :: t) = 0 := dgs_none t (by decide)
  have hs : sizN (46 :: t) = 1 := by
    unfold sizN
    rw [h0]
    show 0 + (if true = true then 1 + dgs t else 0) = _
    rw [if_pos rfl, h]
  unfold numW
  rw [hs, show (46 :: t).take 1 = [46] from rfl]
  rfl
/-- what is neither a text nor a number -/
theorem rest_wd {c : UInt8} (t : List UInt8) (e : Bool) (h : c ≠ 34 ∧ c ≠ 39) (hn : numW (c :: t) = none) : wdL (c :: t) e = orW (signW 1 marksL (c :: t)) (orW (signW 5 opsL (c :: t)) (orW (signW (starK e) [[42]] (c :: t)) (orW (varW (c :: t)) (nameW e (c :: t))))) := by
  unfold wdL
  rw [litW_none t h, hn]
  rfl
end Go.Proofs.YtapljbdklhnfkaaGreatDoor.Char
