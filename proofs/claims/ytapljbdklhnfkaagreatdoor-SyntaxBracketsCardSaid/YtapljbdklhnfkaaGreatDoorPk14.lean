/- LexC DeepP KindA KindB KindC -/
import Derived.Test.YtapljbdklhnfkaaGreatDoorPk13
import Derived.Test.YtapljbdklhnfkaaGreatDoorPk11
import Derived.Test.YtapljbdklhnfkaaGreatDoorPk04
/- Mathematics of the lexer: a closing bracket behind words turns none of them. -/
namespace Go.Proofs.YtapljbdklhnfkaaGreatDoor.Char
open Go.Lib Go.RowKit
open Go.Proofs.YtapljbdklhnfkaaGreatDoor.Fig (Nm litL digB)

def noC (p : List UInt8) : Bool := p.all fun b => b != 41
theorem pre_c (t : List UInt8) : ∀ (p l : List UInt8), noC p = true → p.isPrefixOf (l ++ 41 :: t) = p.isPrefixOf l
  | [], l, _ => by cases l <;> rfl
  | x :: p, [], h => by
    unfold noC at h
    rw [List.all_cons, Bool.and_eq_true] at h
    have hx : x ≠ 41 := by simpa using h.1
    simp [List.isPrefixOf, hx]
  | x :: p, y :: l, h => by
    unfold noC at h
    rw [List.all_cons, Bool.and_eq_true] at h
    rw [List.cons_append, List.isPrefixOf, List.isPrefixOf, pre_c t p l h.2]
theorem pre_c2 (t p : List UInt8) {l : List UInt8} (hl : l ≠ []) (h : (noC p || p == [41]) = true) : p.isPrefixOf (l ++ 41 :: t) = p.isPrefixOf l := by
  rw [Bool.or_eq_true] at h
  rcases h with h | h
  · exact pre_c t p l h
  · rw [beq_iff_eq] at h
    subst h
    cases l with
    | nil => exact absurd rfl hl
    | cons y l => simp [List.isPrefixOf]
theorem dgs_c (t l : List UInt8) : dgs (l ++ 41 :: t) = dgs l := by
  unfold dgs
  rw [tw_app (.inr ⟨41, t, rfl, by decide⟩)]
theorem siz_c (t l : List UInt8) : sizN (l ++ 41 :: t) = sizN l := by
  have hd := dgs_le l
  unfold sizN
  rw [dgs_c, List.drop_append_of_le_length hd, pre_c t _ _ (by decide)]
  cases hp : ([46] : List UInt8).isPrefixOf (l.drop (dgs l)) with
  | false => rfl
  | true =>
    have h1 : dgs l + 1 ≤ l.length := by
      have := (List.isPrefixOf_iff_prefix.1 hp).length_le
      rw [List.length_drop] at this
      simp at this
      omega
    rw [List.drop_append_of_le_length h1, dgs_c]
theorem numW_c (t l : List UInt8) : numW (l ++ 41 :: t) = numW l := by
  unfold numW
  rw [siz_c, List.take_append_of_le_length (siz_le l)]
theorem signW_c (t : List UInt8) (k : Nat) (ss : List (List UInt8)) (hs : (ss.all fun p => noC p || p == [41]) = true) {l : List UInt8} (hl : l ≠ []) : signW k ss (l ++ 41 :: t) = signW k ss l := by
  unfold signW firstP
  rw [find_congr fun p hp => pre_c2 t p hl (List.all_eq_true.1 hs p hp)]
theorem one_c (t : List UInt8) {l : List UInt8} (hl : l ≠ []) : oneL (l ++ 41 :: t) = oneL l := by
  unfold oneL
  rw [if_neg hl, if_neg (by simp), decode_front l (41 :: t) hl (by rfl)]
theorem run_c0 (t : List UInt8) : runL (41 :: t) = 0 := by
  refine run_stop (.inr ?_)
  unfold oneL
  rw [if_neg (by simp), decodeL_ascii 41 t (by decide), if_neg (by decide)]
  decide
theorem run_c (t : List UInt8) : ∀ (n : Nat) (l : List UInt8), l.length ≤ n → runL (l ++ 41 :: t) = runL l
  | n, l, hn => by
    by_cases hl : l = []
    · subst hl
      rw [List.nil_append, run_c0]
      rfl
    · have ho := one_c t hl
      have hlp := List.length_pos_iff.2 hl
      by_cases h0 : (oneL l).2 = 0 ∨ paC ((oneL l).1 : Int) = false
      · rw [run_stop h0, run_stop (by rw [ho]; exact h0)]
      · have h1 : (oneL l).2 ≠ 0 := fun h => h0 (.inl h)
        have h2 : paC ((oneL l).1 : Int) = true := by
          cases hp : paC ((oneL l).1 : Int) with
          | true => rfl
          | false => exact absurd (.inr hp) h0
        have hle := one_le l
        rw [run_go h1 h2, run_go (by rw [ho]; exact h1) (by rw [ho]; exact h2), ho, List.drop_append_of_le_length hle]
        match n, hn with
        | 0, hn => omega
        | n + 1, hn => rw [run_c t n _ (by rw [List.length_drop]; omega)]
theorem runL_c (t l : List UInt8) : runL (l ++ 41 :: t) = runL l := run_c t _ l (Nat.le_refl _)
theorem varW_c (t : List UInt8) {l : List UInt8} (hl : l ≠ []) : varW (l ++ 41 :: t) = varW l := by
  have h1 : 1 ≤ l.length := List.length_pos_iff.2 hl
  unfold varW
  rw [pre_c t _ _ (by decide), List.drop_append_of_le_length h1, runL_c, List.take_append_of_le_length (run_le _ _ (Nat.le_refl _))]
theorem drop_c (t l : List UInt8) : dropS (l ++ 41 :: t) = dropS l ++ 41 :: t := by
  rw [dropS_app]
  split
  · rename_i h
    rw [h, dropS_id t (by decide)]
    rfl
  · rfl
theorem nx_c (t l : List UInt8) : nxL (l ++ 41 :: t) = nxL l := by
  unfold nxL nx0
  rw [drop_c, pre_c t _ _ (by decide), pre_c t _ _ (by decide)]
theorem nameW_c (t : List UInt8) (e : Bool) (l : List UInt8) : nameW e (l ++ 41 :: t) = nameW e l := by
  unfold nameW
  rw [runL_c, List.take_append_of_le_length (run_le _ _ (Nat.le_refl _)), List.drop_append_of_le_length (run_le _ _ (Nat.le_refl _)), nx_c]
/-- a word stays one, whatever stands behind a closing bracket -/
theorem wd_c (t : List UInt8) {l : List UInt8} {e : Bool} {w : Wd} {k : Nat} (h : wdL l e = some (w, k)) : wdL (l ++ 41 :: t) e = some (w, k) := by
  have hk := wdL_len h
  cases l with
  | nil => simp at hk; omega
  | cons c r =>
    by_cases hq : c = 34 ∨ c = 39
    · rw [quote_wd r e hq, litW_cons, if_pos hq] at h
      rw [List.cons_append, quote_wd _ e hq, litW_cons, if_pos hq]
      split at h
      · rename_i hl
        rw [tw_cut _ (by omega), if_pos (by rw [List.length_append]; omega)]
        exact h
      · cases h
    · have hne : c :: r ≠ [] := by simp
      have hq2 : c ≠ 34 ∧ c ≠ 39 := by rw [not_or] at hq; exact hq
      rw [← h]
      unfold wdL
      rw [numW_c, signW_c t _ _ (by decide) hne, signW_c t _ _ (by decide) hne, signW_c t _ _ (by decide) hne, varW_c t hne, nameW_c, List.cons_append, litW_none _ hq2, litW_none _ hq2]
/-- the words ahead of a closing bracket are those of the text by itself, as far as they are not too many -/
theorem lex_c (t : List UInt8) : ∀ (ws : List Wd) (x : List UInt8) (e : Bool) (n : Nat), lexG (dropS x) e n = .inr ws → ∀ m, m ≤ 120 →
    lexG (dropS (x ++ 41 :: t)) e m = if m + ws.length ≤ 120 then appW ws (lexG (41 :: t) (lastE e ws) (m + ws.length)) else .inl 3
  | [], x, e, n, h, m, hm => by
    have h0 := lexG_end h
    rw [drop_c, h0, if_pos (by simpa using hm)]
    show _ = appW [] _
    rw [appW_nil]
    rfl
  | w :: ws, x, e, n, h, m, hm => by
    obtain ⟨h0, h1, k, h2, h3⟩ := lexG_inv h
    have hk := wdL_len h2
    rw [drop_c]
    have hw := wd_c t h2
    have hne : dropS x ++ 41 :: t ≠ [] := by simp
    by_cases hm2 : m = 120
    · subst hm2
      rw [lexG_full hne hw, if_neg (by rw [List.length_cons]; omega)]
    · rw [lexG_some hne hw hm2, List.drop_append_of_le_length hk.2, lex_c t ws _ _ _ h3 (m + 1) (by omega), List.length_cons]
      by_cases hc : m + 1 + ws.length ≤ 120
      · rw [if_pos hc, if_pos (by omega), appW_app, show m + (ws.length + 1) = m + 1 + ws.length by omega]
        rfl
      · rw [if_neg hc, if_neg (by omega)]
        rfl
def opW : Wd := ⟨1, [40], .num 0⟩
def clW : Wd := ⟨1, [41], .num 0⟩
def plW : Wd := ⟨5, [43], .num 0⟩
theorem sign_first {k : Nat} {ss : List (List UInt8)} {l p : List UInt8} (h : firstP ss l = some p) : signW k ss l = some (⟨k, p, .num 0⟩, p.length) := by
  unfold signW
  rw [h]
  rfl
theorem wd_mark (l : List UInt8) (e : Bool) (c : UInt8) (hc : c = 40 ∨ c = 41) : wdL (c :: l) e = some (⟨1, [c], .num 0⟩, 1) := by
  unfold wdL
  have h1 : firstP marksL (c :: l) = some [c] := by
    rcases hc with rfl | rfl <;> rfl
  rw [litW_none l (by rcases hc with rfl | rfl <;> decide), numW_none l (by rcases hc with rfl | rfl <;> decide) (by rcases hc with rfl | rfl <;> decide), sign_first h1]
  rfl
theorem wd_plus (l : List UInt8) (e : Bool) : wdL (43 :: l) e = some (plW, 1) := by
  unfold wdL
  have h0 : firstP marksL (43 :: l) = none := by rfl
  have h1 : firstP opsL (43 :: l) = some [43] := by rfl
  have h2 : signW 1 marksL (43 :: l) = none := by unfold signW; rw [h0]; rfl
  rw [litW_none l (by decide), numW_none l (by decide) (by decide), h2, sign_first h1]
  rfl
theorem lex_op (l : List UInt8) (e : Bool) {n : Nat} (hn : n ≠ 120) : lexG (40 :: l) e n = appW [opW] (lexG (dropS l) false (n + 1)) := by
  rw [lexG_some (by simp) (wd_mark l e 40 (.inl rfl)) hn]
  rfl
theorem lex_op3 (l : List UInt8) (e : Bool) : lexG (40 :: l) e 120 = .inl 3 := lexG_full (by simp) (wd_mark l e 40 (.inl rfl))
theorem lex_cl (l : List UInt8) (e : Bool) {n : Nat} (hn : n ≠ 120) : lexG (41 :: l) e n = appW [clW] (lexG (dropS l) true (n + 1)) := by
  rw [lexG_some (by simp) (wd_mark l e 41 (.inr rfl)) hn]
  rfl
theorem lex_cl3 (l : List UInt8) (e : Bool) : lexG (41 :: l) e 120 = .inl 3 := lexG_full (by simp) (wd_mark l e 41 (.inr rfl))
theorem lex_pl (l : List UInt8) (e : Bool) {n : Nat} (hn : n ≠ 120) : lexG (43 :: l) e n = appW [plW] (lexG (dropS l) false (n + 1)) := by
  rw [lexG_some (by simp) (wd_plus l e) hn]
  rfl
theorem lex_pl3 (l : List UInt8) (e : Bool) : lexG (43 :: l) e 120 = .inl 3 := lexG_full (by simp) (wd_plus l e)
/-- too many words, or these -/
def LexIs (r : Nat ⊕ List Wd) (ws : List Wd) : Prop := r = .inl 3 ∨ r = .inr ws
theorem LexIs.app {r : Nat ⊕ List Wd} {ws : List Wd} (h : LexIs r ws) (vs : List Wd) : LexIs (appW vs r) (vs ++ ws) := by
  rcases h with rfl | rfl
  · exact .inl rfl
  · exact .inr rfl
/-- a text in brackets, and what is behind it -/
theorem lexIs_in {s t : List UInt8} {ws vs : List Wd} (h : lexG (dropS s) false 0 = .inr ws) (ht : ∀ n, n ≤ 120 → LexIs (lexG (dropS t) true n) vs) (e : Bool) (n : Nat) (hn : n ≤ 120) :
    LexIs (lexG (40 :: (s ++ 41 :: t)) e n) (opW :: (ws ++ clW :: vs)) := by
  by_cases h0 : n = 120
  · subst h0
    exact .inl (lex_op3 _ _)
  · rw [lex_op _ e h0, lex_c t ws s false 0 h (n + 1) (by omega)]
    refine LexIs.app (vs := [opW]) ?_
    by_cases hc : n + 1 + ws.length ≤ 120
    · rw [if_pos hc]
      show LexIs _ (ws ++ clW :: vs)
      refine LexIs.app ?_ ws
      by_cases h1 : n + 1 + ws.length = 120
      · rw [h1]
        exact .inl (lex_cl3 _ _)
      · rw [lex_cl _ _ h1]
        exact LexIs.app (vs := [clW]) (ht _ (by omega))
    · rw [if_neg hc]
      exact .inl rfl
theorem lexIs_nil (n : Nat) : LexIs (lexG (dropS []) true n) [] := .inr rfl
theorem lexIs_plus {t : List UInt8} {vs : List Wd} (ht : ∀ n, n ≤ 120 → LexIs (lexG (40 :: t) false n) vs) (n : Nat) (hn : n ≤ 120) : LexIs (lexG (dropS (32 :: 43 :: 32 :: 40 :: t)) true n) (plW :: vs) := by
  rw [drop32, dropS_id _ (by decide)]
  by_cases h0 : n = 120
  · subst h0
    exact .inl (lex_pl3 _ _)
  · rw [lex_pl _ _ h0, drop32, dropS_id _ (by decide)]
    exact LexIs.app (vs := [plW]) (ht _ (by omega))
theorem lexL_in {s : List UInt8} {ws : List Wd} (h : lexL s = .inr ws) : s.length ≤ 400 ∧ txD s = true ∧ lexG (dropS s) false 0 = .inr ws := by
  unfold lexL at h
  split at h
  · cases h
  · split at h
    · cases h
    · rename_i h1 h2
      exact ⟨by omega, by simpa using h2, h⟩
theorem lexL_of {s : List UInt8} (h1 : s.length ≤ 400) (h2 : txD s = true) : lexL s = lexG (dropS s) false 0 := by
  unfold lexL
  rw [if_neg (by omega), if_neg (by rw [h2]; decide)]
/-- the words of a text in brackets -/
theorem lex_brack {s : List UInt8} {ws : List Wd} (h : lexL s = .inr ws) (hl : s.length ≤ 190) : LexIs (lexL (40 :: (s ++ [41]))) (opW :: (ws ++ [clW])) := by
  obtain ⟨h1, h2, h3⟩ := lexL_in h
  rw [lexL_of (by simp; omega) (by
    rw [tx_ascii _ _ (by decide), tx_more s [41] h2]
    rfl), dropS_id _ (by decide)]
  exact lexIs_in h3 (fun n _ => lexIs_nil n) false 0 (by omega)
/-- the words of a sum of two texts in brackets -/
theorem lex_sum {s t : List UInt8} {ws vs : List Wd} (h : lexL s = .inr ws) (hl : s.length ≤ 190) (k : lexL t = .inr vs) (kl : t.length ≤ 190) :
    LexIs (lexL (40 :: (s ++ 41 :: 32 :: 43 :: 32 :: 40 :: (t ++ [41])))) (opW :: (ws ++ clW :: plW :: opW :: (vs ++ [clW]))) := by
  obtain ⟨h1, h2, h3⟩ := lexL_in h
  obtain ⟨k1, k2, k3⟩ := lexL_in k
  rw [lexL_of (by simp; omega) (by
    rw [tx_ascii _ _ (by decide), tx_more s _ h2, tx_ascii _ _ (by decide), tx_ascii _ _ (by decide), tx_ascii _ _ (by decide), tx_ascii _ _ (by decide), tx_ascii _ _ (by decide), tx_more t _ k2]
    rfl), dropS_id _ (by decide)]
  exact lexIs_in h3 (fun n hn => lexIs_plus (fun m hm => lexIs_in k3 (fun n _ => lexIs_nil n) false m hm) n hn) false 0 (by omega)
end Go.Proofs.YtapljbdklhnfkaaGreatDoor.Char

/- Whether too much is in brackets (written by gen_deep.py). -/
namespace Go.Proofs.YtapljbdklhnfkaaGreatDoor.Char
open Go.RowKit Go.Lib

/-- what a word makes of the brackets that are open -/
def deepS (n : Nat) (x : Wd) : Nat := if x.k = 1 then (if x.s = [40] ∨ x.s = [91] then n + 1 else if x.s = [41] ∨ x.s = [93] then n - 1 else n) else n
def deepF : Nat → List Wd → Bool
  | _, [] => false
  | n, x :: r => if 12 < deepS n x then true else deepF (deepS n x) r
def deepL (ts : List Wd) : Bool := deepF 0 ts
theorem deepF_cons (n : Nat) (x : Wd) (r : List Wd) : deepF n (x :: r) = if 12 < deepS n x then true else deepF (deepS n x) r := rfl

set_option maxRecDepth 100000 in
set_option maxHeartbeats 8000000 in
theorem deep_any (B : Nat) (v : Value) (ts : List Wd) (w : World) (ho : OwnsWd B w v ts) (hl : ts.length ≤ 1000) :
    Calls Tryz.prog 23 #[v] w fun e w' => e = .returned (.bool (deepL ts)) ∧ Below w.heap.size w w' := by
  obtain ⟨o, j, rfl⟩ := ho.form
  obtain ⟨G, hG⟩ : ∃ G, deepL ts = G := ⟨_, rfl⟩
  rw [hG]
  have HG := Lib.hid hG
  have HO := Lib.hid ho
  clear hG ho
  go_enter Tryz.func23, Tryz.ntmps23
  go_wp2_with fail
  go_loopw [3, 8] (fun v3 v8 wr => ∃ (n k : Nat), v3 = .int .i64 (n : Int) ∧ v8 = .int .i64 (k : Int) ∧ n ≤ 12 ∧ k ≤ ts.length ∧ Hid (deepF n (ts.drop k) = G ∧ Below w.heap.size w wr)) (fun _ v8 _ => ts.length - (RowKit.intOf v8).toNat)
  case atStart => exact ⟨0, 0, rfl, rfl, by omega, Nat.zero_le _, Lib.hid ⟨HG.out, Below.refl _ _⟩⟩
  case round =>
    clear HG
    obtain ⟨n, k, rfl, rfl, hn, hk, HI⟩ := hrel
    by_cases hlt : k < ts.length
    · obtain ⟨g, rfl, hg, x0, x1, x2, x3⟩ := (HO.out.below HI.out.2).reads k hlt
      have k0 : decide ((k : Int) < (ts.length : Int)) = true := decide_eq_true (by omega)
      have hz0 : (0 : Int) ≤ (k : Int) := by omega
      have hz1 : (k : Int) < (ts.length : Int) := by omega
      have hg2 := HI.out.1
      rw [List.drop_eq_getElem_cons hlt, deepF_cons] at hg2
      have HLT := Lib.hid hlt
      generalize ts[k] = x at *
      have HB := Lib.hid fun (o : Obj) => HI.out.2.trans ((below_box (w := wr) o).mono HI.out.2.size)
      clear hlt
      by_cases h1 : x.k = 1
      · have k1 : ((x.k : Int) != 1) = false := by rw [h1]; rfl
        have hms : x.s = [40] ∨ x.s = [91] ∨ x.s = [41] ∨ x.s = [93] ∨ ¬ (x.s = [40] ∨ x.s = [91] ∨ x.s = [41] ∨ x.s = [93]) := by by_cases x.s = [40] ∨ x.s = [91] ∨ x.s = [41] ∨ x.s = [93] <;> simp_all
        rcases hms with e | e | e | e | e
        · have s0 : ((bs x.s).toList == [40]) = true := by rw [bs_tl, e]; rfl
          have hs : deepS n x = n + 1 := by unfold deepS; rw [if_pos h1, if_pos (by rw [e]; simp)]
          rw [hs] at hg2
          by_cases h12 : n = 12
          · rw [if_pos (by omega)] at hg2
            have HGE := Lib.hid hg2
            subst h12
            clear hs hg2 h1 e
            generalize (x.k : Int) = c0 at *
            generalize bs x.s = S at *
            go_wp2_with fail
            go_ret
            exact ⟨by rw [← HGE.out]; rfl, HB.out _⟩
          rw [if_neg (by omega)] at hg2
          have k12 : decide ((12 : Int) < (n : Int) + 1) = false := decide_eq_false (by omega)
          have HGE := Lib.hid hg2
          clear hs hg2 h1 e
          generalize (x.k : Int) = c0 at *
          generalize bs x.s = S at *
          go_wp2_with fail
          go_roundw
          case rel => exact ⟨n + 1, k + 1, by go_num, by go_num, by omega, HLT.out, Lib.hid ⟨HGE.out, HB.out _⟩⟩
          case measure =>
            have := HLT.out
            simp [RowKit.intOf]
            omega
        · have s0 : ((bs x.s).toList == [40]) = false := by rw [bs_tl, beq_eq_false_iff_ne]; rw [e]; decide
          have s1 : ((bs x.s).toList == [91]) = true := by rw [bs_tl, e]; rfl
          have hs : deepS n x = n + 1 := by unfold deepS; rw [if_pos h1, if_pos (by rw [e]; simp)]
          rw [hs] at hg2
          by_cases h12 : n = 12
          · rw [if_pos (by omega)] at hg2
            have HGE := Lib.hid hg2
            subst h12
            clear hs hg2 h1 e
            generalize (x.k : Int) = c0 at *
            generalize bs x.s = S at *
            go_wp2_with fail
            go_ret
            exact ⟨by rw [← HGE.out]; rfl, HB.out _⟩
          rw [if_neg (by omega)] at hg2
          have k12 : decide ((12 : Int) < (n : Int) + 1) = false := decide_eq_false (by omega)
          have HGE := Lib.hid hg2
          clear hs hg2 h1 e
          generalize (x.k : Int) = c0 at *
          generalize bs x.s = S at *
          go_wp2_with fail
          go_roundw
          case rel => exact ⟨n + 1, k + 1, by go_num, by go_num, by omega, HLT.out, Lib.hid ⟨HGE.out, HB.out _⟩⟩
          case measure =>
            have := HLT.out
            simp [RowKit.intOf]
            omega
        · have s0 : ((bs x.s).toList == [40]) = false := by rw [bs_tl, beq_eq_false_iff_ne]; rw [e]; decide
          have s1 : ((bs x.s).toList == [91]) = false := by rw [bs_tl, beq_eq_false_iff_ne]; rw [e]; decide
          have s2 : ((bs x.s).toList == [41]) = true := by rw [bs_tl, e]; rfl
          have hs : deepS n x = n - 1 := by unfold deepS; rw [if_pos h1, if_neg (by rw [e]; decide), if_pos (by rw [e]; simp)]
          rw [hs, if_neg (by omega)] at hg2
          cases n with
          | zero =>
            have HGE := Lib.hid hg2
            clear hs hg2 h1 e
            generalize (x.k : Int) = c0 at *
            generalize bs x.s = S at *
            go_wp2_with fail
            go_roundw
            case rel => exact ⟨0, k + 1, by go_num, by go_num, by omega, HLT.out, Lib.hid ⟨HGE.out, HB.out _⟩⟩
            case measure =>
              have := HLT.out
              simp [RowKit.intOf]
              omega
          | succ n =>
            have k13 : max (((n + 1 : Nat) : Int) - 1) 0 = (n : Int) := by omega
            have k14 : decide ((12 : Int) < (n : Int)) = false := decide_eq_false (by omega)
            have HGE := Lib.hid hg2
            clear hs hg2 h1 e
            generalize (x.k : Int) = c0 at *
            generalize bs x.s = S at *
            go_wp2_with fail
            go_roundw
            case rel => exact ⟨n, k + 1, by go_num, by go_num, by omega, HLT.out, Lib.hid ⟨HGE.out, HB.out _⟩⟩
            case measure =>
              have := HLT.out
              simp [RowKit.intOf]
              omega
        · have s0 : ((bs x.s).toList == [40]) = false := by rw [bs_tl, beq_eq_false_iff_ne]; rw [e]; decide
          have s1 : ((bs x.s).toList == [91]) = false := by rw [bs_tl, beq_eq_false_iff_ne]; rw [e]; decide
          have s2 : ((bs x.s).toList == [41]) = false := by rw [bs_tl, beq_eq_false_iff_ne]; rw [e]; decide
          have s3 : ((bs x.s).toList == [93]) = true := by rw [bs_tl, e]; rfl
          have hs : deepS n x = n - 1 := by unfold deepS; rw [if_pos h1, if_neg (by rw [e]; decide), if_pos (by rw [e]; simp)]
          rw [hs, if_neg (by omega)] at hg2
          cases n with
          | zero =>
            have HGE := Lib.hid hg2
            clear hs hg2 h1 e
            generalize (x.k : Int) = c0 at *
            generalize bs x.s = S at *
            go_wp2_with fail
            go_roundw
            case rel => exact ⟨0, k + 1, by go_num, by go_num, by omega, HLT.out, Lib.hid ⟨HGE.out, HB.out _⟩⟩
            case measure =>
              have := HLT.out
              simp [RowKit.intOf]
              omega
          | succ n =>
            have k13 : max (((n + 1 : Nat) : Int) - 1) 0 = (n : Int) := by omega
            have k14 : decide ((12 : Int) < (n : Int)) = false := decide_eq_false (by omega)
            have HGE := Lib.hid hg2
            clear hs hg2 h1 e
            generalize (x.k : Int) = c0 at *
            generalize bs x.s = S at *
            go_wp2_with fail
            go_roundw
            case rel => exact ⟨n, k + 1, by go_num, by go_num, by omega, HLT.out, Lib.hid ⟨HGE.out, HB.out _⟩⟩
            case measure =>
              have := HLT.out
              simp [RowKit.intOf]
              omega
        · have s0 : ((bs x.s).toList == [40]) = false := by rw [bs_tl, beq_eq_false_iff_ne]; exact fun hh => e (by rw [hh]; simp)
          have s1 : ((bs x.s).toList == [91]) = false := by rw [bs_tl, beq_eq_false_iff_ne]; exact fun hh => e (by rw [hh]; simp)
          have s2 : ((bs x.s).toList == [41]) = false := by rw [bs_tl, beq_eq_false_iff_ne]; exact fun hh => e (by rw [hh]; simp)
          have s3 : ((bs x.s).toList == [93]) = false := by rw [bs_tl, beq_eq_false_iff_ne]; exact fun hh => e (by rw [hh]; simp)
          have hs : deepS n x = n := by unfold deepS; rw [if_pos h1, if_neg (fun hh => e (by rcases hh with hh | hh <;> simp [hh])), if_neg (fun hh => e (by rcases hh with hh | hh <;> simp [hh]))]
          rw [hs, if_neg (by omega)] at hg2
          have k14 : decide ((12 : Int) < (n : Int)) = false := decide_eq_false (by omega)
          have HGE := Lib.hid hg2
          clear hs hg2 h1 e
          generalize (x.k : Int) = c0 at *
          generalize bs x.s = S at *
          go_wp2_with fail
          go_roundw
          case rel => exact ⟨n, k + 1, by go_num, by go_num, by omega, HLT.out, Lib.hid ⟨HGE.out, HB.out _⟩⟩
          case measure =>
            have := HLT.out
            simp [RowKit.intOf]
            omega
      · have k1 : ((x.k : Int) != 1) = true := by rw [bne_iff_ne]; omega
        have hs : deepS n x = n := by unfold deepS; rw [if_neg h1]
        rw [hs, if_neg (by omega)] at hg2
        have HGE := Lib.hid hg2
        clear hs hg2 h1
        generalize (x.k : Int) = c0 at *
        go_wp2_with fail
        go_roundw
        case rel => exact ⟨n, k + 1, rfl, by go_num, hn, HLT.out, Lib.hid ⟨HGE.out, HB.out _⟩⟩
        case measure =>
          have := HLT.out
          simp [RowKit.intOf]
          omega
    · have e : k = ts.length := by omega
      subst e
      have hg2 := HI.out.1
      rw [List.drop_length] at hg2
      have HGE := Lib.hid hg2
      have k0 : decide ((ts.length : Int) < (ts.length : Int)) = false := decide_eq_false (by omega)
      clear hg2 hlt
      go_wp2_with fail
      go_ret
      exact ⟨by rw [← HGE.out]; rfl, HI.out.2⟩
end Go.Proofs.YtapljbdklhnfkaaGreatDoor.Char

/- The walks of the lexer's small questions, and of the signs. -/
namespace Go.Proofs.YtapljbdklhnfkaaGreatDoor.Char
open Go.RowKit Go.Lib

theorem beq_dec {α : Type} [DecidableEq α] (a b : α) : (a == b) = decide (a = b) := by rw [Bool.eq_iff_iff, beq_iff_eq, decide_eq_true_iff]
theorem beq_list (a b : List UInt8) : (a == b) = decide (a = b) := by rw [Bool.eq_iff_iff, beq_iff_eq, decide_eq_true_iff]
theorem eq_bs (a b : List UInt8) (v : Bool) (h : decide (a = b) = v) : ((bs a).toList == b) = v := by
  rw [bs_tl, ← h, Bool.eq_iff_iff, beq_iff_eq, decide_eq_true_eq]
set_option maxHeartbeats 1000000 in
theorem joins_any (n : List UInt8) (w : World) : Calls Tryz.prog 137 #[.string (bs n)] w fun e w' => e = .returned (.bool (joinsL.contains n)) ∧ w' = w := by
  have h : joinsL.contains n = (decide (n = [97, 110, 100]) || (decide (n = [111, 114]) || (decide (n = [109, 111, 100]) || decide (n = [100, 105, 118])))) := by
    unfold joinsL
    simp only [List.contains_cons, List.contains_nil, Bool.or_false, beq_list]
  rw [h]
  cases h1 : decide (n = [97, 110, 100]) <;> cases h2 : decide (n = [111, 114]) <;> cases h3 : decide (n = [109, 111, 100]) <;> cases h4 : decide (n = [100, 105, 118]) <;>
  · have e1 := eq_bs _ _ _ h1
    have e2 := eq_bs _ _ _ h2
    have e3 := eq_bs _ _ _ h3
    have e4 := eq_bs _ _ _ h4
    clear h h1 h2 h3 h4
    generalize bs n = s at *
    go_enter Tryz.func137, Tryz.ntmps137
    go_wp2_with fail
    go_ret
    exact ⟨rfl, rfl⟩
set_option maxHeartbeats 1000000 in
theorem kindOf_any (n : List UInt8) (w : World) : Calls Tryz.prog 139 #[.string (bs n)] w fun e w' => e = .returned (.bool (typesL.contains n)) ∧ w' = w := by
  have h : typesL.contains n = (decide (n = [99, 111, 109, 109, 101, 110, 116]) || (decide (n = [116, 101, 120, 116]) || (decide (n = [112, 114, 111, 99, 101, 115, 115, 105, 110, 103, 45, 105, 110, 115, 116, 114, 117, 99, 116, 105, 111, 110]) || decide (n = [110, 111, 100, 101])))) := by
    unfold typesL
    simp only [List.contains_cons, List.contains_nil, Bool.or_false, beq_list]
  rw [h]
  cases h1 : decide (n = [99, 111, 109, 109, 101, 110, 116]) <;> cases h2 : decide (n = [116, 101, 120, 116]) <;> cases h3 : decide (n = [112, 114, 111, 99, 101, 115, 115, 105, 110, 103, 45, 105, 110, 115, 116, 114, 117, 99, 116, 105, 111, 110]) <;> cases h4 : decide (n = [110, 111, 100, 101]) <;>
  · have e1 := eq_bs _ _ _ h1
    have e2 := eq_bs _ _ _ h2
    have e3 := eq_bs _ _ _ h3
    have e4 := eq_bs _ _ _ h4
    clear h h1 h2 h3 h4
    generalize bs n = s at *
    go_enter Tryz.func139, Tryz.ntmps139
    go_wp2_with fail
    go_ret
    exact ⟨rfl, rfl⟩
set_option maxHeartbeats 4000000 in
theorem ends_any (x : Wd) (w : World) : Calls Tryz.prog 105 #[wdV x] w fun e w' => e = .returned (.bool (endW x)) ∧ Below w.heap.size w w' := by
  obtain ⟨k, s, n⟩ := x
  have h : endW ⟨k, s, n⟩ = (!decide (k = 5) && !(decide (k = 1) && (decide (s = [64]) || (decide (s = [58, 58]) || (decide (s = [40]) || (decide (s = [91]) || decide (s = [44]))))))) := by
    unfold endW openL
    simp only [List.contains_cons, List.contains_nil, Bool.or_false, bne, beq_dec, beq_list]
  rw [h]
  clear h
  have hb := below_box (w := w) (.cells #[.int .i64 (k : Int), .string (bs s), .int .i64 (Fig.outT n), .int .i64 (Fig.outV n)] 84)
  have HB := Lib.hid hb
  unfold wdV
  dsimp only
  by_cases h1 : k = 1
  · subst h1
    rw [decide_eq_false (by decide : ¬ (1 : Nat) = 5), decide_eq_true rfl, Bool.not_false, Bool.true_and, Bool.true_and]
    cases e1 : decide (s = [64]) <;> cases e2 : decide (s = [58, 58]) <;> cases e3 : decide (s = [40]) <;> cases e4 : decide (s = [91]) <;> cases e5 : decide (s = [44]) <;>
    · have f1 := eq_bs _ _ _ e1
      have f2 := eq_bs _ _ _ e2
      have f3 := eq_bs _ _ _ e3
      have f4 := eq_bs _ _ _ e4
      have f5 := eq_bs _ _ _ e5
      clear e1 e2 e3 e4 e5 hb
      generalize bs s = u at *
      go_enter Tryz.func105, Tryz.ntmps105
      go_wp2_with fail
      go_ret
      exact ⟨rfl, HB.out⟩
  · have k1 : (((k : Nat) : Int) == 1) = false := by rw [beq_eq_false_iff_ne]; omega
    rw [decide_eq_false h1, Bool.false_and, Bool.not_false, Bool.and_true]
    by_cases h5 : k = 5
    · have k5 : (((k : Nat) : Int) != 5) = false := by rw [h5]; rfl
      rw [decide_eq_true h5]
      clear h1 h5 hb
      go_enter Tryz.func105, Tryz.ntmps105
      go_wp2_with fail
      go_ret
      exact ⟨rfl, HB.out⟩
    · have k5 : (((k : Nat) : Int) != 5) = true := by rw [bne_iff_ne]; omega
      rw [decide_eq_false h5]
      clear h1 h5 hb
      go_enter Tryz.func105, Tryz.ntmps105
      go_wp2_with fail
      go_ret
      exact ⟨rfl, HB.out⟩
theorem first_step {ss : List (List UInt8)} {l : List UInt8} {k : Nat} (hk : k < ss.length) : firstP (ss.drop k) l = if ss[k].isPrefixOf l then some ss[k] else firstP (ss.drop (k + 1)) l := by
  unfold firstP
  rw [List.drop_eq_getElem_cons hk, List.find?_cons]
  split <;> rename_i h <;> simp [h]
set_option maxHeartbeats 4000000 in
theorem oneOf_any (ss : List (List UInt8)) (l : List UInt8) (kd : Nat) (g : Nat) (w : World) (hg : g < w.heap.size) (hc : ∀ i (h : i < ss.length), w.cell? ⟨g, i, none⟩ = some (.string (bs ss[i]))) (hl : ss.length ≤ 100) :
    Calls Tryz.prog 135 #[.slice (some ⟨g, 0, none⟩) ss.length ss.length, .string (bs l), .int .i64 (kd : Int)] w (WdPost w (signW kd ss l)) := by
  obtain ⟨R, hR⟩ : ∃ R, firstP ss l = R := ⟨_, rfl⟩
  have hS : signW kd ss l = R.map fun p => (⟨kd, p, .num 0⟩, p.length) := by unfold signW; rw [hR]
  obtain ⟨W1, hW1⟩ : ∃ W1, W1 = w.alloc (.cells #[.int .i64 0, .string ⟨#[]⟩, .int .i64 0, .int .i64 0] 84) := ⟨_, rfl⟩
  have hb1 : Below w.heap.size w W1 := by rw [hW1]; exact below_box _
  have hk1 : W1.heap[w.heap.size]? = some (wdB wd0) := by rw [hW1]; exact World.alloc_heap_new w _
  have hcc : ∀ i (h : i < ss.length), W1.cell? ⟨g, i, none⟩ = some (.string (bs ss[i])) := fun i h => (hb1.cell (p := ⟨g, i, none⟩) hg).trans (hc i h)
  have HC := Lib.hid hcc
  have HB1 := Lib.hid hb1
  have HK1 := Lib.hid hk1
  have HS := Lib.hid hS
  have HR := Lib.hid hR
  obtain ⟨⟨d0, d1, d2, d3⟩, df⟩ := wd_blk hk1
  have f0 := df 0
  have f1 := df 1
  have f2 := df 2
  have f3 := df 3
  dsimp only [wd0] at d0 d1 d2 d3
  have HW1 := Lib.hid hW1
  clear hc hcc hb1 hk1 hS hR hW1 df
  go_enter Tryz.func135, Tryz.ntmps135
  go_upto_region 1 with fail
  rw [← HW1.out]
  clear HW1
  go_wp2_with fail
  go_loopw [12] (fun v wr => ∃ k : Nat, v = .int .i64 (k : Int) ∧ k ≤ ss.length ∧ wr = W1 ∧ Hid (firstP (ss.drop k) l = R)) (fun v _ => ss.length - (RowKit.intOf v).toNat)
  case atStart => exact ⟨0, rfl, Nat.zero_le _, rfl, HR⟩
  case round =>
    obtain ⟨k, rfl, hk, hwr, HF⟩ := hrel
    have hwr := hwr.symm
    subst hwr
    by_cases hlt : k < ss.length
    · have hst := first_step (l := l) hlt
      have hcell := HC.out k hlt
      have hpl := bs_size ss[k]
      obtain ⟨p, hp⟩ : ∃ p, ss[k] = p := ⟨_, rfl⟩
      rw [hp] at hst hcell hpl
      have hh := hasp_any l p W1
      have k1 : decide ((k : Int) < (ss.length : Int)) = true := decide_eq_true (by omega)
      have hz0 : (0 : Int) ≤ (k : Int) := by omega
      have hz1 : (k : Int) < (ss.length : Int) := by omega
      have HLT := Lib.hid hlt
      rw [HF.out] at hst
      cases hpre : p.isPrefixOf l with
      | true =>
        rw [hpre] at hh hst
        simp only [if_true] at hst
        have HH := Lib.hid hh
        have HST := Lib.hid hst
        clear hh hst hp hlt hk HF hpre
        go_wp2_with (first
          | (go_at_call 138
             refine HH.out.mono ?_
             rintro e w2 ⟨rfl, hw⟩
             have hw := hw.symm
             subst hw))
        exact end_word Tryz.results135 w W1 _ (x := ⟨kd, p, .num 0⟩) HK1.out HB1.out (by rw [HS.out, HST.out]; rfl) (by rw [HS.out, HST.out]; rfl) rfl rfl rfl
      | false =>
        rw [hpre] at hh hst
        simp only [Bool.false_eq_true, if_false] at hst
        have HH := Lib.hid hh
        have HST := Lib.hid hst.symm
        clear hh hst hp hlt hk HF hpre
        go_wp2_with (first
          | (go_at_call 138
             refine HH.out.mono ?_
             rintro e w2 ⟨rfl, hw⟩
             have hw := hw.symm
             subst hw))
        exact ⟨⟨k + 1, by go_num, by have := HLT.out; omega, by trivial, HST⟩, by have := HLT.out; simp [RowKit.intOf]; omega⟩
    · have hR0 : R = none := by rw [← HF.out, List.drop_eq_nil_of_le (by omega)]; rfl
      have k1 : decide ((k : Int) < (ss.length : Int)) = false := decide_eq_false (by omega)
      have k2 : decide (k < ss.length) = false := decide_eq_false hlt
      have HR0 := Lib.hid hR0
      clear hR0 hlt hk HF
      go_wp2_with fail
      exact end_word Tryz.results135 w W1 _ (x := wd0) HK1.out HB1.out (by rw [HS.out, HR0.out]; rfl) (by rw [HS.out, HR0.out]; rfl) rfl rfl rfl
end Go.Proofs.YtapljbdklhnfkaaGreatDoor.Char

/- The walks of the lexer's kinds of words: a mark, an operator, a star, a text, a variable. -/
namespace Go.Proofs.YtapljbdklhnfkaaGreatDoor.Char
open Go.RowKit Go.Lib

theorem marks_at {W : World} {g : Nat} (h : W.heap[g]? = some (.cells #[.string ⟨#[46, 46]⟩, .string ⟨#[58, 58]⟩, .string ⟨#[40]⟩, .string ⟨#[41]⟩, .string ⟨#[91]⟩, .string ⟨#[93]⟩, .string ⟨#[46]⟩, .string ⟨#[64]⟩, .string ⟨#[44]⟩] 149 (0, 0))) :
    ∀ i (hi : i < marksL.length), W.cell? ⟨g, i, none⟩ = some (.string (bs marksL[i])) := by
  intro i hi
  have : i = 0 ∨ i = 1 ∨ i = 2 ∨ i = 3 ∨ i = 4 ∨ i = 5 ∨ i = 6 ∨ i = 7 ∨ i = 8 := by
    have : marksL.length = 9 := rfl
    omega
  rcases this with rfl | rfl | rfl | rfl | rfl | rfl | rfl | rfl | rfl <;> (simp [World.cell?, h]; rfl)
theorem ops_at {W : World} {g : Nat} (h : W.heap[g]? = some (.cells #[.string ⟨#[47, 47]⟩, .string ⟨#[33, 61]⟩, .string ⟨#[60, 61]⟩, .string ⟨#[62, 61]⟩, .string ⟨#[47]⟩, .string ⟨#[124]⟩, .string ⟨#[43]⟩, .string ⟨#[45]⟩, .string ⟨#[61]⟩, .string ⟨#[60]⟩, .string ⟨#[62]⟩] 151 (0, 0))) :
    ∀ i (hi : i < opsL.length), W.cell? ⟨g, i, none⟩ = some (.string (bs opsL[i])) := by
  intro i hi
  have : i = 0 ∨ i = 1 ∨ i = 2 ∨ i = 3 ∨ i = 4 ∨ i = 5 ∨ i = 6 ∨ i = 7 ∨ i = 8 ∨ i = 9 ∨ i = 10 := by
    have : opsL.length = 11 := rfl
    omega
  rcases this with rfl | rfl | rfl | rfl | rfl | rfl | rfl | rfl | rfl | rfl | rfl <;> (simp [World.cell?, h]; rfl)
theorem star_at {W : World} {g : Nat} (h : W.heap[g]? = some (.cells #[.string ⟨#[42]⟩] 9 (0, 0))) : ∀ i (hi : i < ([[42]] : List (List UInt8)).length), W.cell? ⟨g, i, none⟩ = some (.string (bs ([[42]] : List (List UInt8))[i])) := by
  intro i hi
  obtain rfl : i = 0 := by simpa using hi
  simp [World.cell?, h]
  rfl
set_option maxHeartbeats 4000000 in
theorem mark_any (l : List UInt8) (w : World) : Calls Tryz.prog 96 #[.string (bs l)] w (WdPost w (signW 1 marksL l)) := by
  obtain ⟨W2, hW2⟩ : ∃ W2, W2 = (w.alloc (.cells #[.int .i64 0, .string ⟨#[]⟩, .int .i64 0, .int .i64 0] 84)).alloc (.cells #[.string ⟨#[46, 46]⟩, .string ⟨#[58, 58]⟩, .string ⟨#[40]⟩, .string ⟨#[41]⟩, .string ⟨#[91]⟩, .string ⟨#[93]⟩, .string ⟨#[46]⟩, .string ⟨#[64]⟩, .string ⟨#[44]⟩] 149) := ⟨_, rfl⟩
  have hb2 : Below w.heap.size w W2 := by rw [hW2]; exact ((Below.refl _ _).alloc (Nat.le_refl _) _).alloc (by simp) _
  have hk2 : W2.heap[w.heap.size]? = some (wdB wd0) := by
    rw [hW2, Below.heap_alloc _ _ _ (by simp)]
    exact World.alloc_heap_new w _
  have hr2 : W2.heap[w.heap.size + 1]? = some (.cells #[.string ⟨#[46, 46]⟩, .string ⟨#[58, 58]⟩, .string ⟨#[40]⟩, .string ⟨#[41]⟩, .string ⟨#[91]⟩, .string ⟨#[93]⟩, .string ⟨#[46]⟩, .string ⟨#[64]⟩, .string ⟨#[44]⟩] 149 (0, 0)) := by
    rw [hW2]
    have := World.alloc_heap_new (w.alloc (.cells #[.int .i64 0, .string ⟨#[]⟩, .int .i64 0, .int .i64 0] 84)) (.cells #[.string ⟨#[46, 46]⟩, .string ⟨#[58, 58]⟩, .string ⟨#[40]⟩, .string ⟨#[41]⟩, .string ⟨#[91]⟩, .string ⟨#[93]⟩, .string ⟨#[46]⟩, .string ⟨#[64]⟩, .string ⟨#[44]⟩] 149)
    simpa using this
  have hl2 : w.heap.size + 1 < W2.heap.size := (Array.getElem?_eq_some_iff.1 hr2).1
  have hC := oneOf_any marksL l 1 (w.heap.size + 1) W2 hl2 (marks_at hr2) (by decide)
  obtain ⟨P, hP⟩ : ∃ P, signW 1 marksL l = P := ⟨_, rfl⟩
  rw [hP] at hC ⊢
  unfold WdPost at hC
  obtain ⟨X, hX⟩ : ∃ X, (P.getD (wd0, 0)).1 = X := ⟨_, rfl⟩
  obtain ⟨n, hn⟩ : ∃ n, (P.getD (wd0, 0)).2 = n := ⟨_, rfl⟩
  rw [hX, hn] at hC
  unfold wdV at hC
  have HC := Lib.hid hC
  have HX := Lib.hid hX
  have HN := Lib.hid hn
  have HB2 := Lib.hid hb2
  have HK2 := Lib.hid hk2
  have HL2 := Lib.hid hl2
  have HW2 := Lib.hid hW2
  clear hC hP hX hn hb2 hk2 hr2 hl2 hW2
  go_enter Tryz.func96, Tryz.ntmps96
  go_wp2_with (first
    | (go_at_call 135
       rw [← HW2.out]
       refine HC.out.mono ?_
       rintro e w3 ⟨rfl, hb3⟩
       have hk3 : w3.heap[w.heap.size]? = some (wdB wd0) := (hb3.block _ (by have := HL2.out; omega)).trans HK2.out
       obtain ⟨⟨d0, d1, d2, d3⟩, df⟩ := wd_blk hk3
       have f0 := df 0
       have f1 := df 1
       have f2 := df 2
       have f3 := df 3
       have HK3 := Lib.hid hk3
       have HB3 := Lib.hid (HB2.out.trans (hb3.mono HB2.out.size))
       clear hb3 hk3 df HC HW2))
  exact end_word Tryz.results96 w w3 _ (x := X) HK3.out HB3.out HX.out (by rw [HN.out]) rfl rfl rfl
set_option maxHeartbeats 4000000 in
theorem operator_any (l : List UInt8) (w : World) : Calls Tryz.prog 98 #[.string (bs l)] w (WdPost w (signW 5 opsL l)) := by
  obtain ⟨W2, hW2⟩ : ∃ W2, W2 = (w.alloc (.cells #[.int .i64 0, .string ⟨#[]⟩, .int .i64 0, .int .i64 0] 84)).alloc (.cells #[.string ⟨#[47, 47]⟩, .string ⟨#[33, 61]⟩, .string ⟨#[60, 61]⟩, .string ⟨#[62, 61]⟩, .string ⟨#[47]⟩, .string ⟨#[124]⟩, .string ⟨#[43]⟩, .string ⟨#[45]⟩, .string ⟨#[61]⟩, .string ⟨#[60]⟩, .string ⟨#[62]⟩] 151) := ⟨_, rfl⟩
  have hb2 : Below w.heap.size w W2 := by rw [hW2]; exact ((Below.refl _ _).alloc (Nat.le_refl _) _).alloc (by simp) _
  have hk2 : W2.heap[w.heap.size]? = some (wdB wd0) := by
    rw [hW2, Below.heap_alloc _ _ _ (by simp)]
    exact World.alloc_heap_new w _
  have hr2 : W2.heap[w.heap.size + 1]? = some (.cells #[.string ⟨#[47, 47]⟩, .string ⟨#[33, 61]⟩, .string ⟨#[60, 61]⟩, .string ⟨#[62, 61]⟩, .string ⟨#[47]⟩, .string ⟨#[124]⟩, .string ⟨#[43]⟩, .string ⟨#[45]⟩, .string ⟨#[61]⟩, .string ⟨#[60]⟩, .string ⟨#[62]⟩] 151 (0, 0)) := by
    rw [hW2]
    have := World.alloc_heap_new (w.alloc (.cells #[.int .i64 0, .string ⟨#[]⟩, .int .i64 0, .int .i64 0] 84)) (.cells #[.string ⟨#[47, 47]⟩, .string ⟨#[33, 61]⟩, .string ⟨#[60, 61]⟩, .string ⟨#[62, 61]⟩, .string ⟨#[47]⟩, .string ⟨#[124]⟩, .string ⟨#[43]⟩, .string ⟨#[45]⟩, .string ⟨#[61]⟩, .string ⟨#[60]⟩, .string ⟨#[62]⟩] 151)
    simpa using this
  have hl2 : w.heap.size + 1 < W2.heap.size := (Array.getElem?_eq_some_iff.1 hr2).1
  have hC := oneOf_any opsL l 5 (w.heap.size + 1) W2 hl2 (ops_at hr2) (by decide)
  obtain ⟨P, hP⟩ : ∃ P, signW 5 opsL l = P := ⟨_, rfl⟩
  rw [hP] at hC ⊢
  unfold WdPost at hC
  obtain ⟨X, hX⟩ : ∃ X, (P.getD (wd0, 0)).1 = X := ⟨_, rfl⟩
  obtain ⟨n, hn⟩ : ∃ n, (P.getD (wd0, 0)).2 = n := ⟨_, rfl⟩
  rw [hX, hn] at hC
  unfold wdV at hC
  have HC := Lib.hid hC
  have HX := Lib.hid hX
  have HN := Lib.hid hn
  have HB2 := Lib.hid hb2
  have HK2 := Lib.hid hk2
  have HL2 := Lib.hid hl2
  have HW2 := Lib.hid hW2
  clear hC hP hX hn hb2 hk2 hr2 hl2 hW2
  go_enter Tryz.func98, Tryz.ntmps98
  go_wp2_with (first
    | (go_at_call 135
       rw [← HW2.out]
       refine HC.out.mono ?_
       rintro e w3 ⟨rfl, hb3⟩
       have hk3 : w3.heap[w.heap.size]? = some (wdB wd0) := (hb3.block _ (by have := HL2.out; omega)).trans HK2.out
       obtain ⟨⟨d0, d1, d2, d3⟩, df⟩ := wd_blk hk3
       have f0 := df 0
       have f1 := df 1
       have f2 := df 2
       have f3 := df 3
       have HK3 := Lib.hid hk3
       have HB3 := Lib.hid (HB2.out.trans (hb3.mono HB2.out.size))
       clear hb3 hk3 df HC HW2))
  exact end_word Tryz.results98 w w3 _ (x := X) HK3.out HB3.out HX.out (by rw [HN.out]) rfl rfl rfl
set_option maxHeartbeats 4000000 in
theorem star_any (l : List UInt8) (e : Bool) (w : World) : Calls Tryz.prog 100 #[.string (bs l), .bool e] w (WdPost w (signW (starK e) [[42]] l)) := by
  obtain ⟨W2, hW2⟩ : ∃ W2, W2 = (w.alloc (.cells #[.int .i64 0, .string ⟨#[]⟩, .int .i64 0, .int .i64 0] 84)).alloc (.cells #[.string ⟨#[42]⟩] 9) := ⟨_, rfl⟩
  have hb2 : Below w.heap.size w W2 := by rw [hW2]; exact ((Below.refl _ _).alloc (Nat.le_refl _) _).alloc (by simp) _
  have hk2 : W2.heap[w.heap.size]? = some (wdB wd0) := by
    rw [hW2, Below.heap_alloc _ _ _ (by simp)]
    exact World.alloc_heap_new w _
  have hr2 : W2.heap[w.heap.size + 1]? = some (.cells #[.string ⟨#[42]⟩] 9 (0, 0)) := by
    rw [hW2]
    have := World.alloc_heap_new (w.alloc (.cells #[.int .i64 0, .string ⟨#[]⟩, .int .i64 0, .int .i64 0] 84)) (.cells #[.string ⟨#[42]⟩] 9)
    simpa using this
  have hl2 : w.heap.size + 1 < W2.heap.size := (Array.getElem?_eq_some_iff.1 hr2).1
  have hC := oneOf_any [[42]] l (starK e) (w.heap.size + 1) W2 hl2 (star_at hr2) (by decide)
  obtain ⟨P, hP⟩ : ∃ P, signW (starK e) [[42]] l = P := ⟨_, rfl⟩
  rw [hP] at hC ⊢
  unfold WdPost at hC
  obtain ⟨X, hX⟩ : ∃ X, (P.getD (wd0, 0)).1 = X := ⟨_, rfl⟩
  obtain ⟨n, hn⟩ : ∃ n, (P.getD (wd0, 0)).2 = n := ⟨_, rfl⟩
  rw [hX, hn] at hC
  unfold wdV at hC
  have HC := Lib.hid hC
  have HX := Lib.hid hX
  have HN := Lib.hid hn
  have HB2 := Lib.hid hb2
  have HK2 := Lib.hid hk2
  have HL2 := Lib.hid hl2
  have HW2 := Lib.hid hW2
  clear hC hP hX hn hb2 hk2 hr2 hl2 hW2
  cases e
  all_goals
    unfold starK at HC
    simp only [Bool.false_eq_true, if_false, if_true] at HC
    go_enter Tryz.func100, Tryz.ntmps100
    go_wp2_with (first
      | (go_at_call 135
         rw [← HW2.out]
         refine HC.out.mono ?_
         rintro e w3 ⟨rfl, hb3⟩
         have hk3 : w3.heap[w.heap.size]? = some (wdB wd0) := (hb3.block _ (by have := HL2.out; omega)).trans HK2.out
         obtain ⟨⟨d0, d1, d2, d3⟩, df⟩ := wd_blk hk3
         have f0 := df 0
         have f1 := df 1
         have f2 := df 2
         have f3 := df 3
         have HK3 := Lib.hid hk3
         have HB3 := Lib.hid (HB2.out.trans (hb3.mono HB2.out.size))
         clear hb3 hk3 df HC HW2))
    exact end_word Tryz.results100 w w3 _ (x := X) HK3.out HB3.out HX.out (by rw [HN.out]) rfl rfl rfl
end Go.Proofs.YtapljbdklhnfkaaGreatDoor.Char

/- The walks of the lexer's kinds of words: a text in quotes, a number, a variable, a name. -/
namespace Go.Proofs.YtapljbdklhnfkaaGreatDoor.Char
open Go.RowKit Go.Lib

theorem wd0_at {w W : World} (h : W.heap[w.heap.size]? = some (wdB wd0)) : (W.cell? ⟨w.heap.size, 0, none⟩ = some (.int .i64 0) ∧ W.cell? ⟨w.heap.size, 1, none⟩ = some (.string ⟨#[]⟩) ∧ W.cell? ⟨w.heap.size, 2, none⟩ = some (.int .i64 0) ∧ W.cell? ⟨w.heap.size, 3, none⟩ = some (.int .i64 0)) ∧
    W.frozen? ⟨w.heap.size, 0, none⟩ = false ∧ W.frozen? ⟨w.heap.size, 1, none⟩ = false ∧ W.frozen? ⟨w.heap.size, 2, none⟩ = false ∧ W.frozen? ⟨w.heap.size, 3, none⟩ = false := by
  obtain ⟨h1, h2⟩ := wd_blk h
  exact ⟨h1, h2 0, h2 1, h2 2, h2 3⟩
set_option maxHeartbeats 8000000 in
theorem literal_any (c : UInt8) (t : List UInt8) (w : World) (hl : t.length ≤ 1000) (hG : MaxL w) : Calls Tryz.prog 92 #[.string (bs (c :: t))] w (WdPost w (litW (c :: t))) := by
  obtain ⟨W1, hW1⟩ : ∃ W1, W1 = w.alloc (.cells #[.int .i64 0, .string ⟨#[]⟩, .int .i64 0, .int .i64 0] 84) := ⟨_, rfl⟩
  have hb1 : Below w.heap.size w W1 := by rw [hW1]; exact below_box _
  have hk1 : W1.heap[w.heap.size]? = some (wdB wd0) := by rw [hW1]; exact World.alloc_heap_new w _
  have hl1 : w.heap.size < W1.heap.size := (Array.getElem?_eq_some_iff.1 hk1).1
  have hs1 := slice_to (c :: t) 1 (by simp)
  have hs2 := slice_from (c :: t) 1 (by simp)
  have e1 : (c :: t).take 1 = [c] := rfl
  have e2 : (c :: t).drop 1 = t := rfl
  rw [e1, show ((1 : Nat) : Int) = 1 from rfl] at hs1
  rw [e2, show ((1 : Nat) : Int) = 1 from rfl] at hs2
  have hsz : (bs (c :: t)).size = t.length + 1 := by rw [bs_size]; rfl
  have hcut := scut_any t [c] W1 (by omega) (hG.below hb1)
  obtain ⟨q1, q2⟩ := cut_one c t
  obtain ⟨⟨d0, d1, d2, d3⟩, f0, f1, f2, f3⟩ := wd0_at hk1
  have HW1 := Lib.hid hW1
  have HB1 := Lib.hid hb1
  have HK1 := Lib.hid hk1
  have HL1 := Lib.hid hl1
  rw [litW_cons]
  clear hG hb1 hk1 hl1 hW1 e1 e2
  by_cases hc : c = 34 ∨ c = 39
  · rw [if_pos hc]
    have hq : (((bs [c]).toList == [34]) = false ∧ ((bs [c]).toList == [39]) = true) ∨ ((bs [c]).toList == [34]) = true := by
      rw [bs_tl]
      rcases hc with rfl | rfl
      · exact .inr rfl
      · exact .inl ⟨rfl, rfl⟩
    obtain ⟨A, hA⟩ : ∃ A, t.takeWhile (· != c) = A := ⟨_, rfl⟩
    rw [hA] at q1 q2 ⊢
    have hAl : A.length ≤ t.length := by rw [← hA]; exact (List.takeWhile_prefix _).length_le
    have hAs : (bs A).size = A.length := bs_size A
    rw [q1, q2] at hcut
    generalize (cut t [c]).2.1 = Z at hcut
    by_cases hlt : A.length < t.length
    · rw [if_pos hlt, decide_eq_true hlt] at hcut
      rw [if_pos hlt]
      have HCUT := Lib.hid hcut
      have hA2 : A.length ≤ 1000 := by omega
      clear hcut q1 q2 hc hA hAl hlt
      rcases hq with ⟨k1, k2⟩ | k1
      all_goals
        generalize bs [c] = s at *
        go_enter Tryz.func92, Tryz.ntmps92
        go_upto_region 1 with fail
        rw [← HW1.out]
        clear HW1
        go_wp2_with (first
          | (go_at_call 131
             refine HCUT.out.mono ?_
             rintro e w3 ⟨rfl, hb3⟩
             have hk3 : w3.heap[w.heap.size]? = some (wdB wd0) := (hb3.block _ HL1.out).trans HK1.out
             clear d0 d1 d2 d3 f0 f1 f2 f3
             obtain ⟨⟨d0, d1, d2, d3⟩, f0, f1, f2, f3⟩ := wd0_at hk3
             have HK3 := Lib.hid hk3
             have HB3 := Lib.hid (HB1.out.trans (hb3.mono HB1.out.size))
             clear hb3 hk3 HCUT))
        exact end_word Tryz.results92 w w3 (some (⟨8, A, .num 0⟩, A.length + 2)) (x := ⟨8, A, .num 0⟩) HK3.out HB3.out (by rfl) (by rfl) rfl rfl rfl
    · rw [if_neg hlt, decide_eq_false hlt] at hcut
      rw [if_neg hlt]
      have HCUT := Lib.hid hcut
      clear hcut q1 q2 hc hA hAl hlt
      rcases hq with ⟨k1, k2⟩ | k1
      all_goals
        generalize bs [c] = s at *
        go_enter Tryz.func92, Tryz.ntmps92
        go_upto_region 1 with fail
        rw [← HW1.out]
        clear HW1
        go_wp2_with (first
          | (go_at_call 131
             refine HCUT.out.mono ?_
             rintro e w3 ⟨rfl, hb3⟩
             have hk3 : w3.heap[w.heap.size]? = some (wdB wd0) := (hb3.block _ HL1.out).trans HK1.out
             clear d0 d1 d2 d3 f0 f1 f2 f3
             obtain ⟨⟨d0, d1, d2, d3⟩, f0, f1, f2, f3⟩ := wd0_at hk3
             have HK3 := Lib.hid hk3
             have HB3 := Lib.hid (HB1.out.trans (hb3.mono HB1.out.size))
             clear hb3 hk3 HCUT))
        exact end_word Tryz.results92 w w3 none (x := wd0) HK3.out HB3.out (by rfl) (by rfl) rfl rfl rfl
  · rw [if_neg hc]
    have hq : ((bs [c]).toList == [34]) = false ∧ ((bs [c]).toList == [39]) = false := by
      rw [bs_tl]
      simp only [not_or] at hc
      exact ⟨by simpa using hc.1, by simpa using hc.2⟩
    obtain ⟨k1, k2⟩ := hq
    clear hc hcut q1 q2
    generalize bs [c] = s at *
    go_enter Tryz.func92, Tryz.ntmps92
    go_upto_region 1 with fail
    rw [← HW1.out]
    clear HW1
    go_wp2_with fail
    exact end_word Tryz.results92 w W1 none (x := wd0) HK1.out HB1.out (by rfl) (by rfl) rfl rfl rfl
theorem cutp12 (l p : List UInt8) (w : World) (v : Bool) (h : p.isPrefixOf l = v) : Calls Tryz.prog 133 #[.string (bs l), .string (bs p)] w fun e w' => e = .returned (.tuple #[.string (bs (if v then l.drop p.length else l)), .bool v]) ∧ w' = w := by
  have := cutp_any l p w
  rw [h] at this
  exact this
set_option maxHeartbeats 8000000 in
theorem variable_any (l : List UInt8) (w : World) (hl : l.length ≤ 1000) (ht : txD l = true) (hG : Gl w) : Calls Tryz.prog 102 #[.string (bs l)] w (WdPost w (varW l)) := by
  obtain ⟨W1, hW1⟩ : ∃ W1, W1 = w.alloc (.cells #[.int .i64 0, .string ⟨#[]⟩, .int .i64 0, .int .i64 0] 84) := ⟨_, rfl⟩
  have hb1 : Below w.heap.size w W1 := by rw [hW1]; exact below_box _
  have hk1 : W1.heap[w.heap.size]? = some (wdB wd0) := by rw [hW1]; exact World.alloc_heap_new w _
  have hl1 : w.heap.size < W1.heap.size := (Array.getElem?_eq_some_iff.1 hk1).1
  have hG1 := hG.below hb1
  have HW1 := Lib.hid hW1
  have HB1 := Lib.hid hb1
  have HK1 := Lib.hid hk1
  have HL1 := Lib.hid hl1
  have HKEY := Lib.hid fun (w3 : World) (hb3 : Below W1.heap.size W1 w3) => wd0_at ((hb3.block _ hl1).trans hk1)
  have HKB := Lib.hid fun (w3 : World) (hb3 : Below W1.heap.size W1 w3) => And.intro ((hb3.block _ hl1).trans hk1) (hb1.trans (hb3.mono hb1.size))
  clear hb1 hk1 hl1 hW1 hG
  cases hp : ([36] : List UInt8).isPrefixOf l with
  | false =>
    have hC := cutp12 l [36] W1 false hp
    simp only [Bool.false_eq_true, if_false] at hC
    have hR := lexRun_any l W1 (by omega) ht
    have HC := Lib.hid hC
    have HR := Lib.hid hR
    have hv : varW l = none := by unfold varW; rw [hp]; rfl
    rw [hv]
    clear hC hR hv hp hG1 ht
    generalize l.take (runL l) = N at *
    go_enter Tryz.func102, Tryz.ntmps102
    go_upto_region 1 with fail
    rw [← HW1.out]
    clear HW1
    go_wp2_with (first
      | (go_at_call 133
         refine HC.out.mono ?_
         rintro e w2 ⟨rfl, hw⟩
         have hw := hw.symm
         subst hw
         clear HC)
      | (go_at_call 136
         refine HR.out.mono ?_
         rintro e w3 ⟨rfl, hb3⟩
         obtain ⟨⟨d0, d1, d2, d3⟩, f0, f1, f2, f3⟩ := HKEY.out w3 hb3
         have HKB3 := Lib.hid (HKB.out w3 hb3)
         clear hb3 HR))
    exact end_word Tryz.results102 w w3 none (x := wd0) HKB3.out.1 HKB3.out.2 (by rfl) (by rfl) rfl rfl rfl
  | true =>
    have hC := cutp12 l [36] W1 true hp
    simp only [if_true] at hC
    have e1 : l.drop ([36] : List UInt8).length = l.drop 1 := rfl
    rw [e1] at hC
    have ht1 : txD (l.drop 1) = true := tx_take (m := [36]) (by decide) hp ht
    have hR := lexRun_any (l.drop 1) W1 (by rw [List.length_drop]; omega) ht1
    have hv : varW l = if nmD (bs ((l.drop 1).take (runL (l.drop 1)))) then some (⟨10, (l.drop 1).take (runL (l.drop 1)), .num 0⟩, 1 + runL (l.drop 1)) else none := by unfold varW; rw [hp]; rfl
    have hrl : ((l.drop 1).take (runL (l.drop 1))).length = runL (l.drop 1) := by rw [List.length_take]; exact Nat.min_eq_left (run_le _ _ (Nat.le_refl _))
    have hrs := bs_size ((l.drop 1).take (runL (l.drop 1)))
    rw [hrl] at hrs
    have hr9 : runL (l.drop 1) ≤ 1000 := by have := run_le _ (l.drop 1) (Nat.le_refl _); rw [List.length_drop] at this; omega
    rw [hv]
    generalize (l.drop 1).take (runL (l.drop 1)) = N at *
    generalize runL (l.drop 1) = n at *
    have HN := Lib.hid fun (w3 : World) (hb3 : Below W1.heap.size W1 w3) => chName_any (bs N) w3 (by rw [hrs]; omega) (hG1.below hb3).1
    have HC := Lib.hid hC
    have HR := Lib.hid hR
    have HRS := Lib.hid hrl
    clear hC hR hv hp hG1 ht ht1 e1 hrl
    generalize l.drop 1 = t1 at *
    obtain ⟨E, hE⟩ : ∃ E, nmD (bs N) = E := ⟨_, rfl⟩
    rw [hE] at HN ⊢
    clear hE
    cases E with
    | false =>
      simp only [Bool.false_eq_true, if_false]
      go_enter Tryz.func102, Tryz.ntmps102
      go_upto_region 1 with fail
      rw [← HW1.out]
      clear HW1
      go_wp2_with (first
        | (go_at_call 133
           refine HC.out.mono ?_
           rintro e w2 ⟨rfl, hw⟩
           have hw := hw.symm
           subst hw
           clear HC)
        | (go_at_call 136
           refine HR.out.mono ?_
           rintro e w3 ⟨rfl, hb3⟩
           have HB3 := Lib.hid hb3
           have HN3 := Lib.hid (HN.out w3 hb3)
           clear hb3 HR)
        | (go_at_call 66
           refine HN3.out.mono ?_
           rintro e w4 ⟨rfl, hb4⟩
           have hb4 := HB3.out.trans (hb4.mono HB3.out.size)
           obtain ⟨⟨d0, d1, d2, d3⟩, f0, f1, f2, f3⟩ := HKEY.out w4 hb4
           have HKB4 := Lib.hid (HKB.out w4 hb4)
           clear hb4 HN3))
      exact end_word Tryz.results102 w w4 none (x := wd0) HKB4.out.1 HKB4.out.2 (by rfl) (by rfl) rfl rfl rfl
    | true =>
      simp only [if_true]
      go_enter Tryz.func102, Tryz.ntmps102
      go_upto_region 1 with fail
      rw [← HW1.out]
      clear HW1
      go_wp2_with (first
        | (go_at_call 133
           refine HC.out.mono ?_
           rintro e w2 ⟨rfl, hw⟩
           have hw := hw.symm
           subst hw
           clear HC)
        | (go_at_call 136
           refine HR.out.mono ?_
           rintro e w3 ⟨rfl, hb3⟩
           have HB3 := Lib.hid hb3
           have HN3 := Lib.hid (HN.out w3 hb3)
           clear hb3 HR)
        | (go_at_call 66
           refine HN3.out.mono ?_
           rintro e w4 ⟨rfl, hb4⟩
           have hb4 := HB3.out.trans (hb4.mono HB3.out.size)
           obtain ⟨⟨d0, d1, d2, d3⟩, f0, f1, f2, f3⟩ := HKEY.out w4 hb4
           have HKB4 := Lib.hid (HKB.out w4 hb4)
           clear hb4 HN3))
      exact end_word Tryz.results102 w w4 (some (⟨10, N, .num 0⟩, 1 + n)) (x := ⟨10, N, .num 0⟩) HKB4.out.1 HKB4.out.2 (by rfl) (by show (((1 + n : Nat)) : Int) = _; omega) rfl rfl rfl
end Go.Proofs.YtapljbdklhnfkaaGreatDoor.Char
