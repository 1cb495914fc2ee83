/- Txt LexM Valid Is Text CharP -/
import Derived.Test.YtbemijbgbjcoeaaDoorPk01
import Derived.Test.YtbemijbgbjcoeaaDoorPk00
import Derived.Test.YtbemijbgbjcoeaaDoorProg
import Derived.WalkKit
import Derived.Below
import Derived.Shelf.Unicode.ValidAny
import Derived.Lib.LaidU8T
import Derived.Outline
import Derived.Lib.Hide
import Derived.Deep.WholeRow
import Derived.Great.BuildSlice
import Derived.Lib.OthersKept
import Derived.WalkSmall
/- Mathematics without a program: a number as a text, a literal, a text as a number. -/
namespace Go.Proofs.YtbemijbgbjcoeaaDoor.Char
end Go.Proofs.YtbemijbgbjcoeaaDoor.Char
namespace Go.Proofs.YtbemijbgbjcoeaaDoor.Fig

/-- a digit as a byte, and a byte as a digit -/
def chr (d : Nat) : UInt8 := UInt8.ofNat (48 + d)
def dval (b : UInt8) : Nat := b.toNat - 48
def digB (b : UInt8) : Bool := decide (48 ≤ b.toNat) && decide (b.toNat ≤ 57)
def ptB (b : UInt8) : Bool := b.toNat == 46
def spB (b : UInt8) : Bool := b.toNat == 9 || b.toNat == 10 || b.toNat == 13 || b.toNat == 32

theorem chr_toNat (d : Nat) (h : d < 10) : (chr d).toNat = 48 + d := by
  unfold chr
  rw [UInt8.toNat_ofNat']
  omega
theorem dval_chr (d : Nat) (h : d < 10) : dval (chr d) = d := by unfold dval; rw [chr_toNat d h]; omega
theorem digB_chr (d : Nat) (h : d < 10) : digB (chr d) = true := by
  unfold digB
  rw [chr_toNat d h, Bool.and_eq_true, decide_eq_true_iff, decide_eq_true_iff]
  omega

/-- what digits as bytes come to, the first one first -/
def decL (l : List UInt8) : Nat := l.foldl (fun n b => n * 10 + dval b) 0
theorem snoc_ind {α : Type} {P : List α → Prop} (h0 : P []) (h1 : ∀ l b, P l → P (l ++ [b])) (l : List α) : P l := by
  have h : ∀ m : List α, P m.reverse := fun m => by
    induction m with
    | nil => exact h0
    | cons b m ih => rw [List.reverse_cons]; exact h1 _ _ ih
  rw [← List.reverse_reverse l]
  exact h _
theorem decL_snoc (l : List UInt8) (b : UInt8) : decL (l ++ [b]) = decL l * 10 + dval b := by unfold decL; rw [List.foldl_append]; rfl
theorem decL_nil : decL [] = 0 := rfl
theorem decL_val (l : List UInt8) : val ((l.map dval).reverse) = decL l := by
  induction l using snoc_ind with
  | h0 => rfl
  | h1 l b ih =>
    rw [List.map_append, List.reverse_append, decL_snoc, ← ih]
    show dval b + 10 * val ((l.map dval).reverse) = _
    omega
theorem decL_chr (l : List Nat) (h : ∀ d ∈ l, d < 10) : decL ((l.map chr).reverse) = val l := by
  rw [← decL_val, List.map_reverse, List.reverse_reverse, List.map_map]
  have e : l.map (dval ∘ chr) = l.map id := List.map_congr_left (fun d hd => dval_chr d (h d hd))
  rw [e, List.map_id]
theorem decL_le_append (l m : List UInt8) : decL l ≤ decL (l ++ m) := by
  induction m using snoc_ind with
  | h0 => rw [List.append_nil]; exact Nat.le_refl _
  | h1 m b ih => rw [← List.append_assoc, decL_snoc]; omega

/-- the last k digits of a number -/
def lo : Nat → Nat → List UInt8
  | 0, _ => []
  | k + 1, n => lo k (n / 10) ++ [chr (n % 10)]
theorem lo_length : ∀ k n, (lo k n).length = k
  | 0, _ => rfl
  | k + 1, n => by rw [lo, List.length_append, lo_length k]; rfl
theorem lo_front : ∀ k n, lo (k + 1) n = chr (n / 10 ^ k % 10) :: lo k n
  | 0, n => by simp [lo]
  | k + 1, n => by
    rw [lo, lo_front k (n / 10), Nat.div_div_eq_div_mul, ← Nat.pow_succ', List.cons_append]
    rfl
theorem lo_add (a : Nat) : ∀ b n, lo (a + b) n = lo a (n / 10 ^ b) ++ lo b n
  | 0, n => by simp [lo]
  | b + 1, n => by
    rw [← Nat.add_assoc, lo, lo, lo_add a b (n / 10), Nat.div_div_eq_div_mul, ← Nat.pow_succ', List.append_assoc]
theorem lo_dig : ∀ k n, ∀ b ∈ lo k n, digB b = true
  | 0, _, b, h => by cases h
  | k + 1, n, b, h => by
    rw [lo] at h
    rcases List.mem_append.1 h with h | h
    · exact lo_dig k _ b h
    · rw [List.mem_singleton.1 h]; exact digB_chr _ (Nat.mod_lt _ (by omega))
theorem decL_lo (W : List UInt8) : ∀ k n, decL (W ++ lo k n) = decL W * 10 ^ k + n % 10 ^ k
  | 0, n => by simp [lo, Nat.mod_one]
  | k + 1, n => by
    rw [lo, ← List.append_assoc, decL_snoc, decL_lo W k (n / 10), dval_chr _ (Nat.mod_lt _ (by omega)), Nat.pow_succ', Nat.mod_mul]
    have h1 : decL W * (10 * 10 ^ k) = decL W * 10 ^ k * 10 := by rw [Nat.mul_comm 10, Nat.mul_assoc]
    rw [h1, Nat.add_mul]
    omega

/-- a number's digits, without noughts ahead (0 has none, or one) -/
def txs (n : Nat) : List UInt8 := ((dg n).map chr).reverse
def tx (n : Nat) : List UInt8 := if n = 0 then [chr 0] else txs n
theorem txs_step (n : Nat) (h : n ≠ 0) : txs n = txs (n / 10) ++ [chr (n % 10)] := by
  unfold txs
  rw [dg_step n h, List.map_cons, List.reverse_cons]
theorem tx_step (n : Nat) : tx n = txs (n / 10) ++ [chr (n % 10)] := by
  unfold tx
  by_cases h : n = 0
  · subst h; rfl
  · rw [if_neg h, txs_step n h]
theorem tx_ne (n : Nat) : tx n ≠ [] := by rw [tx_step]; simp
theorem txs_lo (n : Nat) : txs n = lo (dg n).length n := by
  induction n using Nat.strongRecOn with
  | _ n ih =>
    by_cases h : n = 0
    · subst h; rfl
    · rw [txs_step n h, ih (n / 10) (by omega), dg_step n h, List.length_cons, lo]
theorem decL_txs (n : Nat) : decL (txs n) = n := by unfold txs; rw [decL_chr _ (dg_lt n), val_dg]
theorem decL_tx (n : Nat) : decL (tx n) = n := by
  unfold tx
  by_cases h : n = 0
  · subst h; rfl
  · rw [if_neg h, decL_txs]
theorem txs_dig (n : Nat) : ∀ b ∈ txs n, digB b = true := by rw [txs_lo]; exact lo_dig _ _
theorem tx_dig (n : Nat) : ∀ b ∈ tx n, digB b = true := by
  rw [tx_step]
  intro b hb
  rcases List.mem_append.1 hb with h | h
  · exact txs_dig _ b h
  · rw [List.mem_singleton.1 h]; exact digB_chr _ (Nat.mod_lt _ (by omega))
theorem dg_len_step (n : Nat) (h : n ≠ 0) : (dg n).length = (dg (n / 10)).length + 1 := by rw [dg_step n h]; rfl
theorem tx_lo (m : Nat) : ∀ k, lo (max (dg m).length (k + 1)) m = tx (m / 10 ^ k) ++ lo k m := by
  intro k
  have hk : max (dg m).length (k + 1) = (max (dg m).length (k + 1) - k) + k := by omega
  rw [hk, lo_add]
  congr 1
  have key : ∀ k n, 10 ^ k ≤ n → (dg (n / 10 ^ k)).length + k = (dg n).length := by
    intro k
    induction k with
    | zero => intro n _; simp
    | succ k ih =>
      intro n hn
      have h0 : n ≠ 0 := by have := Nat.pow_pos (n := k + 1) (show 0 < 10 by omega); omega
      have h1 : 10 ^ k ≤ n / 10 := by rw [Nat.le_div_iff_mul_le (by omega), ← Nat.pow_succ]; exact hn
      rw [Nat.pow_succ', ← Nat.div_div_eq_div_mul, dg_len_step n h0, ← ih (n / 10) h1]
      omega
  by_cases h : 10 ^ k ≤ m
  · have e := key k m h
    have hq : m / 10 ^ k ≠ 0 := by
      have := Nat.div_pos h (Nat.pow_pos (n := k) (show 0 < 10 by omega))
      omega
    have hl : 0 < (dg (m / 10 ^ k)).length := by rw [dg_len_step _ hq]; omega
    unfold tx
    rw [if_neg hq, txs_lo]
    congr 1
    omega
  · have hq : m / 10 ^ k = 0 := Nat.div_eq_of_lt (by omega)
    have hl := dg_len_le m k (by omega)
    rw [hq, show max (dg m).length (k + 1) - k = 1 by omega]
    rfl

/-- the first digits of the last k of a number, without noughts at their end -/
def fr : Nat → Nat → List UInt8
  | 0, _ => []
  | k + 1, n => if n % 10 = 0 then fr k (n / 10) else lo (k + 1) n
theorem fr_zero (k n : Nat) (h : n % 10 = 0) : fr (k + 1) n = fr k (n / 10) := by rw [fr, if_pos h]
theorem fr_lo (k n : Nat) (h : 0 < k → n % 10 ≠ 0) : fr k n = lo k n := by
  match k with
  | 0 => rfl
  | k + 1 => rw [fr, if_neg (h (by omega))]
theorem fr_pad : ∀ k n, (fr k n).length ≤ k ∧ fr k n ++ List.replicate (k - (fr k n).length) (chr 0) = lo k n
  | 0, _ => ⟨Nat.le_refl _, rfl⟩
  | k + 1, n => by
    by_cases h : n % 10 = 0
    · have ⟨h1, h2⟩ := fr_pad k (n / 10)
      rw [fr_zero k n h]
      refine ⟨by omega, ?_⟩
      rw [lo, h, ← h2, show k + 1 - (fr k (n / 10)).length = (k - (fr k (n / 10)).length) + 1 by omega, List.replicate_succ', List.append_assoc]
    · rw [fr_lo (k + 1) n (fun _ => h), lo_length]
      simp
theorem fr_dig (k n : Nat) : ∀ b ∈ fr k n, digB b = true := by
  intro b hb
  have h := (fr_pad k n).2
  exact lo_dig k n b (by rw [← h]; exact List.mem_append_left _ hb)

/-- a number of millionths as a text -/
def bodyB (m : Nat) : List UInt8 := tx (m / 10 ^ 6) ++ (if fr 6 m = [] then [] else 46 :: fr 6 m)
def showN (n : Int) : List UInt8 := (if n < 0 then [45] else []) ++ bodyB n.natAbs
def showB : Nm → List UInt8
  | .nan => [78, 97, 78]
  | .over => [73, 110, 102, 105, 110, 105, 116, 121]
  | .under => [45, 73, 110, 102, 105, 110, 105, 116, 121]
  | .num n => showN n

/-- what a literal's two parts tell -/
def allD (w f : List UInt8) : List UInt8 := w ++ (f.take 6 ++ List.replicate (6 - (f.take 6).length) (chr 0))
def toldD (w f : List UInt8) : Nm := fitD (decL (allD w f) : Int)
/-- what a literal tells -/
def litL (l : List UInt8) : Option Nm :=
  let r1 := l.dropWhile digB
  let r2 := r1.dropWhile ptB
  if r2.dropWhile digB = [] ∧ (r1.takeWhile ptB).length ≤ 1 ∧ ¬ (l.takeWhile digB = [] ∧ r2.takeWhile digB = []) then some (toldD (l.takeWhile digB) (r2.takeWhile digB)) else none
def trimL (l : List UInt8) : List UInt8 := ((l.dropWhile spB).reverse.dropWhile spB).reverse
def readU (u : List UInt8) : Nm :=
  match u with
  | 45 :: t => ((litL t).map negD).getD .nan
  | u => (litL u).getD .nan
def readD (l : List UInt8) : Nm := readU (trimL l)

theorem dropWhile_none {p : UInt8 → Bool} : ∀ (l : List UInt8), (∀ b ∈ l, p b = false) → l.dropWhile p = l
  | [], _ => rfl
  | b :: l, h => by rw [List.dropWhile_cons, if_neg (by rw [h b (List.mem_cons_self ..)]; simp)]
theorem trimL_none (l : List UInt8) (h : ∀ b ∈ l, spB b = false) : trimL l = l := by
  unfold trimL
  rw [dropWhile_none l h, dropWhile_none l.reverse (fun b hb => h b (List.mem_reverse.1 hb)), List.reverse_reverse]
theorem takeWhile_app {p : UInt8 → Bool} : ∀ (w r : List UInt8), (∀ b ∈ w, p b = true) → (∀ b r', r = b :: r' → p b = false) → (w ++ r).takeWhile p = w ∧ (w ++ r).dropWhile p = r
  | [], r, _, h => by
    match r, h with
    | [], _ => exact ⟨rfl, rfl⟩
    | b :: r, h => simp [h b r rfl]
  | b :: w, r, hw, h => by
    have ⟨h1, h2⟩ := takeWhile_app w r (fun x hx => hw x (List.mem_cons_of_mem _ hx)) h
    have hb := hw b (List.mem_cons_self ..)
    rw [List.cons_append, List.takeWhile_cons, List.dropWhile_cons, if_pos hb, if_pos hb, h1, h2]
    exact ⟨rfl, rfl⟩
theorem digB_not_pt {b : UInt8} (h : digB b = true) : ptB b = false := by
  unfold digB at h
  unfold ptB
  rw [Bool.and_eq_true, decide_eq_true_iff, decide_eq_true_iff] at h
  rw [beq_eq_false_iff_ne]
  omega
theorem digB_not_sp {b : UInt8} (h : digB b = true) : spB b = false := by
  unfold digB at h
  unfold spB
  rw [Bool.and_eq_true, decide_eq_true_iff, decide_eq_true_iff] at h
  simp only [Bool.or_eq_false_iff, beq_eq_false_iff_ne]
  omega
theorem digB_ne {b : UInt8} (h : digB b = true) : b ≠ 45 ∧ b ≠ 46 := by
  constructor <;> rintro rfl <;> exact absurd h (by decide)

theorem litL_parts (w f : List UInt8) (hw : ∀ b ∈ w, digB b = true) (hf : ∀ b ∈ f, digB b = true) (hne : w ≠ []) : litL (w ++ (if f = [] then [] else 46 :: f)) = some (toldD w f) := by
  by_cases h : f = []
  · subst h
    rw [if_pos rfl]
    have ⟨h1, h2⟩ := takeWhile_app w [] hw (fun b r' e => by cases e)
    unfold litL
    simp only [h1, h2]
    simp [hne]
  · rw [if_neg h]
    have ⟨h1, h2⟩ := takeWhile_app (p := digB) w (46 :: f) hw (fun b r' e => by cases e; decide)
    have ⟨h3, h4⟩ := takeWhile_app (p := ptB) [46] f (fun b hb => by rw [List.mem_singleton.1 hb]; decide) (fun b r' e => digB_not_pt (hf b (by rw [e]; exact List.mem_cons_self ..)))
    have ⟨h5, h6⟩ := takeWhile_app (p := digB) f [] hf (fun b r' e => by cases e)
    rw [List.append_nil] at h5 h6
    unfold litL
    simp only [h1, h2]
    rw [show (46 :: f : List UInt8) = [46] ++ f from rfl]
    simp only [h3, h4, h5, h6]
    simp [hne]

theorem told_body (m : Nat) : toldD (tx (m / 10 ^ 6)) (fr 6 m) = fitD (m : Int) := by
  have ⟨h1, h2⟩ := fr_pad 6 m
  unfold toldD allD
  rw [List.take_of_length_le h1, h2, decL_lo, decL_tx, Nat.mul_comm, Nat.div_add_mod]
theorem lit_body (m : Nat) : litL (bodyB m) = some (fitD (m : Int)) := by
  unfold bodyB
  rw [litL_parts _ _ (tx_dig _) (fr_dig _ _) (tx_ne _), told_body]
theorem body_sp (m : Nat) : ∀ b ∈ bodyB m, spB b = false := by
  unfold bodyB
  intro b hb
  rcases List.mem_append.1 hb with h | h
  · exact digB_not_sp (tx_dig _ b h)
  · by_cases hf : fr 6 m = []
    · rw [if_pos hf] at h; cases h
    · rw [if_neg hf] at h
      rcases List.mem_cons.1 h with rfl | h
      · decide
      · exact digB_not_sp (fr_dig _ _ b h)
theorem read_body (m : Nat) : readU (bodyB m) = fitD (m : Int) := by
  have h := lit_body m
  have hd : ∃ b t, bodyB m = b :: t ∧ digB b = true := by
    have hx := tx_ne (m / 10 ^ 6)
    match ht : tx (m / 10 ^ 6), hx with
    | b :: t, _ => exact ⟨b, _, by unfold bodyB; rw [ht]; rfl, tx_dig _ b (by rw [ht]; exact List.mem_cons_self ..)⟩
  obtain ⟨b, t, hb, hdb⟩ := hd
  have hne := (digB_ne hdb).1
  rw [hb] at h ⊢
  unfold readU
  split
  · rename_i t' he
    injection he with h1 h2
    exact absurd h1 hne
  · rw [h]; rfl

/-- what is shown is read as it was; what is no number, as none -/
theorem read_show : ∀ x : Nm, okD x → readD (showB x) = match x with | .num n => .num n | _ => .nan
  | .nan, _ => by rfl
  | .over, _ => by rfl
  | .under, _ => by rfl
  | .num n, h => by
    have hb : -9223372036854775807 ≤ n ∧ n ≤ 9223372036854775807 := h
    show readD (showN n) = .num n
    unfold readD showN
    by_cases hn : n < 0
    · rw [if_pos hn, trimL_none]
      · show ((litL (bodyB n.natAbs)).map negD).getD .nan = _
        rw [lit_body, fitD_in _ (by omega)]
        show Nm.num (-((n.natAbs : Nat) : Int)) = _
        congr 1
        omega
      · intro b hb
        rcases List.mem_cons.1 hb with rfl | hb
        · decide
        · exact body_sp _ b hb
    · rw [if_neg hn, List.nil_append, trimL_none _ (body_sp _), read_body, fitD_in _ (by omega)]
      congr 1
      omega
end Go.Proofs.YtbemijbgbjcoeaaDoor.Fig

/- Mathematics without a program: the words of an expression. -/
namespace Go.Proofs.YtbemijbgbjcoeaaDoor.Char
open Go.Lib Go.RowKit
open Go.Proofs.YtbemijbgbjcoeaaDoor.Fig (Nm litL digB toldD decL allD)

/-- a word: its kind, its bytes, its number -/
structure Wd where
  k : Nat
  s : List UInt8
  n : Nm
def orW {α : Type} (a b : Option α) : Option α := match a with
  | some x => some x
  | none => b
theorem orW_none {α : Type} (b : Option α) : orW none b = b := rfl
theorem orW_some {α : Type} (x : α) (b : Option α) : orW (some x) b = some x := rfl
/-- a text in quotes -/
def litW : List UInt8 → Option (Wd × Nat)
  | [] => none
  | c :: t => if c = 34 ∨ c = 39 then (if (t.takeWhile (· != c)).length < t.length then some (⟨8, t.takeWhile (· != c), .num 0⟩, (t.takeWhile (· != c)).length + 2) else none) else none
theorem litW_cons (c : UInt8) (t : List UInt8) : litW (c :: t) = if c = 34 ∨ c = 39 then (if (t.takeWhile (· != c)).length < t.length then some (⟨8, t.takeWhile (· != c), .num 0⟩, (t.takeWhile (· != c)).length + 2) else none) else none := rfl
def dgs (l : List UInt8) : Nat := (l.takeWhile digB).length
def sizN (l : List UInt8) : Nat := dgs l + (if [46].isPrefixOf (l.drop (dgs l)) then 1 + dgs (l.drop (dgs l + 1)) else 0)
def isNum : Option Nm → Option Int
  | some (.num v) => some v
  | _ => none
/-- a number -/
def numW (l : List UInt8) : Option (Wd × Nat) := (isNum (litL (l.take (sizN l)))).map fun v => (⟨9, l.take (sizN l), .num v⟩, sizN l)
def marksL : List (List UInt8) := [[46, 46], [58, 58], [40], [41], [91], [93], [46], [64], [44]]
def opsL : List (List UInt8) := [[47, 47], [33, 61], [60, 61], [62, 61], [47], [124], [43], [45], [61], [60], [62]]
def openL : List (List UInt8) := [[64], [58, 58], [40], [91], [44]]
def joinsL : List (List UInt8) := [[97, 110, 100], [111, 114], [109, 111, 100], [100, 105, 118]]
def typesL : List (List UInt8) := [[99, 111, 109, 109, 101, 110, 116], [116, 101, 120, 116], [112, 114, 111, 99, 101, 115, 115, 105, 110, 103, 45, 105, 110, 115, 116, 114, 117, 99, 116, 105, 111, 110], [110, 111, 100, 101]]
def firstP (ss : List (List UInt8)) (l : List UInt8) : Option (List UInt8) := ss.find? fun p => p.isPrefixOf l
/-- the first one of some signs -/
def signW (k : Nat) (ss : List (List UInt8)) (l : List UInt8) : Option (Wd × Nat) := (firstP ss l).map fun p => (⟨k, p, .num 0⟩, p.length)
def starK (e : Bool) : Nat := if e then 5 else 3
/-- a variable's name -/
def varW (l : List UInt8) : Option (Wd × Nat) := if [36].isPrefixOf l && nmD (bs ((l.drop 1).take (runL (l.drop 1)))) then some (⟨10, (l.drop 1).take (runL (l.drop 1)), .num 0⟩, 1 + runL (l.drop 1)) else none
def dropS (l : List UInt8) : List UInt8 := l.drop (spcL l)
/-- what a bracket, or two colons, that stand there say of a name -/
def nx0 (l : List UInt8) : Nat := if [40].isPrefixOf l then 1 else if [58, 58].isPrefixOf l then 2 else 0
def nxL (t : List UInt8) : Nat := nx0 (dropS t)
def kindN (e : Bool) (n : List UInt8) (x : Nat) : Nat := if e then 5 else if x = 1 then (if typesL.contains n then 4 else 6) else if x = 2 then 7 else 2
/-- a name -/
def nameW (e : Bool) (l : List UInt8) : Option (Wd × Nat) := if nmD (bs (l.take (runL l))) && (!e || joinsL.contains (l.take (runL l))) then some (⟨kindN e (l.take (runL l)) (nxL (l.drop (runL l))), l.take (runL l), .num 0⟩, runL l) else none
/-- the word that stands ahead, and how many bytes it has -/
def wdL (l : List UInt8) (e : Bool) : Option (Wd × Nat) := orW (litW l) (orW (numW l) (orW (signW 1 marksL l) (orW (signW 5 opsL l) (orW (signW (starK e) [[42]] l) (orW (varW l) (nameW e l))))))
/-- does a word end a part? -/
def endW (w : Wd) : Bool := w.k != 5 && !(w.k == 1 && openL.contains w.s)
def lexN : Nat → List UInt8 → Bool → Nat → Nat ⊕ List Wd
  | 0, _, _, _ => .inl 30
  | f + 1, l, e, n => if l = [] then .inr [] else match wdL l e with
    | none => .inl 30
    | some (w, k) => if n = 120 then .inl 3 else match lexN f (dropS (l.drop k)) (endW w) (n + 1) with
      | .inl x => .inl x
      | .inr ws => .inr (w :: ws)
def lexG (l : List UInt8) (e : Bool) (n : Nat) : Nat ⊕ List Wd := lexN (l.length + 1) l e n
def lexL (s : List UInt8) : Nat ⊕ List Wd := if 400 < s.length then .inl 3 else if txD s = false then .inl 10 else lexG (dropS s) false 0
def appW (acc : List Wd) : Nat ⊕ List Wd → Nat ⊕ List Wd
  | .inl x => .inl x
  | .inr ws => .inr (acc ++ ws)
theorem appW_nil (r : Nat ⊕ List Wd) : appW [] r = r := by cases r <;> rfl
theorem appW_app (a b : List Wd) (r : Nat ⊕ List Wd) : appW a (appW b r) = appW (a ++ b) r := by cases r with
  | inl x => rfl
  | inr ws => show Sum.inr _ = Sum.inr _; rw [List.append_assoc]

theorem dgs_le (l : List UInt8) : dgs l ≤ l.length := (List.takeWhile_prefix _).length_le
theorem siz_le (l : List UInt8) : sizN l ≤ l.length := by
  unfold sizN
  have h := dgs_le l
  split
  · rename_i hp
    obtain ⟨t, ht⟩ := List.isPrefixOf_iff_prefix.1 hp
    have h2 := congrArg List.length ht
    have h3 := dgs_le (l.drop (dgs l + 1))
    rw [List.length_drop] at h2 h3
    simp at h2
    omega
  · omega
theorem litL_nil : litL [] = none := rfl
theorem first_mem {ss : List (List UInt8)} {l p : List UInt8} (h : firstP ss l = some p) : p ∈ ss ∧ p.isPrefixOf l = true := ⟨List.mem_of_find?_eq_some h, by simpa using List.find?_some h⟩
theorem sign_some {k : Nat} {ss : List (List UInt8)} {l : List UInt8} {w : Wd} {m : Nat} (h : signW k ss l = some (w, m)) : ∃ p, firstP ss l = some p ∧ w = ⟨k, p, .num 0⟩ ∧ m = p.length := by
  unfold signW at h
  cases hp : firstP ss l with
  | none => rw [hp] at h; cases h
  | some p => rw [hp] at h; cases h; exact ⟨p, rfl, rfl, rfl⟩
theorem num_some {l : List UInt8} {w : Wd} {m : Nat} (h : numW l = some (w, m)) : ∃ v, litL (l.take (sizN l)) = some (.num v) ∧ w = ⟨9, l.take (sizN l), .num v⟩ ∧ m = sizN l := by
  unfold numW at h
  cases hq : litL (l.take (sizN l)) with
  | none => rw [hq] at h; cases h
  | some x => cases x with
    | num v => rw [hq] at h; cases h; exact ⟨v, rfl, rfl, rfl⟩
    | nan => rw [hq] at h; cases h
    | over => rw [hq] at h; cases h
    | under => rw [hq] at h; cases h
theorem marks_pos : ∀ p ∈ marksL, 0 < p.length := by decide
theorem ops_pos : ∀ p ∈ opsL, 0 < p.length := by decide
theorem star_pos : ∀ p ∈ ([[42]] : List (List UInt8)), 0 < p.length := by decide
theorem sign_len {k : Nat} {ss : List (List UInt8)} (hs : ∀ p ∈ ss, 0 < p.length) {l : List UInt8} {w : Wd} {m : Nat} (h : signW k ss l = some (w, m)) : 0 < m ∧ m ≤ l.length := by
  obtain ⟨p, hp, _, rfl⟩ := sign_some h
  obtain ⟨h1, h2⟩ := first_mem hp
  exact ⟨hs p h1, (List.isPrefixOf_iff_prefix.1 h2).length_le⟩
theorem nm_pos {s : List UInt8} (h : nmD (bs s) = true) : 0 < s.length := by
  unfold nmD at h
  simp only [Bool.and_eq_true, decide_eq_true_eq, bs_size] at h
  exact h.1.1.1
/-- a word has bytes, and no more than there are -/
theorem wdL_len {l : List UInt8} {e : Bool} {w : Wd} {k : Nat} (h : wdL l e = some (w, k)) : 0 < k ∧ k ≤ l.length := by
  unfold wdL at h
  cases h1 : litW l with
  | some x =>
    rw [h1] at h
    cases h
    cases l with
    | nil => cases h1
    | cons c t =>
      rw [litW_cons] at h1
      split at h1
      · split at h1
        · cases h1
          rw [List.length_cons]
          omega
        · cases h1
      · cases h1
  | none =>
    rw [h1, orW_none] at h
    cases h2 : numW l with
    | some x =>
      rw [h2] at h
      cases h
      obtain ⟨v, q1, _, rfl⟩ := num_some h2
      refine ⟨?_, siz_le l⟩
      rcases Nat.eq_zero_or_pos (sizN l) with h0 | h0
      · rw [h0, List.take_zero, litL_nil] at q1; cases q1
      · exact h0
    | none =>
      rw [h2, orW_none] at h
      cases h3 : signW 1 marksL l with
      | some x => rw [h3] at h; cases h; exact sign_len marks_pos h3
      | none =>
        rw [h3, orW_none] at h
        cases h4 : signW 5 opsL l with
        | some x => rw [h4] at h; cases h; exact sign_len ops_pos h4
        | none =>
          rw [h4, orW_none] at h
          cases h5 : signW (starK e) [[42]] l with
          | some x => rw [h5] at h; cases h; exact sign_len star_pos h5
          | none =>
            rw [h5, orW_none] at h
            cases h6 : varW l with
            | some x =>
              rw [h6] at h
              cases h
              unfold varW at h6
              split at h6
              · rename_i hc
                cases h6
                rw [Bool.and_eq_true] at hc
                have hl := (List.isPrefixOf_iff_prefix.1 hc.1).length_le
                have hr := run_le _ (l.drop 1) (Nat.le_refl _)
                rw [List.length_drop] at hr
                simp at hl
                omega
              · cases h6
            | none =>
              rw [h6, orW_none] at h
              unfold nameW at h
              split at h
              · rename_i hc
                cases h
                rw [Bool.and_eq_true] at hc
                have hp := nm_pos hc.1
                rw [List.length_take] at hp
                exact ⟨by omega, run_le _ l (Nat.le_refl _)⟩
              · cases h
theorem dropS_le (l : List UInt8) : (dropS l).length ≤ l.length := by unfold dropS; rw [List.length_drop]; omega
theorem lexN_fuel : ∀ (f g : Nat) (l : List UInt8) (e : Bool) (n : Nat), l.length < f → l.length < g → lexN f l e n = lexN g l e n
  | 0, _, _, _, _, h, _ => by omega
  | _ + 1, 0, _, _, _, _, h => by omega
  | f + 1, g + 1, l, e, n, hf, hg => by
    unfold lexN
    by_cases hl : l = []
    · rw [if_pos hl, if_pos hl]
    · rw [if_neg hl, if_neg hl]
      cases h : wdL l e with
      | none => rfl
      | some x =>
        obtain ⟨w, k⟩ := x
        have hk := wdL_len h
        have hd := dropS_le (l.drop k)
        rw [List.length_drop] at hd
        dsimp only
        rw [lexN_fuel f g _ _ _ (by omega) (by omega)]
theorem lexG_nil (e : Bool) (n : Nat) : lexG [] e n = .inr [] := rfl
theorem lexG_none {l : List UInt8} {e : Bool} (n : Nat) (hl : l ≠ []) (h : wdL l e = none) : lexG l e n = .inl 30 := by
  unfold lexG lexN
  rw [if_neg hl, h]
theorem lexG_full {l : List UInt8} {e : Bool} {x : Wd × Nat} (hl : l ≠ []) (h : wdL l e = some x) : lexG l e 120 = .inl 3 := by
  unfold lexG lexN
  rw [if_neg hl, h]
  rfl
theorem lexG_some {l : List UInt8} {e : Bool} {n k : Nat} {w : Wd} (hl : l ≠ []) (h : wdL l e = some (w, k)) (hn : n ≠ 120) : lexG l e n = appW [w] (lexG (dropS (l.drop k)) (endW w) (n + 1)) := by
  have hk := wdL_len h
  have hd := dropS_le (l.drop k)
  rw [List.length_drop] at hd
  conv => lhs; unfold lexG lexN
  rw [if_neg hl, h]
  dsimp only
  rw [if_neg hn]
  unfold lexG
  rw [lexN_fuel _ ((dropS (l.drop k)).length + 1) _ _ _ (by omega) (by omega)]
  cases lexN ((dropS (l.drop k)).length + 1) (dropS (l.drop k)) (endW w) (n + 1) <;> rfl
/-- the place of a byte -/
theorem index_one (q : UInt8) : ∀ l : List UInt8, index l [q] = if (l.takeWhile (· != q)).length = l.length then -1 else ((l.takeWhile (· != q)).length : Int)
  | [] => rfl
  | b :: t => by
    have ih := index_one q t
    unfold index
    by_cases hb : b = q
    · subst hb
      simp [List.isPrefixOf]
    · have h2 : ([q] : List UInt8).isPrefixOf (b :: t) = false := by
        simp [List.isPrefixOf]
        exact fun h => hb h.symm
      have e : ((b :: t).takeWhile (· != q)).length = (t.takeWhile (· != q)).length + 1 := by
        rw [List.takeWhile_cons, if_pos (by simpa using hb), List.length_cons]
      rw [h2, ih, e, List.length_cons]
      simp only [Bool.false_eq_true, if_false]
      by_cases hq : (t.takeWhile (· != q)).length = t.length
      · rw [if_pos hq, if_pos (show _ + 1 = t.length + 1 by omega)]; rfl
      · rw [if_neg hq, if_neg (show ¬ _ + 1 = t.length + 1 by omega), if_neg (show ¬ ((((t.takeWhile (· != q)).length : Int) == -1) = true) by rw [beq_iff_eq]; omega)]
        omega
/-- the places at which a word may begin, by its first byte -/
theorem dgs_none {c : UInt8} (t : List UInt8) (h : digB c = false) : dgs (c :: t) = 0 := by
  unfold dgs
  rw [List.takeWhile_cons, h]
  rfl
theorem siz_none {c : UInt8} (t : List UInt8) (h : digB c = false) (hp : c ≠ 46) : sizN (c :: t) = 0 := by
  unfold sizN
  rw [dgs_none t h, List.drop_zero]
  have : ([46] : List UInt8).isPrefixOf (c :: t) = false := by
    simp [List.isPrefixOf]
    exact fun h => hp h.symm
  rw [this]
  rfl
theorem numW_none {c : UInt8} (t : List UInt8) (h : digB c = false) (hp : c ≠ 46) : numW (c :: t) = none := by
  unfold numW
  rw [siz_none t h hp]
  rfl
theorem litW_none {c : UInt8} (t : List UInt8) (h : c ≠ 34 ∧ c ≠ 39) : litW (c :: t) = none := by
  rw [litW_cons, if_neg (by simp [h])]
theorem signW_none {c : UInt8} (t : List UInt8) (k : Nat) {ss : List (List UInt8)} (h : ∀ p ∈ ss, ∃ x r, p = x :: r ∧ x ≠ c) : signW k ss (c :: t) = none := by
  unfold signW firstP
  rw [List.find?_eq_none.2 fun p hp => by
    obtain ⟨x, r, rfl, hx⟩ := h p hp
    simp [List.isPrefixOf, hx]]
  rfl
/-- what marks, operators and the star begin with -/
def signB (c : UInt8) : Bool := [46, 58, 40, 41, 91, 93, 64, 44, 47, 33, 60, 62, 124, 43, 45, 61, 42].contains c
theorem signs_none {c : UInt8} (t : List UInt8) (h : signB c = false) (e : Bool) : signW 1 marksL (c :: t) = none ∧ signW 5 opsL (c :: t) = none ∧ signW (starK e) [[42]] (c :: t) = none := by
  have key : ∀ x, signB x = true → x ≠ c := fun x hx e => by rw [e, h] at hx; cases hx
  refine ⟨signW_none t _ fun p hp => ?_, signW_none t _ fun p hp => ?_, signW_none t _ fun p hp => ?_⟩
  · unfold marksL at hp
    simp only [List.mem_cons, List.not_mem_nil, or_false] at hp
    rcases hp with rfl | rfl | rfl | rfl | rfl | rfl | rfl | rfl | rfl <;> exact ⟨_, _, rfl, key _ (by decide)⟩
  · unfold opsL at hp
    simp only [List.mem_cons, List.not_mem_nil, or_false] at hp
    rcases hp with rfl | rfl | rfl | rfl | rfl | rfl | rfl | rfl | rfl | rfl | rfl <;> exact ⟨_, _, rfl, key _ (by decide)⟩
  · simp only [List.mem_cons, List.not_mem_nil, or_false] at hp
    subst hp
    exact ⟨_, _, rfl, key _ (by decide)⟩
theorem varW_none {c : UInt8} (t : List UInt8) (h : c ≠ 36) : varW (c :: t) = none := by
  unfold varW
  have : ([36] : List UInt8).isPrefixOf (c :: t) = false := by
    simp [List.isPrefixOf]
    exact fun e => h e.symm
  rw [this]
  rfl
/-- a name begins with what may begin one -/
theorem nm_head {c : UInt8} {t : List UInt8} (h : nmD (bs (c :: t)) = true) (hc : c.toNat < 128) : stC (c.toNat : Int) = true := by
  unfold nmD at h
  simp only [Bool.and_eq_true] at h
  have h1 := h.2.1
  rw [decode_drop, bs_list, List.drop_zero, decodeL_ascii c t hc] at h1
  exact h1
theorem nameW_none {c : UInt8} (t : List UInt8) (e : Bool) (hc : c.toNat < 128) (h : stC (c.toNat : Int) = false) : nameW e (c :: t) = none := by
  unfold nameW
  rw [if_neg]
  intro hh
  rw [Bool.and_eq_true] at hh
  have hp := nm_pos hh.1
  obtain ⟨r, hr⟩ : ∃ r, runL (c :: t) = r + 1 := ⟨runL (c :: t) - 1, by rw [List.length_take] at hp; omega⟩
  rw [hr, List.take_succ_cons] at hh
  rw [nm_head hh.1 hc] at h
  cases h
/-- what else than a name may begin a word -/
def headB (c : UInt8) : Bool := c == 34 || c == 39 || digB c || signB c || c == 36
theorem head_low (c : UInt8) (h : headB c = true) : c.toNat < 128 ∧ stC (c.toNat : Int) = false := by
  have : ∀ n : Fin 256, headB (UInt8.ofNat n.val) = true → (UInt8.ofNat n.val).toNat < 128 ∧ stC ((UInt8.ofNat n.val).toNat : Int) = false := by decide +kernel
  have h2 := this ⟨c.toNat, UInt8.toNat_lt c⟩
  rw [UInt8.ofNat_toNat] at h2
  exact h2 h
end Go.Proofs.YtbemijbgbjcoeaaDoor.Char

/- Go's own utf8.ValidString at this program: the shelf's contract, laid in plain words, and what it asks of the two tables. -/
namespace Go.Proofs.YtbemijbgbjcoeaaDoor.Char
open Go.RowKit Go.Shelf Go.Lib

def validRen : Ren :=
  ⟨fun | 196 => 20 | 259 => 51 | n => n,
   fun | 0 => 0 | 3 => 3 | 4 => 4 | 5 => 5 | 9 => 9 | 12 => 12 | 46 => 76 | 53 => 102 | 119 => 72 | 138 => 74 | 139 => 75 | n => n,
   fun | 3 => 0 | 4 => 1 | n => n⟩
theorem laysValid : Lays.n196 Tryd.prog validRen :=
  {
    mixed := by kernel_rfl,
    f196 := Tryd.func20.trans (congrArg some (by kernel_rfl)),
    f259 := Tryd.func51.trans (congrArg some (by kernel_rfl)),
    t0 := Tryd.underlying0,
    a0 := Tryd.isAgg0,
    z0 := Tryd.sizeOf0,
    v0 := Tryd.zeroValue0,
    t3 := Tryd.underlying3,
    a3 := Tryd.isAgg3,
    z3 := Tryd.sizeOf3,
    v3 := Tryd.zeroValue3,
    t4 := Tryd.underlying4,
    a4 := Tryd.isAgg4,
    z4 := Tryd.sizeOf4,
    v4 := Tryd.zeroValue4,
    t5 := Tryd.underlying5,
    a5 := Tryd.isAgg5,
    z5 := Tryd.sizeOf5,
    v5 := Tryd.zeroValue5,
    t9 := Tryd.underlying9,
    a9 := Tryd.isAgg9,
    z9 := Tryd.sizeOf9,
    v9 := Tryd.zeroValue9,
    t12 := Tryd.underlying12,
    a12 := Tryd.isAgg12,
    z12 := Tryd.sizeOf12,
    v12 := Tryd.zeroValue12,
    t46 := Tryd.underlying76,
    a46 := Tryd.isAgg76,
    z46 := Tryd.sizeOf76,
    v46 := Tryd.zeroValue76,
    t53 := Tryd.underlying102,
    a53 := Tryd.isAgg102,
    z53 := Tryd.sizeOf102,
    v53 := Tryd.zeroValue102,
    t119 := Tryd.underlying72,
    a119 := Tryd.isAgg72,
    z119 := Tryd.sizeOf72,
    t138 := Tryd.underlying74,
    a138 := Tryd.isAgg74,
    z138 := Tryd.sizeOf74,
    v138 := Tryd.zeroValue74,
    t139 := Tryd.underlying75,
    a139 := Tryd.isAgg75,
    z139 := Tryd.sizeOf75,
    v139 := Tryd.zeroValue75,
    g3 := by kernel_rfl,
    g4 := by kernel_rfl }

/-- the two tables of unicode/utf8, as the contract asks them -/
def Tabs (w : World) : Prop := Lib.Utf8Tabs 0 1 w
theorem Tabs.below {w w' : World} (h : Tabs w) (hb : Below w.heap.size w w') : Tabs w' := Utf8Tabs_below h hb

theorem valid_any (s : ByteArray) (w : World) (hs : s.size ≤ 9223372036854775807) (hT : Tabs w) :
    Calls Tryd.prog 20 #[.string s] w fun e w' => e = .returned (.bool (Lib.validD s.data.toList)) ∧ Below w.heap.size w w' :=
  Any.utf8_ValidString laysValid s w hs hT
end Go.Proofs.YtbemijbgbjcoeaaDoor.Char

/- The walks of char.within and char.Is. -/
namespace Go.Proofs.YtbemijbgbjcoeaaDoor.Char
open Go.RowKit

set_option maxHeartbeats 400000 in
theorem within_any (b off len cap : Nat) (n : Int) (zs : List Int) (w : World) (hz : 2 * len = zs.length) (hbig : len ≤ 1000) (hbl : b < w.heap.size)
    (hc : ∀ j, j < zs.length → w.cell? ⟨b, off + j, none⟩ = some (.int .i32 (zs.getD j 0))) :
    Calls Tryd.prog 52 #[.slice (some ⟨b, off, none⟩) len cap, .int .i32 n] w fun e w' => e = .returned (.bool (inP zs n)) ∧ Below w.heap.size w w' := by
  have HZ := Lib.hid hz
  clear hz
  obtain ⟨R, hR⟩ : ∃ R, R = inP zs n := ⟨_, rfl⟩
  rw [← hR]
  have HR := Lib.hid hR
  clear hR
  go_enter Tryd.func52, Tryd.ntmps52
  go_wp2
  go_loopw [9] (fun i wr => ∃ k : Nat, k ≤ len ∧ i = .int .i64 (k : Int) ∧ R = inP (zs.drop (2 * k)) n ∧ Below w.heap.size w wr) (fun i _ => len - (intOf i).toNat)
  case atStart => exact ⟨0, Nat.zero_le _, rfl, by simpa using HR.out, Below.refl _ _⟩
  case round =>
    obtain ⟨k, hk, rfl, hr, hb⟩ := hrel
    by_cases hlt : k < len
    · have hs := inP_step zs n (2 * k) (by rw [← HZ.out]; omega)
      have hc0 : wr.cell? ⟨b, off + k * 2, none⟩ = some (.int .i32 (zs.getD (2 * k) 0)) := by
        rw [Nat.mul_comm k 2]
        exact (hb.cell (p := ⟨b, off + 2 * k, none⟩) hbl).trans (hc (2 * k) (by rw [← HZ.out]; omega))
      have hc1 : wr.cell? ⟨b, off + k * 2 + 1, none⟩ = some (.int .i32 (zs.getD (2 * k + 1) 0)) := by
        rw [Nat.mul_comm k 2, Nat.add_assoc]
        exact (hb.cell (p := ⟨b, off + (2 * k + 1), none⟩) hbl).trans (hc (2 * k + 1) (by rw [← HZ.out]; omega))
      generalize zs.getD (2 * k) 0 = lo at hc0 hs
      generalize zs.getD (2 * k + 1) 0 = hi at hc1 hs
      rw [← hr] at hs
      have HS := Lib.hid hs
      clear hc hs hr
      have hb1 := hb.alloc hb.size (Obj.cells #[Value.int IntKind.i32 lo, Value.int IntKind.i32 hi] 77)
      go_wp2
      · have h1 : lo ≤ n := by assumption
        have h2 : n ≤ hi := by assumption
        go_ret
        exact ⟨by rw [HS.out]; simp [h1, h2], hb1⟩
      all_goals
        have hx : (decide (lo ≤ n) && decide (n ≤ hi)) = false := by
          rw [Bool.and_eq_false_iff, decide_eq_false_iff_not, decide_eq_false_iff_not]
          omega
        rw [hx, Bool.false_or] at HS
        go_roundw
        case rel => exact ⟨k + 1, by omega, by go_num, HS.out, hb1⟩
        case measure => simp [intOf]; omega
    · have hf := inP_end zs n (2 * k) (by rw [← HZ.out]; omega)
      rw [← hr] at hf
      have HF := Lib.hid hf
      clear hf hr
      go_wp2
      go_ret
      exact ⟨by rw [HF.out]; rfl, hb⟩

theorem within_new (zs : List Int) (len cap : Nat) (C : Array Value) (n : Int) (w : World) (T : TypeId) (hC : C = (zs.map (Value.int .i32)).toArray) (hz : 2 * len = zs.length) (hbig : len ≤ 1000) :
    Calls Tryd.prog 52 #[.slice (some ⟨w.heap.size, 0, none⟩) len cap, .int .i32 n] (w.alloc (.cells C T)) fun e w' => e = .returned (.bool (inP zs n)) ∧ Below w.heap.size w w' := by
  refine (within_any _ 0 len cap n zs _ hz hbig (by simp) ?_).mono ?_
  · intro j hj
    rw [Nat.zero_add, World.cell?_alloc_new, hC]
    simp [List.getD, List.getElem?_eq_getElem hj]
  · rintro e w' ⟨he, hb⟩
    exact ⟨he, ((Below.refl _ _).alloc (Nat.le_refl _) _).trans (hb.mono (by simp))⟩

def isM : List Int := [9, 10, 13, 13, 0x20, 0xd7ff, 0xe000, 0xfffd, 0x10000, 0x10ffff]
theorem isM_eq (n : Int) : inP isM n = isC n := by
  unfold isC isL isM
  simp only [inP]
  rw [Bool.eq_iff_iff]
  simp only [Bool.or_eq_true, Bool.and_eq_true, decide_eq_true_eq, Bool.false_eq_true, or_false]
  omega
set_option maxHeartbeats 400000 in
theorem is_any (n : Int) (w : World) :
    Calls Tryd.prog 21 #[.int .i32 n] w fun e w' => e = .returned (.bool (isC n)) ∧ Below w.heap.size w w' := by
  go_enter Tryd.func21, Tryd.ntmps21
  go_wp2_with fail
  refine (within_new isM 5 5 _ n w _ rfl rfl (by decide)).mono ?_
  rintro e w' ⟨rfl, hb⟩
  go_wp2_with fail
  go_ret
  exact ⟨by rw [← isM_eq]; rfl, hb⟩

end Go.Proofs.YtbemijbgbjcoeaaDoor.Char

/- The walk of char.Text. -/
namespace Go.Proofs.YtbemijbgbjcoeaaDoor.Char
open Go.RowKit

theorem width_pos (s : ByteArray) (pos : Nat) (h : pos < s.size) : 1 ≤ (Utf8.decode s pos).2 := by
  by_cases ha : (s[pos]'h).toNat < 128
  · rw [decode_ascii s pos h ha]
    exact Nat.le_refl _
  · exact (decode_high s pos h (by omega)).2

set_option maxHeartbeats 400000 in
theorem text_any (s : ByteArray) (w : World) (hs : s.size ≤ 9223372036854775807) (hT : Tabs w) :
    Calls Tryd.prog 13 #[.string s] w fun e w' => e = .returned (.bool (txD s.data.toList)) ∧ Below w.heap.size w w' := by
  have hV := valid_any s w hs hT
  clear hT
  obtain ⟨R, hR⟩ : ∃ R, R = txD s.data.toList := ⟨_, rfl⟩
  rw [← hR]
  unfold txD at hR
  generalize Lib.validD s.data.toList = v at hV hR
  have HR := Lib.hid hR
  clear hR
  have HV := Lib.hid hV
  clear hV
  go_enter Tryd.func13, Tryd.ntmps13
  go_wp2_with fail
  refine HV.out.mono ?_
  rintro e w1 ⟨rfl, hb1⟩
  clear HV
  cases v
  · go_wp2_with fail
    go_ret
    exact ⟨by rw [HR.out]; rfl, hb1⟩
  · go_wp2_with fail
    go_loopw [] (fun wr => ∃ pos : Nat, wr.heap[w1.heap.size]? = some (.stringIter s pos) ∧ Below w.heap.size w wr ∧ R = allR isC (s.data.toList.drop pos)) (fun wr => s.size - wr.iterPos w1.heap.size)
    case atStart => exact ⟨0, World.iter_heap w1 s 0, hb1.alloc hb1.size _, by simpa using HR.out⟩
    case round =>
      obtain ⟨pos, hit, hbw, hr⟩ := hrel
      have hsz : w1.heap.size < wr.heap.size := (Array.getElem?_eq_some_iff.1 hit).1
      have hip : wr.iterPos w1.heap.size = pos := iterPos_of hit
      by_cases hp : pos < s.size
      · have hst := allR_at isC s pos hp
        have hwd := width_pos s pos hp
        have hnx : ∀ ty, (Instr.next (.pointer (some ⟨w1.heap.size, 0, none⟩)) true ty).run Tryd.prog wr = _ := fun ty => Lib.run_next_any_at wr w1.heap.size s pos ty hit hp
        have hit2 := Lib.iterAt_heap wr w1.heap.size s pos (pos + (Utf8.decode s pos).2) hit
        have hbw2 := Lib.below_iterAt hbw (k := w1.heap.size) hb1.size s (pos + (Utf8.decode s pos).2)
        generalize (Utf8.decode s pos).1 = r at hst hnx
        generalize (Utf8.decode s pos).2 = d at hst hnx hwd hit2 hbw2
        generalize wr.iterAt w1.heap.size s (pos + d) = W1 at hnx hit2 hbw2
        rw [← hr] at hst
        have HS := Lib.hid hst
        have HI := Lib.hid hit2
        have HP := Lib.hid hip
        clear hst hr hit hit2 hip
        go_wp2_with fail
        refine (is_any (r : Int) W1).mono ?_
        rintro e W2 ⟨rfl, hb2⟩
        have hbw3 := hbw2.trans (hb2.mono hbw2.size)
        have hz1 : w1.heap.size < W1.heap.size := (Array.getElem?_eq_some_iff.1 HI.out).1
        have hit3 : W2.heap[w1.heap.size]? = some (.stringIter s (pos + d)) := (hb2.block _ hz1).trans HI.out
        have HI3 := Lib.hid hit3
        clear hit3
        generalize isC (r : Int) = v at HS
        cases v
        · go_wp2_with fail
          go_ret
          exact ⟨by rw [HS.out]; rfl, hbw3⟩
        · go_wp2_with fail
          go_roundw
          case rel => exact ⟨pos + d, HI3.out, hbw3, by rw [HS.out]; rfl⟩
          case measure =>
            rw [iterPos_of HI3.out, HP.out]
            omega
      · have hf := drop_end s pos hp
        rw [hf, allR_nil] at hr
        have hnx : ∀ ty, (Instr.next (.pointer (some ⟨w1.heap.size, 0, none⟩)) true ty).run Tryd.prog wr = _ := fun ty => Lib.run_next_end_at wr w1.heap.size s pos ty hit hp
        have HF := Lib.hid hr
        clear hf hr hit hip
        go_wp2_with fail
        go_ret
        exact ⟨by rw [HF.out]; rfl, hbw⟩
end Go.Proofs.YtbemijbgbjcoeaaDoor.Char

/- The walks of package char's Space, Start, Part, Name. -/
namespace Go.Proofs.YtbemijbgbjcoeaaDoor.Char
open Go.RowKit

def spM : List Int := [9, 10, 13, 13, 0x20, 0x20]
theorem spM_eq (n : Int) : inP spM n = spC n := by
  unfold spC spM
  simp only [inP]
  rw [Bool.eq_iff_iff]
  simp only [Bool.or_eq_true, Bool.and_eq_true, decide_eq_true_eq, Bool.false_eq_true, or_false, beq_iff_eq]
  omega

set_option maxHeartbeats 400000 in
theorem chSpace_any (n : Int) (w : World) :
    Calls Tryd.prog 23 #[.int .i32 n] w fun e w' => e = .returned (.bool (spC n)) ∧ Below w.heap.size w w' := by
  go_enter Tryd.func23, Tryd.ntmps23
  go_wp2_with fail
  refine (within_new spM 3 3 _ n w _ rfl rfl (by decide)).mono ?_
  rintro e w' ⟨rfl, hb⟩
  go_wp2_with fail
  go_ret
  exact ⟨by rw [← spM_eq]; rfl, hb⟩

def stA : Array Value := (stL.map (Value.int .i32)).toArray

set_option maxHeartbeats 400000 in
theorem chStart_any (n : Int) (w : World) :
    Calls Tryd.prog 82 #[.int .i32 n] w fun e w' => e = .returned (.bool (stC n)) ∧ Below w.heap.size w w' := by
  go_enter Tryd.func82, Tryd.ntmps82
  go_wp2_with (first
    | ((with_reducible refine wpList_buildTo rfl 114 _ rfl _ rfl stA (by kernel_rfl) ?_))
    | ((with_reducible refine wpList_store_row rfl 114 _ _ rfl w.heap.size stA rfl rfl 114 _ (heap_alloc_last w _) (by kernel_rfl) rfl (by kernel_rfl) ?_); rw [World.setRow_alloc_new]))
  refine (within_new stL 15 15 _ n w _ rfl rfl (by decide)).mono ?_
  rintro e w' ⟨rfl, hb⟩
  go_wp2_with fail
  go_ret
  exact ⟨rfl, hb⟩

def paA : Array Value := (paL.map (Value.int .i32)).toArray
set_option maxHeartbeats 400000 in
theorem chPart_any (n : Int) (w : World) :
    Calls Tryd.prog 81 #[.int .i32 n] w fun e w' => e = .returned (.bool (paC n)) ∧ Below w.heap.size w w' := by
  unfold paC
  generalize hs : stC n = s
  have HS := Lib.hid hs
  clear hs
  go_enter Tryd.func81, Tryd.ntmps81
  go_wp2_with (first
    | ((with_reducible refine wpList_buildTo rfl 78 _ rfl _ rfl paA (by kernel_rfl) ?_))
    | ((with_reducible refine wpList_store_row rfl 78 _ _ rfl w.heap.size paA rfl rfl 78 _ (heap_alloc_last w _) (by kernel_rfl) rfl (by kernel_rfl) ?_); rw [World.setRow_alloc_new]))
  have hb0 := (Below.refl w.heap.size w).alloc (Nat.le_refl _) (Obj.cells paA 78)
  refine (chStart_any n _).mono ?_
  rintro e w1 ⟨rfl, hb1⟩
  have hbb := hb0.trans (hb1.mono (by simp))
  have hz : w.heap.size < w1.heap.size := by have := hb1.size; simp at this; omega
  have hcl : ∀ j, j < paL.length → w1.cell? ⟨w.heap.size, 0 + j, none⟩ = some (.int .i32 (paL.getD j 0)) := by
    intro j hj
    rw [hb1.cell (p := ⟨w.heap.size, 0 + j, none⟩) (by simp), Nat.zero_add, World.cell?_alloc_new]
    unfold paA
    simp [List.getD, List.getElem?_eq_getElem hj]
  rw [HS.out]
  cases s
  · have hwn : Calls Tryd.prog 52 #[.slice (some ⟨w.heap.size, 0, none⟩) 5 5, .int .i32 n] w1 _ := within_any w.heap.size 0 5 5 n paL w1 rfl (by decide) hz hcl
    clear hcl
    go_wp2_with fail
    refine hwn.mono ?_
    rintro e w' ⟨rfl, hb2⟩
    go_wp2_with fail
    go_ret
    exact ⟨rfl, hbb.trans (hb2.mono hbb.size)⟩
  · clear hcl
    go_wp2_with fail
    go_ret
    exact ⟨rfl, hbb⟩
/-- the first of the runes may begin a name, where we are still ahead of it -/
def aheadR (s : ByteArray) (pos : Nat) : Bool := if pos = 0 then stC ((Utf8.decode s 0).1 : Int) else true
set_option maxHeartbeats 400000 in
theorem chName_any (s : ByteArray) (w : World) (hs : s.size ≤ 9223372036854775807) (hT : Tabs w) :
    Calls Tryd.prog 60 #[.string s] w fun e w' => e = .returned (.bool (nmD s)) ∧ Below w.heap.size w w' := by
  have hV := text_any s w hs hT
  clear hT
  obtain ⟨R, hR⟩ : ∃ R, R = nmD s := ⟨_, rfl⟩
  rw [← hR]
  unfold nmD at hR
  by_cases h0 : s.size = 0
  · have HR := Lib.hid hR
    clear hR hV
    have h0b : ((s.size : Int) == 0) = true := by simp [h0]
    have H0 := Lib.hid h0
    clear h0
    go_enter Tryd.func60, Tryd.ntmps60
    go_wp2_with fail
    go_ret
    exact ⟨by rw [HR.out, H0.out]; rfl, Below.refl _ _⟩
  have h0b : ((s.size : Int) == 0) = false := by rw [beq_eq_false_iff_ne]; omega
  by_cases h32 : 32 < s.size
  · have h32z : (32 : Int) < (s.size : Int) := by omega
    have e32 : decide (s.size ≤ 32) = false := decide_eq_false (by omega)
    rw [e32, Bool.and_false, Bool.false_and, Bool.false_and] at hR
    have HR := Lib.hid hR
    clear hR hV e32 h32
    go_enter Tryd.func60, Tryd.ntmps60
    go_wp2_with fail
    go_ret
    exact ⟨by rw [HR.out]; rfl, Below.refl _ _⟩
  have h32z : ¬ (32 : Int) < (s.size : Int) := by omega
  rw [decide_eq_true (by omega : 0 < s.size), decide_eq_true (by omega : s.size ≤ 32), Bool.true_and, Bool.true_and] at hR
  generalize txD s.data.toList = v at hV hR
  have HR := Lib.hid hR
  clear hR
  have HV := Lib.hid hV
  clear hV
  go_enter Tryd.func60, Tryd.ntmps60
  go_wp2_with fail
  refine HV.out.mono ?_
  rintro e w1 ⟨rfl, hb1⟩
  clear HV
  cases v
  · go_wp2_with fail
    go_ret
    exact ⟨by rw [HR.out]; rfl, hb1⟩
  · go_wp2_with fail
    go_loopw [] (fun wr => ∃ pos : Nat, wr.heap[w1.heap.size]? = some (.stringIter s pos) ∧ Below w.heap.size w wr ∧ R = (aheadR s pos && allR paC (s.data.toList.drop pos))) (fun wr => s.size - wr.iterPos w1.heap.size)
    case atStart => exact ⟨0, World.iter_heap w1 s 0, hb1.alloc hb1.size _, by simpa [aheadR] using HR.out⟩
    case round =>
      obtain ⟨pos, hit, hbw, hr⟩ := hrel
      have hsz : w1.heap.size < wr.heap.size := (Array.getElem?_eq_some_iff.1 hit).1
      have hip : wr.iterPos w1.heap.size = pos := iterPos_of hit
      by_cases hp : pos < s.size
      · have hst := allR_at paC s pos hp
        have hwd := width_pos s pos hp
        have hnx : ∀ ty, (Instr.next (.pointer (some ⟨w1.heap.size, 0, none⟩)) true ty).run Tryd.prog wr = _ := fun ty => Lib.run_next_any_at wr w1.heap.size s pos ty hit hp
        have hit2 := Lib.iterAt_heap wr w1.heap.size s pos (pos + (Utf8.decode s pos).2) hit
        have hbw2 := Lib.below_iterAt hbw (k := w1.heap.size) hb1.size s (pos + (Utf8.decode s pos).2)
        have hah : aheadR s pos = (if pos = 0 then stC ((Utf8.decode s pos).1 : Int) else true) := by
          unfold aheadR
          by_cases h : pos = 0
          · rw [if_pos h, if_pos h, h]
          · rw [if_neg h, if_neg h]
        generalize (Utf8.decode s pos).1 = r at hst hnx hah
        have hd0 : aheadR s (pos + (Utf8.decode s pos).2) = true := by unfold aheadR; rw [if_neg (by omega)]
        generalize (Utf8.decode s pos).2 = d at hst hnx hwd hit2 hbw2 hd0
        generalize wr.iterAt w1.heap.size s (pos + d) = W1 at hnx hit2 hbw2
        rw [hst, hah] at hr
        have HS := Lib.hid hr
        have HI := Lib.hid hit2
        have HP := Lib.hid hip
        have HD := Lib.hid hd0
        clear hst hr hit hit2 hip hah hd0
        have hz1 : w1.heap.size < W1.heap.size := (Array.getElem?_eq_some_iff.1 HI.out).1
        have fin : ∀ W2, Below W1.heap.size W1 W2 → W2.heap[w1.heap.size]? = some (.stringIter s (pos + d)) ∧ Below w.heap.size w W2 := fun W2 hb2 => ⟨(hb2.block _ hz1).trans HI.out, hbw2.trans (hb2.mono hbw2.size)⟩
        by_cases hp0 : pos = 0
        · have hp0b : ((pos : Int) == 0) = true := by simp [hp0]
          have hs2 := HS.out
          rw [if_pos hp0] at hs2
          have HS2 := Lib.hid hs2
          clear hs2 HS hp0
          go_wp2_with fail
          refine (chStart_any (r : Int) W1).mono ?_
          rintro e W2 ⟨rfl, hb2⟩
          generalize stC (r : Int) = c at HS2
          cases c
          · go_wp2_with fail
            go_ret
            exact ⟨by rw [HS2.out]; rfl, (fin _ hb2).2⟩
          · go_wp2_with fail
            refine (chPart_any (r : Int) W2).mono ?_
            rintro e W3 ⟨rfl, hb3⟩
            have hb23 := hb2.trans (hb3.mono hb2.size)
            generalize paC (r : Int) = c2 at HS2
            cases c2
            · go_wp2_with fail
              go_ret
              exact ⟨by rw [HS2.out]; rfl, (fin _ hb23).2⟩
            · go_wp2_with fail
              go_roundw
              case rel => exact ⟨pos + d, (fin _ hb23).1, (fin _ hb23).2, by rw [HS2.out, HD.out]; rfl⟩
              case measure =>
                rw [iterPos_of (fin _ hb23).1, HP.out]
                omega
        · have hp0b : ((pos : Int) == 0) = false := by rw [beq_eq_false_iff_ne]; omega
          have hs2 := HS.out
          rw [if_neg hp0] at hs2
          have HS2 := Lib.hid hs2
          clear hs2 HS hp0
          go_wp2_with fail
          refine (chPart_any (r : Int) W1).mono ?_
          rintro e W2 ⟨rfl, hb2⟩
          generalize paC (r : Int) = c2 at HS2
          cases c2
          · go_wp2_with fail
            go_ret
            exact ⟨by rw [HS2.out]; rfl, (fin _ hb2).2⟩
          · go_wp2_with fail
            go_roundw
            case rel => exact ⟨pos + d, (fin _ hb2).1, (fin _ hb2).2, by rw [HS2.out, HD.out]; rfl⟩
            case measure =>
              rw [iterPos_of (fin _ hb2).1, HP.out]
              omega
      · have hf := drop_end s pos hp
        have hah : aheadR s pos = true := by unfold aheadR; rw [if_neg (by omega)]
        rw [hf, allR_nil, hah] at hr
        have hnx : ∀ ty, (Instr.next (.pointer (some ⟨w1.heap.size, 0, none⟩)) true ty).run Tryd.prog wr = _ := fun ty => Lib.run_next_end_at wr w1.heap.size s pos ty hit hp
        have HF := Lib.hid hr
        clear hf hr hit hip hah
        go_wp2_with fail
        go_ret
        exact ⟨by rw [HF.out]; rfl, hbw⟩
end Go.Proofs.YtbemijbgbjcoeaaDoor.Char
