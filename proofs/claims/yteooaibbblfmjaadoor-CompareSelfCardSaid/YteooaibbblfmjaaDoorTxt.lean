/- Mathematics without a program: a number as a text, a literal, a text as a number. -/
import Derived.Test.YteooaibbblfmjaaDoorDig
import Derived.Test.YteooaibbblfmjaaDoorDecM
namespace Go.Proofs.YteooaibbblfmjaaDoor.Char

/-- a digit as a byte, and a byte as a digit -/
def chr (d : Nat) : UInt8 := UInt8.ofNat (48 + d)
def dval (b : UInt8) : Nat := b.toNat - 48
def digB (b : UInt8) : Bool := decide (48 ≤ b.toNat) && decide (b.toNat ≤ 57)
def ptB (b : UInt8) : Bool := b.toNat == 46
def spB (b : UInt8) : Bool := b.toNat == 9 || b.toNat == 10 || b.toNat == 13 || b.toNat == 32

theorem chr_toNat (d : Nat) (h : d < 10) : (chr d).toNat = 48 + d := by
  unfold chr
  rw [UInt8.toNat_ofNat']
  omega
theorem dval_chr (d : Nat) (h : d < 10) : dval (chr d) = d := by unfold dval; rw [chr_toNat d h]; omega
theorem digB_chr (d : Nat) (h : d < 10) : digB (chr d) = true := by
  unfold digB
  rw [chr_toNat d h, Bool.and_eq_true, decide_eq_true_iff, decide_eq_true_iff]
  omega

/-- what digits as bytes come to, the first one first -/
def decL (l : List UInt8) : Nat := l.foldl (fun n b => n * 10 + dval b) 0
theorem snoc_ind {α : Type} {P : List α → Prop} (h0 : P []) (h1 : ∀ l b, P l → P (l ++ [b])) (l : List α) : P l := by
  have h : ∀ m : List α, P m.reverse := fun m => by
    induction m with
    | nil => exact h0
    | cons b m ih => rw [List.reverse_cons]; exact h1 _ _ ih
  rw [← List.reverse_reverse l]
  exact h _
theorem decL_snoc (l : List UInt8) (b : UInt8) : decL (l ++ [b]) = decL l * 10 + dval b := by unfold decL; rw [List.foldl_append]; rfl
theorem decL_nil : decL [] = 0 := rfl
theorem decL_val (l : List UInt8) : val ((l.map dval).reverse) = decL l := by
  induction l using snoc_ind with
  | h0 => rfl
  | h1 l b ih =>
    rw [List.map_append, List.reverse_append, decL_snoc, ← ih]
    show dval b + 10 * val ((l.map dval).reverse) = _
    omega
theorem decL_chr (l : List Nat) (h : ∀ d ∈ l, d < 10) : decL ((l.map chr).reverse) = val l := by
  rw [← decL_val, List.map_reverse, List.reverse_reverse, List.map_map]
  have e : l.map (dval ∘ chr) = l.map id := List.map_congr_left (fun d hd => dval_chr d (h d hd))
  rw [e, List.map_id]
theorem decL_le_append (l m : List UInt8) : decL l ≤ decL (l ++ m) := by
  induction m using snoc_ind with
  | h0 => rw [List.append_nil]; exact Nat.le_refl _
  | h1 m b ih => rw [← List.append_assoc, decL_snoc]; omega

/-- the last k digits of a number -/
def lo : Nat → Nat → List UInt8
  | 0, _ => []
  | k + 1, n => lo k (n / 10) ++ [chr (n % 10)]
theorem lo_length : ∀ k n, (lo k n).length = k
  | 0, _ => rfl
  | k + 1, n => by rw [lo, List.length_append, lo_length k]; rfl
theorem lo_front : ∀ k n, lo (k + 1) n = chr (n / 10 ^ k % 10) :: lo k n
  | 0, n => by simp [lo]
  | k + 1, n => by
    rw [lo, lo_front k (n / 10), Nat.div_div_eq_div_mul, ← Nat.pow_succ', List.cons_append]
    rfl
theorem lo_add (a : Nat) : ∀ b n, lo (a + b) n = lo a (n / 10 ^ b) ++ lo b n
  | 0, n => by simp [lo]
  | b + 1, n => by
    rw [← Nat.add_assoc, lo, lo, lo_add a b (n / 10), Nat.div_div_eq_div_mul, ← Nat.pow_succ', List.append_assoc]
theorem lo_dig : ∀ k n, ∀ b ∈ lo k n, digB b = true
  | 0, _, b, h => by cases h
  | k + 1, n, b, h => by
    rw [lo] at h
    rcases List.mem_append.1 h with h | h
    · exact lo_dig k _ b h
    · rw [List.mem_singleton.1 h]; exact digB_chr _ (Nat.mod_lt _ (by omega))
theorem decL_lo (W : List UInt8) : ∀ k n, decL (W ++ lo k n) = decL W * 10 ^ k + n % 10 ^ k
  | 0, n => by simp [lo, Nat.mod_one]
  | k + 1, n => by
    rw [lo, ← List.append_assoc, decL_snoc, decL_lo W k (n / 10), dval_chr _ (Nat.mod_lt _ (by omega)), Nat.pow_succ', Nat.mod_mul]
    have h1 : decL W * (10 * 10 ^ k) = decL W * 10 ^ k * 10 := by rw [Nat.mul_comm 10, Nat.mul_assoc]
    rw [h1, Nat.add_mul]
    omega

/-- a number's digits, without noughts ahead (0 has none, or one) -/
def txs (n : Nat) : List UInt8 := ((dg n).map chr).reverse
def tx (n : Nat) : List UInt8 := if n = 0 then [chr 0] else txs n
theorem txs_step (n : Nat) (h : n ≠ 0) : txs n = txs (n / 10) ++ [chr (n % 10)] := by
  unfold txs
  rw [dg_step n h, List.map_cons, List.reverse_cons]
theorem tx_step (n : Nat) : tx n = txs (n / 10) ++ [chr (n % 10)] := by
  unfold tx
  by_cases h : n = 0
  · subst h; rfl
  · rw [if_neg h, txs_step n h]
theorem tx_ne (n : Nat) : tx n ≠ [] := by rw [tx_step]; simp
theorem txs_lo (n : Nat) : txs n = lo (dg n).length n := by
  induction n using Nat.strongRecOn with
  | _ n ih =>
    by_cases h : n = 0
    · subst h; rfl
    · rw [txs_step n h, ih (n / 10) (by omega), dg_step n h, List.length_cons, lo]
theorem decL_txs (n : Nat) : decL (txs n) = n := by unfold txs; rw [decL_chr _ (dg_lt n), val_dg]
theorem decL_tx (n : Nat) : decL (tx n) = n := by
  unfold tx
  by_cases h : n = 0
  · subst h; rfl
  · rw [if_neg h, decL_txs]
theorem txs_dig (n : Nat) : ∀ b ∈ txs n, digB b = true := by rw [txs_lo]; exact lo_dig _ _
theorem tx_dig (n : Nat) : ∀ b ∈ tx n, digB b = true := by
  rw [tx_step]
  intro b hb
  rcases List.mem_append.1 hb with h | h
  · exact txs_dig _ b h
  · rw [List.mem_singleton.1 h]; exact digB_chr _ (Nat.mod_lt _ (by omega))
theorem dg_len_step (n : Nat) (h : n ≠ 0) : (dg n).length = (dg (n / 10)).length + 1 := by rw [dg_step n h]; rfl
theorem tx_lo (m : Nat) : ∀ k, lo (max (dg m).length (k + 1)) m = tx (m / 10 ^ k) ++ lo k m := by
  intro k
  have hk : max (dg m).length (k + 1) = (max (dg m).length (k + 1) - k) + k := by omega
  rw [hk, lo_add]
  congr 1
  have key : ∀ k n, 10 ^ k ≤ n → (dg (n / 10 ^ k)).length + k = (dg n).length := by
    intro k
    induction k with
    | zero => intro n _; simp
    | succ k ih =>
      intro n hn
      have h0 : n ≠ 0 := by have := Nat.pow_pos (n := k + 1) (show 0 < 10 by omega); omega
      have h1 : 10 ^ k ≤ n / 10 := by rw [Nat.le_div_iff_mul_le (by omega), ← Nat.pow_succ]; exact hn
      rw [Nat.pow_succ', ← Nat.div_div_eq_div_mul, dg_len_step n h0, ← ih (n / 10) h1]
      omega
  by_cases h : 10 ^ k ≤ m
  · have e := key k m h
    have hq : m / 10 ^ k ≠ 0 := by
      have := Nat.div_pos h (Nat.pow_pos (n := k) (show 0 < 10 by omega))
      omega
    have hl : 0 < (dg (m / 10 ^ k)).length := by rw [dg_len_step _ hq]; omega
    unfold tx
    rw [if_neg hq, txs_lo]
    congr 1
    omega
  · have hq : m / 10 ^ k = 0 := Nat.div_eq_of_lt (by omega)
    have hl := dg_len_le m k (by omega)
    rw [hq, show max (dg m).length (k + 1) - k = 1 by omega]
    rfl

/-- the first digits of the last k of a number, without noughts at their end -/
def fr : Nat → Nat → List UInt8
  | 0, _ => []
  | k + 1, n => if n % 10 = 0 then fr k (n / 10) else lo (k + 1) n
theorem fr_zero (k n : Nat) (h : n % 10 = 0) : fr (k + 1) n = fr k (n / 10) := by rw [fr, if_pos h]
theorem fr_lo (k n : Nat) (h : 0 < k → n % 10 ≠ 0) : fr k n = lo k n := by
  match k with
  | 0 => rfl
  | k + 1 => rw [fr, if_neg (h (by omega))]
theorem fr_pad : ∀ k n, (fr k n).length ≤ k ∧ fr k n ++ List.replicate (k - (fr k n).length) (chr 0) = lo k n
  | 0, _ => ⟨Nat.le_refl _, rfl⟩
  | k + 1, n => by
    by_cases h : n % 10 = 0
    · have ⟨h1, h2⟩ := fr_pad k (n / 10)
      rw [fr_zero k n h]
      refine ⟨by omega, ?_⟩
      rw [lo, h, ← h2, show k + 1 - (fr k (n / 10)).length = (k - (fr k (n / 10)).length) + 1 by omega, List.replicate_succ', List.append_assoc]
    · rw [fr_lo (k + 1) n (fun _ => h), lo_length]
      simp
theorem fr_dig (k n : Nat) : ∀ b ∈ fr k n, digB b = true := by
  intro b hb
  have h := (fr_pad k n).2
  exact lo_dig k n b (by rw [← h]; exact List.mem_append_left _ hb)

/-- a number of millionths as a text -/
def bodyB (m : Nat) : List UInt8 := tx (m / 10 ^ 6) ++ (if fr 6 m = [] then [] else 46 :: fr 6 m)
def showN (n : Int) : List UInt8 := (if n < 0 then [45] else []) ++ bodyB n.natAbs
def showB : Nm → List UInt8
  | .nan => [78, 97, 78]
  | .over => [73, 110, 102, 105, 110, 105, 116, 121]
  | .under => [45, 73, 110, 102, 105, 110, 105, 116, 121]
  | .num n => showN n

/-- what a literal's two parts tell -/
def allD (w f : List UInt8) : List UInt8 := w ++ (f.take 6 ++ List.replicate (6 - (f.take 6).length) (chr 0))
def toldD (w f : List UInt8) : Nm := fitD (decL (allD w f) : Int)
/-- what a literal tells -/
def litL (l : List UInt8) : Option Nm :=
  let r1 := l.dropWhile digB
  let r2 := r1.dropWhile ptB
  if r2.dropWhile digB = [] ∧ (r1.takeWhile ptB).length ≤ 1 ∧ ¬ (l.takeWhile digB = [] ∧ r2.takeWhile digB = []) then some (toldD (l.takeWhile digB) (r2.takeWhile digB)) else none
def trimL (l : List UInt8) : List UInt8 := ((l.dropWhile spB).reverse.dropWhile spB).reverse
def readU (u : List UInt8) : Nm :=
  match u with
  | 45 :: t => ((litL t).map negD).getD .nan
  | u => (litL u).getD .nan
def readD (l : List UInt8) : Nm := readU (trimL l)

theorem dropWhile_none {p : UInt8 → Bool} : ∀ (l : List UInt8), (∀ b ∈ l, p b = false) → l.dropWhile p = l
  | [], _ => rfl
  | b :: l, h => by rw [List.dropWhile_cons, if_neg (by rw [h b (List.mem_cons_self ..)]; simp)]
theorem trimL_none (l : List UInt8) (h : ∀ b ∈ l, spB b = false) : trimL l = l := by
  unfold trimL
  rw [dropWhile_none l h, dropWhile_none l.reverse (fun b hb => h b (List.mem_reverse.1 hb)), List.reverse_reverse]
theorem takeWhile_app {p : UInt8 → Bool} : ∀ (w r : List UInt8), (∀ b ∈ w, p b = true) → (∀ b r', r = b :: r' → p b = false) → (w ++ r).takeWhile p = w ∧ (w ++ r).dropWhile p = r
  | [], r, _, h => by
    match r, h with
    | [], _ => exact ⟨rfl, rfl⟩
    | b :: r, h => simp [h b r rfl]
  | b :: w, r, hw, h => by
    have ⟨h1, h2⟩ := takeWhile_app w r (fun x hx => hw x (List.mem_cons_of_mem _ hx)) h
    have hb := hw b (List.mem_cons_self ..)
    rw [List.cons_append, List.takeWhile_cons, List.dropWhile_cons, if_pos hb, if_pos hb, h1, h2]
    exact ⟨rfl, rfl⟩
theorem digB_not_pt {b : UInt8} (h : digB b = true) : ptB b = false := by
  unfold digB at h
  unfold ptB
  rw [Bool.and_eq_true, decide_eq_true_iff, decide_eq_true_iff] at h
  rw [beq_eq_false_iff_ne]
  omega
theorem digB_not_sp {b : UInt8} (h : digB b = true) : spB b = false := by
  unfold digB at h
  unfold spB
  rw [Bool.and_eq_true, decide_eq_true_iff, decide_eq_true_iff] at h
  simp only [Bool.or_eq_false_iff, beq_eq_false_iff_ne]
  omega
theorem digB_ne {b : UInt8} (h : digB b = true) : b ≠ 45 ∧ b ≠ 46 := by
  constructor <;> rintro rfl <;> exact absurd h (by decide)

theorem litL_parts (w f : List UInt8) (hw : ∀ b ∈ w, digB b = true) (hf : ∀ b ∈ f, digB b = true) (hne : w ≠ []) : litL (w ++ (if f = [] then [] else 46 :: f)) = some (toldD w f) := by
  by_cases h : f = []
  · subst h
    rw [if_pos rfl]
    have ⟨h1, h2⟩ := takeWhile_app w [] hw (fun b r' e => by cases e)
    unfold litL
    simp only [h1, h2]
    simp [hne]
  · rw [if_neg h]
    have ⟨h1, h2⟩ := takeWhile_app (p := digB) w (46 :: f) hw (fun b r' e => by cases e; decide)
    have ⟨h3, h4⟩ := takeWhile_app (p := ptB) [46] f (fun b hb => by rw [List.mem_singleton.1 hb]; decide) (fun b r' e => digB_not_pt (hf b (by rw [e]; exact List.mem_cons_self ..)))
    have ⟨h5, h6⟩ := takeWhile_app (p := digB) f [] hf (fun b r' e => by cases e)
    rw [List.append_nil] at h5 h6
    unfold litL
    simp only [h1, h2]
    rw [show (46 :: f : List UInt8) = [46] ++ f from rfl]
    simp only [h3, h4, h5, h6]
    simp [hne]

theorem told_body (m : Nat) : toldD (tx (m / 10 ^ 6)) (fr 6 m) = fitD (m : Int) := by
  have ⟨h1, h2⟩ := fr_pad 6 m
  unfold toldD allD
  rw [List.take_of_length_le h1, h2, decL_lo, decL_tx, Nat.mul_comm, Nat.div_add_mod]
theorem lit_body (m : Nat) : litL (bodyB m) = some (fitD (m : Int)) := by
  unfold bodyB
  rw [litL_parts _ _ (tx_dig _) (fr_dig _ _) (tx_ne _), told_body]
theorem body_sp (m : Nat) : ∀ b ∈ bodyB m, spB b = false := by
  unfold bodyB
  intro b hb
  rcases List.mem_append.1 hb with h | h
  · exact digB_not_sp (tx_dig _ b h)
  · by_cases hf : fr 6 m = []
    · rw [if_pos hf] at h; cases h
    · rw [if_neg hf] at h
      rcases List.mem_cons.1 h with rfl | h
      · decide
      · exact digB_not_sp (fr_dig _ _ b h)
theorem read_body (m : Nat) : readU (bodyB m) = fitD (m : Int) := by
  have h := lit_body m
  have hd : ∃ b t, bodyB m = b :: t ∧ digB b = true := by
    have hx := tx_ne (m / 10 ^ 6)
    match ht : tx (m / 10 ^ 6), hx with
    | b :: t, _ => exact ⟨b, _, by unfold bodyB; rw [ht]; rfl, tx_dig _ b (by rw [ht]; exact List.mem_cons_self ..)⟩
  obtain ⟨b, t, hb, hdb⟩ := hd
  have hne := (digB_ne hdb).1
  rw [hb] at h ⊢
  unfold readU
  split
  · rename_i t' he
    injection he with h1 h2
    exact absurd h1 hne
  · rw [h]; rfl

/-- what is shown is read as it was; what is no number, as none -/
theorem read_show : ∀ x : Nm, okD x → readD (showB x) = match x with | .num n => .num n | _ => .nan
  | .nan, _ => by rfl
  | .over, _ => by rfl
  | .under, _ => by rfl
  | .num n, h => by
    have hb : -9223372036854775807 ≤ n ∧ n ≤ 9223372036854775807 := h
    show readD (showN n) = .num n
    unfold readD showN
    by_cases hn : n < 0
    · rw [if_pos hn, trimL_none]
      · show ((litL (bodyB n.natAbs)).map negD).getD .nan = _
        rw [lit_body, fitD_in _ (by omega)]
        show Nm.num (-((n.natAbs : Nat) : Int)) = _
        congr 1
        omega
      · intro b hb
        rcases List.mem_cons.1 hb with rfl | hb
        · decide
        · exact body_sp _ b hb
    · rw [if_neg hn, List.nil_append, trimL_none _ (body_sp _), read_body, fitD_in _ (by omega)]
      congr 1
      omega
end Go.Proofs.YteooaibbblfmjaaDoor.Char
