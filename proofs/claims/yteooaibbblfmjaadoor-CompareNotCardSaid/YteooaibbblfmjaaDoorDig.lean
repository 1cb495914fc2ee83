/- Mathematics without a program: decimal digits of a natural number, the last one first. -/
namespace Go.Proofs.YteooaibbblfmjaaDoor.Char

/-- what digits come to, the last one first -/
def val : List Nat → Nat
  | [] => 0
  | d :: l => d + 10 * val l
def dgN : Nat → Nat → List Nat
  | 0, _ => []
  | f + 1, n => if n = 0 then [] else n % 10 :: dgN f (n / 10)
/-- the digits of a number -/
def dg (n : Nat) : List Nat := dgN n n

theorem dgN_zero : ∀ f, dgN f 0 = []
  | 0 => rfl
  | _ + 1 => by simp [dgN]
theorem dgN_fuel : ∀ (f g n : Nat), n ≤ f → n ≤ g → dgN f n = dgN g n
  | 0, g, n, h, _ => by
    obtain rfl : n = 0 := by omega
    rw [dgN_zero, dgN_zero]
  | f + 1, 0, n, _, h => by
    obtain rfl : n = 0 := by omega
    rw [dgN_zero, dgN_zero]
  | f + 1, g + 1, n, h1, h2 => by
    unfold dgN
    by_cases h : n = 0
    · rw [if_pos h, if_pos h]
    · rw [if_neg h, if_neg h, dgN_fuel f g (n / 10) (by omega) (by omega)]
theorem dg_zero : dg 0 = [] := rfl
theorem dg_step (n : Nat) (h : n ≠ 0) : dg n = n % 10 :: dg (n / 10) := by
  obtain ⟨m, rfl⟩ : ∃ m, n = m + 1 := ⟨n - 1, by omega⟩
  show dgN (m + 1) (m + 1) = _
  unfold dgN
  rw [if_neg h]
  show _ = _ :: dgN _ _
  rw [dgN_fuel m ((m + 1) / 10) _ (by omega) (by omega)]
theorem val_dg (n : Nat) : val (dg n) = n := by
  induction n using Nat.strongRecOn with
  | _ n ih =>
    by_cases h : n = 0
    · subst h; rfl
    · rw [dg_step n h, val, ih (n / 10) (by omega)]
      omega
theorem dg_lt (n : Nat) : ∀ d ∈ dg n, d < 10 := by
  induction n using Nat.strongRecOn with
  | _ n ih =>
    intro d hd
    by_cases h : n = 0
    · subst h; cases hd
    · rw [dg_step n h] at hd
      rcases List.mem_cons.1 hd with rfl | hd
      · exact Nat.mod_lt _ (by omega)
      · exact ih (n / 10) (by omega) d hd
theorem dg_getD : ∀ (k n : Nat), (dg n).getD k 0 = n / 10 ^ k % 10
  | 0, n => by
    by_cases h : n = 0
    · subst h; rfl
    · rw [dg_step n h]; simp
  | k + 1, n => by
    by_cases h : n = 0
    · subst h; simp [dg_zero]
    · have e : n / 10 ^ (k + 1) = n / 10 / 10 ^ k := by rw [Nat.pow_succ', Nat.div_div_eq_div_mul]
      rw [dg_step n h, e, ← dg_getD k (n / 10)]
      rfl
theorem dg_len_lt (n : Nat) : n < 10 ^ (dg n).length := by
  induction n using Nat.strongRecOn with
  | _ n ih =>
    by_cases h : n = 0
    · subst h; simp [dg_zero]
    · have := ih (n / 10) (by omega)
      rw [dg_step n h, List.length_cons, Nat.pow_succ]
      omega
theorem dg_len_le (n : Nat) : ∀ k, n < 10 ^ k → (dg n).length ≤ k := by
  induction n using Nat.strongRecOn with
  | _ n ih =>
    intro k hk
    by_cases h : n = 0
    · subst h; simp [dg_zero]
    · match k, hk with
      | 0, hk => simp at hk; omega
      | k + 1, hk =>
        rw [Nat.pow_succ] at hk
        have := ih (n / 10) (by omega) k (by omega)
        rw [dg_step n h, List.length_cons]
        omega
theorem dg_len_ge (n k : Nat) (h : 10 ^ k ≤ n) : k < (dg n).length := by
  have h1 := dg_len_lt n
  rcases Nat.lt_or_ge k (dg n).length with h2 | h2
  · exact h2
  · have := Nat.pow_le_pow_right (n := 10) (by omega) h2
    omega
theorem dg_nil (n : Nat) : dg n = [] ↔ n = 0 := by
  constructor
  · intro h
    have := val_dg n
    rw [h] at this
    exact this.symm
  · rintro rfl; rfl
/-- below another number just if it has fewer digits, where these differ -/
theorem dg_len_below (a b : Nat) (h : (dg a).length < (dg b).length) : a < b := by
  have h1 := dg_len_lt a
  rcases Nat.lt_or_ge a b with h2 | h2
  · exact h2
  · have := dg_len_le b (dg a).length (by omega)
    omega
/-- there are no more digits -/
theorem dg_over (n k : Nat) (h : (dg n).length ≤ k) : n % 10 ^ k = n ∧ n / 10 ^ k % 10 = 0 := by
  have h1 := dg_len_lt n
  have h2 := Nat.pow_le_pow_right (n := 10) (by omega) h
  refine ⟨Nat.mod_eq_of_lt (by omega), ?_⟩
  rw [Nat.div_eq_of_lt (by omega)]

theorem val_append : ∀ a b : List Nat, val (a ++ b) = val a + 10 ^ a.length * val b
  | [], b => by simp [val]
  | d :: a, b => by
    rw [List.cons_append, val, val, val_append a b, List.length_cons, Nat.pow_succ']
    rw [Nat.mul_assoc 10]
    omega
theorem val_snoc (a : List Nat) (d : Nat) : val (a ++ [d]) = val a + 10 ^ a.length * d := by
  rw [val_append]; simp [val]
theorem val_lt : ∀ l : List Nat, (∀ d ∈ l, d < 10) → val l < 10 ^ l.length
  | [], _ => by simp [val]
  | d :: l, h => by
    have h1 := val_lt l (fun x hx => h x (List.mem_cons_of_mem _ hx))
    have h2 := h d (by simp)
    rw [val, List.length_cons, Nat.pow_succ]
    omega
/-- digits of which the last one is not a nought are the number's -/
theorem dg_val : ∀ l : List Nat, (∀ d ∈ l, d < 10) → (∀ h : l ≠ [], l.getLast h ≠ 0) → l = dg (val l)
  | [], _, _ => rfl
  | d :: l, h, hl => by
    have hd := h d (by simp)
    have hne : val (d :: l) ≠ 0 := by
      rw [val]
      match l, hl with
      | [], hl => have := hl (by simp); simp at this; omega
      | x :: l, hl =>
        have ih := dg_val (x :: l) (fun y hy => h y (List.mem_cons_of_mem _ hy)) (fun hh => by have := hl (by simp); rwa [List.getLast_cons hh] at this)
        have : val (x :: l) ≠ 0 := by
          intro h0
          rw [h0] at ih
          cases ih
        omega
    rw [dg_step _ hne]
    have e1 : val (d :: l) % 10 = d := by rw [val]; omega
    have e2 : val (d :: l) / 10 = val l := by rw [val]; omega
    rw [e1, e2]
    by_cases hn : l = []
    · subst hn; rfl
    · rw [← dg_val l (fun y hy => h y (List.mem_cons_of_mem _ hy)) (fun hh => by have := hl (by simp); rwa [List.getLast_cons hh] at this)]
/-- noughts ahead come to nothing -/
theorem val_take_zero (l : List Nat) (m : Nat) (hm : m + 1 ≤ l.length) (h : l.getD m 0 = 0) : val (l.take (m + 1)) = val (l.take m) := by
  have e : l.take (m + 1) = l.take m ++ [l.getD m 0] := by
    rw [List.take_succ_eq_append_getElem (by omega : m < l.length)]
    simp [List.getD, List.getElem?_eq_getElem (by omega : m < l.length)]
  rw [e, val_snoc, h]
  simp
theorem dg_take (l : List Nat) (hl : ∀ d ∈ l, d < 10) (m : Nat) (hm : m ≤ l.length) (h : 0 < m → l.getD (m - 1) 0 ≠ 0) : l.take m = dg (val (l.take m)) := by
  refine dg_val _ (fun d hd => hl d (List.mem_of_mem_take hd)) (fun hne => ?_)
  have hlen : (l.take m).length = m := by simp; omega
  have hm0 : 0 < m := by rw [← hlen]; exact List.length_pos_iff.2 hne
  have := h hm0
  rw [List.getLast_eq_getElem]
  simp only [hlen, List.getElem_take]
  simpa [List.getD, List.getElem?_eq_getElem (by omega : m - 1 < l.length)] using this
theorem getD_lt (l : List Nat) (hl : ∀ d ∈ l, d < 10) (k : Nat) : l.getD k 0 < 10 := by
  rcases Nat.lt_or_ge k l.length with h | h
  · have : l.getD k 0 = l[k] := by simp [List.getD, List.getElem?_eq_getElem h]
    rw [this]; exact hl _ (List.getElem_mem h)
  · have : l.getD k 0 = 0 := by simp [List.getD, List.getElem?_eq_none h]
    omega
theorem snoc_lt {l : List Nat} {d : Nat} (hl : ∀ x ∈ l, x < 10) (hd : d < 10) : ∀ x ∈ l ++ [d], x < 10 := by
  intro x hx
  rcases List.mem_append.1 hx with h | h
  · exact hl x h
  · rw [List.mem_singleton.1 h]; exact hd
theorem set_lt {l : List Nat} {p d : Nat} (hl : ∀ x ∈ l, x < 10) (hd : d < 10) : ∀ x ∈ l.set p d, x < 10 := by
  intro x hx
  rcases List.mem_or_eq_of_mem_set hx with h | h
  · exact hl x h
  · rw [h]; exact hd
theorem val_set : ∀ (l : List Nat) (p d : Nat), p < l.length → val (l.set p d) + 10 ^ p * l.getD p 0 = val l + 10 ^ p * d
  | [], p, d, h => by simp at h
  | x :: l, 0, d, h => by simp [val]; omega
  | x :: l, p + 1, d, h => by
    have ih := val_set l p d (by simpa using h)
    simp only [List.set_cons_succ, val, List.getD_cons_succ, Nat.pow_succ']
    rw [Nat.mul_assoc, Nat.mul_assoc]
    omega
theorem val_zeros : ∀ n, val (List.replicate n 0) = 0
  | 0 => rfl
  | n + 1 => by rw [List.replicate_succ, val, val_zeros n]

/-- one digit more, of both and of the sum -/
theorem mod_step (a k : Nat) : a % 10 ^ (k + 1) = a % 10 ^ k + 10 ^ k * (a / 10 ^ k % 10) := Nat.mod_pow_succ
theorem plus_step (a b k v c : Nat) (h : v + c * 10 ^ k = a % 10 ^ k + b % 10 ^ k) :
    v + 10 ^ k * ((a / 10 ^ k % 10 + b / 10 ^ k % 10 + c) % 10) + (a / 10 ^ k % 10 + b / 10 ^ k % 10 + c) / 10 * 10 ^ (k + 1) = a % 10 ^ (k + 1) + b % 10 ^ (k + 1) := by
  rw [mod_step a, mod_step b, Nat.pow_succ]
  generalize a / 10 ^ k % 10 = x
  generalize b / 10 ^ k % 10 = y
  generalize 10 ^ k = P at *
  generalize hs : x + y + c = s
  have e : P * s = P * x + P * y + P * c := by rw [← hs]; simp [Nat.mul_add]
  have e2 : P * s = P * (s % 10) + s / 10 * (P * 10) := by
    have := Nat.mod_add_div s 10
    calc P * s = P * (s % 10 + 10 * (s / 10)) := by rw [this]
      _ = _ := by rw [Nat.mul_add]; congr 1; rw [← Nat.mul_assoc, Nat.mul_comm]
  rw [Nat.mul_comm c P] at h
  omega
theorem minus_step (a b k v c d e : Nat) (h : v + b % 10 ^ k = a % 10 ^ k + c * 10 ^ k) (hd : d + b / 10 ^ k % 10 + c = a / 10 ^ k % 10 + 10 * e) :
    v + 10 ^ k * d + b % 10 ^ (k + 1) = a % 10 ^ (k + 1) + e * 10 ^ (k + 1) := by
  rw [mod_step a, mod_step b, Nat.pow_succ]
  generalize a / 10 ^ k % 10 = x at *
  generalize b / 10 ^ k % 10 = y at *
  generalize 10 ^ k = P at *
  have e1 : P * (d + y + c) = P * (x + 10 * e) := by rw [hd]
  simp only [Nat.mul_add] at e1
  rw [Nat.mul_comm c P] at h
  have e2 : P * (10 * e) = e * (P * 10) := by rw [Nat.mul_comm e, Nat.mul_assoc]
  omega
/-- high digits: of a number from a place on -/
theorem div_step (a k : Nat) : a / 10 ^ k = 10 * (a / 10 ^ (k + 1)) + a / 10 ^ k % 10 := by
  rw [Nat.pow_succ, ← Nat.div_div_eq_div_mul]
  omega
end Go.Proofs.YteooaibbblfmjaaDoor.Char
