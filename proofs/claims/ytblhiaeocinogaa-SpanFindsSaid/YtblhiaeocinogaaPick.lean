/- Mathematics without a program: some of the characters of a text, by their numbers. -/
import Derived.Test.YtblhiaeocinogaaCuts
namespace Go.Proofs.Ytblhiaeocinogaa.Char
open Go.RowKit Go.Lib

/-- the bytes of those characters whose number is asked for -/
def pick (P : Nat → Bool) (l : List Ch) : List UInt8 := l.flatMap fun x => if P x.1.1 then x.1.2.data.toList else []
theorem pick_nil (P : Nat → Bool) : pick P [] = [] := rfl
theorem pick_append (P : Nat → Bool) (a b : List Ch) : pick P (a ++ b) = pick P a ++ pick P b := by simp [pick]
theorem pick_one (P : Nat → Bool) (x : Ch) : pick P [x] = if P x.1.1 then x.1.2.data.toList else [] := by simp [pick]
theorem pick_yes (P : Nat → Bool) (a : List Ch) (x : Ch) (h : P x.1.1 = true) : pick P (a ++ [x]) = pick P a ++ x.1.2.data.toList := by rw [pick_append, pick_one, if_pos h]
theorem pick_no (P : Nat → Bool) (a : List Ch) (x : Ch) (h : P x.1.1 = false) : pick P (a ++ [x]) = pick P a := by rw [pick_append, pick_one, h]; simp
theorem pick_length (P : Nat → Bool) : ∀ l : List Ch, (pick P l).length ≤ 4 * l.length
  | [] => by simp [pick]
  | x :: r => by
    have h := pick_length P r
    have h4 := x.2.2
    have e := sz_list x.1.2
    have : pick P (x :: r) = (if P x.1.1 then x.1.2.data.toList else []) ++ pick P r := by simp [pick]
    rw [this, List.length_append, List.length_cons]
    split
    · omega
    · simp; omega
theorem pick_none (P : Nat → Bool) : ∀ l : List Ch, (∀ x ∈ l, P x.1.1 = false) → pick P l = []
  | [], _ => rfl
  | x :: r, h => by
    have : pick P (x :: r) = (if P x.1.1 then x.1.2.data.toList else []) ++ pick P r := by simp [pick]
    rw [this, h x (by simp), pick_none P r (fun y hy => h y (List.mem_cons_of_mem _ hy))]
    rfl
theorem pick_same (P Q : Nat → Bool) : ∀ l : List Ch, (∀ x ∈ l, P x.1.1 = Q x.1.1) → pick P l = pick Q l
  | [], _ => rfl
  | x :: r, h => by
    have e : ∀ P : Nat → Bool, pick P (x :: r) = (if P x.1.1 then x.1.2.data.toList else []) ++ pick P r := fun P => by simp [pick]
    rw [e, e, h x (by simp), pick_same P Q r (fun y hy => h y (List.mem_cons_of_mem _ hy))]
/-- the numbers stand in their order -/
theorem num_fst : ∀ (l : List ByteArray) (k : Nat), k + l.length ≤ 1000000 → (∀ c ∈ l, c.size ≤ 4) → (num k l).map (fun x => x.1.1) = List.range' k l.length
  | [], _, _, _ => rfl
  | c :: r, k, h, h4 => by
    rw [List.length_cons] at h
    simp only [num, List.map_cons, List.length_cons, List.range'_succ]
    rw [num_fst r (k + 1) (by omega) (fun x hx => h4 x (List.mem_cons_of_mem _ hx)), mkCh_val k c (by omega) (h4 c (by simp))]
theorem num_rise (s : ByteArray) (hs : s.size ≤ 1000000) : (num 0 (crs s)).Pairwise (fun x y => x.1.1 < y.1.1) := by
  have h := num_fst (crs s) 0 (by have := crs_length s; omega) (crs_four s)
  have := List.pairwise_lt_range' (s := 0) (n := (crs s).length) (step := 1)
  rw [← h, List.pairwise_map] at this
  exact this
/-- the characters from a number on, and below another one -/
def sel (f m : Int) (k : Nat) : Bool := decide (f ≤ (k : Int)) && decide ((k : Int) - f < m)
theorem sel_yes {f m : Int} {k : Nat} (h1 : f ≤ (k : Int)) (h2 : (k : Int) - f < m) : sel f m k = true := by simp [sel, h1, h2]
theorem sel_low {f m : Int} {k : Nat} (h1 : (k : Int) < f) : sel f m k = false := by
  have : ¬ f ≤ (k : Int) := by omega
  simp [sel, this]
theorem sel_high {f m : Int} {k : Nat} (h2 : m ≤ (k : Int) - f) : sel f m k = false := by
  have : ¬ (k : Int) - f < m := by omega
  simp [sel, this]
/-- behind a character that is beyond the end none is asked for -/
theorem pick_stop (s : ByteArray) (hs : s.size ≤ 1000000) (f m : Int) (ini : List Ch) (last : Ch) (hp : (ini ++ [last]) <+: num 0 (crs s)) (hm : m ≤ (last.1.1 : Int) - f) :
    pick (sel f m) (num 0 (crs s)) = pick (sel f m) ini := by
  obtain ⟨rest, hr⟩ := hp
  have hw := num_rise s hs
  rw [← hr, List.append_assoc] at hw
  rw [← hr, List.append_assoc, pick_append]
  have h2 := (List.pairwise_append.1 hw).2.1
  have h3 : ∀ y ∈ rest, last.1.1 < y.1.1 := (List.pairwise_cons.1 h2).1
  rw [pick_none (sel f m) ([last] ++ rest) ?_, List.append_nil]
  intro x hx
  rcases List.mem_append.1 hx with h | h
  · rw [List.mem_singleton.1 h]; exact sel_high hm
  · have := h3 x h
    exact sel_high (by omega)
/-- what Cut tells -/
def cutD (s : ByteArray) (f m : Int) : List UInt8 := if m < 1 then [] else if f < 0 then pick (sel 0 (f + m)) (num 0 (crs s)) else pick (sel f m) (num 0 (crs s))
end Go.Proofs.Ytblhiaeocinogaa.Char
