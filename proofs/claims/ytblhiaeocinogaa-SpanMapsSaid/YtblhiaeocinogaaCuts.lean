/- Mathematics without a program: the characters of a text, as bytes. -/
import Derived.Test.YtblhiaeocinogaaPlain2
import Derived.Test.YtblhiaeocinogaaOne
import Derived.Lib.ValidAsc
namespace Go.Proofs.Ytblhiaeocinogaa.Char
open Go.RowKit Go.Lib

/-- how many bytes the character at a place has -/
def wid (s : ByteArray) (pos : Nat) : Nat := (Utf8.decode s pos).2
theorem wid_drop (s : ByteArray) (pos : Nat) : wid s pos = (decodeL (s.data.toList.drop pos)).2 := by unfold wid; rw [decode_drop]
theorem wid_pos (s : ByteArray) (pos : Nat) : 1 ≤ wid s pos := by rw [wid_drop]; exact decodeL_width _
theorem sz_list (s : ByteArray) : s.data.toList.length = s.size := by rw [Array.length_toList]; rfl
theorem wid_le (s : ByteArray) (pos : Nat) (h : pos < s.size) : pos + wid s pos ≤ s.size := by
  have := decodeL_le _ (drop_ne s pos h)
  rw [List.length_drop, sz_list] at this
  rw [wid_drop]
  omega
theorem wid_four (s : ByteArray) (pos : Nat) : wid s pos ≤ 4 := by
  unfold wid
  rw [decode_N]
  rcases decodeN_shape (s.data.toList.length - pos) (s.data.toList.getD pos 0).toNat (s.data.toList.getD (pos + 1) 0).toNat (s.data.toList.getD (pos + 2) 0).toNat (s.data.toList.getD (pos + 3) 0).toNat with ⟨c, e⟩ | ⟨c1, c2, c3, cv, e⟩ | ⟨c1, c2, c3, c4, cv, cs, e⟩ | ⟨c1, c2, c3, c4, c5, cv, cw, e⟩ | e <;> rw [e] <;> dsimp only <;> omega

/-- the characters from a place on -/
def cutB (s : ByteArray) : Nat → Nat → List ByteArray
  | 0, _ => []
  | n + 1, pos => if pos < s.size then s.extract pos (pos + wid s pos) :: cutB s n (pos + wid s pos) else []
/-- the characters of a text -/
def crs (s : ByteArray) : List ByteArray := cutB s s.size 0

theorem cutB_end (s : ByteArray) (pos : Nat) (h : ¬ pos < s.size) : ∀ n, cutB s n pos = []
  | 0 => rfl
  | n + 1 => by simp [cutB, h]
theorem cutB_fuel (s : ByteArray) : ∀ (n m pos : Nat), s.size ≤ pos + n → s.size ≤ pos + m → cutB s n pos = cutB s m pos
  | 0, m, pos, hn, _ => by rw [cutB_end s pos (by omega), cutB_end s pos (by omega)]
  | n + 1, 0, pos, _, hm => by rw [cutB_end s pos (by omega), cutB_end s pos (by omega)]
  | n + 1, m + 1, pos, hn, hm => by
    unfold cutB
    by_cases h : pos < s.size
    · have := wid_pos s pos
      rw [if_pos h, if_pos h, cutB_fuel s n m _ (by omega) (by omega)]
    · rw [if_neg h, if_neg h]
/-- the characters from a place on, with as much breath as it takes -/
def from_ (s : ByteArray) (pos : Nat) : List ByteArray := cutB s (s.size - pos) pos
theorem from_step (s : ByteArray) (pos : Nat) (h : pos < s.size) : from_ s pos = s.extract pos (pos + wid s pos) :: from_ s (pos + wid s pos) := by
  unfold from_
  obtain ⟨n, hn⟩ : ∃ n, s.size - pos = n + 1 := ⟨s.size - pos - 1, by omega⟩
  have := wid_pos s pos
  rw [hn]
  show (if pos < s.size then _ else []) = _
  rw [if_pos h, cutB_fuel s n (s.size - (pos + wid s pos)) _ (by omega) (by omega)]
theorem from_end (s : ByteArray) (pos : Nat) (h : ¬ pos < s.size) : from_ s pos = [] := cutB_end s pos h _
theorem from_zero (s : ByteArray) : from_ s 0 = crs s := by unfold from_ crs; rw [Nat.sub_zero]
theorem from_length (s : ByteArray) : ∀ (n pos : Nat), s.size - pos ≤ n → (from_ s pos).length ≤ s.size - pos
  | 0, pos, h => by rw [from_end s pos (by omega)]; simp
  | n + 1, pos, h => by
    by_cases hp : pos < s.size
    · have h1 := wid_pos s pos
      have ih := from_length s n (pos + wid s pos) (by omega)
      rw [from_step s pos hp, List.length_cons]
      omega
    · rw [from_end s pos hp]; simp
theorem crs_length (s : ByteArray) : (crs s).length ≤ s.size := by
  have := from_length s s.size 0 (by omega)
  rw [from_zero] at this
  omega

/-- bytes one behind the other -/
def cat (l : List ByteArray) : List UInt8 := l.flatMap fun c => c.data.toList
theorem cat_nil : cat [] = [] := rfl
theorem cat_cons (c : ByteArray) (l : List ByteArray) : cat (c :: l) = c.data.toList ++ cat l := by simp [cat]
theorem cat_append (a b : List ByteArray) : cat (a ++ b) = cat a ++ cat b := by simp [cat]
theorem extract_list (s : ByteArray) (i j : Nat) : (s.extract i j).data.toList = (s.data.toList.drop i).take (j - i) := extract_data s i j
theorem cat_from (s : ByteArray) : ∀ (n pos : Nat), s.size - pos ≤ n → cat (from_ s pos) = s.data.toList.drop pos
  | 0, pos, h => by rw [from_end s pos (by omega), drop_end s pos (by omega)]; rfl
  | n + 1, pos, h => by
    by_cases hp : pos < s.size
    · have h1 := wid_pos s pos
      rw [from_step s pos hp, cat_cons, cat_from s n _ (by omega), extract_list, Nat.add_sub_cancel_left, ← List.drop_drop, List.take_append_drop]
    · rw [from_end s pos hp, drop_end s pos hp]; rfl
/-- the characters of a text together are the text -/
theorem cat_crs (s : ByteArray) : cat (crs s) = s.data.toList := by
  have := cat_from s s.size 0 (by omega)
  rw [from_zero] at this
  exact this

/-- a character with its number, of no more than four bytes, below a million -/
abbrev Ch := { x : Nat × ByteArray // x.1 ≤ 1000000 ∧ x.2.size ≤ 4 }
def mkCh (k : Nat) (c : ByteArray) : Ch := if h : k ≤ 1000000 ∧ c.size ≤ 4 then ⟨(k, c), h⟩ else ⟨(0, ⟨#[]⟩), by decide⟩
theorem mkCh_val (k : Nat) (c : ByteArray) (hk : k ≤ 1000000) (hc : c.size ≤ 4) : (mkCh k c).1 = (k, c) := by unfold mkCh; rw [dif_pos ⟨hk, hc⟩]
/-- characters with their numbers -/
def num : Nat → List ByteArray → List Ch
  | _, [] => []
  | k, c :: r => mkCh k c :: num (k + 1) r
theorem num_length : ∀ (l : List ByteArray) (k : Nat), (num k l).length = l.length
  | [], _ => rfl
  | _ :: r, k => by simp [num, num_length r]
theorem num_append : ∀ (a b : List ByteArray) (k : Nat), num k (a ++ b) = num k a ++ num (k + a.length) b
  | [], b, k => by simp [num]
  | c :: r, b, k => by
    have : k + (c :: r).length = k + 1 + r.length := by simp; omega
    rw [this]
    simp [num, num_append r b (k + 1)]
theorem ext_four (s : ByteArray) (pos : Nat) (_ : pos < s.size) : (s.extract pos (pos + wid s pos)).size ≤ 4 := by
  have := wid_four s pos
  rw [← sz_list, extract_list, List.length_take]
  omega
theorem from_four (s : ByteArray) : ∀ (n pos : Nat), s.size - pos ≤ n → ∀ c ∈ from_ s pos, c.size ≤ 4
  | 0, pos, h => by rw [from_end s pos (by omega)]; simp
  | n + 1, pos, h => by
    by_cases hp : pos < s.size
    · have h1 := wid_pos s pos
      rw [from_step s pos hp]
      intro c hc
      rcases List.mem_cons.1 hc with rfl | hc
      · exact ext_four s pos hp
      · exact from_four s n _ (by omega) c hc
    · rw [from_end s pos hp]; simp
theorem crs_four (s : ByteArray) : ∀ c ∈ crs s, c.size ≤ 4 := by
  have := from_four s s.size 0 (by omega)
  rw [from_zero] at this
  exact this
/-- the numbers and the characters stand as they are, if there are not too many -/
theorem num_vals : ∀ (l : List ByteArray) (k : Nat), k + l.length ≤ 1000000 → (∀ c ∈ l, c.size ≤ 4) → (num k l).map (fun x => x.1.2) = l
  | [], _, _, _ => rfl
  | c :: r, k, h, h4 => by
    rw [List.length_cons] at h
    simp only [num, List.map_cons]
    rw [num_vals r (k + 1) (by omega) (fun x hx => h4 x (List.mem_cons_of_mem _ hx)), mkCh_val k c (by omega) (h4 c (by simp))]
end Go.Proofs.Ytblhiaeocinogaa.Char
