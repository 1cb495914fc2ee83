import Derived.Test.YtlmodgnkmlbjhaaGreatDoorPkFit
import Derived.Test.YtlmodgnkmlbjhaaGreatDoorPkLay
namespace Go.Proofs.YtlmodgnkmlbjhaaGreatDoor
namespace Char
open Go.Lib
theorem index_at {s m : List UInt8} {k : Nat} (hk : k ≤ s.length) (h : occAt s m k = true) (hn : ∀ j, j < k → occAt s m j = false) : index s m = (k : Int) := by
 rcases index_spec s m with ⟨_, g2⟩ | ⟨i, g1, _, g3, g4⟩
 ·rw [g2 k hk] at h; cases h
 ·have h1 : ¬ i < k := fun hi => by rw [hn i hi] at g3; cases g3
  have h2 : ¬ k < i := fun hi => by rw [g4 k hi] at h; cases h
  rw [g1, show i = k by omega]
theorem index_byte {a r : List UInt8} {q : UInt8} (h : ∀ b, b ∈ a → b ≠ q) : index (a ++ q :: r) [q] = (a.length : Int) := by
 refine index_at (by simp) (by simp [occAt, List.isPrefixOf]) fun j hj => ?_
 unfold occAt
 rw [List.drop_append_of_le_length (by omega), List.drop_eq_getElem_cons hj]
 have := h a[j] (List.getElem_mem hj)
 simp only [List.cons_append, List.isPrefixOf, Bool.and_true, beq_eq_false_iff_ne]
 exact fun e => this e.symm
theorem index_two {a r : List UInt8} {p q : UInt8} (h : contains a [p, q] = false) (hl : p = q → a.getLast? ≠ some p) : index (a ++ p :: q :: r) [p, q] = (a.length : Int) := by
 refine index_at (by simp) (by simp [occAt, List.isPrefixOf]) fun j hj => ?_
 have h0 := no_occ h j (by omega)
 unfold occAt at h0 ⊢
 rw [List.drop_append_of_le_length (by omega)]
 rw [List.drop_eq_getElem_cons hj] at h0 ⊢
 cases hd : a.drop (j + 1) with
 | cons c t =>
  rw [hd] at h0
  simpa [List.isPrefixOf] using h0
 | nil =>
  have hj1 : j + 1 = a.length := by
   have := congrArg List.length hd
   rw [List.length_drop] at this
   simp at this
   omega
  simp only [List.cons_append, List.nil_append, List.isPrefixOf, Bool.and_true]
  rw [Bool.and_eq_false_iff]
  by_cases e : p = q
  ·refine .inl (beq_eq_false_iff_ne.2 fun e2 => hl e ?_)
   rw [List.getLast?_eq_getElem?, show a.length - 1 = j by omega, List.getElem?_eq_getElem hj, ← e2]
  ·exact .inr (beq_eq_false_iff_ne.2 fun e2 => e e2.symm)
theorem one_asc (c : UInt8) (r : List UInt8) (h : c.toNat < 128) : oneL (c :: r) = (c.toNat, 1) := by
 rw [oneL_N _ (by simp), show byt (c :: r) 0 = c.toNat from rfl, one_low _ _ _ _ _ h]
theorem run_name : ∀ (n : Nat) (m b : List UInt8), m.length ≤ n → validD m = true → allR paC m = true → runL b = 0 → runL (m ++ b) = m.length
 | 0, m, b, hl, _, _, hb => by
  obtain rfl : m = [] := List.eq_nil_of_length_eq_zero (by omega)
  exact hb
 | n + 1, m, b, hl, hv, ha, hb => by
  by_cases hne : m = []
  ·subst hne; exact hb
  ·have hw := decodeL_width m
   have hle := decodeL_le m hne
   rw [validD_step m hne] at hv
   by_cases hx : (decodeL m).1 = 65533 ∧ (decodeL m).2 = 1
   ·rw [if_pos hx] at hv; cases hv
   ·rw [if_neg hx] at hv
    rw [allR_step paC m hne, Bool.and_eq_true] at ha
    have e : oneL (m ++ b) = decodeL m := by
     unfold oneL
     rw [if_neg (by simp [hne]), decodeL_more m b hne hx, if_neg hx]
    rw [run_go (by rw [e]; omega) (by rw [e]; exact ha.1), e, List.drop_append_of_le_length hle, run_name n _ b (by rw [List.length_drop]; omega) hv ha.2 hb, List.length_drop]
    omega
theorem run_asc {c : UInt8} (r : List UInt8) (h : c.toNat < 128) (hp : paC (c.toNat : Int) = false) : runL (c :: r) = 0 := run_stop (.inr (by rw [one_asc c r h]; exact hp))
theorem nm_parts {m : List UInt8} (h : nmD (bs m) = true) : m ≠ [] ∧ txD m = true ∧ validD m = true ∧ allR paC m = true ∧ stC ((decodeL m).1 : Int) = true := by
 unfold nmD at h
 simp only [Bool.and_eq_true, decide_eq_true_eq] at h
 obtain ⟨⟨⟨h1, _⟩, h3⟩, h4, h5⟩ := h
 have hs := bs_size m
 have hne : m ≠ [] := by rintro rfl; rw [hs] at h1; cases h1
 have h3' : txD m = true := h3
 refine ⟨hne, h3', ?_, h5, ?_⟩
 ·unfold txD at h3'
  rw [Bool.and_eq_true] at h3'
  exact h3'.1
 ·have e := decode_drop (bs m) 0
  rw [e, List.drop_zero] at h4
  exact h4
theorem nm_run {m b : List UInt8} (h : nmD (bs m) = true) (hb : runL b = 0) : runL (m ++ b) = m.length := run_name _ m b (Nat.le_refl _) (nm_parts h).2.2.1 (nm_parts h).2.2.2.1 hb
theorem nm_E {m b : List UInt8} (h : nmD (bs m) = true) (hb : runL b = 0) : nmE (m ++ b) = 0 := by
 unfold nmE
 rw [nm_run h hb, List.take_left, if_pos h]
theorem nm_head {m : List UInt8} (h : nmD (bs m) = true) : ∃ c t, m = c :: t ∧ (c.toNat < 128 → stC (c.toNat : Int) = true) := by
 obtain ⟨hne, _, _, _, h5⟩ := nm_parts h
 cases m with
 | nil => exact absurd rfl hne
 | cons c t =>
  refine ⟨c, t, rfl, fun hc => ?_⟩
  rw [decodeL_N] at h5
  simp only [decodeN] at h5
  rw [if_pos (show ((c :: t).getD 0 0).toNat < 128 from hc)] at h5
  exact h5
theorem st_not {c : UInt8} (h : c.toNat < 128 → stC (c.toNat : Int) = true) : c ≠ 33 ∧ c ≠ 63 ∧ c ≠ 47 ∧ c ≠ 62 ∧ spC (c.toNat : Int) = false := by
 have key : ∀ k : Nat, k < 128 → stC (k : Int) = false → c.toNat ≠ k := fun k hk hs e => by
  have := h (by omega)
  rw [e, hs] at this
  cases this
 have ne : ∀ k : UInt8, k.toNat < 128 → stC (k.toNat : Int) = false → c ≠ k := fun k hk hs e => key _ hk hs (congrArg UInt8.toNat e)
 refine ⟨ne 33 (by decide) (by decide +kernel), ne 63 (by decide) (by decide +kernel), ne 47 (by decide) (by decide +kernel), ne 62 (by decide) (by decide +kernel), ?_⟩
 have h9 := key 9 (by decide) (by decide +kernel)
 have h10 := key 10 (by decide) (by decide +kernel)
 have h13 := key 13 (by decide) (by decide +kernel)
 have h32 := key 32 (by decide) (by decide +kernel)
 unfold spC
 simp only [Bool.or_eq_false_iff, beq_eq_false_iff_ne]
 omega
theorem put_no {attr : Bool} {q : UInt8} (h : ∀ b, q ∉ stdL attr b) : ∀ l : List UInt8, ∀ c, c ∈ putL attr l → c ≠ q := by
 intro l c hc e
 subst e
 obtain ⟨b, _, hb⟩ := List.mem_flatMap.1 hc
 exact h b hb
theorem std_34 (b : UInt8) : (34 : UInt8) ∉ stdL true b := by
 unfold stdL
 repeat' split
 all_goals first | decide | skip
 rename_i h6 _ _
 intro h
 simp only [List.mem_singleton] at h
 exact h6 ⟨h.symm, rfl⟩
theorem std_60 (attr : Bool) (b : UInt8) : (60 : UInt8) ∉ stdL attr b := by
 unfold stdL
 split
 ·decide
 ·split
  ·decide
  ·rename_i h
   repeat' split
   all_goals first | decide | skip
   intro h2
   simp only [List.mem_singleton] at h2
   exact h h2.symm
theorem std_13 (attr : Bool) (b : UInt8) : (13 : UInt8) ∉ stdL attr b := by
 unfold stdL
 split
 ·decide
 ·split
  ·decide
  ·split
   ·decide
   ·rename_i h
    repeat' split
    all_goals first | decide | skip
    intro h2
    simp only [List.mem_singleton] at h2
    exact h h2.symm
theorem get_of_put (attr : Bool) {l : List UInt8} (h : txD l = true) : getD5 attr (putL attr l) = (l, 0) := by
 have ht : txD (putL attr l) = true := by rw [tx_eq, txL_put attr _ l (Nat.le_refl _)]; exact h
 rw [get_yes ht, get_put]
 rfl
end Char
namespace Char
open Go.Lib
theorem attr_mk {a : At2} (R : List UInt8) (hn : nmD (bs a.1) = true) (ht : txD a.2 = true) : attrL (a.1 ++ 61 :: 34 :: (putL true a.2 ++ 34 :: R)) = .inr (a.1, a.2, a.1.length + 1 + 1 + (putL true a.2).length + 1) := by
 have hr : runL (61 :: 34 :: (putL true a.2 ++ 34 :: R)) = 0 := run_asc _ (by decide) (by decide +kernel)
 have hrun := nm_run hn hr
 have hE := nm_E hn hr
 obtain ⟨r, hR⟩ : ∃ r, a.1 ++ 61 :: 34 :: (putL true a.2 ++ 34 :: R) = r := ⟨_, rfl⟩
 rw [hR] at hrun hE ⊢
 have hd : r.drop a.1.length = 61 :: 34 :: (putL true a.2 ++ 34 :: R) := by rw [← hR, List.drop_left]
 have hd1 : r.drop (a.1.length + 1) = 34 :: (putL true a.2 ++ 34 :: R) := by rw [← List.drop_drop, hd]; rfl
 have hd2 : r.drop (a.1.length + 1 + 1) = putL true a.2 ++ 34 :: R := by rw [← List.drop_drop, hd1]; rfl
 have ht0 : r.take a.1.length = a.1 := by rw [← hR, List.take_left]
 have hi : index (putL true a.2 ++ 34 :: R) [34] = ((putL true a.2).length : Int) := index_byte (put_no std_34 _)
 have s1 : spcL (61 :: 34 :: (putL true a.2 ++ 34 :: R)) = 0 := spc_no _ (by decide)
 have s2 : spcL (34 :: (putL true a.2 ++ 34 :: R)) = 0 := spc_no _ (by decide)
 unfold attrL
 rw [if_neg (by rw [hE]; simp), hrun, hd, s1, Nat.add_zero, hd, if_neg (by simp [mustL])]
 unfold attrL.valL
 rw [hd1, s2, Nat.add_zero]
 unfold attrL.quoL
 rw [hd1]
 dsimp only
 rw [if_neg (by decide), hd2, hi, if_neg (by omega), Int.toNat_natCast, List.take_left, get_of_put true ht, if_neg (by simp), hrun, ht0]
theorem tag_mk : ∀ (l qs : List At2) (R : List UInt8), (∀ a, a ∈ l → nmD (bs a.1) = true ∧ txD a.2 = true) → ((qs ++ l).map (·.1)).Nodup → qs.length + l.length ≤ 8 → tagF (atsL l ++ 62 :: R) qs = .inr (qs ++ l, false, R)
 | [], qs, R, _, _, _ => by
  rw [tagF_eq, show atsL [] ++ 62 :: R = 62 :: R from rfl, spc_no R (by decide), List.drop_zero, List.append_nil]
  rfl
 | a :: l, qs, R, h, hnd, hl => by
  obtain ⟨hn, ht⟩ := h a List.mem_cons_self
  obtain ⟨c, t, hc, hst⟩ := nm_head hn
  obtain ⟨_, _, c47, c62, hsp⟩ := st_not hst
  have hat := attr_mk (a := a) (atsL l ++ 62 :: R) hn ht
  have e : atsL (a :: l) ++ 62 :: R = 32 :: (a.1 ++ 61 :: 34 :: (putL true a.2 ++ 34 :: (atsL l ++ 62 :: R))) := by simp [atsL]
  have hk : (a.1 ++ 61 :: 34 :: (putL true a.2 ++ 34 :: (atsL l ++ 62 :: R))).drop (a.1.length + 1 + 1 + (putL true a.2).length + 1) = atsL l ++ 62 :: R := by
   rw [show a.1 ++ 61 :: 34 :: (putL true a.2 ++ 34 :: (atsL l ++ 62 :: R)) = (a.1 ++ 61 :: 34 :: (putL true a.2 ++ [34])) ++ (atsL l ++ 62 :: R) by simp]
   exact List.drop_left' (by simp; omega)
  have ih := tag_mk l (qs ++ [a]) R (fun x hx => h x (List.mem_cons_of_mem _ hx)) (by simpa using hnd) (by simp only [List.length_append, List.length_cons, List.length_nil] at hl ⊢; omega)
  obtain ⟨u, hu⟩ : ∃ u, a.1 ++ 61 :: 34 :: (putL true a.2 ++ 34 :: (atsL l ++ 62 :: R)) = c :: u := ⟨t ++ 61 :: 34 :: (putL true a.2 ++ 34 :: (atsL l ++ 62 :: R)), by rw [hc]; rfl⟩
  rw [hu] at hat hk e
  have hs : spcL (32 :: c :: u) = 1 := by
   rw [spc_cons, if_pos (by decide), spc_no u hsp]
  have hno : (qs.map (·.1)).contains a.1 = false := by
   rw [List.contains_eq_any_beq, Bool.eq_false_iff]
   intro hx
   simp only [List.any_eq_true, beq_iff_eq] at hx
   obtain ⟨y, hy, hxy⟩ := hx
   rw [List.map_append, List.map_cons] at hnd
   have := (List.nodup_append.1 hnd).2.2 y hy a.1 List.mem_cons_self
   exact this hxy.symm
  rw [tagF_eq, e, hs, show (32 :: c :: u).drop 1 = c :: u from rfl]
  dsimp only
  rw [if_neg c62, if_neg c47, if_neg (by decide), hat]
  dsimp only
  rw [if_neg (by rw [hno]; simp), if_neg (by rw [List.length_cons] at hl; omega), hk, ih]
  simp
theorem tagL_mk {nm : List UInt8} {l : List At2} (R : List UInt8) (hn : nmD (bs nm) = true) (h : ∀ a, a ∈ l → nmD (bs a.1) = true ∧ txD a.2 = true) (hnd : (l.map (·.1)).Nodup) (hl : l.length ≤ 8) : tagL (nm ++ (atsL l ++ 62 :: R)) = .inr (nm, l, false, R) := by
 have hr : runL (atsL l ++ 62 :: R) = 0 := by
  cases l with
  | nil => exact run_asc _ (by decide) (by decide +kernel)
  | cons a l => exact run_asc _ (by decide) (by decide +kernel)
 unfold tagL
 rw [if_neg (by rw [nm_E hn hr]; simp), nm_run hn hr, List.drop_left, List.take_left, tag_mk l [] R h hnd (by simpa using hl)]
 rfl
theorem oneP_sta {nm : List UInt8} {l : List At2} (R : List UInt8) (hn : nmD (bs nm) = true) (h : ∀ a, a ∈ l → nmD (bs a.1) = true ∧ txD a.2 = true) (hnd : (l.map (·.1)).Nodup) (hl : l.length ≤ 8) :
  oneP (60 :: (nm ++ (atsL l ++ 62 :: R))) = .inr (⟨1, nm, [], l, false⟩, R) := by
 obtain ⟨c, t, rfl, hst⟩ := nm_head hn
 obtain ⟨c33, c63, c47, _, _⟩ := st_not hst
 have ht := tagL_mk R hn h hnd hl
 unfold oneP
 rw [if_neg (by simp [List.isPrefixOf, c33.symm]), if_neg (by simp [List.isPrefixOf, c33.symm]), if_neg (by simp [List.isPrefixOf, c63.symm]), if_neg (by simp [List.isPrefixOf, c47.symm]), if_neg (by simp [List.isPrefixOf, c33.symm]), if_pos (by simp [List.isPrefixOf])]
 unfold staP
 rw [show (60 :: (c :: t ++ (atsL l ++ 62 :: R))).drop 1 = c :: t ++ (atsL l ++ 62 :: R) from rfl, ht]
theorem oneP_end {nm : List UInt8} (R : List UInt8) (hn : nmD (bs nm) = true) : oneP (60 :: 47 :: (nm ++ 62 :: R)) = .inr (⟨2, nm, [], [], false⟩, R) := by
 have hr : runL (62 :: R) = 0 := run_asc _ (by decide) (by decide +kernel)
 have hd : (nm ++ 62 :: R).drop (nm.length + 1) = R := by rw [← List.drop_drop, List.drop_left]; rfl
 unfold oneP
 rw [if_neg (by simp [List.isPrefixOf]), if_neg (by simp [List.isPrefixOf]), if_neg (by simp [List.isPrefixOf]), if_pos (by simp [List.isPrefixOf])]
 unfold endP
 rw [show (60 :: 47 :: (nm ++ 62 :: R)).drop 2 = nm ++ 62 :: R from rfl, nm_E hn hr, if_neg (by simp), nm_run hn hr, List.drop_left, spc_no R (by decide), Nat.add_zero, List.drop_left, if_neg (by simp [mustL]), List.take_left, hd]
theorem oneP_com {tx : List UInt8} (R : List UInt8) (h : contains tx [45, 45] = false) (hl : tx.getLast? ≠ some 45) : oneP (60 :: 33 :: 45 :: 45 :: (tx ++ 45 :: 45 :: 62 :: R)) = .inr (⟨4, [], tx, [], false⟩, R) := by
 have hi : index (tx ++ 45 :: 45 :: 62 :: R) [45, 45] = (tx.length : Int) := index_two h (fun _ => hl)
 have hd : (tx ++ 45 :: 45 :: 62 :: R).drop (tx.length + 2) = 62 :: R := by rw [← List.drop_drop, List.drop_left]; rfl
 have hd3 : (tx ++ 45 :: 45 :: 62 :: R).drop (tx.length + 3) = R := by rw [← List.drop_drop, List.drop_left]; rfl
 unfold oneP
 rw [if_pos (by simp [List.isPrefixOf])]
 unfold comP
 rw [show (60 :: 33 :: 45 :: 45 :: (tx ++ 45 :: 45 :: 62 :: R)).drop 4 = tx ++ 45 :: 45 :: 62 :: R from rfl, hi, if_neg (by omega), Int.toNat_natCast, hd, if_pos (by simp [List.isPrefixOf]), List.take_left, hd3]
theorem oneP_putx {tx : List UInt8} {R : List UInt8} (hne : tx ≠ []) (ht : txD tx = true) (hR : R = [] ∨ ∃ r, R = 60 :: r) : oneP (putL false tx ++ R) = .inr (⟨3, [], tx, [], false⟩, R) := by
 have h60 := put_no (std_60 false) tx
 have hlt : ltL (putL false tx ++ R) = (putL false tx).length := by
  unfold ltL
  rw [List.takeWhile_append_of_pos (fun a ha => by unfold noL; simpa using h60 a ha)]
  rcases hR with rfl | ⟨r, rfl⟩
  ·simp
  ·rw [List.takeWhile_cons, if_neg (by decide), List.append_nil]
 obtain ⟨b, t, hb⟩ : ∃ b t, putL false tx = b :: t := by
  cases hp : putL false tx with
  | cons b t => exact ⟨b, t, rfl⟩
  | nil =>
   have := get_of_put false ht
   rw [hp] at this
   have e : getD5 false [] = ([], 0) := by rw [get_yes rfl]; rfl
   rw [e] at this
   simp only [Prod.mk.injEq, and_true] at this
   exact absurd this.symm hne
 have hb60 : b ≠ 60 := h60 b (by rw [hb]; exact List.mem_cons_self)
 have e1 : putL false tx ++ R = b :: (t ++ R) := by rw [hb]; rfl
 have no : ∀ m : List UInt8, List.isPrefixOf (60 :: m) (putL false tx ++ R) = false := fun m => by
  rw [e1]
  simp [List.isPrefixOf, hb60.symm]
 unfold oneP
 rw [if_neg (by rw [no]; simp), if_neg (by rw [no]; simp), if_neg (by rw [no]; simp), if_neg (by rw [no]; simp), if_neg (by rw [no]; simp), if_neg (by rw [no]; simp)]
 unfold txtP
 rw [hlt, List.take_left, get_of_put false ht, if_neg (by simp), List.drop_left]
end Char
namespace Char
open Go.Lib
theorem paX_step (p : Int → Bool) (l : List UInt8) (hne : l ≠ []) : (validD l && allR p l) = if (decodeL l).1 = 65533 ∧ (decodeL l).2 = 1 then false else p ((decodeL l).1 : Int) && (validD (l.drop (decodeL l).2) && allR p (l.drop (decodeL l).2)) := by
 rw [validD_step l hne, allR_step p l hne]
 split
 ·rfl
 ·cases p ((decodeL l).1 : Int) <;> simp
theorem paX_split (p : Int → Bool) : ∀ (n : Nat) (a b : List UInt8), a.length ≤ n → asc0 b = true → (validD (a ++ b) && allR p (a ++ b)) = ((validD a && allR p a) && (validD b && allR p b))
 | 0, a, b, h, _ => by
  obtain rfl : a = [] := List.eq_nil_of_length_eq_zero (by omega)
  rfl
 | n + 1, a, b, h, hb => by
  by_cases hne : a = []
  ·subst hne; rfl
  ·have hw := decodeL_width a
   have hle := decodeL_le a hne
   rw [paX_step p (a ++ b) (by simp [hne]), paX_step p a hne, decode_front a b hne hb]
   split
   ·rfl
   ·rw [List.drop_append_of_le_length hle, paX_split p n _ b (by rw [List.length_drop]; omega) hb]
    simp only [Bool.and_assoc]
theorem nm_no {m : List UInt8} {q : UInt8} (h : nmD (bs m) = true) (hq : q.toNat < 128) (hp : paC (q.toNat : Int) = false) : ∀ b, b ∈ m → b ≠ q := by
 intro b hb e
 subst e
 obtain ⟨a, r, rfl⟩ := List.append_of_mem hb
 obtain ⟨_, _, hv, ha, _⟩ := nm_parts h
 have h1 : (validD (a ++ b :: r) && allR paC (a ++ b :: r)) = true := by rw [hv, ha]; rfl
 rw [paX_split paC _ a (b :: r) (Nat.le_refl _) (by simpa [asc0] using hq), paX_step paC (b :: r) (by simp)] at h1
 have hd : (decodeL (b :: r)).1 = b.toNat := by
  have := one_asc b r hq
  unfold oneL at this
  rw [if_neg (by simp)] at this
  split at this
  ·simp at this
  ·rw [this]
 rw [hd, hp] at h1
 simp at h1
theorem no_has {s m : List UInt8} (h : ∀ j, j ≤ s.length → occAt s m j = false) : contains s m = false := by
 unfold contains
 rcases index_spec s m with ⟨h1, _⟩ | ⟨i, _, h2, h3, _⟩
 ·rw [h1]; rfl
 ·rw [h i h2] at h3; cases h3
theorem has_app {a l : List UInt8} {p q : UInt8} (ha : ∀ b, b ∈ a → b ≠ p) (h : contains l [p, q] = false) : contains (a ++ l) [p, q] = false := by
 refine no_has fun j hj => ?_
 rw [List.length_append] at hj
 by_cases hja : j < a.length
 ·unfold occAt
  rw [List.drop_append_of_le_length (by omega), List.drop_eq_getElem_cons hja]
  have := ha a[j] (List.getElem_mem hja)
  simp only [List.cons_append, List.isPrefixOf, Bool.and_eq_false_iff, beq_eq_false_iff_ne]
  exact .inl this.symm
 ·have := no_occ h (j - a.length) (by omega)
  unfold occAt at this ⊢
  rw [List.drop_append, List.drop_of_length_le (by omega), List.nil_append]
  exact this
theorem ins_mk {s nm tx : List UInt8} (R : List UInt8) (hc : contains s [63, 62] = false) (hp : piL s = .inr (nm, tx)) : oneP (60 :: 63 :: (s ++ 63 :: 62 :: R)) = .inr (⟨5, nm, tx, [], false⟩, R) := by
 have hi : index (s ++ 63 :: 62 :: R) [63, 62] = (s.length : Int) := index_two hc (fun e => absurd e (by decide))
 have hd : (s ++ 63 :: 62 :: R).drop (s.length + 2) = R := by rw [← List.drop_drop, List.drop_left]; rfl
 unfold oneP
 rw [if_neg (by simp [List.isPrefixOf]), if_neg (by simp [List.isPrefixOf]), if_pos (by simp [List.isPrefixOf])]
 unfold insP
 rw [show (60 :: 63 :: (s ++ 63 :: 62 :: R)).drop 2 = s ++ 63 :: 62 :: R from rfl, hi, if_neg (by omega), Int.toNat_natCast, List.take_left, hp]
 dsimp only
 rw [hd]
theorem oneP_ins0 {nm : List UInt8} (R : List UInt8) (hn : nmD (bs nm) = true) (hx : smallL nm ≠ [120, 109, 108]) : oneP (60 :: 63 :: (nm ++ 63 :: 62 :: R)) = .inr (⟨5, nm, [], [], false⟩, R) := by
 have hrun : runL nm = nm.length := by have := nm_run (b := []) hn run_nil; rwa [List.append_nil] at this
 have hc : contains nm [63, 62] = false := by have := has_app (a := nm) (l := []) (p := 63) (q := 62) (nm_no hn (by decide) (by decide +kernel)) (by decide); rwa [List.append_nil] at this
 refine ins_mk R hc ?_
 unfold piL
 rw [hrun, List.take_length, if_neg (by rw [hn]; simp [hx]), if_neg (by omega), List.drop_of_length_le (by omega)]
theorem oneP_ins {nm tx : List UInt8} (R : List UInt8) (hn : nmD (bs nm) = true) (hx : smallL nm ≠ [120, 109, 108]) (hc : contains tx [63, 62] = false) (hs : spcL tx = 0) : oneP (60 :: 63 :: (nm ++ 32 :: (tx ++ 63 :: 62 :: R))) = .inr (⟨5, nm, tx, [], false⟩, R) := by
 have hr : runL (32 :: tx) = 0 := run_asc _ (by decide) (by decide +kernel)
 have hrun := nm_run hn hr
 have hs1 : spcL (32 :: tx) = 1 := by rw [spc_cons, if_pos (by decide), hs]
 have hd : (nm ++ 32 :: tx).drop (nm.length + 1) = tx := by rw [← List.drop_drop, List.drop_left]; rfl
 have hc2 : contains (nm ++ 32 :: tx) [63, 62] = false := by
  rw [show nm ++ 32 :: tx = (nm ++ [32]) ++ tx by simp]
  refine has_app (fun b hb => ?_) hc
  rcases List.mem_append.1 hb with hb | hb
  ·exact nm_no hn (by decide) (by decide +kernel) b hb
  ·simp only [List.mem_singleton] at hb
   subst hb; decide
 rw [show nm ++ 32 :: (tx ++ 63 :: 62 :: R) = (nm ++ 32 :: tx) ++ 63 :: 62 :: R by simp]
 refine ins_mk R hc2 ?_
 unfold piL
 rw [hrun, List.take_left, List.drop_left, if_neg (by rw [hn]; simp [hx]), hs1, if_neg (by simp), hd]
mutual
def tokT : Tr → List Tk
 | .mk kd nm tx ats ks => if kd = 4 then [⟨3, [], tx, [], false⟩] else if kd = 5 then [⟨4, [], tx, [], false⟩]
  else if kd = 6 then [⟨5, nm, tx, [], false⟩] else ⟨1, nm, [], ats, false⟩ :: (tokK ks ++ [⟨2, nm, [], [], false⟩])
def tokK : List Tr → List Tk
 | [] => []
 | k :: r => tokT k ++ tokK r
end
theorem scan_one {r rest : List UInt8} {acc : List Tk} {t : Tk} (h : oneP r = .inr (t, rest)) (hne : r ≠ []) : scanF r acc = scanF rest (acc ++ [t]) := scanF_ok hne h
def behT (R : List UInt8) : Prop := R = [] ∨ ∃ r, R = 60 :: r
theorem mk_head {t : Tr} (h : Fit t) (h4 : t.kd ≠ 4) (R : List UInt8) : behT (mkT t ++ R) := by
 cases h with
 | el => exact .inr ⟨_, by rw [mkT]; rfl⟩
 | tx => exact absurd rfl h4
 | co => exact .inr ⟨_, by rw [mkT]; rfl⟩
 | @ins nm tx =>
  by_cases he : tx = []
  ·exact .inr ⟨_, by rw [mkT]; simp only [he, show (6 : Int) ≠ 4 by decide, show (6 : Int) ≠ 5 by decide, if_false, if_true]; rfl⟩
  ·exact .inr ⟨_, by rw [mkT]; simp only [he, show (6 : Int) ≠ 4 by decide, show (6 : Int) ≠ 5 by decide, if_false, if_true]; rfl⟩
mutual
theorem scan_mkT : ∀ (t : Tr) (d : Nat) (R : List UInt8) (acc : List Tk), rightT t d = true → (t.kd = 4 → behT R) → scanF (mkT t ++ R) acc = scanF R (acc ++ tokT t)
 | .mk kd nm tx ats ks, d, R, acc, h, hR => by
  rw [rightT, Bool.and_eq_true, Bool.and_eq_true] at h
  obtain ⟨⟨_, h1⟩, hks⟩ := h
  have hf := fit_of h1
  cases hf with
  | el hn hl ha hu =>
   have ih := scan_mkK ks (d + 1) (60 :: 47 :: (nm ++ 62 :: R)) (acc ++ [⟨1, nm, [], ats, false⟩]) hks (.inr ⟨_, rfl⟩)
   rw [show mkT (.mk 2 nm [] ats ks) ++ R = 60 :: (nm ++ (atsL ats ++ 62 :: (mkK ks ++ 60 :: 47 :: (nm ++ 62 :: R)))) by rw [mkT]; simp,
    scan_one (oneP_sta _ hn ha (up_nodup hu) hl) (by simp), ih, scan_one (oneP_end R hn) (by simp)]
   rw [tokT]
   simp
  | tx ht hne =>
   rw [show mkT (.mk 4 [] tx [] []) = putL false tx by rw [mkT]; rfl, show tokT (.mk 4 [] tx [] []) = [⟨3, [], tx, [], false⟩] by rw [tokT]; rfl]
   have ho := oneP_putx hne ht (hR rfl)
   refine scan_one ho fun e => ?_
   rw [e] at ho
   have := oneP_suf ho
   simp only [List.append_eq_nil_iff] at e
   have hg := get_of_put false ht
   rw [e.1, get_yes rfl] at hg
   have e0 : gL false [] [] = ([], 0) := rfl
   rw [e0] at hg
   simp only [Prod.mk.injEq, and_true] at hg
   exact hne hg.symm
  | co ht hr hc hl =>
   rw [show mkT (.mk 5 [] tx [] []) ++ R = 60 :: 33 :: 45 :: 45 :: (tx ++ 45 :: 45 :: 62 :: R) by rw [mkT]; simp, show tokT (.mk 5 [] tx [] []) = [⟨4, [], tx, [], false⟩] by rw [tokT]; rfl]
   exact scan_one (oneP_com R hc hl) (by simp)
  | ins ht hr hn hc hs hx =>
   rw [show tokT (.mk 6 nm tx [] []) = [⟨5, nm, tx, [], false⟩] by rw [tokT]; rfl]
   by_cases he : tx = []
   ·subst he
    rw [show mkT (.mk 6 nm [] [] []) ++ R = 60 :: 63 :: (nm ++ 63 :: 62 :: R) by rw [mkT]; simp]
    exact scan_one (oneP_ins0 R hn hx) (by simp)
   ·rw [show mkT (.mk 6 nm tx [] []) ++ R = 60 :: 63 :: (nm ++ 32 :: (tx ++ 63 :: 62 :: R)) by rw [mkT]; simp [he]]
    exact scan_one (oneP_ins R hn hx hc hs) (by simp)
theorem scan_mkK : ∀ (ks : List Tr) (d : Nat) (R : List UInt8) (acc : List Tk), rightK ks d = true → behT R → scanF (mkK ks ++ R) acc = scanF R (acc ++ tokK ks)
 | [], _, R, acc, _, _ => by rw [mkK, tokK]; simp
 | k :: r, d, R, acc, h, hR => by
  rw [rightK, Bool.and_eq_true, Bool.and_eq_true, Bool.not_eq_true'] at h
  obtain ⟨⟨h1, h2⟩, h3⟩ := h
  rw [mkK, tokK, List.append_assoc, scan_mkT k d (mkK r ++ R) acc h1 ?_, scan_mkK r d R _ h3 hR, List.append_assoc]
  intro h4
  cases r with
  | nil => exact hR
  | cons b r =>
   rw [mkK, List.append_assoc]
   rw [rightK, Bool.and_eq_true, Bool.and_eq_true, rightT_def, Bool.and_eq_true, Bool.and_eq_true] at h3
   refine mk_head (fit_of h3.1.1.1.2) (fun hb => ?_) _
   have h5 : (decide (k.kd = 4) && decide (b.kd = 4)) = false := h2
   rw [decide_eq_true h4, decide_eq_true hb] at h5
   cases h5
end
end Char
namespace Char
open Go.Lib
theorem putK_snoc {ks : List Tr} {n : Tr} (h : lastTx ks = true → n.kd ≠ 4) : putK ks n = ks ++ [n] := by
 unfold putK
 unfold lastTx at h
 cases hg : ks.getLast? with
 | none => rfl
 | some t =>
  rw [hg] at h
  dsimp only at h ⊢
  rw [if_neg]
  rw [Bool.and_eq_true]
  rintro ⟨h1, h2⟩
  exact h h1 (by simpa using h2)
theorem left_no {p : Tk} {os : List Tr} (h : p.kd = 3 → p.tx ≠ [] ∧ os.length ≠ 1) : leftT p os = false := by
 unfold leftT
 by_cases hk : p.kd = 3
 ·obtain ⟨h1, h2⟩ := h hk
  rw [Bool.and_eq_false_iff]
  refine .inr ?_
  rw [Bool.or_eq_false_iff]
  refine ⟨by simpa using h1, ?_⟩
  rw [Bool.and_eq_false_iff]
  exact .inl (by simpa using h2)
 ·rw [Bool.and_eq_false_iff]
  exact .inl (by simpa using hk)
theorem putT_mk (n o : Tr) (os : List Tr) : putT n (o :: os) = .mk o.kd o.nm o.tx o.ats (putK o.ks n) :: os := rfl
theorem run_leaf {p : Tk} {o : Tr} {os : List Tr} {sz : Nat} (rest : List Tk) (hk : p.kd = 3 ∨ p.kd = 4 ∨ p.kd = 5) (h3 : p.kd = 3 → p.tx ≠ [] ∧ lastTx o.ks = false) (hne : os ≠ []) (hs : sz + 1 ≤ 120) :
  runT (p :: rest) (o :: os) sz = runT rest (.mk o.kd o.nm o.tx o.ats (o.ks ++ [leafT p]) :: os) (sz + 1) := by
 have hl : (o :: os).length ≠ 1 := by
  rw [List.length_cons]
  have := List.length_pos_iff.2 hne
  omega
 have h1 : p.kd ≠ 1 := by omega
 have h2 : p.kd ≠ 2 := by omega
 have hm : moreT p (topT (o :: os)) = 1 := by
  unfold moreT
  rw [if_neg h1, if_neg]
  rintro (h | ⟨h, hx⟩)
  ·exact h2 h
  ·rw [show (topT (o :: os)).ks = o.ks from rfl, (h3 h).2] at hx
   cases hx
 have hf : faultT p (o :: os) (sz + moreT p (topT (o :: os))) = 0 := by
  rw [hm]
  unfold faultT
  rw [if_neg (fun h => h2 h.1), if_neg h2, if_neg (fun h => hl h.1), if_neg (fun h => h1 h.1), if_neg (by omega)]
 rw [run_next (left_no fun h => ⟨(h3 h).1, hl⟩) hf, hm]
 unfold nextT
 rw [if_neg h1, if_neg h2, putT_mk, putK_snoc]
 intro hx h4
 have hp : p.kd = 3 := by
  have : p.kd + 1 = 4 := h4
  omega
 rw [(h3 hp).2] at hx
 cases hx
mutual
theorem run_mkT : ∀ (t : Tr) (d : Nat) (o : Tr) (os : List Tr) (sz : Nat) (rest : List Tk), rightT t d = true → os.length = d → (os = [] → t.kd = 2 ∧ o.ks = []) → (lastTx o.ks = true → t.kd ≠ 4) → sz + szT t ≤ 120 →
  runT (tokT t ++ rest) (o :: os) sz = runT rest (.mk o.kd o.nm o.tx o.ats (o.ks ++ [t]) :: os) (sz + szT t)
 | .mk kd nm tx ats ks, d, o, os, sz, rest, h, hd, h0, h4, hs => by
  rw [rightT, Bool.and_eq_true, Bool.and_eq_true] at h
  obtain ⟨⟨hdeep, h1⟩, hks⟩ := h
  have hf := fit_of h1
  cases hf with
  | el hn hl ha hu =>
   have hd12 : d < 12 := by
    rw [Bool.not_eq_true', Bool.and_eq_false_iff] at hdeep
    rcases hdeep with h | h
    ·simp at h
    ·have := of_decide_eq_false h; omega
   rw [szT, if_pos rfl] at hs ⊢
   rw [show tokT (.mk 2 nm [] ats ks) = ⟨1, nm, [], ats, false⟩ :: (tokK ks ++ [⟨2, nm, [], [], false⟩]) by rw [tokT]; rfl, List.cons_append, List.append_assoc]
   have hm : moreT ⟨1, nm, [], ats, false⟩ (topT (o :: os)) = 1 + ats.length := rfl
   have hfa : faultT ⟨1, nm, [], ats, false⟩ (o :: os) (sz + moreT ⟨1, nm, [], ats, false⟩ (topT (o :: os))) = 0 := by
    rw [hm]
    unfold faultT
    rw [if_neg (by simp), if_neg (by simp), if_neg, if_neg, if_neg (by omega)]
    ·rw [List.length_cons]
     rintro ⟨_, h⟩
     omega
    ·rw [List.length_cons]
     rintro ⟨h, h5⟩
     have := (h0 (List.eq_nil_of_length_eq_zero (by omega))).2
     rcases h5 with h5 | h5
     ·exact h5 rfl
     ·exact h5 this
   rw [run_next (left_no fun h => absurd h (by simp)) hfa, hm]
   have hnext : nextT ⟨1, nm, [], ats, false⟩ (o :: os) = .mk 2 nm [] ats [] :: o :: os := by
    unfold nextT beginT
    rw [if_pos rfl]
    simp only [up_sort hu]
    rfl
   rw [hnext, run_mkK ks (d + 1) (.mk 2 nm [] ats []) (o :: os) (sz + (1 + ats.length)) _ hks (by rw [List.length_cons, hd]) (by simp) (fun k r _ hx => by cases hx) (by omega)]
   have hm2 : ∀ t : Tr, moreT ⟨2, nm, [], [], false⟩ t = 0 := fun t => rfl
   rw [show (([⟨2, nm, [], [], false⟩] : List Tk) ++ rest) = ⟨2, nm, [], [], false⟩ :: rest from rfl, run_next (left_no fun h => absurd h (by simp)) (by
    unfold faultT
    rw [if_neg (by simp [topT, Tr.nm]), if_pos rfl]), hm2]
   have hn2 : ∀ u : Tr, nextT ⟨2, nm, [], [], false⟩ (u :: o :: os) = putT u (o :: os) := fun u => by
    unfold nextT
    rw [if_neg (by simp), if_pos rfl]
    rfl
   rw [hn2, putT_mk, putK_snoc (n := .mk (Tr.mk 2 nm [] ats []).kd (Tr.mk 2 nm [] ats []).nm (Tr.mk 2 nm [] ats []).tx (Tr.mk 2 nm [] ats []).ats ((Tr.mk 2 nm [] ats []).ks ++ ks)) (fun _ => by simp [Tr.kd])]
   simp only [Tr.kd, Tr.nm, Tr.tx, Tr.ats, Tr.ks, List.nil_append, Nat.add_zero, Nat.add_assoc]
  | tx ht hne =>
   rw [show tokT (.mk 4 [] tx [] []) = [⟨3, [], tx, [], false⟩] by rw [tokT]; rfl, szT_leaf (by simp [Tr.kd])]
   rw [szT_leaf (by simp [Tr.kd])] at hs
   exact run_leaf rest (.inl rfl) (fun _ => ⟨hne, by
    cases hx : lastTx o.ks with
    | false => rfl
    | true => exact absurd rfl (h4 hx)⟩) (fun e => by have := (h0 e).1; cases this) hs
  | co ht hr hc hl =>
   rw [show tokT (.mk 5 [] tx [] []) = [⟨4, [], tx, [], false⟩] by rw [tokT]; rfl, szT_leaf (by simp [Tr.kd])]
   rw [szT_leaf (by simp [Tr.kd])] at hs
   exact run_leaf rest (.inr (.inl rfl)) (fun h => by cases h) (fun e => by have := (h0 e).1; cases this) hs
  | ins ht hr hn hc hsp hx =>
   rw [show tokT (.mk 6 nm tx [] []) = [⟨5, nm, tx, [], false⟩] by rw [tokT]; rfl, szT_leaf (by simp [Tr.kd])]
   rw [szT_leaf (by simp [Tr.kd])] at hs
   exact run_leaf rest (.inr (.inr rfl)) (fun h => by cases h) (fun e => by have := (h0 e).1; cases this) hs
theorem run_mkK : ∀ (ks : List Tr) (d : Nat) (o : Tr) (os : List Tr) (sz : Nat) (rest : List Tk), rightK ks d = true → os.length = d → os ≠ [] → (∀ k r, ks = k :: r → lastTx o.ks = true → k.kd ≠ 4) → sz + szK ks ≤ 120 →
  runT (tokK ks ++ rest) (o :: os) sz = runT rest (.mk o.kd o.nm o.tx o.ats (o.ks ++ ks) :: os) (sz + szK ks)
 | [], _, o, os, sz, rest, _, _, _, _, _ => by
  rw [tokK, szK, List.append_nil, Tr.eta]
  rfl
 | k :: r, d, o, os, sz, rest, h, hd, hne, h4, hs => by
  rw [rightK, Bool.and_eq_true, Bool.and_eq_true, Bool.not_eq_true'] at h
  obtain ⟨⟨h1, h2⟩, h3⟩ := h
  rw [szK] at hs ⊢
  rw [tokK, List.append_assoc, run_mkT k d o os sz _ h1 hd (fun e => absurd e hne) (fun hx => h4 k r rfl hx) (by omega),
   run_mkK r d (.mk o.kd o.nm o.tx o.ats (o.ks ++ [k])) os (sz + szT k) rest h3 hd hne (fun b r' e hx hb => by
    subst e
    have h5 : (decide (k.kd = 4) && decide (b.kd = 4)) = false := h2
    rw [show (Tr.mk o.kd o.nm o.tx o.ats (o.ks ++ [k])).ks = o.ks ++ [k] from rfl, lastTx_snoc] at hx
    rw [decide_eq_true (show k.kd = 4 by simpa using hx), decide_eq_true hb] at h5
    cases h5) (by omega)]
  simp only [Tr.kd, Tr.nm, Tr.tx, Tr.ats, Tr.ks, List.append_assoc, List.cons_append, List.nil_append, Nat.add_assoc]
end
theorem tx_cons {b : UInt8} {t : List UInt8} (hb : b.toNat < 128) (hc : isC (b.toNat : Int) = true) (h : txD t = true) : txD (b :: t) = true := by rw [tx_ascii b t hb, hc, h]; rfl
theorem tx_app {a b : List UInt8} (ha : txD a = true) (hb : txD b = true) : txD (a ++ b) = true := by rw [tx_more a b ha]; exact hb
theorem tx_put {attr : Bool} {l : List UInt8} (h : txD l = true) : txD (putL attr l) = true := by rw [tx_eq, txL_put attr _ l (Nat.le_refl _)]; exact h
def Mk (l : List UInt8) : Prop := txD l = true ∧ ∀ b, b ∈ l → b ≠ 13
theorem Mk.nil : Mk [] := ⟨rfl, fun _ h => by cases h⟩
theorem Mk.cons {b : UInt8} {t : List UInt8} (hb : b.toNat < 128 ∧ isC (b.toNat : Int) = true ∧ b ≠ 13) (h : Mk t) : Mk (b :: t) := ⟨tx_cons hb.1 hb.2.1 h.1, fun x hx => by
 rcases List.mem_cons.1 hx with rfl | hx
 ·exact hb.2.2
 ·exact h.2 x hx⟩
theorem Mk.app {a b : List UInt8} (ha : Mk a) (hb : Mk b) : Mk (a ++ b) := ⟨tx_app ha.1 hb.1, fun x hx => by
 rcases List.mem_append.1 hx with hx | hx
 ·exact ha.2 x hx
 ·exact hb.2 x hx⟩
theorem Mk.name {m : List UInt8} (h : nmD (bs m) = true) : Mk m := ⟨(nm_parts h).2.1, nm_no h (by decide) (by decide +kernel)⟩
theorem Mk.put {attr : Bool} {l : List UInt8} (h : txD l = true) : Mk (putL attr l) := ⟨tx_put h, put_no (std_13 attr) l⟩
theorem Mk.ats : ∀ {l : List At2}, (∀ a, a ∈ l → nmD (bs a.1) = true ∧ txD a.2 = true) → Mk (atsL l)
 | [], _ => .nil
 | a :: l, h => by
  obtain ⟨h1, h2⟩ := h a List.mem_cons_self
  rw [atsL]
  exact .cons (by decide +kernel) (.app (.name h1) (.cons (by decide +kernel) (.cons (by decide +kernel) (.app (.put h2) (.cons (by decide +kernel) (.ats fun x hx => h x (List.mem_cons_of_mem _ hx)))))))
mutual
theorem mk_plain : ∀ (t : Tr) (d : Nat), rightT t d = true → Mk (mkT t)
 | .mk kd nm tx ats ks, d, h => by
  rw [rightT, Bool.and_eq_true, Bool.and_eq_true] at h
  obtain ⟨⟨_, h1⟩, hks⟩ := h
  have hf := fit_of h1
  cases hf with
  | el hn hl ha hu =>
   rw [show mkT (.mk 2 nm [] ats ks) = 60 :: (nm ++ (atsL ats ++ 62 :: (mkK ks ++ 60 :: 47 :: (nm ++ [62])))) by rw [mkT]; rfl]
   exact .cons (by decide +kernel) (.app (.name hn) (.app (.ats ha) (.cons (by decide +kernel) (.app (mk_plainK ks (d + 1) hks) (.cons (by decide +kernel) (.cons (by decide +kernel) (.app (.name hn) (.cons (by decide +kernel) .nil))))))))
  | tx ht hne =>
   rw [show mkT (.mk 4 [] tx [] []) = putL false tx by rw [mkT]; rfl]
   exact .put ht
  | co ht hr hc hl =>
   rw [show mkT (.mk 5 [] tx [] []) = 60 :: 33 :: 45 :: 45 :: (tx ++ [45, 45, 62]) by rw [mkT]; rfl]
   exact .cons (by decide +kernel) (.cons (by decide +kernel) (.cons (by decide +kernel) (.cons (by decide +kernel) (.app ⟨ht, hr⟩ (.cons (by decide +kernel) (.cons (by decide +kernel) (.cons (by decide +kernel) .nil)))))))
  | ins ht hr hn hc hs hx =>
   by_cases he : tx = []
   ·subst he
    rw [show mkT (.mk 6 nm [] [] []) = 60 :: 63 :: (nm ++ [63, 62]) by rw [mkT]; rfl]
    exact .cons (by decide +kernel) (.cons (by decide +kernel) (.app (.name hn) (.cons (by decide +kernel) (.cons (by decide +kernel) .nil))))
   ·rw [show mkT (.mk 6 nm tx [] []) = 60 :: 63 :: (nm ++ 32 :: (tx ++ [63, 62])) by rw [mkT]; simp [he]]
    exact .cons (by decide +kernel) (.cons (by decide +kernel) (.app (.name hn) (.cons (by decide +kernel) (.app ⟨ht, hr⟩ (.cons (by decide +kernel) (.cons (by decide +kernel) .nil))))))
theorem mk_plainK : ∀ (ks : List Tr) (d : Nat), rightK ks d = true → Mk (mkK ks)
 | [], _, _ => by rw [mkK]; exact .nil
 | k :: r, d, h => by
  rw [rightK, Bool.and_eq_true, Bool.and_eq_true] at h
  rw [mkK]
  exact .app (mk_plain k d h.1.1) (mk_plainK r d h.2)
end
theorem lines_same (l : List UInt8) (h : ∀ b, b ∈ l → b ≠ 13) : linesL l = l := by
 have := lines_app l [] h
 rwa [List.append_nil, lines_nil, List.append_nil] at this
theorem scan_right {t : Tr} (h : rightD t = true) : scanF (mkT t) [] = .inr (tokT t) := by
 unfold rightD at h
 rw [Bool.and_eq_true, Bool.and_eq_true, decide_eq_true_eq] at h
 have := scan_mkT t 0 [] [] h.1.2 (fun _ => .inl rfl)
 rw [List.append_nil, scanF_nil, List.nil_append] at this
 exact this
theorem run_right_mk {t : Tr} (h : rightD t = true) : runT (tokT t) [grd0] 0 = .inr t := by
 unfold rightD at h
 rw [Bool.and_eq_true, Bool.and_eq_true, decide_eq_true_eq, decide_eq_true_eq] at h
 have := run_mkT t 0 grd0 [] 0 [] h.1.2 rfl (fun _ => ⟨h.1.1, rfl⟩) (fun e => by cases e) (by omega)
 rw [List.append_nil] at this
 rw [this, runT]
 rfl
theorem parse_mk {t : Tr} (h : rightD t = true) (hl : (mkT t).length ≤ 4000) : parseL (mkT t) = .inr t := by
 have h0 := h
 unfold rightD at h0
 rw [Bool.and_eq_true, Bool.and_eq_true, decide_eq_true_eq] at h0
 obtain ⟨hx, hr⟩ := mk_plain t 0 h0.1.2
 have hs : scanL (mkT t) = .inr (tokT t) := by
  unfold scanL
  rw [if_neg (by omega), if_neg (by rw [hx]; simp), lines_same _ hr, scan_right h]
 unfold parseL
 rw [hs]
 exact run_right_mk h
theorem mk_one {a b : Tr} (ha : rightD a = true) (hb : rightD b = true) (h : mkT a = mkT b) : a = b := by
 have h1 := scan_right ha
 rw [h, scan_right hb] at h1
 have h2 := run_right_mk ha
 simp only [Sum.inr.injEq] at h1
 rw [← h1, run_right_mk hb] at h2
 simpa using h2.symm
end Char
end Go.Proofs.YtlmodgnkmlbjhaaGreatDoor
