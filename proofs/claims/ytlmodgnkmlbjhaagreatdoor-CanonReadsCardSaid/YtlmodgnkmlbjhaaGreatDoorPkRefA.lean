import Derived.Test.YtlmodgnkmlbjhaaGreatDoorPkStart
import Derived.Deep.RegionWith
namespace Go.Proofs.YtlmodgnkmlbjhaaGreatDoor
namespace Char
open Go.RowKit Go.Lib
set_option maxRecDepth 100000 in
set_option maxHeartbeats 16000000 in
theorem one_txt (l : List UInt8) (p : Nat) (w : World) (hl : l.length ≤ 60000) (hp : p < l.length) (h60 : [60].isPrefixOf (l.drop p) = false) :
  Calls Tryz.prog 66 #[.string (bs l), .int .i64 (p : Int)] w (OnPost l p w) := by
 have hsz := bs_size l
 obtain ⟨P, hP⟩ : ∃ P, OnPost l p w = P := ⟨_, rfl⟩
 obtain ⟨G, hG⟩ : ∃ G, oneP (l.drop p) = G := ⟨_, rfl⟩
 have hF := finO_of (w := w) hG
 rw [hP] at hF ⊢
 have HF := Lib.hid hF
 clear hP hF
 have hlt' : p < (bs l).size := by rw [hsz]; exact hp
 have hgt := bs_get l p hlt'
 have hdc := drop_cons l p hp
 have HT0 := Lib.hid (TokAt.new w 0 ⟨#[]⟩ ⟨#[]⟩ (.slice none 0 0) false)
 obtain ⟨W0, hW0⟩ : ∃ W0, W0 = w.alloc (.cells #[.int .i64 0, .string ⟨#[]⟩, .string ⟨#[]⟩, .slice none 0 0, .bool false] 72) := ⟨_, rfl⟩
 have HB0 : Hid (Below w.heap.size w W0) := Lib.hid (by rw [hW0]; exact (Below.refl _ _).alloc (Nat.le_refl _) _)
 have HW0 := Lib.hid hW0
 rw [← hW0] at HT0
 have hlt0 : w.heap.size < W0.heap.size := by rw [hW0]; simp
 clear hW0
 rw [oneP_txt h60] at hG
 unfold txtP at hG
 have hll := lt_le (l.drop p)
 have hix := lt_index (l.drop p)
 rw [List.length_drop] at hll hix
 have hfd : ∀ W, Calls Tryz.prog 85 #[.string (bs l), .int .i64 (p : Int), .string ⟨#[60]⟩] W fun e w' => e = .returned (.int .i64 (fnd l [60] p)) ∧ W = w' := fun W => find_any l [60] p W hl (by omega) (by simp) (by simp)
 have hfu : fnd l [60] p = if index (l.drop p) [60] = -1 then -1 else (p : Int) + index (l.drop p) [60] := rfl
 obtain ⟨k, hk⟩ : ∃ k, ltL (l.drop p) = k := ⟨_, rfl⟩
 rw [hk] at hll hix hG
 obtain ⟨V, hV⟩ : ∃ V, (l.drop p).take k = V := ⟨_, rfl⟩
 rw [hV] at hG
 have hsl := slice_mid6 l p (p + k) (by omega) (by omega)
 rw [Nat.add_sub_cancel_left, hV] at hsl
 have hget := fun W => refGet_any V false W (by rw [← hV, List.length_take, List.length_drop]; omega)
 generalize getD5 false V = g at *
 obtain ⟨g1, g2⟩ := g
 dsimp only at hG hget
 obtain ⟨q, hq⟩ : ∃ q, p + k = q := ⟨_, rfl⟩
 rw [hq] at hsl
 have HEND : Hid (∀ W, Below w.heap.size w W → P (.returned (.tuple #[tokV 3 ⟨#[]⟩ (bs g1) (.slice none 0 0) false, .int .i64 (q : Int), .int .i64 (g2 : Int)])) W) := Lib.hid (by
  intro W hW
  have hF := HF.out
  rw [← hG] at hF
  by_cases h0 : g2 = 0
  ·rw [if_neg (by omega)] at hF
   rw [h0]
   exact hF.plain rfl (p' := q) (by omega) (by rw [← hq, List.drop_drop]) hW
  ·rw [if_pos h0] at hF
   exact hF W _ _ _ _ _ _ _ _ hW)
 obtain ⟨b, hb⟩ : ∃ b, l.getD p 0 = b := ⟨_, rfl⟩
 rw [hb] at hgt hdc
 have hb60 : b ≠ 60 := by
  rintro rfl
  rw [hdc] at h60
  simp [List.isPrefixOf] at h60
 obtain ⟨nb, hnb⟩ : ∃ nb, b.toNat = nb := ⟨_, rfl⟩
 have hg : ((bs l)[p]'hlt').toNat = nb := by rw [hgt, hnb]
 have q60 : ((nb : Int) != 60) = true := by
  rw [bne_iff_ne, ← hnb]; intro hh; exact hb60 (UInt8.toNat_inj.1 (by rw [show (60 : UInt8).toNat = 60 from rfl]; omega))
 have HGE := Lib.hid hget
 rw [hfu] at hfd
 clear hget hG HF hgt hdc h60 hb60 hnb hb hk hV hfu
 by_cases hend : k = l.length - p
 ·rw [if_pos hend] at hix
  rw [hix, if_pos rfl] at hfd
  have HFD := Lib.hid hfd
  have hql : (l.length : Int) = (q : Int) := by omega
  have hql2 : l.length = q := by omega
  rw [hql2] at hsz
  clear hfd hix hend
  have HQL := Lib.hid hql2
  clear hql hql2
  go_enter Tryz.func66, Tryz.ntmps66
  go_wp2_with fail
  rw [← HW0.out]
  refine (HFD.out _).mono ?_
  rintro e w1 ⟨rfl, rfl⟩
  go_wp2_with fail
  refine (HGE.out _).mono ?_
  rintro e w1 ⟨rfl, hb1⟩
  have hk2 := HT0.out.below hb1 hlt0
  have HK2 := Lib.hid hk2
  obtain ⟨⟨c0, c1, c2, c3, c4⟩, ⟨f0, f1, f2, f3, f4⟩, h3⟩ := hk2
  have HBB := Lib.hid (HB0.out.trans (hb1.mono (by omega)))
  clear hb1
  go_wp2_with fail
  exact end_tok2 rfl _ w.heap.size (HK2.out.set) rfl rfl rfl rfl (HEND.out _ (below_tokSet HBB.out (Nat.le_refl _) _ _ _ _ _))
 ·rw [if_neg hend] at hix
  rw [hix, if_neg (by omega), show (p : Int) + (k : Int) = (q : Int) by omega] at hfd
  have HFD := Lib.hid hfd
  clear hfd hix hend
  go_enter Tryz.func66, Tryz.ntmps66
  go_wp2_with fail
  rw [← HW0.out]
  refine (HFD.out _).mono ?_
  rintro e w1 ⟨rfl, rfl⟩
  go_wp2_with fail
  refine (HGE.out _).mono ?_
  rintro e w1 ⟨rfl, hb1⟩
  have hk2 := HT0.out.below hb1 hlt0
  have HK2 := Lib.hid hk2
  obtain ⟨⟨c0, c1, c2, c3, c4⟩, ⟨f0, f1, f2, f3, f4⟩, h3⟩ := hk2
  have HBB := Lib.hid (HB0.out.trans (hb1.mono (by omega)))
  clear hb1
  go_wp2_with fail
  exact end_tok2 rfl _ w.heap.size (HK2.out.set) rfl rfl rfl rfl (HEND.out _ (below_tokSet HBB.out (Nat.le_refl _) _ _ _ _ _))
end Char
namespace Char
open Go.RowKit Go.Lib
theorem head60 {l : List UInt8} {p : Nat} (hp : p < l.length) (h : [60].isPrefixOf (l.drop p) = true) : l.getD p 0 = 60 := by
 rw [drop_cons l p hp] at h
 simp [List.isPrefixOf] at h
 simpa using h.symm
theorem pre_room {m l : List UInt8} {p : Nat} (h : m.isPrefixOf (l.drop p) = true) (hm : 0 < m.length) : p + m.length ≤ l.length := by
 have := (List.isPrefixOf_iff_prefix.1 h).length_le
 rw [List.length_drop] at this
 omega
theorem com_eq {x : List UInt8} (h : [45, 45].isPrefixOf x = true) : [45, 45, 62].isPrefixOf x = [62].isPrefixOf (x.drop 2) := by
 obtain ⟨t, rfl⟩ := List.isPrefixOf_iff_prefix.1 h
 simp [List.isPrefixOf]
theorem fnd_at {l m : List UInt8} {p i : Nat} (h : index (l.drop p) m = (i : Int)) : fnd l m p = ((p + i : Nat) : Int) := by
 unfold fnd
 rw [h, if_neg (by omega)]
 omega
theorem fnd_no {l m : List UInt8} {p : Nat} (h : index (l.drop p) m = -1) : fnd l m p = -1 := by
 unfold fnd
 rw [h, if_pos rfl]
theorem idx_pre {s m : List UInt8} {i : Nat} (h : index s m = (i : Int)) : m.isPrefixOf (s.drop i) = true := by
 rcases index_spec s m with ⟨h1, _⟩ | ⟨j, h1, _, h3, _⟩
 ·omega
 ·obtain rfl : j = i := by omega
  exact h3
theorem idx_nat {s m : List UInt8} (h : index s m ≠ -1) : ∃ i : Nat, index s m = (i : Int) := by
 have := index_ge s m
 exact ⟨(index s m).toNat, by omega⟩
set_option maxRecDepth 100000 in
set_option maxHeartbeats 16000000 in
theorem one_com (l : List UInt8) (p : Nat) (w : World) (hl : l.length ≤ 60000) (hp : p < l.length) (h1 : [60, 33, 45, 45].isPrefixOf (l.drop p) = true) :
  Calls Tryz.prog 66 #[.string (bs l), .int .i64 (p : Int)] w (OnPost l p w) := by
 have hsz := bs_size l
 obtain ⟨P, hP⟩ : ∃ P, OnPost l p w = P := ⟨_, rfl⟩
 obtain ⟨G, hG⟩ : ∃ G, oneP (l.drop p) = G := ⟨_, rfl⟩
 have hF := finO_of (w := w) hG
 rw [hP] at hF ⊢
 have HF := Lib.hid hF
 clear hP hF
 have hlt' : p < (bs l).size := by rw [hsz]; exact hp
 have hgt := bs_get l p hlt'
 have hdc := drop_cons l p hp
 have HT0 := Lib.hid (TokAt.new w 0 ⟨#[]⟩ ⟨#[]⟩ (.slice none 0 0) false)
 obtain ⟨W0, hW0⟩ : ∃ W0, W0 = w.alloc (.cells #[.int .i64 0, .string ⟨#[]⟩, .string ⟨#[]⟩, .slice none 0 0, .bool false] 72) := ⟨_, rfl⟩
 have HB0 : Hid (Below w.heap.size w W0) := Lib.hid (by rw [hW0]; exact (Below.refl _ _).alloc (Nat.le_refl _) _)
 have HW0 := Lib.hid hW0
 rw [← hW0] at HT0
 have hlt0 : w.heap.size < W0.heap.size := by rw [hW0]; simp
 clear hW0
 unfold oneP at hG
 rw [if_pos h1] at hG
 unfold comP at hG
 have hbg1 : ∀ W, Calls Tryz.prog 94 #[.string (bs l), .int .i64 (p : Int), .string ⟨#[60, 33, 45, 45]⟩] W fun e w' => e = .returned (.bool ([60, 33, 45, 45].isPrefixOf (l.drop p))) ∧ W = w' := fun W => begins_any l [60, 33, 45, 45] p W hl (by omega) (by simp)
 rw [h1] at hbg1
 have HBG1 := Lib.hid hbg1
 clear hbg1
 have hroom := pre_room h1 (by decide)
 simp only [List.length_cons, List.length_nil] at hroom
 have h60 : [60].isPrefixOf (l.drop p) = true := pre_trans h1 (by decide)
 have hb := head60 hp h60
 rw [hb] at hgt
 have hg : ((bs l)[p]'hlt').toNat = 60 := by rw [hgt]; rfl
 clear hgt hb hdc
 clear h1 h60
 rw [List.drop_drop] at hG
 have hfd : ∀ W, Calls Tryz.prog 85 #[.string (bs l), .int .i64 ((p + 4 : Nat) : Int), .string ⟨#[45, 45]⟩] W fun e w' => e = .returned (.int .i64 (fnd l [45, 45] (p + 4))) ∧ W = w' := fun W => find_any l [45, 45] (p + 4) W hl (by omega) (by simp) (by simp)
 rw [show (((p + 4 : Nat)) : Int) = (p : Int) + 4 by omega] at hfd
 by_cases hi : index (l.drop (p + 4)) [45, 45] = -1
 ·rw [if_pos hi] at hG
  have hF := HF.out
  rw [← hG] at hF
  have HFE := Lib.hid hF
  rw [fnd_no hi] at hfd
  have HFD := Lib.hid hfd
  clear hG hF hi hfd
  have hk2 := HT0.out
  have HK2 := Lib.hid hk2
  obtain ⟨⟨c0, c1, c2, c3, c4⟩, ⟨f0, f1, f2, f3, f4⟩, h3⟩ := hk2
  go_enter Tryz.func66, Tryz.ntmps66
  go_wp2_with fail
  rw [← HW0.out]
  refine (HBG1.out _).mono ?_
  rintro e w1 ⟨rfl, rfl⟩
  go_wp2_with fail
  refine (HFD.out _).mono ?_
  rintro e w1 ⟨rfl, rfl⟩
  go_wp2_with fail
  exact end_tok2 rfl _ w.heap.size (HK2.out.set) rfl rfl rfl rfl (HFE.out _ _ _ _ _ _ _ _ _ (below_tokSet HB0.out (Nat.le_refl _) _ _ _ _ _))
 rw [if_neg hi] at hG
 obtain ⟨i, hin⟩ := idx_nat hi
 rw [hin, Int.toNat_natCast] at hG
 have hpre := idx_pre hin
 have hir := pre_room hpre (by decide)
 rw [List.length_drop] at hir
 simp only [List.length_cons, List.length_nil] at hir
 rw [fnd_at hin] at hfd
 have HFD := Lib.hid hfd
 clear hi hfd
 rw [List.drop_drop] at hpre
 have hsl := slice_mid6 l (p + 4) (p + 4 + i) (by omega) (by omega)
 rw [Nat.add_sub_cancel_left] at hsl
 obtain ⟨V, hV⟩ : ∃ V, (l.drop (p + 4)).take i = V := ⟨_, rfl⟩
 rw [hV] at hsl hG
 rw [show (((p + 4 : Nat)) : Int) = (p : Int) + 4 by omega] at hsl
 obtain ⟨q, hq⟩ : ∃ q, p + 4 + i = q := ⟨_, rfl⟩
 rw [hq] at hsl HFD hpre
 have hq6 : q ≤ 60000 := by omega
 clear hin
 have hcb : ∀ W, Calls Tryz.prog 94 #[.string (bs l), .int .i64 (q : Int), .string ⟨#[45, 45, 62]⟩] W fun e w' => e = .returned (.bool ([45, 45, 62].isPrefixOf (l.drop q))) ∧ W = w' := fun W => begins_any l [45, 45, 62] q W hl (by omega) (by simp)
 rw [com_eq hpre, List.drop_drop] at hcb
 rw [List.drop_drop, show p + 4 + (i + 2) = q + 2 by omega] at hG
 cases h62 : [62].isPrefixOf (l.drop (q + 2)) with
 | true =>
  rw [h62] at hcb hG
  have hr62 := pre_room h62 (by decide)
  simp only [List.length_cons, List.length_nil] at hr62
  have HCB := Lib.hid hcb
  have HEND : Hid (∀ W, Below w.heap.size w W → P (.returned (.tuple #[tokV 4 ⟨#[]⟩ (bs V) (.slice none 0 0) false, .int .i64 ((q : Int) + 3), .int .i64 0])) W) := Lib.hid (by
   intro W hW
   have hF := HF.out
   rw [← hG, if_pos rfl] at hF
   have := hF.plain rfl (p' := q + 3) (by omega) (by rw [List.drop_drop, ← hq]; first | rfl | (congr 1; omega)) hW
   rw [show (((q + 3 : Nat)) : Int) = (q : Int) + 3 by omega] at this
   exact this)
  clear hcb hG HF h62 hV hpre hq
  have hk2 := HT0.out
  have HK2 := Lib.hid hk2
  obtain ⟨⟨c0, c1, c2, c3, c4⟩, ⟨f0, f1, f2, f3, f4⟩, h3⟩ := hk2
  go_enter Tryz.func66, Tryz.ntmps66
  go_wp2_with fail
  rw [← HW0.out]
  refine (HBG1.out _).mono ?_
  rintro e w1 ⟨rfl, rfl⟩
  go_wp2_with fail
  refine (HFD.out _).mono ?_
  rintro e w1 ⟨rfl, rfl⟩
  go_wp2_with fail
  refine (HCB.out _).mono ?_
  rintro e w1 ⟨rfl, rfl⟩
  go_wp2_with fail
  exact end_tok2 rfl _ w.heap.size (HK2.out.set) rfl rfl rfl rfl (HEND.out _ (below_tokSet HB0.out (Nat.le_refl _) _ _ _ _ _))
 | false =>
  rw [h62] at hcb hG
  have HCB := Lib.hid hcb
  have hF := HF.out
  rw [← hG, if_neg (by simp)] at hF
  have HFE := Lib.hid hF
  clear hcb hG hF h62 hV hpre hq
  have hk2 := HT0.out
  have HK2 := Lib.hid hk2
  obtain ⟨⟨c0, c1, c2, c3, c4⟩, ⟨f0, f1, f2, f3, f4⟩, h3⟩ := hk2
  go_enter Tryz.func66, Tryz.ntmps66
  go_wp2_with fail
  rw [← HW0.out]
  refine (HBG1.out _).mono ?_
  rintro e w1 ⟨rfl, rfl⟩
  go_wp2_with fail
  refine (HFD.out _).mono ?_
  rintro e w1 ⟨rfl, rfl⟩
  go_wp2_with fail
  refine (HCB.out _).mono ?_
  rintro e w1 ⟨rfl, rfl⟩
  go_wp2_with fail
  exact end_tok2 rfl _ w.heap.size (HK2.out.set) rfl rfl rfl rfl (HFE.out _ _ _ _ _ _ _ _ _ (below_tokSet HB0.out (Nat.le_refl _) _ _ _ _ _))
set_option maxRecDepth 100000 in
set_option maxHeartbeats 16000000 in
theorem one_dat (l : List UInt8) (p : Nat) (w : World) (hl : l.length ≤ 60000) (hp : p < l.length) (h1 : [60, 33, 45, 45].isPrefixOf (l.drop p) = false) (h2 : [60, 33, 91, 67, 68, 65, 84, 65, 91].isPrefixOf (l.drop p) = true) :
  Calls Tryz.prog 66 #[.string (bs l), .int .i64 (p : Int)] w (OnPost l p w) := by
 have hsz := bs_size l
 obtain ⟨P, hP⟩ : ∃ P, OnPost l p w = P := ⟨_, rfl⟩
 obtain ⟨G, hG⟩ : ∃ G, oneP (l.drop p) = G := ⟨_, rfl⟩
 have hF := finO_of (w := w) hG
 rw [hP] at hF ⊢
 have HF := Lib.hid hF
 clear hP hF
 have hlt' : p < (bs l).size := by rw [hsz]; exact hp
 have hgt := bs_get l p hlt'
 have hdc := drop_cons l p hp
 have HT0 := Lib.hid (TokAt.new w 0 ⟨#[]⟩ ⟨#[]⟩ (.slice none 0 0) false)
 obtain ⟨W0, hW0⟩ : ∃ W0, W0 = w.alloc (.cells #[.int .i64 0, .string ⟨#[]⟩, .string ⟨#[]⟩, .slice none 0 0, .bool false] 72) := ⟨_, rfl⟩
 have HB0 : Hid (Below w.heap.size w W0) := Lib.hid (by rw [hW0]; exact (Below.refl _ _).alloc (Nat.le_refl _) _)
 have HW0 := Lib.hid hW0
 rw [← hW0] at HT0
 have hlt0 : w.heap.size < W0.heap.size := by rw [hW0]; simp
 clear hW0
 unfold oneP at hG
 rw [if_neg (show ¬ ([60, 33, 45, 45].isPrefixOf (l.drop p) = true) by rw [h1]; simp)] at hG
 rw [if_pos h2] at hG
 unfold datP at hG
 have hbg1 : ∀ W, Calls Tryz.prog 94 #[.string (bs l), .int .i64 (p : Int), .string ⟨#[60, 33, 45, 45]⟩] W fun e w' => e = .returned (.bool ([60, 33, 45, 45].isPrefixOf (l.drop p))) ∧ W = w' := fun W => begins_any l [60, 33, 45, 45] p W hl (by omega) (by simp)
 rw [h1] at hbg1
 have HBG1 := Lib.hid hbg1
 clear hbg1
 have hbg2 : ∀ W, Calls Tryz.prog 94 #[.string (bs l), .int .i64 (p : Int), .string ⟨#[60, 33, 91, 67, 68, 65, 84, 65, 91]⟩] W fun e w' => e = .returned (.bool ([60, 33, 91, 67, 68, 65, 84, 65, 91].isPrefixOf (l.drop p))) ∧ W = w' := fun W => begins_any l [60, 33, 91, 67, 68, 65, 84, 65, 91] p W hl (by omega) (by simp)
 rw [h2] at hbg2
 have HBG2 := Lib.hid hbg2
 clear hbg2
 have hroom := pre_room h2 (by decide)
 simp only [List.length_cons, List.length_nil] at hroom
 have h60 : [60].isPrefixOf (l.drop p) = true := pre_trans h2 (by decide)
 have hb := head60 hp h60
 rw [hb] at hgt
 have hg : ((bs l)[p]'hlt').toNat = 60 := by rw [hgt]; rfl
 clear hgt hb hdc
 clear h1 h2 h60
 rw [List.drop_drop] at hG
 have hfd : ∀ W, Calls Tryz.prog 85 #[.string (bs l), .int .i64 ((p + 9 : Nat) : Int), .string ⟨#[93, 93, 62]⟩] W fun e w' => e = .returned (.int .i64 (fnd l [93, 93, 62] (p + 9))) ∧ W = w' := fun W => find_any l [93, 93, 62] (p + 9) W hl (by omega) (by simp) (by simp)
 rw [show (((p + 9 : Nat)) : Int) = (p : Int) + 9 by omega] at hfd
 by_cases hi : index (l.drop (p + 9)) [93, 93, 62] = -1
 ·rw [if_pos hi] at hG
  have hF := HF.out
  rw [← hG] at hF
  have HFE := Lib.hid hF
  rw [fnd_no hi] at hfd
  have HFD := Lib.hid hfd
  clear hG hF hi hfd
  have hk2 := HT0.out
  have HK2 := Lib.hid hk2
  obtain ⟨⟨c0, c1, c2, c3, c4⟩, ⟨f0, f1, f2, f3, f4⟩, h3⟩ := hk2
  go_enter Tryz.func66, Tryz.ntmps66
  go_wp2_with fail
  rw [← HW0.out]
  refine (HBG1.out _).mono ?_
  rintro e w1 ⟨rfl, rfl⟩
  go_wp2_with fail
  refine (HBG2.out _).mono ?_
  rintro e w1 ⟨rfl, rfl⟩
  go_wp2_with fail
  refine (HFD.out _).mono ?_
  rintro e w1 ⟨rfl, rfl⟩
  go_wp2_with fail
  exact end_tok2 rfl _ w.heap.size (HK2.out.set) rfl rfl rfl rfl (HFE.out _ _ _ _ _ _ _ _ _ (below_tokSet HB0.out (Nat.le_refl _) _ _ _ _ _))
 rw [if_neg hi] at hG
 obtain ⟨i, hin⟩ := idx_nat hi
 rw [hin, Int.toNat_natCast] at hG
 have hpre := idx_pre hin
 have hir := pre_room hpre (by decide)
 rw [List.length_drop] at hir
 simp only [List.length_cons, List.length_nil] at hir
 rw [fnd_at hin] at hfd
 have HFD := Lib.hid hfd
 clear hi hfd
 rw [List.drop_drop] at hpre
 have hsl := slice_mid6 l (p + 9) (p + 9 + i) (by omega) (by omega)
 rw [Nat.add_sub_cancel_left] at hsl
 obtain ⟨V, hV⟩ : ∃ V, (l.drop (p + 9)).take i = V := ⟨_, rfl⟩
 rw [hV] at hsl hG
 rw [show (((p + 9 : Nat)) : Int) = (p : Int) + 9 by omega] at hsl
 obtain ⟨q, hq⟩ : ∃ q, p + 9 + i = q := ⟨_, rfl⟩
 rw [hq] at hsl HFD hpre
 have hq6 : q ≤ 60000 := by omega
 clear hin
 have HEND : Hid (∀ W, Below w.heap.size w W → P (.returned (.tuple #[tokV 3 ⟨#[]⟩ (bs V) (.slice none 0 0) false, .int .i64 ((q : Int) + 3), .int .i64 0])) W) := Lib.hid (by
  intro W hW
  have hF := HF.out
  rw [← hG] at hF
  have := hF.plain rfl (p' := q + 3) (by omega) (by rw [List.drop_drop, ← hq]; first | rfl | (congr 1; omega)) hW
  rw [show (((q + 3 : Nat)) : Int) = (q : Int) + 3 by omega] at this
  exact this)
 clear hG HF hV hpre hq
 have hk2 := HT0.out
 have HK2 := Lib.hid hk2
 obtain ⟨⟨c0, c1, c2, c3, c4⟩, ⟨f0, f1, f2, f3, f4⟩, h3⟩ := hk2
 go_enter Tryz.func66, Tryz.ntmps66
 go_wp2_with fail
 rw [← HW0.out]
 refine (HBG1.out _).mono ?_
 rintro e w1 ⟨rfl, rfl⟩
 go_wp2_with fail
 refine (HBG2.out _).mono ?_
 rintro e w1 ⟨rfl, rfl⟩
 go_wp2_with fail
 refine (HFD.out _).mono ?_
 rintro e w1 ⟨rfl, rfl⟩
 go_wp2_with fail
 exact end_tok2 rfl _ w.heap.size (HK2.out.set) rfl rfl rfl rfl (HEND.out _ (below_tokSet HB0.out (Nat.le_refl _) _ _ _ _ _))
end Char
namespace Char
open Go.RowKit Go.Lib
theorem set_alloc_world {w w1 : World} {kd0 : Int} {n0 t0 : ByteArray} {v0 : Value} {em0 : Bool} (C : Array Value) (ty : TypeId) (kd : Int) (n t : ByteArray) (v : Value) (em : Bool) (h0 : TokAt w.heap.size kd0 n0 t0 v0 em0 w1) (hb : Below w.heap.size w w1) :
  TokAt w.heap.size kd n t v em ((tokSet w1 w.heap.size kd n t v em).alloc (.cells C ty)) ∧ Below w.heap.size w ((tokSet w1 w.heap.size kd n t v em).alloc (.cells C ty)) := by
 have h3 : TokAt w.heap.size kd n t v em (tokSet w1 w.heap.size kd n t v em) := h0.set
 have h4 := below_tokSet hb (Nat.le_refl _) kd n t v em
 generalize tokSet w1 w.heap.size kd n t v em = W at *
 exact ⟨h3.below ((Below.refl _ _).alloc (Nat.le_refl _) _) h3.2.2, h4.alloc h4.size _⟩
set_option maxRecDepth 100000 in
set_option maxHeartbeats 16000000 in
theorem one_pi (l : List UInt8) (p : Nat) (w : World) (hl : l.length ≤ 60000) (hp : p < l.length) (h1 : [60, 33, 45, 45].isPrefixOf (l.drop p) = false) (h2 : [60, 33, 91, 67, 68, 65, 84, 65, 91].isPrefixOf (l.drop p) = false) (h3 : [60, 63].isPrefixOf (l.drop p) = true) :
  Calls Tryz.prog 66 #[.string (bs l), .int .i64 (p : Int)] w (OnPost l p w) := by
 have hsz := bs_size l
 obtain ⟨P, hP⟩ : ∃ P, OnPost l p w = P := ⟨_, rfl⟩
 obtain ⟨G, hG⟩ : ∃ G, oneP (l.drop p) = G := ⟨_, rfl⟩
 have hF := finO_of (w := w) hG
 rw [hP] at hF ⊢
 have HF := Lib.hid hF
 clear hP hF
 have hlt' : p < (bs l).size := by rw [hsz]; exact hp
 have hgt := bs_get l p hlt'
 have hdc := drop_cons l p hp
 have HT0 := Lib.hid (TokAt.new w 0 ⟨#[]⟩ ⟨#[]⟩ (.slice none 0 0) false)
 obtain ⟨W0, hW0⟩ : ∃ W0, W0 = w.alloc (.cells #[.int .i64 0, .string ⟨#[]⟩, .string ⟨#[]⟩, .slice none 0 0, .bool false] 72) := ⟨_, rfl⟩
 have HB0 : Hid (Below w.heap.size w W0) := Lib.hid (by rw [hW0]; exact (Below.refl _ _).alloc (Nat.le_refl _) _)
 have HW0 := Lib.hid hW0
 rw [← hW0] at HT0
 have hlt0 : w.heap.size < W0.heap.size := by rw [hW0]; simp
 clear hW0
 unfold oneP at hG
 rw [if_neg (show ¬ ([60, 33, 45, 45].isPrefixOf (l.drop p) = true) by rw [h1]; simp)] at hG
 rw [if_neg (show ¬ ([60, 33, 91, 67, 68, 65, 84, 65, 91].isPrefixOf (l.drop p) = true) by rw [h2]; simp)] at hG
 rw [if_pos h3] at hG
 unfold insP at hG
 have hbg1 : ∀ W, Calls Tryz.prog 94 #[.string (bs l), .int .i64 (p : Int), .string ⟨#[60, 33, 45, 45]⟩] W fun e w' => e = .returned (.bool ([60, 33, 45, 45].isPrefixOf (l.drop p))) ∧ W = w' := fun W => begins_any l [60, 33, 45, 45] p W hl (by omega) (by simp)
 rw [h1] at hbg1
 have HBG1 := Lib.hid hbg1
 clear hbg1
 have hbg2 : ∀ W, Calls Tryz.prog 94 #[.string (bs l), .int .i64 (p : Int), .string ⟨#[60, 33, 91, 67, 68, 65, 84, 65, 91]⟩] W fun e w' => e = .returned (.bool ([60, 33, 91, 67, 68, 65, 84, 65, 91].isPrefixOf (l.drop p))) ∧ W = w' := fun W => begins_any l [60, 33, 91, 67, 68, 65, 84, 65, 91] p W hl (by omega) (by simp)
 rw [h2] at hbg2
 have HBG2 := Lib.hid hbg2
 clear hbg2
 have hbg3 : ∀ W, Calls Tryz.prog 94 #[.string (bs l), .int .i64 (p : Int), .string ⟨#[60, 63]⟩] W fun e w' => e = .returned (.bool ([60, 63].isPrefixOf (l.drop p))) ∧ W = w' := fun W => begins_any l [60, 63] p W hl (by omega) (by simp)
 rw [h3] at hbg3
 have HBG3 := Lib.hid hbg3
 clear hbg3
 have hroom := pre_room h3 (by decide)
 simp only [List.length_cons, List.length_nil] at hroom
 have h60 : [60].isPrefixOf (l.drop p) = true := pre_trans h3 (by decide)
 have hb := head60 hp h60
 rw [hb] at hgt
 have hg : ((bs l)[p]'hlt').toNat = 60 := by rw [hgt]; rfl
 clear hgt hb hdc
 clear h1 h2 h3 h60
 rw [List.drop_drop] at hG
 have hfd : ∀ W, Calls Tryz.prog 85 #[.string (bs l), .int .i64 ((p + 2 : Nat) : Int), .string ⟨#[63, 62]⟩] W fun e w' => e = .returned (.int .i64 (fnd l [63, 62] (p + 2))) ∧ W = w' := fun W => find_any l [63, 62] (p + 2) W hl (by omega) (by simp) (by simp)
 rw [show (((p + 2 : Nat)) : Int) = (p : Int) + 2 by omega] at hfd
 by_cases hi : index (l.drop (p + 2)) [63, 62] = -1
 ·rw [if_pos hi] at hG
  have hF := HF.out
  rw [← hG] at hF
  have HFE := Lib.hid hF
  rw [fnd_no hi] at hfd
  have HFD := Lib.hid hfd
  clear hG hF hi hfd
  have hk2 := HT0.out
  have HK2 := Lib.hid hk2
  obtain ⟨⟨c0, c1, c2, c3, c4⟩, ⟨f0, f1, f2, f3, f4⟩, h3⟩ := hk2
  go_enter Tryz.func66, Tryz.ntmps66
  go_wp2_with fail
  rw [← HW0.out]
  refine (HBG1.out _).mono ?_
  rintro e w1 ⟨rfl, rfl⟩
  go_wp2_with fail
  refine (HBG2.out _).mono ?_
  rintro e w1 ⟨rfl, rfl⟩
  go_wp2_with fail
  refine (HBG3.out _).mono ?_
  rintro e w1 ⟨rfl, rfl⟩
  go_wp2_with fail
  refine (HFD.out _).mono ?_
  rintro e w1 ⟨rfl, rfl⟩
  go_wp2_with fail
  exact end_tok2 rfl _ w.heap.size (HK2.out.set) rfl rfl rfl rfl (HFE.out _ _ _ _ _ _ _ _ _ (below_tokSet HB0.out (Nat.le_refl _) _ _ _ _ _))
 rw [if_neg hi] at hG
 obtain ⟨i, hin⟩ := idx_nat hi
 rw [hin, Int.toNat_natCast] at hG
 have hpre := idx_pre hin
 have hir := pre_room hpre (by decide)
 rw [List.length_drop] at hir
 simp only [List.length_cons, List.length_nil] at hir
 rw [fnd_at hin] at hfd
 have HFD := Lib.hid hfd
 clear hi hfd
 rw [List.drop_drop] at hpre
 have hsl := slice_mid6 l (p + 2) (p + 2 + i) (by omega) (by omega)
 rw [Nat.add_sub_cancel_left] at hsl
 obtain ⟨V, hV⟩ : ∃ V, (l.drop (p + 2)).take i = V := ⟨_, rfl⟩
 rw [hV] at hsl hG
 rw [show (((p + 2 : Nat)) : Int) = (p : Int) + 2 by omega] at hsl
 obtain ⟨q, hq⟩ : ∃ q, p + 2 + i = q := ⟨_, rfl⟩
 rw [hq] at hsl HFD hpre
 have hq6 : q ≤ 60000 := by omega
 clear hin
 have hpi := fun W => pi_any V W (by rw [← hV, List.length_take, List.length_drop]; omega)
 cases hx : piL V with
 | inl err =>
  rw [hx] at hpi hG
  have hpi2 : ∀ W, Calls Tryz.prog 95 #[.string (bs V)] W fun e w' => e = .returned (.tuple #[.agg #[.int .i64 0, .string ⟨#[]⟩, .string ⟨#[]⟩, .slice none 0 0, .bool false], .int .i64 (err : Int)]) ∧ Below W.heap.size W w' := hpi
  have HPI := Lib.hid hpi2
  have hF := HF.out
  rw [← hG] at hF
  have HFE := Lib.hid hF
  clear hpi hpi2 hG hF HF hV hpre hq hx
  go_enter Tryz.func66, Tryz.ntmps66
  go_wp2_with fail
  rw [← HW0.out]
  refine (HBG1.out _).mono ?_
  rintro e w1 ⟨rfl, rfl⟩
  go_wp2_with fail
  refine (HBG2.out _).mono ?_
  rintro e w1 ⟨rfl, rfl⟩
  go_wp2_with fail
  refine (HBG3.out _).mono ?_
  rintro e w1 ⟨rfl, rfl⟩
  go_wp2_with fail
  refine (HFD.out _).mono ?_
  rintro e w1 ⟨rfl, rfl⟩
  go_wp2_with fail
  refine (HPI.out _).mono ?_
  rintro e w1 ⟨rfl, hb1⟩
  have hk2 := HT0.out.below hb1 hlt0
  have haw := set_alloc_world #[.int .i64 0, .string ⟨#[]⟩, .string ⟨#[]⟩, .slice none 0 0, .bool false] 72 0 ⟨#[]⟩ ⟨#[]⟩ (.slice none 0 0) false hk2 (HB0.out.trans (hb1.mono (by omega)))
  unfold tokSet at haw
  have HAW := Lib.hid haw
  obtain ⟨⟨c0, c1, c2, c3, c4⟩, ⟨f0, f1, f2, f3, f4⟩, h3⟩ := hk2
  clear hb1 haw
  go_wp2_with fail
  exact end_tok2 rfl _ w.heap.size HAW.out.1 rfl rfl rfl rfl (HFE.out _ _ _ _ _ _ _ _ _ HAW.out.2)
 | inr y =>
  obtain ⟨xn, xt⟩ := y
  rw [hx] at hpi hG
  have hpi2 : ∀ W, Calls Tryz.prog 95 #[.string (bs V)] W fun e w' => e = .returned (.tuple #[.agg #[.int .i64 5, .string (bs xn), .string (bs xt), .slice none 0 0, .bool false], .int .i64 0]) ∧ Below W.heap.size W w' := hpi
  have HPI := Lib.hid hpi2
  have HEND : Hid (∀ W, Below w.heap.size w W → P (.returned (.tuple #[tokV 5 (bs xn) (bs xt) (.slice none 0 0) false, .int .i64 ((q : Int) + 2), .int .i64 0])) W) := Lib.hid (by
   intro W hW
   have hF := HF.out
   rw [← hG] at hF
   have := hF.plain rfl (p' := q + 2) (by omega) (by rw [List.drop_drop, ← hq]; first | rfl | (congr 1; omega)) hW
   rw [show (((q + 2 : Nat)) : Int) = (q : Int) + 2 by omega] at this
   exact this)
  clear hpi hpi2 hG HF hV hpre hq hx
  go_enter Tryz.func66, Tryz.ntmps66
  go_wp2_with fail
  rw [← HW0.out]
  refine (HBG1.out _).mono ?_
  rintro e w1 ⟨rfl, rfl⟩
  go_wp2_with fail
  refine (HBG2.out _).mono ?_
  rintro e w1 ⟨rfl, rfl⟩
  go_wp2_with fail
  refine (HBG3.out _).mono ?_
  rintro e w1 ⟨rfl, rfl⟩
  go_wp2_with fail
  refine (HFD.out _).mono ?_
  rintro e w1 ⟨rfl, rfl⟩
  go_wp2_with fail
  refine (HPI.out _).mono ?_
  rintro e w1 ⟨rfl, hb1⟩
  have hk2 := HT0.out.below hb1 hlt0
  have haw := set_alloc_world #[.int .i64 5, .string (bs xn), .string (bs xt), .slice none 0 0, .bool false] 72 5 (bs xn) (bs xt) (.slice none 0 0) false hk2 (HB0.out.trans (hb1.mono (by omega)))
  unfold tokSet at haw
  have HAW := Lib.hid haw
  obtain ⟨⟨c0, c1, c2, c3, c4⟩, ⟨f0, f1, f2, f3, f4⟩, h3⟩ := hk2
  clear hb1 haw
  go_wp2_with fail
  exact end_tok2 rfl _ w.heap.size HAW.out.1 rfl rfl rfl rfl (HEND.out _ HAW.out.2)
set_option maxRecDepth 100000 in
set_option maxHeartbeats 16000000 in
theorem one_no (l : List UInt8) (p : Nat) (w : World) (hl : l.length ≤ 60000) (hp : p < l.length) (h1 : [60, 33, 45, 45].isPrefixOf (l.drop p) = false) (h2 : [60, 33, 91, 67, 68, 65, 84, 65, 91].isPrefixOf (l.drop p) = false) (h3 : [60, 63].isPrefixOf (l.drop p) = false) (h4 : [60, 47].isPrefixOf (l.drop p) = false) (h5 : [60, 33].isPrefixOf (l.drop p) = true) :
  Calls Tryz.prog 66 #[.string (bs l), .int .i64 (p : Int)] w (OnPost l p w) := by
 have hsz := bs_size l
 obtain ⟨P, hP⟩ : ∃ P, OnPost l p w = P := ⟨_, rfl⟩
 obtain ⟨G, hG⟩ : ∃ G, oneP (l.drop p) = G := ⟨_, rfl⟩
 have hF := finO_of (w := w) hG
 rw [hP] at hF ⊢
 have HF := Lib.hid hF
 clear hP hF
 have hlt' : p < (bs l).size := by rw [hsz]; exact hp
 have hgt := bs_get l p hlt'
 have hdc := drop_cons l p hp
 have HT0 := Lib.hid (TokAt.new w 0 ⟨#[]⟩ ⟨#[]⟩ (.slice none 0 0) false)
 obtain ⟨W0, hW0⟩ : ∃ W0, W0 = w.alloc (.cells #[.int .i64 0, .string ⟨#[]⟩, .string ⟨#[]⟩, .slice none 0 0, .bool false] 72) := ⟨_, rfl⟩
 have HB0 : Hid (Below w.heap.size w W0) := Lib.hid (by rw [hW0]; exact (Below.refl _ _).alloc (Nat.le_refl _) _)
 have HW0 := Lib.hid hW0
 rw [← hW0] at HT0
 have hlt0 : w.heap.size < W0.heap.size := by rw [hW0]; simp
 clear hW0
 unfold oneP at hG
 rw [if_neg (show ¬ ([60, 33, 45, 45].isPrefixOf (l.drop p) = true) by rw [h1]; simp)] at hG
 rw [if_neg (show ¬ ([60, 33, 91, 67, 68, 65, 84, 65, 91].isPrefixOf (l.drop p) = true) by rw [h2]; simp)] at hG
 rw [if_neg (show ¬ ([60, 63].isPrefixOf (l.drop p) = true) by rw [h3]; simp)] at hG
 rw [if_neg (show ¬ ([60, 47].isPrefixOf (l.drop p) = true) by rw [h4]; simp)] at hG
 rw [if_pos h5] at hG
 have hbg1 : ∀ W, Calls Tryz.prog 94 #[.string (bs l), .int .i64 (p : Int), .string ⟨#[60, 33, 45, 45]⟩] W fun e w' => e = .returned (.bool ([60, 33, 45, 45].isPrefixOf (l.drop p))) ∧ W = w' := fun W => begins_any l [60, 33, 45, 45] p W hl (by omega) (by simp)
 rw [h1] at hbg1
 have HBG1 := Lib.hid hbg1
 clear hbg1
 have hbg2 : ∀ W, Calls Tryz.prog 94 #[.string (bs l), .int .i64 (p : Int), .string ⟨#[60, 33, 91, 67, 68, 65, 84, 65, 91]⟩] W fun e w' => e = .returned (.bool ([60, 33, 91, 67, 68, 65, 84, 65, 91].isPrefixOf (l.drop p))) ∧ W = w' := fun W => begins_any l [60, 33, 91, 67, 68, 65, 84, 65, 91] p W hl (by omega) (by simp)
 rw [h2] at hbg2
 have HBG2 := Lib.hid hbg2
 clear hbg2
 have hbg3 : ∀ W, Calls Tryz.prog 94 #[.string (bs l), .int .i64 (p : Int), .string ⟨#[60, 63]⟩] W fun e w' => e = .returned (.bool ([60, 63].isPrefixOf (l.drop p))) ∧ W = w' := fun W => begins_any l [60, 63] p W hl (by omega) (by simp)
 rw [h3] at hbg3
 have HBG3 := Lib.hid hbg3
 clear hbg3
 have hbg4 : ∀ W, Calls Tryz.prog 94 #[.string (bs l), .int .i64 (p : Int), .string ⟨#[60, 47]⟩] W fun e w' => e = .returned (.bool ([60, 47].isPrefixOf (l.drop p))) ∧ W = w' := fun W => begins_any l [60, 47] p W hl (by omega) (by simp)
 rw [h4] at hbg4
 have HBG4 := Lib.hid hbg4
 clear hbg4
 have hbg5 : ∀ W, Calls Tryz.prog 94 #[.string (bs l), .int .i64 (p : Int), .string ⟨#[60, 33]⟩] W fun e w' => e = .returned (.bool ([60, 33].isPrefixOf (l.drop p))) ∧ W = w' := fun W => begins_any l [60, 33] p W hl (by omega) (by simp)
 rw [h5] at hbg5
 have HBG5 := Lib.hid hbg5
 clear hbg5
 have h60 : [60].isPrefixOf (l.drop p) = true := pre_trans h5 (by decide)
 have hb := head60 hp h60
 rw [hb] at hgt
 have hg : ((bs l)[p]'hlt').toNat = 60 := by rw [hgt]; rfl
 clear hgt hb hdc
 have hF := HF.out
 rw [← hG] at hF
 have HFE := Lib.hid hF
 clear hG hF HF h60 h1 h2 h3 h4 h5
 have hk2 := HT0.out
 have HK2 := Lib.hid hk2
 obtain ⟨⟨c0, c1, c2, c3, c4⟩, ⟨f0, f1, f2, f3, f4⟩, h3⟩ := hk2
 go_enter Tryz.func66, Tryz.ntmps66
 go_wp2_with fail
 rw [← HW0.out]
 refine (HBG1.out _).mono ?_
 rintro e w1 ⟨rfl, rfl⟩
 go_wp2_with fail
 refine (HBG2.out _).mono ?_
 rintro e w1 ⟨rfl, rfl⟩
 go_wp2_with fail
 refine (HBG3.out _).mono ?_
 rintro e w1 ⟨rfl, rfl⟩
 go_wp2_with fail
 refine (HBG4.out _).mono ?_
 rintro e w1 ⟨rfl, rfl⟩
 go_wp2_with fail
 refine (HBG5.out _).mono ?_
 rintro e w1 ⟨rfl, rfl⟩
 go_wp2_with fail
 exact end_tok2 rfl _ w.heap.size (HK2.out.set) rfl rfl rfl rfl (HFE.out _ _ _ _ _ _ _ _ _ (below_tokSet HB0.out (Nat.le_refl _) _ _ _ _ _))
set_option maxRecDepth 100000 in
set_option maxHeartbeats 16000000 in
theorem one_sta (l : List UInt8) (p : Nat) (w : World) (hl : l.length ≤ 60000) (hp : p < l.length) (h1 : [60, 33, 45, 45].isPrefixOf (l.drop p) = false) (h2 : [60, 33, 91, 67, 68, 65, 84, 65, 91].isPrefixOf (l.drop p) = false) (h3 : [60, 63].isPrefixOf (l.drop p) = false) (h4 : [60, 47].isPrefixOf (l.drop p) = false) (h5 : [60, 33].isPrefixOf (l.drop p) = false) (h60 : [60].isPrefixOf (l.drop p) = true) :
  Calls Tryz.prog 66 #[.string (bs l), .int .i64 (p : Int)] w (OnPost l p w) := by
 have hsz := bs_size l
 obtain ⟨P, hP⟩ : ∃ P, OnPost l p w = P := ⟨_, rfl⟩
 obtain ⟨G, hG⟩ : ∃ G, oneP (l.drop p) = G := ⟨_, rfl⟩
 have hF := finO_of (w := w) hG
 rw [hP] at hF ⊢
 have HF := Lib.hid hF
 clear hP hF
 have hlt' : p < (bs l).size := by rw [hsz]; exact hp
 have hgt := bs_get l p hlt'
 have hdc := drop_cons l p hp
 have HT0 := Lib.hid (TokAt.new w 0 ⟨#[]⟩ ⟨#[]⟩ (.slice none 0 0) false)
 obtain ⟨W0, hW0⟩ : ∃ W0, W0 = w.alloc (.cells #[.int .i64 0, .string ⟨#[]⟩, .string ⟨#[]⟩, .slice none 0 0, .bool false] 72) := ⟨_, rfl⟩
 have HB0 : Hid (Below w.heap.size w W0) := Lib.hid (by rw [hW0]; exact (Below.refl _ _).alloc (Nat.le_refl _) _)
 have HW0 := Lib.hid hW0
 rw [← hW0] at HT0
 have hlt0 : w.heap.size < W0.heap.size := by rw [hW0]; simp
 clear hW0
 unfold oneP at hG
 rw [if_neg (show ¬ ([60, 33, 45, 45].isPrefixOf (l.drop p) = true) by rw [h1]; simp)] at hG
 rw [if_neg (show ¬ ([60, 33, 91, 67, 68, 65, 84, 65, 91].isPrefixOf (l.drop p) = true) by rw [h2]; simp)] at hG
 rw [if_neg (show ¬ ([60, 63].isPrefixOf (l.drop p) = true) by rw [h3]; simp)] at hG
 rw [if_neg (show ¬ ([60, 47].isPrefixOf (l.drop p) = true) by rw [h4]; simp)] at hG
 rw [if_neg (show ¬ ([60, 33].isPrefixOf (l.drop p) = true) by rw [h5]; simp)] at hG
 rw [if_pos h60] at hG
 unfold staP at hG
 rw [List.drop_drop] at hG
 have hbg1 : ∀ W, Calls Tryz.prog 94 #[.string (bs l), .int .i64 (p : Int), .string ⟨#[60, 33, 45, 45]⟩] W fun e w' => e = .returned (.bool ([60, 33, 45, 45].isPrefixOf (l.drop p))) ∧ W = w' := fun W => begins_any l [60, 33, 45, 45] p W hl (by omega) (by simp)
 rw [h1] at hbg1
 have HBG1 := Lib.hid hbg1
 clear hbg1
 have hbg2 : ∀ W, Calls Tryz.prog 94 #[.string (bs l), .int .i64 (p : Int), .string ⟨#[60, 33, 91, 67, 68, 65, 84, 65, 91]⟩] W fun e w' => e = .returned (.bool ([60, 33, 91, 67, 68, 65, 84, 65, 91].isPrefixOf (l.drop p))) ∧ W = w' := fun W => begins_any l [60, 33, 91, 67, 68, 65, 84, 65, 91] p W hl (by omega) (by simp)
 rw [h2] at hbg2
 have HBG2 := Lib.hid hbg2
 clear hbg2
 have hbg3 : ∀ W, Calls Tryz.prog 94 #[.string (bs l), .int .i64 (p : Int), .string ⟨#[60, 63]⟩] W fun e w' => e = .returned (.bool ([60, 63].isPrefixOf (l.drop p))) ∧ W = w' := fun W => begins_any l [60, 63] p W hl (by omega) (by simp)
 rw [h3] at hbg3
 have HBG3 := Lib.hid hbg3
 clear hbg3
 have hbg4 : ∀ W, Calls Tryz.prog 94 #[.string (bs l), .int .i64 (p : Int), .string ⟨#[60, 47]⟩] W fun e w' => e = .returned (.bool ([60, 47].isPrefixOf (l.drop p))) ∧ W = w' := fun W => begins_any l [60, 47] p W hl (by omega) (by simp)
 rw [h4] at hbg4
 have HBG4 := Lib.hid hbg4
 clear hbg4
 have hbg5 : ∀ W, Calls Tryz.prog 94 #[.string (bs l), .int .i64 (p : Int), .string ⟨#[60, 33]⟩] W fun e w' => e = .returned (.bool ([60, 33].isPrefixOf (l.drop p))) ∧ W = w' := fun W => begins_any l [60, 33] p W hl (by omega) (by simp)
 rw [h5] at hbg5
 have HBG5 := Lib.hid hbg5
 clear hbg5
 have hb := head60 hp h60
 rw [hb] at hgt
 have hg : ((bs l)[p]'hlt').toNat = 60 := by rw [hgt]; rfl
 clear hgt hb hdc h60 h1 h2 h3 h4 h5
 have hst := fun W => start_any l (p + 1) W hl (by omega)
 rw [show (((p + 1 : Nat)) : Int) = (p : Int) + 1 by omega] at hst
 unfold StPost at hst
 cases hx : tagL (l.drop (p + 1)) with
 | inl err =>
  rw [hx] at hst hG
  have hst2 : ∀ W, Calls Tryz.prog 99 #[.string (bs l), .int .i64 ((p : Int) + 1)] W fun e w' => (∃ (kd x : Int) (n t : ByteArray) (o : Option Addr) (i j : Nat) (em : Bool), e = .returned (.tuple #[.agg #[.int .i64 kd, .string n, .string t, .slice o i j, .bool em], .int .i64 x, .int .i64 (err : Int)])) ∧ Below W.heap.size W w' := hst
  have HST := Lib.hid hst2
  have hF := HF.out
  rw [← hG] at hF
  have HFE := Lib.hid hF
  clear hst hst2 hG hF HF hx
  go_enter Tryz.func66, Tryz.ntmps66
  go_wp2_with fail
  rw [← HW0.out]
  refine (HBG1.out _).mono ?_
  rintro e w1 ⟨rfl, rfl⟩
  go_wp2_with fail
  refine (HBG2.out _).mono ?_
  rintro e w1 ⟨rfl, rfl⟩
  go_wp2_with fail
  refine (HBG3.out _).mono ?_
  rintro e w1 ⟨rfl, rfl⟩
  go_wp2_with fail
  refine (HBG4.out _).mono ?_
  rintro e w1 ⟨rfl, rfl⟩
  go_wp2_with fail
  refine (HBG5.out _).mono ?_
  rintro e w1 ⟨rfl, rfl⟩
  go_wp2_with fail
  refine (HST.out _).mono ?_
  rintro e w1 ⟨⟨kd, x, n, t, o, i, j, em, rfl⟩, hb1⟩
  have hk2 := HT0.out.below hb1 hlt0
  have HK2 := Lib.hid hk2
  have HBB := Lib.hid (HB0.out.trans (hb1.mono (by omega)))
  obtain ⟨⟨c0, c1, c2, c3, c4⟩, ⟨f0, f1, f2, f3, f4⟩, h3⟩ := hk2
  clear hb1
  go_wp2_with fail
  exact end_tok2 rfl _ w.heap.size (HK2.out.set) rfl rfl rfl rfl (HFE.out _ _ _ _ _ _ _ _ _ (below_tokSet HBB.out (Nat.le_refl _) _ _ _ _ _))
 | inr y =>
  obtain ⟨xn, qs, em, rest⟩ := y
  rw [hx] at hst hG
  have hst2 : ∀ W, Calls Tryz.prog 99 #[.string (bs l), .int .i64 ((p : Int) + 1)] W fun e w' => ∃ (p' : Nat) (o : Option Addr) (i j : Nat), (p' ≤ l.length ∧ l.drop p' = rest) ∧ e = .returned (.tuple #[.agg #[.int .i64 1, .string (bs xn), .string ⟨#[]⟩, .slice o i j, .bool em], .int .i64 (p' : Int), .int .i64 0]) ∧ OwnsAt W.heap.size w' (.slice o i j) qs ∧ Below W.heap.size W w' := fun W => (hst W).mono (by
   rintro e w' ⟨p', av, k1, k2, k3, k4, k5⟩
   obtain ⟨o, i, j, rfl⟩ := k4.form
   exact ⟨p', o, i, j, ⟨k1, k2⟩, k3, k4, k5⟩)
  have HST := Lib.hid hst2
  have hF := HF.out
  rw [← hG] at hF
  have HFE := Lib.hid hF
  clear hst hst2 hG hF HF hx
  go_enter Tryz.func66, Tryz.ntmps66
  go_wp2_with fail
  rw [← HW0.out]
  refine (HBG1.out _).mono ?_
  rintro e w1 ⟨rfl, rfl⟩
  go_wp2_with fail
  refine (HBG2.out _).mono ?_
  rintro e w1 ⟨rfl, rfl⟩
  go_wp2_with fail
  refine (HBG3.out _).mono ?_
  rintro e w1 ⟨rfl, rfl⟩
  go_wp2_with fail
  refine (HBG4.out _).mono ?_
  rintro e w1 ⟨rfl, rfl⟩
  go_wp2_with fail
  refine (HBG5.out _).mono ?_
  rintro e w1 ⟨rfl, rfl⟩
  go_wp2_with fail
  refine (HST.out _).mono ?_
  rintro e w1 ⟨p', o, i, j, hpp, rfl, ho, hb1⟩
  have HPP := Lib.hid hpp
  have HO := Lib.hid ho
  have hk2 := HT0.out.below hb1 hlt0
  have HK2 := Lib.hid hk2
  have HBB := Lib.hid (HB0.out.trans (hb1.mono (by omega)))
  obtain ⟨⟨c0, c1, c2, c3, c4⟩, ⟨f0, f1, f2, f3, f4⟩, h3⟩ := hk2
  clear hb1 hpp ho
  go_wp2_with fail
  exact end_tok2 rfl _ w.heap.size (HK2.out.set) rfl rfl rfl rfl (HFE.out _ p' o i j HPP.out.1 HPP.out.2 ((HO.out.keep (fun k hk _ => tokSet_block _ _ _ _ _ _ _ k (by omega))).low (by omega)) (below_tokSet HBB.out (Nat.le_refl _) _ _ _ _ _))
end Char
namespace Char
open Go.RowKit Go.Lib
set_option maxRecDepth 100000 in
set_option maxHeartbeats 16000000 in
theorem one_end (l : List UInt8) (p : Nat) (w : World) (hl : l.length ≤ 60000) (hp : p < l.length) (h1 : [60, 33, 45, 45].isPrefixOf (l.drop p) = false) (h2 : [60, 33, 91, 67, 68, 65, 84, 65, 91].isPrefixOf (l.drop p) = false) (h3 : [60, 63].isPrefixOf (l.drop p) = false) (h4 : [60, 47].isPrefixOf (l.drop p) = true) :
  Calls Tryz.prog 66 #[.string (bs l), .int .i64 (p : Int)] w (OnPost l p w) := by
 have hsz := bs_size l
 obtain ⟨P, hP⟩ : ∃ P, OnPost l p w = P := ⟨_, rfl⟩
 obtain ⟨G, hG⟩ : ∃ G, oneP (l.drop p) = G := ⟨_, rfl⟩
 have hF := finO_of (w := w) hG
 rw [hP] at hF ⊢
 have HF := Lib.hid hF
 clear hP hF
 have hlt' : p < (bs l).size := by rw [hsz]; exact hp
 have hgt := bs_get l p hlt'
 have hdc := drop_cons l p hp
 have HT0 := Lib.hid (TokAt.new w 0 ⟨#[]⟩ ⟨#[]⟩ (.slice none 0 0) false)
 obtain ⟨W0, hW0⟩ : ∃ W0, W0 = w.alloc (.cells #[.int .i64 0, .string ⟨#[]⟩, .string ⟨#[]⟩, .slice none 0 0, .bool false] 72) := ⟨_, rfl⟩
 have HB0 : Hid (Below w.heap.size w W0) := Lib.hid (by rw [hW0]; exact (Below.refl _ _).alloc (Nat.le_refl _) _)
 have HW0 := Lib.hid hW0
 rw [← hW0] at HT0
 have hlt0 : w.heap.size < W0.heap.size := by rw [hW0]; simp
 clear hW0
 unfold oneP at hG
 rw [if_neg (show ¬ ([60, 33, 45, 45].isPrefixOf (l.drop p) = true) by rw [h1]; simp)] at hG
 rw [if_neg (show ¬ ([60, 33, 91, 67, 68, 65, 84, 65, 91].isPrefixOf (l.drop p) = true) by rw [h2]; simp)] at hG
 rw [if_neg (show ¬ ([60, 63].isPrefixOf (l.drop p) = true) by rw [h3]; simp)] at hG
 rw [if_pos h4] at hG
 unfold endP at hG
 have hbg1 : ∀ W, Calls Tryz.prog 94 #[.string (bs l), .int .i64 (p : Int), .string ⟨#[60, 33, 45, 45]⟩] W fun e w' => e = .returned (.bool ([60, 33, 45, 45].isPrefixOf (l.drop p))) ∧ W = w' := fun W => begins_any l [60, 33, 45, 45] p W hl (by omega) (by simp)
 rw [h1] at hbg1
 have HBG1 := Lib.hid hbg1
 clear hbg1
 have hbg2 : ∀ W, Calls Tryz.prog 94 #[.string (bs l), .int .i64 (p : Int), .string ⟨#[60, 33, 91, 67, 68, 65, 84, 65, 91]⟩] W fun e w' => e = .returned (.bool ([60, 33, 91, 67, 68, 65, 84, 65, 91].isPrefixOf (l.drop p))) ∧ W = w' := fun W => begins_any l [60, 33, 91, 67, 68, 65, 84, 65, 91] p W hl (by omega) (by simp)
 rw [h2] at hbg2
 have HBG2 := Lib.hid hbg2
 clear hbg2
 have hbg3 : ∀ W, Calls Tryz.prog 94 #[.string (bs l), .int .i64 (p : Int), .string ⟨#[60, 63]⟩] W fun e w' => e = .returned (.bool ([60, 63].isPrefixOf (l.drop p))) ∧ W = w' := fun W => begins_any l [60, 63] p W hl (by omega) (by simp)
 rw [h3] at hbg3
 have HBG3 := Lib.hid hbg3
 clear hbg3
 have hbg4 : ∀ W, Calls Tryz.prog 94 #[.string (bs l), .int .i64 (p : Int), .string ⟨#[60, 47]⟩] W fun e w' => e = .returned (.bool ([60, 47].isPrefixOf (l.drop p))) ∧ W = w' := fun W => begins_any l [60, 47] p W hl (by omega) (by simp)
 rw [h4] at hbg4
 have HBG4 := Lib.hid hbg4
 clear hbg4
 have hroom := pre_room h4 (by decide)
 simp only [List.length_cons, List.length_nil] at hroom
 have h60 : [60].isPrefixOf (l.drop p) = true := pre_trans h4 (by decide)
 have hb := head60 hp h60
 rw [hb] at hgt
 have hg : ((bs l)[p]'hlt').toNat = 60 := by rw [hgt]; rfl
 clear hgt hb hdc
 clear h60 h1 h2 h3 h4
 rw [show (l.drop p).drop 2 = l.drop (p + 2) by rw [List.drop_drop]] at hG
 have hnm := fun W => refname_any l (p + 2) W hl (by omega)
 rw [show (((p + 2 : Nat)) : Int) = (p : Int) + 2 by omega] at hnm
 unfold NmPost at hnm
 have hrl := run_le _ (l.drop (p + 2)) (Nat.le_refl _)
 rw [List.length_drop] at hrl
 obtain ⟨k, hk⟩ : ∃ k, runL (l.drop (p + 2)) = k := ⟨_, rfl⟩
 obtain ⟨E, hE⟩ : ∃ E, nmE (l.drop (p + 2)) = E := ⟨_, rfl⟩
 rw [hk, hE] at hnm
 rw [hk] at hrl
 rw [hE, hk] at hG
 obtain ⟨a1, ha1⟩ : ∃ a1, p + 2 + k = a1 := ⟨_, rfl⟩
 rw [ha1] at hnm
 by_cases hE0 : E ≠ 0
 ·rw [if_neg hE0] at hnm
  rw [if_pos hE0] at hG
  have HNM := Lib.hid hnm
  have hF := HF.out
  rw [← hG] at hF
  have HFE := Lib.hid hF
  have q : ((E : Int) != 0) = true := by rw [bne_iff_ne]; omega
  clear hnm hE hk hE0 hG hF HF
  go_enter Tryz.func66, Tryz.ntmps66
  go_wp2_with fail
  rw [← HW0.out]
  refine (HBG1.out _).mono ?_
  rintro e w1 ⟨rfl, rfl⟩
  go_wp2_with fail
  refine (HBG2.out _).mono ?_
  rintro e w1 ⟨rfl, rfl⟩
  go_wp2_with fail
  refine (HBG3.out _).mono ?_
  rintro e w1 ⟨rfl, rfl⟩
  go_wp2_with fail
  refine (HBG4.out _).mono ?_
  rintro e w1 ⟨rfl, rfl⟩
  go_wp2_with fail
  refine (HNM.out _).mono ?_
  rintro e w1 ⟨rfl, hb1⟩
  have hk2 := HT0.out.below hb1 hlt0
  have HK2 := Lib.hid hk2
  have HBB := Lib.hid (HB0.out.trans (hb1.mono (by omega)))
  obtain ⟨⟨c0, c1, c2, c3, c4⟩, ⟨f0, f1, f2, f3, f4⟩, h3⟩ := hk2
  clear hb1
  go_wp2_with fail
  exact end_tok2 rfl _ w.heap.size (HK2.out.set) rfl rfl rfl rfl (HFE.out _ _ _ _ _ _ _ _ _ (below_tokSet HBB.out (Nat.le_refl _) _ _ _ _ _))
 ·have hE1 : E = 0 := by omega
  subst hE1
  rw [if_pos rfl] at hnm
  rw [if_neg hE0] at hG
  have HNM := Lib.hid hnm
  obtain ⟨N, hN⟩ : ∃ N, (l.drop (p + 2)).take k = N := ⟨_, rfl⟩
  have hsl := slice_mid6 l (p + 2) a1 (by omega) (by omega)
  rw [show a1 - (p + 2) = k by omega, hN, show (((p + 2 : Nat)) : Int) = (p : Int) + 2 by omega] at hsl
  have e1 : (l.drop (p + 2)).drop k = l.drop a1 := by rw [List.drop_drop, ha1]
  rw [e1, hN] at hG
  have hs1 := fun W => spaces_any l a1 W hl (by omega)
  have hl1 := spc_le (l.drop a1)
  rw [List.length_drop] at hl1
  obtain ⟨m, hm⟩ : ∃ m, spcL (l.drop a1) = m := ⟨_, rfl⟩
  rw [hm] at hs1 hl1 hG
  obtain ⟨a2, ha2⟩ : ∃ a2, a1 + m = a2 := ⟨_, rfl⟩
  rw [ha2] at hs1
  have e2 : (l.drop (p + 2)).drop (k + m) = l.drop a2 := by rw [List.drop_drop, show p + 2 + (k + m) = a2 by omega]
  have e3 : (l.drop (p + 2)).drop (k + m + 1) = l.drop (a2 + 1) := by rw [List.drop_drop, show p + 2 + (k + m + 1) = a2 + 1 by omega]
  rw [e2, e3] at hG
  have hmu : ∀ W, Calls Tryz.prog 98 #[.string (bs l), .int .i64 (a2 : Int), .int .u8 62] W fun e w' => e = .returned (.int .i64 (mustL (l.drop a2) 62 : Int)) ∧ W = w' := fun W => must_any l a2 62 W
  obtain ⟨M, hM⟩ : ∃ M, mustL (l.drop a2) 62 = M := ⟨_, rfl⟩
  rw [hM] at hmu hG
  have HEND : Hid (∀ W, Below w.heap.size w W → P (.returned (.tuple #[tokV 2 (bs N) ⟨#[]⟩ (.slice none 0 0) false, .int .i64 ((a2 : Int) + 1), .int .i64 (M : Int)])) W) := Lib.hid (by
   intro W hW
   have hF := HF.out
   rw [← hG] at hF
   by_cases h0 : M = 0
   ·rw [if_neg (by omega)] at hF
    have hle : a2 + 1 ≤ l.length := by
     by_cases hx : a2 < l.length
     ·omega
     ·rw [List.drop_eq_nil_of_le (by omega)] at hM
      exact absurd (hM.trans h0) (by decide)
    have := hF.plain rfl (p' := a2 + 1) hle rfl hW
    rw [h0]
    rw [show (((a2 + 1 : Nat)) : Int) = (a2 : Int) + 1 by omega] at this
    exact this
   ·rw [if_pos h0] at hF
    exact hF W _ _ _ _ _ _ _ _ hW)
  have HS1 := Lib.hid hs1
  have HMU := Lib.hid hmu
  have w1' : IntKind.i64.wrap ((p : Int) + 2) = (p : Int) + 2 := IntWalk.i64_in _ (by omega)
  have w2' : IntKind.i64.wrap ((a2 : Int) + 1) = (a2 : Int) + 1 := IntWalk.i64_in _ (by omega)
  have HW2 := Lib.hid w2'
  have HSL := Lib.hid hsl
  clear w2' hnm hE0 hE hk hN hs1 hmu hG hM HF e1 e2 e3 hm
  go_enter Tryz.func66, Tryz.ntmps66
  go_wp2_with fail
  rw [← HW0.out]
  refine (HBG1.out _).mono ?_
  rintro e w1 ⟨rfl, rfl⟩
  go_wp2_with fail
  refine (HBG2.out _).mono ?_
  rintro e w1 ⟨rfl, rfl⟩
  go_wp2_with fail
  refine (HBG3.out _).mono ?_
  rintro e w1 ⟨rfl, rfl⟩
  go_wp2_with fail
  refine (HBG4.out _).mono ?_
  rintro e w1 ⟨rfl, rfl⟩
  go_wp2_with fail
  refine (HNM.out _).mono ?_
  rintro e w1 ⟨rfl, hb1⟩
  have hk2 := HT0.out.below hb1 hlt0
  have HK2 := Lib.hid hk2
  have HBB := Lib.hid (HB0.out.trans (hb1.mono (by omega)))
  obtain ⟨⟨c0, c1, c2, c3, c4⟩, ⟨f0, f1, f2, f3, f4⟩, h3⟩ := hk2
  clear hb1
  go_wp2_with fail
  refine (HS1.out _).mono ?_
  rintro e w2 ⟨rfl, rfl⟩
  have hE2 := (HK2.out.set (kd' := 2) (n' := bs N) (t' := ⟨#[]⟩) (ats' := .slice none 0 0) (em' := false))
  have hB2 := below_tokSet HBB.out (Nat.le_refl _) 2 (bs N) ⟨#[]⟩ (.slice none 0 0) false
  have HFIN : Hid (TokAt w.heap.size 2 (bs N) ⟨#[]⟩ (.slice none 0 0) false (tokSet w1 w.heap.size 2 (bs N) ⟨#[]⟩ (.slice none 0 0) false).drew ∧ Below w.heap.size w (tokSet w1 w.heap.size 2 (bs N) ⟨#[]⟩ (.slice none 0 0) false).drew) := Lib.hid ⟨hE2.below ((Below.refl _ _).drew) hE2.2.2, hB2.drew⟩
  clear hE2 hB2
  have hsl := HSL.out
  go_wp2_with fail
  go_region_with (go_at_call 98; refine (HMU.out _).mono ?_; rintro e w3 ⟨rfl, rfl⟩)
  all_goals
   go_wp2_with fail
   obtain ⟨hk2, hbw⟩ := HFIN.out
   have hfin := HEND.out _ hbw
   unfold tokSet at hk2 hfin
   clear HMU HS1 HNM HT0 HB0
   refine end_tok2 (x := (a2 : Int) + 1) (y := (M : Int)) rfl _ w.heap.size hk2 ?_ ?_ ?_ ?_ hfin
   all_goals (first | rfl | (simp [Act.put]; done) | (simp [Act.put, HW2.out]; done))
end Char
end Go.Proofs.YtlmodgnkmlbjhaaGreatDoor
