import Derived.Test.YtlmodgnkmlbjhaaGreatDoorPkRun
import Derived.Test.YtlmodgnkmlbjhaaGreatDoorPkGet
import Derived.Test.YtlmodgnkmlbjhaaGreatDoorPkBs
import Derived.Laws.AppendOwn
import Derived.OwnWalk
import Derived.Test.YtlmodgnkmlbjhaaGreatDoorPkMat
namespace Go.Proofs.YtlmodgnkmlbjhaaGreatDoor
namespace Char
open Go.RowKit Go.Lib
def AtAt (g : Nat) (n t : ByteArray) (w : World) : Prop :=
 (w.cell? ⟨g, 0, none⟩ = some (.string n) ∧ w.cell? ⟨g, 1, none⟩ = some (.string t)) ∧ (w.frozen? ⟨g, 0, none⟩ = false ∧ w.frozen? ⟨g, 1, none⟩ = false) ∧ g < w.heap.size
theorem AtAt.below {g B : Nat} {n t : ByteArray} {w w' : World} (h : AtAt g n t w) (hb : Below B w w') (hB : g < B) : AtAt g n t w' := by
 obtain ⟨⟨a0, a1⟩, ⟨b0, b1⟩, h3⟩ := h
 have c := fun i => hb.cell (p := ⟨g, i, none⟩) hB
 have f := fun i => hb.frozen (p := ⟨g, i, none⟩) hB
 exact ⟨⟨(c 0).trans a0, (c 1).trans a1⟩, ⟨(f 0).trans b0, (f 1).trans b1⟩, Nat.lt_of_lt_of_le h3 hb.size⟩
theorem AtAt.new (w : World) (n t : ByteArray) : AtAt w.heap.size n t (w.alloc (.cells #[.string n, .string t] 40)) := by
 refine ⟨⟨?_, ?_⟩, ⟨?_, ?_⟩, by simp⟩
 all_goals go_simp
def atSet (w : World) (g : Nat) (n t : ByteArray) : World := (w.setCell ⟨g, 0, none⟩ (.string n)).setCell ⟨g, 1, none⟩ (.string t)
theorem AtAt.set {g : Nat} {n t n' t' : ByteArray} {w : World} (h : AtAt g n t w) : AtAt g n' t' (atSet w g n' t') := by
 obtain ⟨⟨a0, a1⟩, ⟨b0, b1⟩, h3⟩ := h
 unfold atSet
 refine ⟨⟨?_, ?_⟩, ⟨?_, ?_⟩, ?_⟩
 all_goals go_simp
theorem below_atSet {B : Nat} {w0 w : World} (h : Below B w0 w) {g : Nat} (hg : B ≤ g) (n t : ByteArray) : Below B w0 (atSet w g n t) :=
 (h.setCell (p := ⟨g, 0, none⟩) hg _).setCell (p := ⟨g, 1, none⟩) hg _
theorem end_at {fn : Func} {p q r : Tmp} (h : fn.results = #[.cell p 40, .tmp q, .tmp r]) {a : Act} {R : Ending → World → Prop} (w1 : World) (g : Nat) {n t : ByteArray} {x y : Int}
  (hk : AtAt g n t w1) (hp : a.tmps.getD p undef = .pointer (some ⟨g, 0, none⟩)) (hq : a.tmps.getD q undef = .int .i64 x) (hr : a.tmps.getD r undef = .int .i64 y) (hd : a.defers = []) (hR : R (.returned (.tuple #[.agg #[.string n, .string t], .int .i64 x, .int .i64 y])) w1) : bodyPost Tryz.prog fn R .ret a w1 := by
 have hp' : a.tmps[p]?.getD undef = .pointer (some ⟨g, 0, none⟩) := by simpa using hp
 have hq' : a.tmps[q]?.getD undef = .int .i64 x := by simpa using hq
 have hr' : a.tmps[r]?.getD undef = .int .i64 y := by simpa using hr
 obtain ⟨⟨a0, a1⟩, _, _⟩ := hk
 exact bodyPost_ret (v := .tuple #[.agg #[.string n, .string t], .int .i64 x, .int .i64 y]) (by simp [results, h, hp', hq', hr', go_sem, a0, a1]) hd hR
def attrL (r : List UInt8) : Nat ⊕ (List UInt8 × List UInt8 × Nat) :=
 if nmE r ≠ 0 then .inl (nmE r) else
 if mustL (r.drop (runL r + spcL (r.drop (runL r)))) 61 ≠ 0 then .inl (mustL (r.drop (runL r + spcL (r.drop (runL r)))) 61) else
 valL r (runL r + spcL (r.drop (runL r)) + 1)
where
  valL (r : List UInt8) (a : Nat) : Nat ⊕ (List UInt8 × List UInt8 × Nat) :=
  quoL r (a + spcL (r.drop a))
  quoL (r : List UInt8) (a : Nat) : Nat ⊕ (List UInt8 × List UInt8 × Nat) := match r.drop a with
  | [] => .inl 16
  | q :: _ => if q ≠ 34 ∧ q ≠ 39 then .inl 13 else
   if index (r.drop (a + 1)) [q] = -1 then .inl 16 else
   if (getD5 true ((r.drop (a + 1)).take (index (r.drop (a + 1)) [q]).toNat)).2 ≠ 0 then .inl (getD5 true ((r.drop (a + 1)).take (index (r.drop (a + 1)) [q]).toNat)).2
   else .inr (r.take (runL r), (getD5 true ((r.drop (a + 1)).take (index (r.drop (a + 1)) [q]).toNat)).1, a + 1 + (index (r.drop (a + 1)) [q]).toNat + 1)
def attrV (p : Nat) (x : Nat ⊕ (List UInt8 × List UInt8 × Nat)) : Value := match x with
 | .inl e => .tuple #[.agg #[.string ⟨#[]⟩, .string ⟨#[]⟩], .int .i64 0, .int .i64 (e : Int)]
 | .inr (n, t, k) => .tuple #[.agg #[.string (bs n), .string (bs t)], .int .i64 ((p + k : Nat) : Int), .int .i64 0]
set_option maxRecDepth 100000 in
set_option maxHeartbeats 16000000 in
theorem attribute_any (l : List UInt8) (p : Nat) (w : World) (hl : l.length ≤ 60000) (hp : p ≤ l.length) :
  Calls Tryz.prog 128 #[.string (bs l), .int .i64 (p : Int)] w fun e w' => e = .returned (attrV p (attrL (l.drop p))) ∧ Below w.heap.size w w' := by
 have hsz := bs_size l
 obtain ⟨R, hR⟩ : ∃ R, attrL (l.drop p) = R := ⟨_, rfl⟩
 rw [hR]
 unfold attrL at hR
 have hnm := fun W => refname_any l p W hl hp
 unfold NmPost at hnm
 have hrl := run_le _ (l.drop p) (Nat.le_refl _)
 rw [List.length_drop] at hrl
 obtain ⟨k, hk⟩ : ∃ k, runL (l.drop p) = k := ⟨_, rfl⟩
 obtain ⟨E, hE⟩ : ∃ E, nmE (l.drop p) = E := ⟨_, rfl⟩
 rw [hk, hE] at hnm
 rw [hk] at hrl
 rw [hE, hk] at hR
 obtain ⟨a1, ha1⟩ : ∃ a1, p + k = a1 := ⟨_, rfl⟩
 rw [ha1] at hnm
 have HT0 := Lib.hid (AtAt.new w ⟨#[]⟩ ⟨#[]⟩)
 obtain ⟨W0, hW0⟩ : ∃ W0, W0 = w.alloc (.cells #[.string ⟨#[]⟩, .string ⟨#[]⟩] 40) := ⟨_, rfl⟩
 have HB0 : Hid (Below w.heap.size w W0) := Lib.hid (by rw [hW0]; exact (Below.refl _ _).alloc (Nat.le_refl _) _)
 have HW0 := Lib.hid hW0
 rw [← hW0] at HT0
 have hlt0 : w.heap.size < W0.heap.size := by rw [hW0]; simp
 clear hW0
 go_enter Tryz.func128, Tryz.ntmps128
 go_wp2_with fail
 rw [← HW0.out]
 by_cases hE0 : E ≠ 0
 ·rw [if_pos hE0] at hR
  rw [if_neg hE0] at hnm
  have HR := Lib.hid hR
  have HNM := Lib.hid hnm
  have q : ((E : Int) != 0) = true := by rw [bne_iff_ne]; omega
  clear hR hnm hE hk hE0
  refine (HNM.out _).mono ?_
  rintro e w1 ⟨rfl, hb1⟩
  have hk2 := HT0.out.below hb1 hlt0
  have HK2 := Lib.hid hk2
  obtain ⟨⟨c0, c1⟩, ⟨f0, f1⟩, h3⟩ := hk2
  have HBB := Lib.hid (HB0.out.trans (hb1.mono (by omega)))
  clear hb1
  go_wp2_with fail
  exact end_at rfl _ w.heap.size (HK2.out.set) rfl rfl rfl rfl ⟨by rw [← HR.out]; rfl, below_atSet HBB.out (Nat.le_refl _) _ _⟩
 ·have hE1 : E = 0 := by omega
  subst hE1
  rw [if_neg hE0] at hR
  rw [if_pos rfl] at hnm
  have HNM := Lib.hid hnm
  clear hnm hE0
  refine (HNM.out _).mono ?_
  rintro e w1 ⟨rfl, hb1⟩
  have hk2 := HT0.out.below hb1 hlt0
  have HK2 := Lib.hid hk2
  obtain ⟨⟨c0, c1⟩, ⟨f0, f1⟩, h3⟩ := hk2
  have HBB := Lib.hid (HB0.out.trans (hb1.mono (by omega)))
  clear hb1
  have hsl := slice_mid6 l p a1 (by omega) (by omega)
  rw [show a1 - p = k by omega] at hsl
  have e1 : (l.drop p).drop k = l.drop a1 := by rw [List.drop_drop, ha1]
  rw [e1] at hR
  have hs1 := fun W => spaces_any l a1 W hl (by omega)
  have hl1 := spc_le (l.drop a1)
  rw [List.length_drop] at hl1
  obtain ⟨m1, hm1⟩ : ∃ m1, spcL (l.drop a1) = m1 := ⟨_, rfl⟩
  rw [hm1] at hR hs1 hl1
  obtain ⟨a2, ha2⟩ : ∃ a2, a1 + m1 = a2 := ⟨_, rfl⟩
  rw [ha2] at hs1
  have e2 : (l.drop p).drop (k + m1) = l.drop a2 := by rw [List.drop_drop, show p + (k + m1) = a2 by omega]
  rw [e2] at hR
  have hmu : ∀ W, Calls Tryz.prog 98 #[.string (bs l), .int .i64 (a2 : Int), .int .u8 61] W fun e w' => e = .returned (.int .i64 (mustL (l.drop a2) 61 : Int)) ∧ W = w' := fun W => must_any l a2 61 W
  have HS1 := Lib.hid hs1
  obtain ⟨N, hN⟩ : ∃ N, (l.drop p).take k = N := ⟨_, rfl⟩
  rw [hN] at hsl
  have HNK := Lib.hid (show (l.drop p).take (runL (l.drop p)) = N by rw [hk, hN])
  clear hs1 hm1 hE hk hN
  by_cases hm0 : mustL (l.drop a2) 61 ≠ 0
  ·rw [if_pos hm0] at hR
   have HR := Lib.hid hR
   have HMU := Lib.hid hmu
   generalize mustL (l.drop a2) 61 = e1 at *
   have q : ((e1 : Int) != 0) = true := by rw [bne_iff_ne]; omega
   clear hR hmu hm0
   go_wp2_with fail
   refine (HS1.out _).mono ?_
   rintro e w2 ⟨rfl, rfl⟩
   go_wp2_with fail
   refine (HMU.out _).mono ?_
   rintro e w2 ⟨rfl, rfl⟩
   go_wp2_with fail
   exact end_at rfl _ w.heap.size (HK2.out.set) rfl rfl rfl rfl ⟨by rw [← HR.out]; rfl, below_atSet HBB.out (Nat.le_refl _) _ _⟩
  rw [if_neg hm0] at hR
  have ha2l : a2 < l.length := by
   rcases Nat.lt_or_ge a2 l.length with h | h
   ·exact h
   ·exfalso
    apply hm0
    rw [List.drop_eq_nil_of_le h]
    intro h0
    exact absurd h0 (by unfold mustL; decide)
  have hm2 : mustL (l.drop a2) 61 = 0 := by omega
  rw [hm2] at hmu
  have HMU := Lib.hid hmu
  unfold attrL.valL attrL.quoL at hR
  have e3 : (l.drop p).drop (k + m1 + 1) = l.drop (a2 + 1) := by rw [List.drop_drop, show p + (k + m1 + 1) = a2 + 1 by omega]
  rw [e3] at hR
  have hs2 := fun W => spaces_any l (a2 + 1) W hl (by omega)
  have hl2 := spc_le (l.drop (a2 + 1))
  rw [List.length_drop] at hl2
  rw [show (((a2 + 1 : Nat)) : Int) = (a2 : Int) + 1 by omega] at hs2
  obtain ⟨m2, hm3⟩ : ∃ m2, spcL (l.drop (a2 + 1)) = m2 := ⟨_, rfl⟩
  rw [hm3] at hR hs2 hl2
  obtain ⟨a4, ha4⟩ : ∃ a4, a2 + 1 + m2 = a4 := ⟨_, rfl⟩
  rw [ha4] at hs2
  have HS2 := Lib.hid hs2
  have e4 : (l.drop p).drop (k + m1 + 1 + m2) = l.drop a4 := by rw [List.drop_drop, show p + (k + m1 + 1 + m2) = a4 by omega]
  have e5 : (l.drop p).drop (k + m1 + 1 + m2 + 1) = l.drop (a4 + 1) := by rw [List.drop_drop, show p + (k + m1 + 1 + m2 + 1) = a4 + 1 by omega]
  rw [e4, e5] at hR
  clear e1 e2 e3 e4 e5
  clear hs2 hm3 hmu hm0 hm2
  by_cases hend : a4 = l.length
  ·rw [List.drop_eq_nil_of_le (show l.length ≤ a4 by omega)] at hR
   have HR : Hid (Sum.inl 16 = R) := Lib.hid hR
   have q : ((a4 : Int) == (l.length : Int)) = true := by rw [beq_iff_eq]; omega
   clear hR hend
   go_wp2_with fail
   refine (HS1.out _).mono ?_
   rintro e w2 ⟨rfl, rfl⟩
   go_wp2_with fail
   refine (HMU.out _).mono ?_
   rintro e w2 ⟨rfl, rfl⟩
   go_wp2_with fail
   refine (HS2.out _).mono ?_
   rintro e w2 ⟨rfl, rfl⟩
   go_wp2_with fail
   exact end_at rfl _ w.heap.size (HK2.out.set) rfl rfl rfl rfl ⟨by rw [← HR.out]; rfl, below_atSet HBB.out (Nat.le_refl _) _ _⟩
  have hlt4 : a4 < l.length := by omega
  have qe : ((a4 : Int) == (l.length : Int)) = false := by rw [beq_eq_false_iff_ne]; omega
  have hlt4' : a4 < (bs l).size := by rw [hsz]; exact hlt4
  have hgt := bs_get l a4 hlt4'
  have hsl4 := slice_one l a4 hlt4
  rw [drop_cons l a4 hlt4] at hR
  generalize l.getD a4 0 = b at *
  obtain ⟨nb, hnb⟩ : ∃ nb, b.toNat = nb := ⟨_, rfl⟩
  have hg : ((bs l)[a4]'hlt4').toNat = nb := by rw [hgt, hnb]
  clear hgt hend
  by_cases hq : b ≠ 34 ∧ b ≠ 39
  ·dsimp only at hR
   rw [if_pos hq] at hR
   have HR : Hid (Sum.inl 13 = R) := Lib.hid hR
   have q1 : ((nb : Int) != 34) = true := by
    rw [bne_iff_ne]; intro hh; exact hq.1 (UInt8.toNat_inj.1 (by rw [show (34 : UInt8).toNat = 34 from rfl]; omega))
   have q2 : ((nb : Int) != 39) = true := by
    rw [bne_iff_ne]; intro hh; exact hq.2 (UInt8.toNat_inj.1 (by rw [show (39 : UInt8).toNat = 39 from rfl]; omega))
   clear hR hq hnb
   go_wp2_with fail
   refine (HS1.out _).mono ?_
   rintro e w2 ⟨rfl, rfl⟩
   go_wp2_with fail
   refine (HMU.out _).mono ?_
   rintro e w2 ⟨rfl, rfl⟩
   go_wp2_with fail
   refine (HS2.out _).mono ?_
   rintro e w2 ⟨rfl, rfl⟩
   go_wp2_with fail
   exact end_at rfl _ w.heap.size (HK2.out.set) rfl rfl rfl rfl ⟨by rw [← HR.out]; rfl, below_atSet HBB.out (Nat.le_refl _) _ _⟩
  rw [HNK.out] at hR
  dsimp only at hR
  rw [if_neg hq] at hR
  have hnb2 : nb = 34 ∨ nb = 39 := by
   by_cases h : b = 34
   ·left; rw [← hnb, h]; rfl
   ·right
    have h2 : b = 39 := by
     by_cases h3 : b = 39
     ·exact h3
     ·exact absurd ⟨h, h3⟩ hq
    rw [← hnb, h2]; rfl
  have hfd := fun W => find_any l [b] (a4 + 1) W hl (by omega) (by simp) (by simp)
  rw [show (((a4 + 1 : Nat)) : Int) = (a4 : Int) + 1 by omega] at hfd
  have hfr := @fnd_range l [b] (a4 + 1)
  have hfu : fnd l [b] (a4 + 1) = if index (l.drop (a4 + 1)) [b] = -1 then -1 else ((a4 + 1 : Nat) : Int) + index (l.drop (a4 + 1)) [b] := rfl
  have hix := index_ge (l.drop (a4 + 1)) [b]
  clear hq hnb
  by_cases hi : index (l.drop (a4 + 1)) [b] = -1
  ·rw [if_pos hi] at hR hfu
   rw [hfu] at hfd
   have HR := Lib.hid hR
   have HF := Lib.hid hfd
   clear hR hfd hfr hfu hix hi
   rcases hnb2 with rfl | rfl
   all_goals
    go_wp2_with fail
    refine (HS1.out _).mono ?_
    rintro e w2 ⟨rfl, rfl⟩
    go_wp2_with fail
    refine (HMU.out _).mono ?_
    rintro e w2 ⟨rfl, rfl⟩
    go_wp2_with fail
    refine (HS2.out _).mono ?_
    rintro e w2 ⟨rfl, rfl⟩
    go_wp2_with fail
    refine (HF.out _).mono ?_
    rintro e w2 ⟨rfl, rfl⟩
    go_wp2_with fail
    exact end_at rfl _ w.heap.size (HK2.out.set) rfl rfl rfl rfl ⟨by rw [← HR.out]; rfl, below_atSet HBB.out (Nat.le_refl _) _ _⟩
  rw [if_neg hi] at hR hfu
  obtain ⟨d, hd⟩ : ∃ d : Nat, index (l.drop (a4 + 1)) [b] = (d : Int) := ⟨(index (l.drop (a4 + 1)) [b]).toNat, by omega⟩
  rw [hd] at hR hfu
  have hfr2 := hfr (by rw [hfu]; omega) (by omega)
  obtain ⟨e5, he5⟩ : ∃ e5, a4 + 1 + d = e5 := ⟨_, rfl⟩
  have hfe : fnd l [b] (a4 + 1) = (e5 : Int) := by rw [hfu]; omega
  rw [hfe] at hfd hfr2
  simp only [List.length_cons, List.length_nil] at hfr2
  have HF := Lib.hid hfd
  have hsl5 := slice_mid6 l (a4 + 1) e5 (by omega) (by omega)
  rw [show (((a4 + 1 : Nat)) : Int) = (a4 : Int) + 1 by omega, show e5 - (a4 + 1) = d by omega] at hsl5
  rw [Int.toNat_natCast] at hR
  have hVl : ((l.drop (a4 + 1)).take d).length ≤ 60000 := by rw [List.length_take, List.length_drop]; omega
  clear hfr hfu hfe hfd hix hi hd
  generalize (l.drop (a4 + 1)).take d = V at *
  have hget := fun W => refGet_any V true W hVl
  generalize getD5 true V = G at *
  obtain ⟨G1, G2⟩ := G
  dsimp only at hget hR
  have HGE := Lib.hid hget
  by_cases hg2 : G2 ≠ 0
  ·rw [if_pos hg2] at hR
   have HR := Lib.hid hR
   have q2 : ((G2 : Int) != 0) = true := by rw [bne_iff_ne]; omega
   clear hR hget hg2
   rcases hnb2 with rfl | rfl
   all_goals
    go_wp2_with fail
    refine (HS1.out _).mono ?_
    rintro e w2 ⟨rfl, rfl⟩
    go_wp2_with fail
    refine (HMU.out _).mono ?_
    rintro e w2 ⟨rfl, rfl⟩
    go_wp2_with fail
    refine (HS2.out _).mono ?_
    rintro e w2 ⟨rfl, rfl⟩
    go_wp2_with fail
    refine (HF.out _).mono ?_
    rintro e w2 ⟨rfl, rfl⟩
    go_wp2_with fail
    refine (HGE.out _).mono ?_
    rintro e w3 ⟨rfl, hb3⟩
    have hk3 := HK2.out.below hb3 h3
    have HK3 := Lib.hid hk3
    clear c0 c1 f0 f1
    obtain ⟨⟨c0, c1⟩, ⟨f0, f1⟩, h4⟩ := hk3
    have HB3 := Lib.hid (HBB.out.trans (hb3.mono (by omega)))
    clear hb3
    go_wp2_with fail
    exact end_at rfl _ w.heap.size (HK3.out.set) rfl rfl rfl rfl ⟨by rw [← HR.out]; rfl, below_atSet HB3.out (Nat.le_refl _) _ _⟩
  ·have hg0 : G2 = 0 := by omega
   subst hg0
   rw [if_neg hg2] at hR
   have HR := Lib.hid hR
   clear hR hget hg2
   rcases hnb2 with rfl | rfl
   all_goals
    go_wp2_with fail
    refine (HS1.out _).mono ?_
    rintro e w2 ⟨rfl, rfl⟩
    go_wp2_with fail
    refine (HMU.out _).mono ?_
    rintro e w2 ⟨rfl, rfl⟩
    go_wp2_with fail
    refine (HS2.out _).mono ?_
    rintro e w2 ⟨rfl, rfl⟩
    go_wp2_with fail
    refine (HF.out _).mono ?_
    rintro e w2 ⟨rfl, rfl⟩
    go_wp2_with fail
    refine (HGE.out _).mono ?_
    rintro e w3 ⟨rfl, hb3⟩
    have hk3 := HK2.out.below hb3 h3
    have HK3 := Lib.hid hk3
    clear c0 c1 f0 f1
    obtain ⟨⟨c0, c1⟩, ⟨f0, f1⟩, h4⟩ := hk3
    have HB3 := Lib.hid (HBB.out.trans (hb3.mono (by omega)))
    clear hb3
    go_wp2_with fail
    refine end_at rfl _ w.heap.size (HK3.out.set) rfl rfl rfl rfl ⟨?_, below_atSet HB3.out (Nat.le_refl _) _ _⟩
    rw [← HR.out]
    show Ending.returned _ = Ending.returned (.tuple #[.agg #[.string (bs N), .string (bs G1)], .int .i64 _, .int .i64 0])
    rw [show ((p + (k + m1 + 1 + m2 + 1 + d + 1) : Nat) : Int) = (e5 : Int) + 1 by omega]
end Char
namespace Char
open Go.RowKit Go.Lib
def tokV (kd : Int) (n t : ByteArray) (ats : Value) (em : Bool) : Value := .agg #[.int .i64 kd, .string n, .string t, ats, .bool em]
def tokC (kd : Int) (n t : ByteArray) (ats : Value) (em : Bool) : Array Value := #[.int .i64 kd, .string n, .string t, ats, .bool em]
def TokAt (g : Nat) (kd : Int) (n t : ByteArray) (ats : Value) (em : Bool) (w : World) : Prop :=
 (w.cell? ⟨g, 0, none⟩ = some (.int .i64 kd) ∧ w.cell? ⟨g, 1, none⟩ = some (.string n) ∧ w.cell? ⟨g, 2, none⟩ = some (.string t) ∧ w.cell? ⟨g, 3, none⟩ = some ats ∧ w.cell? ⟨g, 4, none⟩ = some (.bool em)) ∧
 (w.frozen? ⟨g, 0, none⟩ = false ∧ w.frozen? ⟨g, 1, none⟩ = false ∧ w.frozen? ⟨g, 2, none⟩ = false ∧ w.frozen? ⟨g, 3, none⟩ = false ∧ w.frozen? ⟨g, 4, none⟩ = false) ∧ g < w.heap.size
theorem TokAt.below {g B : Nat} {kd : Int} {n t : ByteArray} {ats : Value} {em : Bool} {w w' : World} (h : TokAt g kd n t ats em w) (hb : Below B w w') (hB : g < B) : TokAt g kd n t ats em w' := by
 obtain ⟨⟨a0, a1, a2, a3, a4⟩, ⟨b0, b1, b2, b3, b4⟩, h3⟩ := h
 have c := fun i => hb.cell (p := ⟨g, i, none⟩) hB
 have f := fun i => hb.frozen (p := ⟨g, i, none⟩) hB
 exact ⟨⟨(c 0).trans a0, (c 1).trans a1, (c 2).trans a2, (c 3).trans a3, (c 4).trans a4⟩, ⟨(f 0).trans b0, (f 1).trans b1, (f 2).trans b2, (f 3).trans b3, (f 4).trans b4⟩, Nat.lt_of_lt_of_le h3 hb.size⟩
theorem TokAt.new (w : World) (kd : Int) (n t : ByteArray) (ats : Value) (em : Bool) : TokAt w.heap.size kd n t ats em (w.alloc (.cells #[.int .i64 kd, .string n, .string t, ats, .bool em] 72)) := by
 refine ⟨⟨?_, ?_, ?_, ?_, ?_⟩, ⟨?_, ?_, ?_, ?_, ?_⟩, by simp⟩
 all_goals go_simp
def tokSet (w : World) (g : Nat) (kd : Int) (n t : ByteArray) (ats : Value) (em : Bool) : World :=
 ((((w.setCell ⟨g, 0, none⟩ (.int .i64 kd)).setCell ⟨g, 1, none⟩ (.string n)).setCell ⟨g, 2, none⟩ (.string t)).setCell ⟨g, 3, none⟩ ats).setCell ⟨g, 4, none⟩ (.bool em)
theorem TokAt.set {g : Nat} {kd kd' : Int} {n t n' t' : ByteArray} {ats ats' : Value} {em em' : Bool} {w : World} (h : TokAt g kd n t ats em w) : TokAt g kd' n' t' ats' em' (tokSet w g kd' n' t' ats' em') := by
 obtain ⟨⟨a0, a1, a2, a3, a4⟩, ⟨b0, b1, b2, b3, b4⟩, h3⟩ := h
 unfold tokSet
 refine ⟨⟨?_, ?_, ?_, ?_, ?_⟩, ⟨?_, ?_, ?_, ?_, ?_⟩, ?_⟩
 all_goals go_simp
theorem below_tokSet {B : Nat} {w0 w : World} (h : Below B w0 w) {g : Nat} (hg : B ≤ g) (kd : Int) (n t : ByteArray) (ats : Value) (em : Bool) : Below B w0 (tokSet w g kd n t ats em) :=
 ((((h.setCell (p := ⟨g, 0, none⟩) hg _).setCell (p := ⟨g, 1, none⟩) hg _).setCell (p := ⟨g, 2, none⟩) hg _).setCell (p := ⟨g, 3, none⟩) hg _).setCell (p := ⟨g, 4, none⟩) hg _
theorem end_tok {fn : Func} {p q : Tmp} (h : fn.results = #[.cell p 72, .tmp q]) {a : Act} {R : Ending → World → Prop} (w1 : World) (g : Nat) {kd : Int} {n t : ByteArray} {ats : Value} {em : Bool} {x : Int}
  (hk : TokAt g kd n t ats em w1) (hp : a.tmps.getD p undef = .pointer (some ⟨g, 0, none⟩)) (hq : a.tmps.getD q undef = .int .i64 x) (hd : a.defers = []) (hR : R (.returned (.tuple #[tokV kd n t ats em, .int .i64 x])) w1) : bodyPost Tryz.prog fn R .ret a w1 := by
 have hp' : a.tmps[p]?.getD undef = .pointer (some ⟨g, 0, none⟩) := by simpa using hp
 have hq' : a.tmps[q]?.getD undef = .int .i64 x := by simpa using hq
 obtain ⟨⟨a0, a1, a2, a3, a4⟩, _, _⟩ := hk
 exact bodyPost_ret (v := .tuple #[tokV kd n t ats em, .int .i64 x]) (by simp [results, h, hp', hq', go_sem, a0, a1, a2, a3, a4, tokV]) hd hR
theorem end_tok2 {fn : Func} {p q r : Tmp} (h : fn.results = #[.cell p 72, .tmp q, .tmp r]) {a : Act} {R : Ending → World → Prop} (w1 : World) (g : Nat) {kd : Int} {n t : ByteArray} {ats : Value} {em : Bool} {x y : Int}
  (hk : TokAt g kd n t ats em w1) (hp : a.tmps.getD p undef = .pointer (some ⟨g, 0, none⟩)) (hq : a.tmps.getD q undef = .int .i64 x) (hr : a.tmps.getD r undef = .int .i64 y) (hd : a.defers = []) (hR : R (.returned (.tuple #[tokV kd n t ats em, .int .i64 x, .int .i64 y])) w1) : bodyPost Tryz.prog fn R .ret a w1 := by
 have hp' : a.tmps[p]?.getD undef = .pointer (some ⟨g, 0, none⟩) := by simpa using hp
 have hq' : a.tmps[q]?.getD undef = .int .i64 x := by simpa using hq
 have hr' : a.tmps[r]?.getD undef = .int .i64 y := by simpa using hr
 obtain ⟨⟨a0, a1, a2, a3, a4⟩, _, _⟩ := hk
 exact bodyPost_ret (v := .tuple #[tokV kd n t ats em, .int .i64 x, .int .i64 y]) (by simp [results, h, hp', hq', hr', go_sem, a0, a1, a2, a3, a4, tokV]) hd hR
end Char
namespace Char
open Go.RowKit Go.Lib
abbrev At2 := List UInt8 × List UInt8
def atsC (qs : List At2) : List Value := qs.flatMap fun x => [.string (bs x.1), .string (bs x.2)]
theorem atsC_len (qs : List At2) : (atsC qs).length = qs.length * 2 := by
 induction qs with
 | nil => rfl
 | cons x r ih =>
  show ((.string (bs x.1)) :: (.string (bs x.2)) :: atsC r).length = _
  rw [List.length_cons, List.length_cons, ih, List.length_cons]
  omega
theorem atsC_snoc (qs : List At2) (x : At2) : atsC (qs ++ [x]) = atsC qs ++ [.string (bs x.1), .string (bs x.2)] := by simp [atsC]
theorem atsC_at : ∀ (qs : List At2) (k : Nat), k < qs.length → (atsC qs)[k * 2]? = some (.string (bs (qs.getD k ([], [])).1)) ∧ (atsC qs)[k * 2 + 1]? = some (.string (bs (qs.getD k ([], [])).2))
 | [], k, h => by simp at h
 | x :: r, 0, _ => ⟨rfl, rfl⟩
 | x :: r, k + 1, h => by
  have ih := atsC_at r k (by simpa using h)
  have e : atsC (x :: r) = .string (bs x.1) :: .string (bs x.2) :: atsC r := rfl
  rw [e, show (k + 1) * 2 = k * 2 + 1 + 1 by omega]
  simpa using ih
def OwnsAt (B : Nat) (w : World) (v : Value) (qs : List At2) : Prop := w.ownsRow B 40 2 v qs.length (atsC qs)
theorem OwnsAt.nil (B : Nat) (w : World) : OwnsAt B w (.slice none 0 0) [] := World.ownsRow_nil _ _ _ _
theorem info_at : (Tryz.prog.info? 40).map (fun i => (i.zero, i.size, i.bytes)) = some (some (.agg #[.string ⟨#[]⟩, .string ⟨#[]⟩]), 2, 32) := by kernel_rfl
theorem wpList_pushAt {ops : Array Oper} {rest : List Oper} {o : Oper} {a : Act} {Q : Exit → Act → World → Prop} {B : Nat} {W w : World} {v : Value} {qs : List At2}
  (hgd : o.guard = none) (s x : Operand) (ho : o.op = .call { callee := .builtin .append, args := #[s, x], argTypes := #[22, 22] })
  (n t : List UInt8) (hown : OwnsAt B W v qs) (hs : a.eval s = v) (hx : a.eval x = .slice (some ⟨W.heap.size, 0, none⟩) 1 1) (hB : B ≤ W.heap.size) (hb : Below B w W) (hlen : qs.length ≤ 1000)
  (h : ∀ v' w1, OwnsAt B w1 v' (qs ++ [(n, t)]) → Below B w w1 → (∀ k, k < W.heap.size → some k ≠ v.ownBlock → w1.heap[k]? = W.heap[k]?) → W.heap.size ≤ w1.heap.size → wpList Tryz.prog ops Q rest (a.put o.dst v') w1) :
  wpList Tryz.prog ops Q (o :: rest) a (W.alloc (.cells #[.string (bs n), .string (bs t)] 40)) := by
 obtain ⟨i0, hi, hz0, hz1, hz2⟩ := info_parts info_at
 refine wpList_append_own _ hgd s x 22 ho B 40 i0 (.agg #[.string ⟨#[]⟩, .string ⟨#[]⟩]) 2 32 Tryz.underlying22 hi hz0 hz1 hz2 rfl (by decide) v qs.length (atsC qs) hs (World.ownsRow.alloc hown _) ⟨W.heap.size, 0, none⟩ 1 1 [.string (bs n), .string (bs t)] hx rfl ?_ ?_ ?_ ?_ ?_ ?_
 ·intro j u hj
  match j, hj with
  | 0, hj => simp at hj; subst hj; simp [Addr.add]
  | 1, hj => simp at hj; subst hj; simp [Addr.add]
 ·intro u hu
  simp at hu
  rcases hu with rfl | rfl <;> rfl
 ·unfold maxLen; omega
 ·omega
 ·simp; omega
 ·intro v' w1 hown' hgrow _
  have hsz := hgrow.size
  rw [World.size_alloc] at hsz
  refine h v' w1 ?_ ((hb.alloc hB _).grown hgrow (by simp; omega) (fun k hk => by
   rcases hown.2 with ⟨rfl, _⟩ | ⟨g, cap, cur, rfl, hg, _⟩
   ·simp [Value.ownBlock] at hk
   ·simp [Value.ownBlock] at hk; omega)) (fun k hk hne => ?_) (by omega)
  ·unfold OwnsAt
   rw [List.length_append, atsC_snoc]
   exact hown'
  ·rw [hgrow.block k (by simp; omega) (fun e => hne e)]
   exact Below.heap_alloc W _ k hk
def tagN : Nat → List UInt8 → List At2 → Nat ⊕ (List At2 × Bool × List UInt8)
 | 0, _, _ => .inl 16
 | n + 1, r, qs => match r.drop (spcL r) with
  | [] => .inl 16
  | c :: r2 =>
   if c = 62 then .inr (qs, false, r2)
   else if c = 47 then (if mustL r2 62 ≠ 0 then .inl (mustL r2 62) else .inr (qs, true, r2.drop 1))
   else if spcL r = 0 then .inl 13
   else match attrL (c :: r2) with
    | .inl e => .inl e
    | .inr (m, t, k) => if (qs.map (·.1)).contains m then .inl 15 else if qs.length = 8 then .inl 19 else tagN n ((c :: r2).drop k) (qs ++ [(m, t)])
end Char
namespace Char
open Go.RowKit Go.Lib
theorem attrL_pos {r n t : List UInt8} {k : Nat} (h : attrL r = .inr (n, t, k)) : 1 ≤ k := by
 unfold attrL at h
 split at h
 ·cases h
 ·split at h
  ·cases h
  ·unfold attrL.valL attrL.quoL at h
   split at h
   ·cases h
   ·split at h
    ·cases h
    ·split at h
     ·cases h
     ·split at h
      ·cases h
      ·simp only [Sum.inr.injEq, Prod.mk.injEq] at h
       omega
theorem tagN_fuel : ∀ (n m : Nat) (r : List UInt8) (qs : List At2), r.length < n → r.length < m → tagN n r qs = tagN m r qs
 | 0, _, r, _, h, _ => by omega
 | n + 1, 0, r, _, _, h => by omega
 | n + 1, m + 1, r, qs, hn, hm => by
  unfold tagN
  have hsp : (r.drop (spcL r)).length ≤ r.length := by rw [List.length_drop]; omega
  cases hd : r.drop (spcL r) with
  | nil => rfl
  | cons c r2 =>
   rw [hd, List.length_cons] at hsp
   dsimp only
   split
   ·rfl
   ·split
    ·rfl
    ·split
     ·rfl
     ·cases ha : attrL (c :: r2) with
      | inl e => rfl
      | inr x =>
       obtain ⟨a, b, k⟩ := x
       have hk := attrL_pos ha
       dsimp only
       split
       ·rfl
       ·split
        ·rfl
        ·exact tagN_fuel n m _ _ (by rw [List.length_drop, List.length_cons]; omega) (by rw [List.length_drop, List.length_cons]; omega)
def tagF (r : List UInt8) (qs : List At2) : Nat ⊕ (List At2 × Bool × List UInt8) := tagN (r.length + 1) r qs
theorem tagF_eq (r : List UInt8) (qs : List At2) : tagF r qs = match r.drop (spcL r) with
  | [] => .inl 16
  | c :: r2 =>
   if c = 62 then .inr (qs, false, r2)
   else if c = 47 then (if mustL r2 62 ≠ 0 then .inl (mustL r2 62) else .inr (qs, true, r2.drop 1))
   else if spcL r = 0 then .inl 13
   else match attrL (c :: r2) with
    | .inl e => .inl e
    | .inr (m, t, k) => if (qs.map (·.1)).contains m then .inl 15 else if qs.length = 8 then .inl 19 else tagF ((c :: r2).drop k) (qs ++ [(m, t)]) := by
 unfold tagF
 conv => lhs; unfold tagN
 have hsp : (r.drop (spcL r)).length ≤ r.length := by rw [List.length_drop]; omega
 cases hd : r.drop (spcL r) with
 | nil => rfl
 | cons c r2 =>
  rw [hd, List.length_cons] at hsp
  dsimp only
  split
  ·rfl
  ·split
   ·rfl
   ·split
    ·rfl
    ·cases ha : attrL (c :: r2) with
     | inl e => rfl
     | inr x =>
      obtain ⟨a, b, k⟩ := x
      have hk := attrL_pos ha
      dsimp only
      split
      ·rfl
      ·split
       ·rfl
       ·exact tagN_fuel _ _ _ _ (by rw [List.length_drop, List.length_cons]; omega) (by omega)
def tagL (r : List UInt8) : Nat ⊕ (List UInt8 × List At2 × Bool × List UInt8) :=
 if nmE r ≠ 0 then .inl (nmE r) else match tagF (r.drop (runL r)) [] with
  | .inl e => .inl e
  | .inr (qs, em, rest) => .inr (r.take (runL r), qs, em, rest)
def StPost (l : List UInt8) (p : Nat) (w : World) (e : Ending) (w' : World) : Prop := match tagL (l.drop p) with
 | .inl err => (∃ (kd x : Int) (n t : ByteArray) (o : Option Addr) (i j : Nat) (em : Bool), e = .returned (.tuple #[tokV kd n t (.slice o i j) em, .int .i64 x, .int .i64 (err : Int)])) ∧ Below w.heap.size w w'
 | .inr (n, qs, em, rest) => ∃ (p' : Nat) (av : Value), p' ≤ l.length ∧ l.drop p' = rest ∧ e = .returned (.tuple #[tokV 1 (bs n) ⟨#[]⟩ av em, .int .i64 (p' : Int), .int .i64 0]) ∧ OwnsAt w.heap.size w' av qs ∧ Below w.heap.size w w'
end Char
namespace Char
open Go.RowKit Go.Lib
def piL (s : List UInt8) : Nat ⊕ (List UInt8 × List UInt8) :=
 if nmD (bs (s.take (runL s))) = false ∨ smallL (s.take (runL s)) = [120, 109, 108] then .inl 11
 else if runL s < s.length ∧ spcL (s.drop (runL s)) = 0 then .inl 13
 else .inr (s.take (runL s), s.drop (runL s + spcL (s.drop (runL s))))
def piV (r : Nat ⊕ (List UInt8 × List UInt8)) : Value := match r with
 | .inl e => .tuple #[tokV 0 ⟨#[]⟩ ⟨#[]⟩ (.slice none 0 0) false, .int .i64 (e : Int)]
 | .inr (n, t) => .tuple #[tokV 5 (bs n) (bs t) (.slice none 0 0) false, .int .i64 0]
set_option maxRecDepth 100000 in
set_option maxHeartbeats 8000000 in
theorem pi_any (s : List UInt8) (w : World) (hl : s.length ≤ 60000) :
  Calls Tryz.prog 95 #[.string (bs s)] w fun e w' => e = .returned (piV (piL s)) ∧ Below w.heap.size w w' := by
 have hsz := bs_size s
 have HRU := Lib.hid (fun W => run_any s 0 W hl (Nat.zero_le _))
 have hrl := run_le _ s (Nat.le_refl _)
 rw [List.drop_zero, Nat.zero_add] at HRU
 have hpi : ∃ R, piL s = R := ⟨_, rfl⟩
 obtain ⟨R, hR⟩ := hpi
 rw [hR]
 unfold piL at hR
 obtain ⟨k, hk⟩ : ∃ k, runL s = k := ⟨_, rfl⟩
 rw [hk] at HRU hrl hR
 have hsp := fun W => spaces_any s k W hl hrl
 have hspl := spc_le (s.drop k)
 rw [List.length_drop] at hspl
 have hsl : ∀ wx, (Instr.slice 9 (.string (bs s)) none (some (.int .i64 (k : Int))) none).run Tryz.prog wx = .ok (.string (bs (s.take k))) wx := fun wx => by
  have := run_slice_string_h (P := Tryz.prog) wx 9 (bs s) Tryz.underlying9 .i64 (k : Int) (by omega) (by omega)
  rw [this, show (k : Int).toNat = k by omega, bs_ext]
  rfl
 have hNl : (s.take k).length ≤ 60000 := by rw [List.length_take]; omega
 obtain ⟨m, hm⟩ : ∃ m, spcL (s.drop k) = m := ⟨_, rfl⟩
 rw [hm] at hsp hspl hR
 have hsl2 := slice_from s (k + m) (by omega)
 rw [show (((k + m : Nat)) : Int) = (k : Int) + (m : Int) by omega] at hsl2 hsp
 generalize s.take k = N at *
 generalize s.drop (k + m) = T at *
 clear hm hk
 have hnm := fun W => refName_any (bs N) W (by rw [bs_size]; omega)
 have hsm := fun W => small_any N W hNl
 generalize nmD (bs N) = v at *
 have HSP := Lib.hid hsp
 have HSM := Lib.hid hsm
 have HT0 := Lib.hid (TokAt.new w 0 ⟨#[]⟩ ⟨#[]⟩ (.slice none 0 0) false)
 obtain ⟨W0, hW0⟩ : ∃ W0, W0 = w.alloc (.cells #[.int .i64 0, .string ⟨#[]⟩, .string ⟨#[]⟩, .slice none 0 0, .bool false] 72) := ⟨_, rfl⟩
 have HB0 : Hid (Below w.heap.size w W0) := Lib.hid (by rw [hW0]; exact (Below.refl _ _).alloc (Nat.le_refl _) _)
 have HW0 := Lib.hid hW0
 rw [← hW0] at HT0
 have hlt0 : w.heap.size < W0.heap.size := by rw [hW0]; simp
 clear hW0 hsp hsm
 go_enter Tryz.func95, Tryz.ntmps95
 go_wp2_with fail
 rw [← HW0.out]
 refine (HRU.out _).mono ?_
 rintro e w1 ⟨rfl, hb1⟩
 go_wp2_with fail
 cases v with
 | false =>
  have HR := Lib.hid (show Sum.inl 11 = R by rw [← hR, if_pos (.inl rfl)])
  have HNM := Lib.hid hnm
  clear hR hnm
  refine (HNM.out _).mono ?_
  rintro e w2 ⟨rfl, hb2⟩
  have b12 := hb1.trans (hb2.mono hb1.size)
  have hk2 := HT0.out.below b12 hlt0
  have HK2 := Lib.hid hk2
  obtain ⟨⟨a0, a1, a2, a3, a4⟩, ⟨f0, f1, f2, f3, f4⟩, h3⟩ := hk2
  have HBB := Lib.hid (HB0.out.trans (b12.mono (by omega)))
  clear b12 hb1 hb2
  go_wp2_with fail
  exact end_tok rfl _ w.heap.size (HK2.out.set) rfl rfl rfl ⟨by rw [← HR.out]; rfl, below_tokSet HBB.out (Nat.le_refl _) _ _ _ _ _⟩
 | true =>
  have HNM := Lib.hid hnm
  clear hnm
  refine (HNM.out _).mono ?_
  rintro e w2 ⟨rfl, hb2⟩
  have b12 := hb1.trans (hb2.mono hb1.size)
  clear hb1 hb2
  go_wp2_with fail
  refine (HSM.out _).mono ?_
  rintro e w3 ⟨rfl, hb3⟩
  have b13 := b12.trans (hb3.mono b12.size)
  clear hb3 b12
  have hk2 := HT0.out.below b13 hlt0
  have HK2 := Lib.hid hk2
  obtain ⟨⟨a0, a1, a2, a3, a4⟩, ⟨f0, f1, f2, f3, f4⟩, h3⟩ := hk2
  have HBB := Lib.hid (HB0.out.trans (b13.mono (by omega)))
  clear b13
  by_cases hx : smallL N = [120, 109, 108]
  ·have HR := Lib.hid (show Sum.inl 11 = R by rw [← hR, if_pos (.inr hx)])
   have q : ((bs (smallL N)).toList == [120, 109, 108]) = true := by rw [bs_tl, hx]; simp
   clear hR hx
   generalize bs (smallL N) = S at *
   go_wp2_with fail
   exact end_tok rfl _ w.heap.size (HK2.out.set) rfl rfl rfl ⟨by rw [← HR.out]; rfl, below_tokSet HBB.out (Nat.le_refl _) _ _ _ _ _⟩
  ·have q : ((bs (smallL N)).toList == [120, 109, 108]) = false := by rw [bs_tl]; simpa using hx
   rw [if_neg (by rintro (h | h); cases h; exact hx h)] at hR
   clear hx
   generalize bs (smallL N) = S at *
   go_wp2_with fail
   refine (HSP.out _).mono ?_
   rintro e w4 ⟨rfl, rfl⟩
   by_cases hc : k < s.length ∧ m = 0
   ·have HR := Lib.hid (show Sum.inl 13 = R by rw [← hR, if_pos hc])
    obtain ⟨hc1, rfl⟩ := hc
    have q2 : ((k : Int) + ((0 : Nat) : Int) == (k : Int)) = true := by rw [beq_iff_eq]; omega
    clear hR
    go_wp2_with fail
    exact end_tok rfl _ w.heap.size (HK2.out.set) rfl rfl rfl ⟨by rw [← HR.out]; rfl, below_tokSet HBB.out (Nat.le_refl _) _ _ _ _ _⟩
   ·rw [if_neg hc] at hR
    have HR := Lib.hid hR
    clear hR
    have hc2 : ¬ k < s.length ∨ (k < s.length ∧ ((k : Int) + (m : Int) == (k : Int)) = false) := by
     by_cases h1 : k < s.length
     ·exact .inr ⟨h1, by rw [beq_eq_false_iff_ne]; omega⟩
     ·exact .inl h1
    clear hc
    rcases hc2 with h1 | ⟨h1, h2⟩
    all_goals
     go_wp2_with fail
     exact end_tok rfl _ w.heap.size (HK2.out.set) rfl rfl rfl ⟨by rw [← HR.out]; rfl, below_tokSet HBB.out (Nat.le_refl _) _ _ _ _ _⟩
end Char
namespace Char
open Go.RowKit Go.Lib
structure Tk where
 kd : Int
 nm : List UInt8
 tx : List UInt8
 ats : List At2
 em : Bool
def txtP (r : List UInt8) : Nat ⊕ (Tk × List UInt8) :=
 if (getD5 false (r.take (ltL r))).2 ≠ 0 then .inl (getD5 false (r.take (ltL r))).2 else .inr (⟨3, [], (getD5 false (r.take (ltL r))).1, [], false⟩, r.drop (ltL r))
def comP (r : List UInt8) : Nat ⊕ (Tk × List UInt8) :=
 if index r [45, 45] = -1 then .inl 16 else
 if [62].isPrefixOf (r.drop ((index r [45, 45]).toNat + 2)) then .inr (⟨4, [], r.take (index r [45, 45]).toNat, [], false⟩, r.drop ((index r [45, 45]).toNat + 3)) else .inl 13
def datP (r : List UInt8) : Nat ⊕ (Tk × List UInt8) :=
 if index r [93, 93, 62] = -1 then .inl 16 else .inr (⟨3, [], r.take (index r [93, 93, 62]).toNat, [], false⟩, r.drop ((index r [93, 93, 62]).toNat + 3))
def insP (r : List UInt8) : Nat ⊕ (Tk × List UInt8) :=
 if index r [63, 62] = -1 then .inl 16 else
 match piL (r.take (index r [63, 62]).toNat) with
 | .inl e => .inl e
 | .inr (n, t) => .inr (⟨5, n, t, [], false⟩, r.drop ((index r [63, 62]).toNat + 2))
def endP (r : List UInt8) : Nat ⊕ (Tk × List UInt8) :=
 if nmE r ≠ 0 then .inl (nmE r) else
 if mustL (r.drop (runL r + spcL (r.drop (runL r)))) 62 ≠ 0 then .inl (mustL (r.drop (runL r + spcL (r.drop (runL r)))) 62) else
 .inr (⟨2, r.take (runL r), [], [], false⟩, r.drop (runL r + spcL (r.drop (runL r)) + 1))
def staP (r : List UInt8) : Nat ⊕ (Tk × List UInt8) := match tagL r with
 | .inl e => .inl e
 | .inr (n, qs, em, rest) => .inr (⟨1, n, [], qs, em⟩, rest)
def oneP (r : List UInt8) : Nat ⊕ (Tk × List UInt8) :=
 if [60, 33, 45, 45].isPrefixOf r then comP (r.drop 4)
 else if [60, 33, 91, 67, 68, 65, 84, 65, 91].isPrefixOf r then datP (r.drop 9)
 else if [60, 63].isPrefixOf r then insP (r.drop 2)
 else if [60, 47].isPrefixOf r then endP (r.drop 2)
 else if [60, 33].isPrefixOf r then .inl 13
 else if [60].isPrefixOf r then staP (r.drop 1)
 else txtP r
theorem drop_lt {l : List UInt8} {k : Nat} (h0 : 0 < l.length) (hk : 0 < k) : (l.drop k).length < l.length := by rw [List.length_drop]; omega
theorem tagN_le : ∀ (n : Nat) (r : List UInt8) (qs qs' : List At2) (em : Bool) (rest : List UInt8), tagN n r qs = .inr (qs', em, rest) → rest.length ≤ r.length
 | 0, _, _, _, _, _, h => by cases h
 | n + 1, r, qs, qs', em, rest, h => by
  unfold tagN at h
  have hsp : (r.drop (spcL r)).length ≤ r.length := by rw [List.length_drop]; omega
  cases hd : r.drop (spcL r) with
  | nil => rw [hd] at h; cases h
  | cons c r2 =>
   rw [hd] at h
   rw [hd, List.length_cons] at hsp
   dsimp only at h
   split at h
   ·simp only [Sum.inr.injEq, Prod.mk.injEq] at h
    rw [← h.2.2]; omega
   ·split at h
    ·split at h
     ·cases h
     ·simp only [Sum.inr.injEq, Prod.mk.injEq] at h
      rw [← h.2.2, List.length_drop]; omega
    ·split at h
     ·cases h
     ·cases ha : attrL (c :: r2) with
      | inl e => rw [ha] at h; cases h
      | inr x =>
       obtain ⟨m, t, k⟩ := x
       rw [ha] at h
       dsimp only at h
       split at h
       ·cases h
       ·split at h
        ·cases h
        ·have := tagN_le n _ _ _ _ _ h
         rw [List.length_drop, List.length_cons] at this
         omega
theorem tagL_le {r n : List UInt8} {qs : List At2} {em : Bool} {rest : List UInt8} (h : tagL r = .inr (n, qs, em, rest)) : rest.length ≤ r.length := by
 unfold tagL at h
 split at h
 ·cases h
 ·cases hf : tagF (r.drop (runL r)) [] with
  | inl e => rw [hf] at h; cases h
  | inr x =>
   obtain ⟨qs1, em1, rest1⟩ := x
   rw [hf] at h
   simp only [Sum.inr.injEq, Prod.mk.injEq] at h
   have := tagN_le _ _ _ _ _ _ hf
   rw [List.length_drop] at this
   rw [← h.2.2.2]
   omega
theorem pre_pos {m l : List UInt8} (h : m.isPrefixOf l = true) (hm : 0 < m.length) : 0 < l.length := by
 have := (List.isPrefixOf_iff_prefix.1 h).length_le
 omega
theorem oneP_lt {r : List UInt8} {t : Tk} {rest : List UInt8} (hne : r ≠ []) (h : oneP r = .inr (t, rest)) : rest.length < r.length := by
 have hl : 0 < r.length := List.length_pos_iff.2 hne
 unfold oneP at h
 split at h
 ·have h1 := drop_lt hl (k := 4) (by omega)
  unfold comP at h
  split at h
  ·cases h
  ·split at h
   ·simp only [Sum.inr.injEq, Prod.mk.injEq] at h
    rw [← h.2, List.length_drop]; omega
   ·cases h
 ·split at h
  ·have h1 := drop_lt hl (k := 9) (by omega)
   unfold datP at h
   split at h
   ·cases h
   ·simp only [Sum.inr.injEq, Prod.mk.injEq] at h
    rw [← h.2, List.length_drop]; omega
  ·split at h
   ·have h1 := drop_lt hl (k := 2) (by omega)
    unfold insP at h
    split at h
    ·cases h
    ·split at h
     ·cases h
     ·simp only [Sum.inr.injEq, Prod.mk.injEq] at h
      rw [← h.2, List.length_drop]; omega
   ·split at h
    ·have h1 := drop_lt hl (k := 2) (by omega)
     unfold endP at h
     split at h
     ·cases h
     ·split at h
      ·cases h
      ·simp only [Sum.inr.injEq, Prod.mk.injEq] at h
       rw [← h.2, List.length_drop]; omega
    ·split at h
     ·cases h
     ·split at h
      ·have h1 := drop_lt hl (k := 1) (by omega)
       unfold staP at h
       split at h
       ·cases h
       ·rename_i ht
        have := tagL_le ht
        simp only [Sum.inr.injEq, Prod.mk.injEq] at h
        rw [← h.2]
        omega
      ·rename_i h6
       unfold txtP at h
       split at h
       ·cases h
       ·simp only [Sum.inr.injEq, Prod.mk.injEq] at h
        rw [← h.2, List.length_drop]
        have : 0 < ltL r := by
         cases r with
         | nil => exact absurd rfl hne
         | cons b t =>
          unfold ltL
          rw [List.takeWhile_cons, if_pos, List.length_cons]
          ·omega
          ·unfold noL
           rw [bne_iff_ne]
           rintro rfl
           exact h6 (by simp [List.isPrefixOf])
        omega
def scanN : Nat → List UInt8 → List Tk → Nat ⊕ List Tk
 | 0, _, acc => .inr acc
 | n + 1, r, acc => if r = [] then .inr acc else match oneP r with
  | .inl e => .inl e
  | .inr (t, rest) => scanN n rest (acc ++ [t])
theorem scanN_fuel : ∀ (n m : Nat) (r : List UInt8) (acc : List Tk), r.length < n → r.length < m → scanN n r acc = scanN m r acc
 | 0, _, _, _, h, _ => by omega
 | _ + 1, 0, _, _, _, h => by omega
 | n + 1, m + 1, r, acc, hn, hm => by
  unfold scanN
  split
  ·rfl
  ·rename_i hne
   cases ho : oneP r with
   | inl e => rfl
   | inr x =>
    obtain ⟨t, rest⟩ := x
    have := oneP_lt hne ho
    exact scanN_fuel n m rest _ (by omega) (by omega)
def scanF (r : List UInt8) (acc : List Tk) : Nat ⊕ List Tk := scanN (r.length + 1) r acc
theorem scanF_nil (acc : List Tk) : scanF [] acc = .inr acc := rfl
theorem scanF_err {r : List UInt8} {acc : List Tk} {e : Nat} (hne : r ≠ []) (h : oneP r = .inl e) : scanF r acc = .inl e := by
 unfold scanF scanN
 rw [if_neg hne, h]
theorem scanF_ok {r rest : List UInt8} {acc : List Tk} {t : Tk} (hne : r ≠ []) (h : oneP r = .inr (t, rest)) : scanF r acc = scanF rest (acc ++ [t]) := by
 have hl := oneP_lt hne h
 have e : scanF r acc = scanN r.length rest (acc ++ [t]) := by
  unfold scanF
  conv => lhs; unfold scanN
  rw [if_neg hne, h]
 rw [e]
 exact scanN_fuel _ _ _ _ hl (by omega)
def scanL (s : List UInt8) : Nat ⊕ List Tk := if 4000 < s.length then .inl 3 else if txD s = false then .inl 10 else scanF (linesL s) []
end Char
end Go.Proofs.YtlmodgnkmlbjhaaGreatDoor
