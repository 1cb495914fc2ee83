import Derived.Test.YtlmodgnkmlbjhaaGreatDoorPkAts
import Derived.Deep.RegionWith
import Derived.Deep.QuietTactic
import Derived.BigQuiet
namespace Go.Proofs.YtlmodgnkmlbjhaaGreatDoor
namespace Char
open Go.RowKit Go.Lib
def StK (l : List UInt8) (w : World) (T : Nat) (n : List UInt8) (G : Nat ⊕ (List At2 × Bool × List UInt8)) (a : Nat) (qs : List At2) (av : Value) (wr : World) : Prop :=
 a ≤ l.length ∧ TokAt w.heap.size 0 ⟨#[]⟩ ⟨#[]⟩ (.slice none 0 0) false wr ∧ TokAt T 1 (bs n) ⟨#[]⟩ av false wr ∧ OwnsAt (T + 1) wr av qs ∧ Below w.heap.size w wr ∧ qs.length ≤ 8 ∧ tagF (l.drop a) qs = G ∧ w.heap.size < T
theorem OwnsAt.keep {B : Nat} {w w' : World} {v : Value} {qs : List At2} (h : OwnsAt B w v qs) (hk : ∀ k, B ≤ k → k < w.heap.size → w'.heap[k]? = w.heap[k]?) : OwnsAt B w' v qs := by
 refine ⟨h.1, ?_⟩
 rcases h.2 with h0 | ⟨g, cap, cur, e1, e2, hg, e3⟩
 ·exact .inl h0
 ·exact .inr ⟨g, cap, cur, e1, e2, (hk g e2 (Array.getElem?_eq_some_iff.1 hg).1).trans hg, e3⟩
theorem OwnsAt.form {B : Nat} {w : World} {v : Value} {qs : List At2} (h : OwnsAt B w v qs) : ∃ o i j, v = .slice o i j := by
 rcases h.2 with ⟨h0, _⟩ | ⟨g, cap, cur, e1, _⟩
 ·exact ⟨_, _, _, h0⟩
 ·exact ⟨_, _, _, e1⟩
theorem OwnsAt.low {B B' : Nat} {w : World} {v : Value} {qs : List At2} (h : OwnsAt B w v qs) (hB : B' ≤ B) : OwnsAt B' w v qs := by
 refine ⟨h.1, ?_⟩
 rcases h.2 with h0 | ⟨g, cap, cur, e1, e2, hg, e3⟩
 ·exact .inl h0
 ·exact .inr ⟨g, cap, cur, e1, by omega, hg, e3⟩
theorem tokSet_block (w : World) (g : Nat) (kd : Int) (n t : ByteArray) (ats : Value) (em : Bool) (k : Nat) (h : k ≠ g) : (tokSet w g kd n t ats em).heap[k]? = w.heap[k]? := by
 unfold tokSet
 rw [Below.heap_setCell _ _ _ _ h, Below.heap_setCell _ _ _ _ h, Below.heap_setCell _ _ _ _ h, Below.heap_setCell _ _ _ _ h, Below.heap_setCell _ _ _ _ h]
def FinP (l : List UInt8) (w : World) (n : List UInt8) (P : Ending → World → Prop) : Nat ⊕ (List At2 × Bool × List UInt8) → Prop
 | .inl err => ∀ (W : World) (kd x : Int) (n t : ByteArray) (o : Option Addr) (i j : Nat) (em : Bool), Below w.heap.size w W → P (.returned (.tuple #[tokV kd n t (.slice o i j) em, .int .i64 x, .int .i64 (err : Int)])) W
 | .inr (qs, em, rest) => ∀ (W : World) (p' : Nat) (av : Value), p' ≤ l.length → l.drop p' = rest → OwnsAt w.heap.size W av qs → Below w.heap.size w W → P (.returned (.tuple #[tokV 1 (bs n) ⟨#[]⟩ av em, .int .i64 (p' : Int), .int .i64 0])) W
theorem fin_of {l : List UInt8} {p : Nat} {w : World} {n : List UInt8} {G : Nat ⊕ (List At2 × Bool × List UInt8)} (h0 : nmE (l.drop p) = 0) (hn : (l.drop p).take (runL (l.drop p)) = n) (hG : tagF ((l.drop p).drop (runL (l.drop p))) [] = G) : FinP l w n (StPost l p w) G := by
 have e0 : ∀ X : Nat ⊕ (List At2 × Bool × List UInt8), tagF ((l.drop p).drop (runL (l.drop p))) [] = X → tagL (l.drop p) = match X with
   | .inl e => .inl e
   | .inr (qs, em, rest) => .inr (n, qs, em, rest) := by
  intro X hX
  unfold tagL
  rw [if_neg (by omega), hn, hX]
  cases X with
  | inl _ => rfl
  | inr y => rfl
 have e := e0 G hG
 cases G with
 | inl err =>
  intro W kd x n t o i j em hW
  unfold StPost
  rw [e]
  exact ⟨⟨kd, x, n, t, o, i, j, em, rfl⟩, hW⟩
 | inr y =>
  obtain ⟨qs, em, rest⟩ := y
  intro W p' av h1 h2 h3 h4
  unfold StPost
  rw [e]
  exact ⟨p', av, h1, h2, rfl, h3, h4⟩
end Char
namespace Char
open Go.RowKit Go.Lib
theorem attrL_err {r : List UInt8} {e : Nat} (h : attrL r = .inl e) : e ≠ 0 := by
 unfold attrL at h
 split at h
 ·rename_i h0; cases h; exact h0
 ·split at h
  ·rename_i h0; cases h; exact h0
  ·unfold attrL.valL attrL.quoL at h
   split at h
   ·cases h; omega
   ·split at h
    ·cases h; omega
    ·split at h
     ·cases h; omega
     ·split at h
      ·rename_i h0; cases h; exact h0
      ·cases h
theorem attrL_room {r n t : List UInt8} {k : Nat} (h : attrL r = .inr (n, t, k)) : k ≤ r.length := by
 unfold attrL at h
 split at h
 ·cases h
 ·split at h
  ·cases h
  ·unfold attrL.valL attrL.quoL at h
   split at h
   ·cases h
   ·rename_i a q x hq
    split at h
    ·cases h
    ·split at h
     ·cases h
     ·rename_i hi
      split at h
      ·cases h
      ·simp only [Sum.inr.injEq, Prod.mk.injEq] at h
       have hg := index_ge (r.drop (runL r + spcL (r.drop (runL r)) + 1 + spcL (r.drop (runL r + spcL (r.drop (runL r)) + 1)) + 1)) [q]
       have hx := index_room (r.drop (runL r + spcL (r.drop (runL r)) + 1 + spcL (r.drop (runL r + spcL (r.drop (runL r)) + 1)) + 1)) [q] (by omega)
       have hl := congrArg List.length hq
       rw [List.length_drop, List.length_cons] at hl
       rw [List.length_drop] at hx
       simp only [List.length_cons, List.length_nil] at hx
       omega
theorem OwnsAt.reads {B : Nat} {w : World} {oo : Option Addr} {oi oj : Nat} {qs : List At2} (h : OwnsAt B w (.slice oo oi oj) qs) (j : Nat) (hj : j < qs.length) :
  ∃ g, oo = some ⟨g, 0, none⟩ ∧ B ≤ g ∧ g < w.heap.size ∧ w.cell? ⟨g, j * 2, none⟩ = some (.string (bs (qs.getD j ([], [])).1)) ∧ w.cell? ⟨g, j * 2 + 1, none⟩ = some (.string (bs (qs.getD j ([], [])).2)) := by
 have h0 := h
 obtain ⟨_, h1 | ⟨g, cap, cur, e1, e2, hg, _⟩⟩ := h
 ·omega
 ·simp only [Value.slice.injEq] at e1
  have hc := World.ownsRow.cells h0 (g := g) (by rw [e1.1]; rfl)
  obtain ⟨c1, c2⟩ := atsC_at qs j hj
  have k1 := hc _ _ c1
  have k2 := hc _ _ c2
  rw [Addr.add_lit, Nat.zero_add] at k1 k2
  exact ⟨g, e1.1, e2, (Array.getElem?_eq_some_iff.1 hg).1, k1, k2⟩
theorem OwnsAt.len {B : Nat} {w : World} {oo : Option Addr} {oi oj : Nat} {qs : List At2} (h : OwnsAt B w (.slice oo oi oj) qs) : oi = qs.length := by
 obtain ⟨_, ⟨h1, h2⟩ | ⟨g, cap, cur, e1, _⟩⟩ := h
 ·simp only [Value.slice.injEq] at h1; omega
 ·simp only [Value.slice.injEq] at e1; omega
theorem OwnsAt.belowT {B C : Nat} {w w' : World} {v : Value} {qs : List At2} (h : OwnsAt B w v qs) (hb : Below C w w') (hC : w.heap.size ≤ C) : OwnsAt B w' v qs := h.keep (fun k _ hk => hb.block k (by omega))
theorem at_world {w wr w2 : World} {T : Nat} {n : List UInt8} {v : Value} {qs : List At2} (xn xt : ByteArray) (h0 : TokAt w.heap.size 0 ⟨#[]⟩ ⟨#[]⟩ (.slice none 0 0) false wr)
  (ht : TokAt T 1 (bs n) ⟨#[]⟩ v false wr) (ho : OwnsAt (T + 1) wr v qs) (hb : Below w.heap.size w wr) (hb2 : Below wr.heap.size wr w2) :
  TokAt w.heap.size 0 ⟨#[]⟩ ⟨#[]⟩ (.slice none 0 0) false (w2.alloc (.cells #[.string xn, .string xt] 40)) ∧
  TokAt T 1 (bs n) ⟨#[]⟩ v false (w2.alloc (.cells #[.string xn, .string xt] 40)) ∧
  OwnsAt (T + 1) (w2.alloc (.cells #[.string xn, .string xt] 40)) v qs ∧
  Below w.heap.size w (w2.alloc (.cells #[.string xn, .string xt] 40)) ∧
  AtAt w2.heap.size xn xt (w2.alloc (.cells #[.string xn, .string xt] 40)) := by
 have hsz := hb2.size
 have hsz0 := hb.size
 have ha : Below wr.heap.size wr (w2.alloc (.cells #[.string xn, .string xt] 40)) := hb2.alloc hsz _
 exact ⟨h0.below ha h0.2.2, ht.below ha ht.2.2, ho.belowT ha (Nat.le_refl _), hb.trans (ha.mono hsz0), AtAt.new _ _ _⟩
theorem err_world {w wr w2 : World} (C : Array Value) (t : TypeId) (h0 : TokAt w.heap.size 0 ⟨#[]⟩ ⟨#[]⟩ (.slice none 0 0) false wr) (hb : Below w.heap.size w wr) (hb2 : Below wr.heap.size wr w2) :
  TokAt w.heap.size 0 ⟨#[]⟩ ⟨#[]⟩ (.slice none 0 0) false ((tokSet w2 w.heap.size 0 ⟨#[]⟩ ⟨#[]⟩ (.slice none 0 0) false).alloc (.cells C t)) ∧
  Below w.heap.size w ((tokSet w2 w.heap.size 0 ⟨#[]⟩ ⟨#[]⟩ (.slice none 0 0) false).alloc (.cells C t)) := by
 have h2 := h0.below hb2 h0.2.2
 have h3 : TokAt w.heap.size 0 ⟨#[]⟩ ⟨#[]⟩ (.slice none 0 0) false (tokSet w2 w.heap.size 0 ⟨#[]⟩ ⟨#[]⟩ (.slice none 0 0) false) := h2.set
 have h4 := below_tokSet (hb.trans (hb2.mono hb.size)) (Nat.le_refl _) 0 ⟨#[]⟩ ⟨#[]⟩ (.slice none 0 0) false
 generalize tokSet w2 w.heap.size 0 ⟨#[]⟩ ⟨#[]⟩ (.slice none 0 0) false = W at *
 exact ⟨h3.below ((Below.refl _ _).alloc (Nat.le_refl _) _) h3.2.2, h4.alloc h4.size _⟩
theorem TokAt.put3 {g : Nat} {kd : Int} {n t : ByteArray} {v : Value} {em : Bool} {w : World} (h : TokAt g kd n t v em w) (v' : Value) : TokAt g kd n t v' em (w.setCell ⟨g, 3, none⟩ v') := by
 obtain ⟨⟨a0, a1, a2, a3, a4⟩, ⟨b0, b1, b2, b3, b4⟩, h3⟩ := h
 refine ⟨⟨?_, ?_, ?_, ?_, ?_⟩, ⟨?_, ?_, ?_, ?_, ?_⟩, ?_⟩
 all_goals go_simp
theorem below_drewN6 (w : World) : ∀ n, Below w.heap.size w (w.drewN n)
 | 0 => Below.refl _ _
 | n + 1 => (below_drewN6 w n).drew
theorem slash_world {w wr : World} {T : Nat} {n : List UInt8} {oo : Option Addr} {oi oj : Nat} {qs : List At2} (hT : w.heap.size < T) (h0 : TokAt w.heap.size 0 ⟨#[]⟩ ⟨#[]⟩ (.slice none 0 0) false wr)
  (ho : OwnsAt (T + 1) wr (.slice oo oi oj) qs) (hb : Below w.heap.size w wr) :
  TokAt w.heap.size 1 (bs n) ⟨#[]⟩ (.slice oo oi oj) true (tokSet (wr.setCell ⟨T, 4, none⟩ (.bool true)) w.heap.size 1 (bs n) ⟨#[]⟩ (.slice oo oi oj) true).drew ∧
  OwnsAt w.heap.size (tokSet (wr.setCell ⟨T, 4, none⟩ (.bool true)) w.heap.size 1 (bs n) ⟨#[]⟩ (.slice oo oi oj) true).drew (.slice oo oi oj) qs ∧
  Below w.heap.size w (tokSet (wr.setCell ⟨T, 4, none⟩ (.bool true)) w.heap.size 1 (bs n) ⟨#[]⟩ (.slice oo oi oj) true).drew := by
 have hb1 : Below T wr (wr.setCell ⟨T, 4, none⟩ (.bool true)) := (Below.refl T wr).setCell (p := ⟨T, 4, none⟩) (Nat.le_refl _) _
 have hk1 : TokAt w.heap.size 1 (bs n) ⟨#[]⟩ (.slice oo oi oj) true (tokSet (wr.setCell ⟨T, 4, none⟩ (.bool true)) w.heap.size 1 (bs n) ⟨#[]⟩ (.slice oo oi oj) true) := (h0.below hb1 hT).set
 have hbw : Below w.heap.size w (tokSet (wr.setCell ⟨T, 4, none⟩ (.bool true)) w.heap.size 1 (bs n) ⟨#[]⟩ (.slice oo oi oj) true) := below_tokSet (hb.trans (hb1.mono (by omega))) (Nat.le_refl _) 1 (bs n) ⟨#[]⟩ (.slice oo oi oj) true
 have hO : OwnsAt w.heap.size (tokSet (wr.setCell ⟨T, 4, none⟩ (.bool true)) w.heap.size 1 (bs n) ⟨#[]⟩ (.slice oo oi oj) true) (.slice oo oi oj) qs :=
  (ho.keep (fun k hk _ => (tokSet_block _ _ _ _ _ _ _ k (by omega)).trans (Below.heap_setCell _ _ _ _ (by show k ≠ T; omega)))).low (by omega)
 generalize tokSet (wr.setCell ⟨T, 4, none⟩ (.bool true)) w.heap.size 1 (bs n) ⟨#[]⟩ (.slice oo oi oj) true = W at *
 exact ⟨hk1.below ((Below.refl W.heap.size W).drew) hk1.2.2, hO.keep (fun _ _ _ => rfl), hbw.drew⟩
set_option maxRecDepth 100000 in
set_option maxHeartbeats 16000000 in
theorem start_any (l : List UInt8) (p : Nat) (w : World) (hl : l.length ≤ 60000) (hp : p ≤ l.length) :
  Calls Tryz.prog 99 #[.string (bs l), .int .i64 (p : Int)] w (StPost l p w) := by
 have hsz := bs_size l
 obtain ⟨P, hP⟩ : ∃ P, StPost l p w = P := ⟨_, rfl⟩
 rw [hP]
 have hnm := fun W => refname_any l p W hl hp
 unfold NmPost at hnm
 have hrl := run_le _ (l.drop p) (Nat.le_refl _)
 rw [List.length_drop] at hrl
 obtain ⟨k, hk⟩ : ∃ k, runL (l.drop p) = k := ⟨_, rfl⟩
 obtain ⟨E, hE⟩ : ∃ E, nmE (l.drop p) = E := ⟨_, rfl⟩
 rw [hk, hE] at hnm
 rw [hk] at hrl
 obtain ⟨a1, ha1⟩ : ∃ a1, p + k = a1 := ⟨_, rfl⟩
 rw [ha1] at hnm
 have HT0 := Lib.hid (TokAt.new w 0 ⟨#[]⟩ ⟨#[]⟩ (.slice none 0 0) false)
 obtain ⟨W0, hW0⟩ : ∃ W0, W0 = w.alloc (.cells #[.int .i64 0, .string ⟨#[]⟩, .string ⟨#[]⟩, .slice none 0 0, .bool false] 72) := ⟨_, rfl⟩
 have HB0 : Hid (Below w.heap.size w W0) := Lib.hid (by rw [hW0]; exact (Below.refl _ _).alloc (Nat.le_refl _) _)
 have HW0 := Lib.hid hW0
 rw [← hW0] at HT0
 have hlt0 : w.heap.size < W0.heap.size := by rw [hW0]; simp
 clear hW0
 go_enter Tryz.func99, Tryz.ntmps99
 go_wp2_with fail
 rw [← HW0.out]
 by_cases hE0 : E ≠ 0
 ·rw [if_neg hE0] at hnm
  have HNM := Lib.hid hnm
  have HP : Hid (∀ W, Below w.heap.size w W → P (.returned (.tuple #[tokV 0 ⟨#[]⟩ ⟨#[]⟩ (.slice none 0 0) false, .int .i64 0, .int .i64 (E : Int)])) W) := Lib.hid (fun W hW => by
   rw [← hP]
   unfold StPost tagL
   rw [hE, if_pos hE0]
   exact ⟨⟨_, _, _, _, _, _, _, _, rfl⟩, hW⟩)
  have q : ((E : Int) != 0) = true := by rw [bne_iff_ne]; omega
  clear hnm hE hk hE0 hP
  refine (HNM.out _).mono ?_
  rintro e w1 ⟨rfl, hb1⟩
  have hk2 := HT0.out.below hb1 hlt0
  have HK2 := Lib.hid hk2
  obtain ⟨⟨c0, c1, c2, c3, c4⟩, ⟨f0, f1, f2, f3, f4⟩, h3⟩ := hk2
  have HBB := Lib.hid (HB0.out.trans (hb1.mono (by omega)))
  clear hb1
  go_wp2_with fail
  exact end_tok2 rfl _ w.heap.size (HK2.out.set) rfl rfl rfl rfl (HP.out _ (below_tokSet HBB.out (Nat.le_refl _) _ _ _ _ _))
 ·have hE1 : E = 0 := by omega
  subst hE1
  rw [if_pos rfl] at hnm
  have HNM := Lib.hid hnm
  obtain ⟨N, hN⟩ : ∃ N, (l.drop p).take k = N := ⟨_, rfl⟩
  have hsl := slice_mid6 l p a1 (by omega) (by omega)
  rw [show a1 - p = k by omega, hN] at hsl
  obtain ⟨G, hG⟩ : ∃ G, tagF (l.drop a1) [] = G := ⟨_, rfl⟩
  have e1 : (l.drop p).drop k = l.drop a1 := by rw [List.drop_drop, ha1]
  have HP : Hid (FinP l w N P G) := Lib.hid (by
   rw [← hP]
   exact fin_of hE (by rw [hk, hN]) (by rw [hk, e1, hG]))
  clear e1
  clear hnm hE0 hE hk hP hN
  refine (HNM.out _).mono ?_
  rintro e w1 ⟨rfl, hb1⟩
  have HK0 : Hid (StK l w w1.heap.size N G a1 [] (.slice none 0 0) (w1.alloc (.cells #[.int .i64 1, .string (bs N), .string ⟨#[]⟩, .slice none 0 0, .bool false] 72))) := Lib.hid
   ⟨by omega, (HT0.out.below hb1 hlt0).below ((Below.refl _ _).alloc (Nat.le_refl _) _) (by have := hb1.size; omega), TokAt.new _ _ _ _ _ _, OwnsAt.nil _ _, (HB0.out.trans (hb1.mono (by omega))).alloc (by have := hb1.size; omega) _, by simp, hG, by have := hb1.size; omega⟩
  have hT1 : w.heap.size < w1.heap.size := by have := hb1.size; omega
  clear hb1 hG
  go_wp2_with fail
  go_loopw [1] (fun v wr => ∃ (a : Nat) (qs : List At2) (o : Option Addr) (i j : Nat), v = .int .i64 (a : Int) ∧ StK l w w1.heap.size N G a qs (.slice o i j) wr) (fun v _ => l.length - (RowKit.intOf v).toNat)
  case atStart => exact ⟨a1, [], _, _, _, rfl, HK0.out⟩
  case round =>
   obtain ⟨a, qs, oo, oi, oj, rfl, hk⟩ := hrel
   have HK := Lib.hid hk
   obtain ⟨hal, hR0, hTk, hown, hbw, hq8, hgf, _⟩ := hk
   rw [tagF_eq] at hgf
   have hs1 := fun W => spaces_any l a W hl hal
   have hl1 := spc_le (l.drop a)
   rw [List.length_drop] at hl1
   obtain ⟨m, hm⟩ : ∃ m, spcL (l.drop a) = m := ⟨_, rfl⟩
   rw [hm] at hs1 hl1 hgf
   obtain ⟨a2, ha2⟩ : ∃ a2, a + m = a2 := ⟨_, rfl⟩
   rw [ha2] at hs1
   have e1 : (l.drop a).drop m = l.drop a2 := by rw [List.drop_drop, ha2]
   rw [e1] at hgf
   have HS1 := Lib.hid hs1
   clear hs1 e1 hm HK0
   have HR0 := Lib.hid hR0
   obtain ⟨⟨c0, c1, c2, c3, c4⟩, ⟨f0, f1, f2, f3, f4⟩, h3⟩ := hR0
   by_cases hend : a2 = l.length
   ·rw [List.drop_eq_nil_of_le (show l.length ≤ a2 by omega)] at hgf
    have hgf2 : Sum.inl 16 = G := hgf
    rw [← hgf2] at HP
    have HPE := Lib.hid (HP.out)
    have q : ((a2 : Int) == (l.length : Int)) = true := by rw [beq_iff_eq]; omega
    have HBB := Lib.hid hbw
    clear hgf hgf2 hend hown hbw hTk
    go_wp2_with fail
    refine (HS1.out _).mono ?_
    rintro e w2 ⟨rfl, rfl⟩
    go_wp2_with fail
    exact end_tok2 rfl _ w.heap.size (HR0.out.set) rfl rfl rfl rfl (HPE.out _ _ _ _ _ _ _ _ _ (below_tokSet HBB.out (Nat.le_refl _) _ _ _ _ _))
   have hlt : a2 < l.length := by omega
   have qe : ((a2 : Int) == (l.length : Int)) = false := by rw [beq_eq_false_iff_ne]; omega
   have hlt' : a2 < (bs l).size := by rw [hsz]; exact hlt
   have hgt := bs_get l a2 hlt'
   have hdc := drop_cons l a2 hlt
   rw [hdc] at hgf
   generalize l.getD a2 0 = b at *
   obtain ⟨nb, hnb⟩ : ∃ nb, b.toNat = nb := ⟨_, rfl⟩
   have hg : ((bs l)[a2]'hlt').toNat = nb := by rw [hgt, hnb]
   have HTK := Lib.hid hTk
   obtain ⟨⟨d0, d1, d2, d3, d4⟩, ⟨g0, g1, g2, g3, g4⟩, h4⟩ := hTk
   have HOWN := Lib.hid hown
   have HBB := Lib.hid hbw
   clear hgt hend hown hbw
   by_cases h62 : b = 62
   ·have hgf2 : Sum.inr (qs, false, l.drop (a2 + 1)) = G := by
     rw [← hgf]
     show _ = (if b = 62 then _ else _)
     rw [if_pos h62]
    rw [← hgf2] at HP
    have HPE := Lib.hid HP.out
    have q : ((nb : Int) == 62) = true := by rw [← hnb, h62]; rfl
    clear hgf hgf2 h62 hnb
    go_wp2_with fail
    refine (HS1.out _).mono ?_
    rintro e w2 ⟨rfl, rfl⟩
    go_wp2_with fail
    have hfin := HPE.out (tokSet wr w.heap.size 1 (bs N) ⟨#[]⟩ (.slice oo oi oj) false) (a2 + 1) (.slice oo oi oj) (by omega) rfl ((HOWN.out.keep (fun k hk _ => tokSet_block _ _ _ _ _ _ _ k (by omega))).low (by omega)) (below_tokSet HBB.out (Nat.le_refl _) _ _ _ _ _)
    rw [show (((a2 + 1 : Nat)) : Int) = (a2 : Int) + 1 by omega] at hfin
    exact end_tok2 rfl _ w.heap.size (HR0.out.set) rfl rfl rfl rfl hfin
   by_cases h47 : b = 47
   ·have q62 : ((nb : Int) == 62) = false := by rw [← hnb, h47]; rfl
    have q47 : ((nb : Int) == 47) = true := by rw [← hnb, h47]; rfl
    have hmu : ∀ W : World, Calls Tryz.prog 98 #[.string (bs l), .int .i64 ((a2 + 1 : Nat) : Int), .int .u8 62] W fun e w' => e = .returned (.int .i64 (mustL (l.drop (a2 + 1)) 62 : Int)) ∧ W = w' := fun W => must_any l (a2 + 1) 62 W
    obtain ⟨M, hM⟩ : ∃ M, mustL (l.drop (a2 + 1)) 62 = M := ⟨_, rfl⟩
    have HPE : Hid (∀ W, Below w.heap.size w W → OwnsAt w.heap.size W (.slice oo oi oj) qs → P (.returned (.tuple #[tokV 1 (bs N) ⟨#[]⟩ (.slice oo oi oj) true, .int .i64 ((a2 : Int) + 2), .int .i64 (M : Int)])) W) := Lib.hid (fun W hW hO => by
     have hg2 : (if M ≠ 0 then Sum.inl M else Sum.inr (qs, true, List.drop 1 (List.drop (a2 + 1) l))) = G := by
      rw [← hgf, ← hM, h47]
      rfl
     by_cases h0 : M = 0
     ·rw [if_neg (by omega)] at hg2
      have hP1 := HP.out
      rw [← hg2] at hP1
      have hle : a2 + 2 ≤ l.length := by
       by_cases hx : a2 + 1 < l.length
       ·omega
       ·rw [List.drop_eq_nil_of_le (by omega)] at hM
        exact absurd (hM.trans h0) (by decide)
      have := hP1 W (a2 + 2) (.slice oo oi oj) hle (by rw [List.drop_drop]) hO hW
      rw [h0]
      rw [show (((a2 + 2 : Nat)) : Int) = (a2 : Int) + 2 by omega] at this
      exact this
     ·rw [if_pos h0] at hg2
      have hP1 := HP.out
      rw [← hg2] at hP1
      exact hP1 W _ _ _ _ _ _ _ _ hW)
    rw [hM, show (((a2 + 1 : Nat)) : Int) = (a2 : Int) + 1 by omega] at hmu
    have w1' : IntKind.i64.wrap ((a2 : Int) + 1) = (a2 : Int) + 1 := IntWalk.i64_in _ (by omega)
    have w2' : IntKind.i64.wrap ((a2 : Int) + 2) = (a2 : Int) + 2 := IntWalk.i64_in _ (by omega)
    rw [← w1'] at hmu
    have HMU := Lib.hid hmu
    clear hnb h62 hmu hgf hM w1'
    go_wp2_with fail
    refine (HS1.out _).mono ?_
    rintro e w2 ⟨rfl, rfl⟩
    go_wp2_with fail
    go_region_with (go_at_call 98; refine (HMU.out _).mono ?_; rintro e w3 ⟨rfl, rfl⟩)
    all_goals
     go_wp2_with fail
     obtain ⟨hk2, hO2, hbw2⟩ := slash_world (n := N) hT1 HR0.out HOWN.out HBB.out
     have hfin := HPE.out _ hbw2 hO2
     unfold tokSet at hk2 hfin
     clear hbw2 hO2 HMU HS1 HTK HOWN HP HK HW0 HNM HT0 HB0
     refine end_tok2 (x := (a2 : Int) + 2) (y := (M : Int)) rfl _ w.heap.size hk2 ?_ ?_ ?_ ?_ hfin
     all_goals (first | rfl | (simp [Act.put]; done) | (rw [w2']; simp [Act.put]; done) | trace_state)
   have q62 : ((nb : Int) == 62) = false := by
    rw [beq_eq_false_iff_ne, ← hnb]; intro hh; exact h62 (UInt8.toNat_inj.1 (by rw [show (62 : UInt8).toNat = 62 from rfl]; omega))
   have q47 : ((nb : Int) == 47) = false := by
    rw [beq_eq_false_iff_ne, ← hnb]; intro hh; exact h47 (UInt8.toNat_inj.1 (by rw [show (47 : UInt8).toNat = 47 from rfl]; omega))
   dsimp only at hgf
   rw [if_neg h62, if_neg h47] at hgf
   by_cases hm0 : m = 0
   ·rw [if_pos hm0] at hgf
    have hP1 := HP.out
    rw [← hgf] at hP1
    have HPE := Lib.hid hP1
    have q0 : ((a2 : Int) == (a : Int)) = true := by rw [beq_iff_eq]; omega
    clear hgf hP1 h62 h47 hnb hdc
    go_wp2_with fail
    refine (HS1.out _).mono ?_
    rintro e w2 ⟨rfl, rfl⟩
    go_wp2_with fail
    exact end_tok2 rfl _ w.heap.size (HR0.out.set) rfl rfl rfl rfl (HPE.out _ _ _ _ _ _ _ _ _ (below_tokSet HBB.out (Nat.le_refl _) _ _ _ _ _))
   rw [if_neg hm0] at hgf
   have q0 : ((a2 : Int) == (a : Int)) = false := by rw [beq_eq_false_iff_ne]; omega
   have hat := fun W => attribute_any l a2 W hl (by omega)
   rw [hdc] at hat
   have hcs : ∀ k, (b :: l.drop (a2 + 1)).drop k = l.drop (a2 + k) := fun k => by rw [← hdc, List.drop_drop]
   have hln : (b :: l.drop (a2 + 1)).length = l.length - a2 := by rw [← hdc, List.length_drop]
   clear h62 h47 hnb hdc hm0
   cases hx : attrL (b :: l.drop (a2 + 1)) with
   | inl err =>
    rw [hx] at hat hgf
    have herr := attrL_err hx
    have hat2 : ∀ W, Calls Tryz.prog 128 #[.string (bs l), .int .i64 (a2 : Int)] W fun e w' => e = .returned (.tuple #[.agg #[.string ⟨#[]⟩, .string ⟨#[]⟩], .int .i64 0, .int .i64 (err : Int)]) ∧ Below W.heap.size W w' := hat
    have hgf2 : Sum.inl err = G := hgf
    have hP1 := HP.out
    rw [← hgf2] at hP1
    have HPE := Lib.hid hP1
    have HAT := Lib.hid hat2
    have qx : ((err : Int) != 0) = true := by rw [bne_iff_ne]; omega
    clear hgf hgf2 hP1 hat hat2 hx herr hcs hln
    go_wp2_with fail
    refine (HS1.out _).mono ?_
    rintro e w2 ⟨rfl, rfl⟩
    go_wp2_with fail
    refine (HAT.out _).mono ?_
    rintro e w2 ⟨rfl, hb2⟩
    have haw := err_world #[.string ⟨#[]⟩, .string ⟨#[]⟩] 40 HR0.out HBB.out hb2
    unfold tokSet at haw
    have HR2 := Lib.hid haw.1
    have HB2 := Lib.hid haw.2
    clear haw
    clear c0 c1 c2 c3 c4 f0 f1 f2 f3 f4 d0 d1 d2 d3 d4 g0 g1 g2 g3 g4
    have hk2 := HR0.out.below hb2 h3
    obtain ⟨⟨c0, c1, c2, c3, c4⟩, ⟨f0, f1, f2, f3, f4⟩, h5⟩ := hk2
    clear hb2
    go_wp2_with fail
    exact end_tok2 rfl _ w.heap.size HR2.out rfl rfl rfl rfl (HPE.out _ _ _ _ _ _ _ _ _ HB2.out)
   | inr x =>
    obtain ⟨mn, mt, mk⟩ := x
    rw [hx] at hat hgf
    have hmk := attrL_room hx
    have hmk1 := attrL_pos hx
    rw [hln] at hmk
    obtain ⟨a3, ha3⟩ : ∃ a3, a2 + mk = a3 := ⟨_, rfl⟩
    have hat2 : ∀ W, Calls Tryz.prog 128 #[.string (bs l), .int .i64 (a2 : Int)] W fun e w' => e = .returned (.tuple #[.agg #[.string (bs mn), .string (bs mt)], .int .i64 (a3 : Int), .int .i64 0]) ∧ Below W.heap.size W w' := by rw [← ha3]; exact hat
    have hgf2 : (if (qs.map (·.1)).contains mn then Sum.inl 15 else if qs.length = 8 then Sum.inl 19 else tagF (l.drop a3) (qs ++ [(mn, mt)])) = G := by rw [← ha3, ← hcs]; exact hgf
    have HAT := Lib.hid hat2
    have HG := Lib.hid hgf2
    have hlen := HOWN.out.len
    subst hlen
    clear hgf hgf2 hat hat2 hx hcs hln
    go_wp2_with fail
    refine (HS1.out _).mono ?_
    rintro e w2 ⟨rfl, rfl⟩
    go_wp2_with fail
    refine (HAT.out _).mono ?_
    rintro e w2 ⟨rfl, hb2⟩
    have haw := at_world (bs mn) (bs mt) HR0.out HTK.out HOWN.out HBB.out hb2
    clear c0 c1 c2 c3 c4 f0 f1 f2 f3 f4 d0 d1 d2 d3 d4 g0 g1 g2 g3 g4
    have hsz2 := hb2.size
    clear hb2
    go_wp2_with fail
    obtain ⟨W3, hW3⟩ : ∃ W3, W3 = w2.alloc (.cells #[.string (bs mn), .string (bs mt)] 40) := ⟨_, rfl⟩
    have hsz3 : w2.heap.size < W3.heap.size := by rw [hW3]; simp
    rw [← hW3] at haw ⊢
    have HAW := Lib.hid haw
    clear haw hW3
    go_loopw [14] (fun v wi => ∃ j : Nat, v = .int .i64 (j : Int) ∧ j ≤ qs.length ∧ Hid (∀ i, i < j → (qs.getD i ([], [])).1 ≠ mn) ∧ Hid (Below W3.heap.size W3 wi)) (fun v _ => qs.length - (RowKit.intOf v).toNat)
    case atStart => exact ⟨0, rfl, Nat.zero_le _, Lib.hid (fun i hi => by omega), Lib.hid (Below.refl _ _)⟩
    case round =>
     obtain ⟨j, rfl, hj, HNE, HBJ⟩ := hrel
     have hTj := HAW.out.2.1.below HBJ.out HAW.out.2.1.2.2
     have hAj := HAW.out.2.2.2.2.below HBJ.out hsz3
     have hOj := HAW.out.2.2.1.belowT HBJ.out (Nat.le_refl _)
     have hRj := HAW.out.1.below HBJ.out HAW.out.1.2.2
     have HRJ := Lib.hid hRj
     have HTJ := Lib.hid hTj
     have HOJ := Lib.hid hOj
     have HBW := Lib.hid (HAW.out.2.2.2.1.trans (HBJ.out.mono HAW.out.2.2.2.1.size))
     obtain ⟨⟨c0, c1, c2, c3, c4⟩, ⟨f0, f1, f2, f3, f4⟩, h5⟩ := hRj
     obtain ⟨⟨d0, d1, d2, d3, d4⟩, ⟨g0, g1, g2, g3, g4⟩, h6⟩ := hTj
     obtain ⟨⟨x0, x1⟩, ⟨y0, y1⟩, h7⟩ := hAj
     by_cases hlt : j < qs.length
     ·obtain ⟨gb, rfl, hgb, hgw, r0, r1⟩ := hOj.reads j hlt
      generalize hqj : qs.getD j ([], []) = qj at *
      obtain ⟨qn, qt⟩ := qj
      have HQJ := Lib.hid hqj
      clear hqj hOj
      by_cases heq : qn = mn
      ·have q : ((bs qn).toList == (bs mn).toList) = true := by rw [heq, beq_iff_eq]
       have hc : (qs.map (·.1)).contains mn = true := by
        rw [List.contains_iff_mem, List.mem_map]
        refine ⟨(qn, qt), ?_, heq⟩
        rw [← HQJ.out, List.getD_eq_getElem?_getD, List.getElem?_eq_getElem hlt]
        exact List.getElem_mem hlt
       have hg2 := HG.out
       rw [if_pos hc] at hg2
       have hP1 := HP.out
       rw [← hg2] at hP1
       have HPE := Lib.hid hP1
       clear hg2 hP1 hc heq
       go_wp2_with fail
       go_quiet (fail)
       have hrq := fun n => HRJ.out.below (below_drewN6 _ n) h5
       have hbq := fun n => HBW.out.trans ((below_drewN6 _ n).mono HBW.out.size)
       have HRQ := Lib.hid hrq
       have HBQ := Lib.hid hbq
       clear hrq hbq
       go_wp2_with fail
       exact end_tok2 rfl _ w.heap.size ((HRQ.out _).set) rfl rfl rfl rfl (HPE.out _ _ _ _ _ _ _ _ _ (below_tokSet (HBQ.out _) (Nat.le_refl _) _ _ _ _ _))
      ·have q : ((bs qn).toList == (bs mn).toList) = false := by rw [bs_tl, bs_tl, beq_eq_false_iff_ne]; exact heq
       go_wp2_with fail
       go_quiet (fail)
       go_wp2_with fail
       go_roundw
       case rel => exact ⟨j + 1, by go_num, by omega, Lib.hid (fun i hi => by
        rcases Nat.lt_or_ge i j with h | h
        ·exact HNE.out i h
        ·obtain rfl : i = j := by omega
         rw [HQJ.out]; exact heq), Lib.hid (HBJ.out.trans ((below_drewN6 _ _).mono HBJ.out.size))⟩
       case measure => simp [RowKit.intOf]; omega
     ·have hc : (qs.map (·.1)).contains mn = false := by
       rw [Bool.eq_false_iff, ne_eq, List.contains_iff_mem, List.mem_map]
       rintro ⟨x, hx, rfl⟩
       obtain ⟨i, hi, rfl⟩ := List.getElem_of_mem hx
       refine HNE.out i (by omega) ?_
       rw [List.getD_eq_getElem?_getD, List.getElem?_eq_getElem hi]
       rfl
      have hg2 := HG.out
      rw [if_neg (by rw [hc]; simp)] at hg2
      clear hc
      by_cases h8 : qs.length = 8
      ·rw [if_pos h8] at hg2
       have hP1 := HP.out
       rw [← hg2] at hP1
       have HPE := Lib.hid hP1
       have q8 : ((qs.length : Int) == 8) = true := by rw [beq_iff_eq]; omega
       clear hg2 hP1 h8 hOj
       go_wp2_with fail
       exact end_tok2 rfl _ w.heap.size (HRJ.out.set) rfl rfl rfl rfl (HPE.out _ _ _ _ _ _ _ _ _ (below_tokSet HBW.out (Nat.le_refl _) _ _ _ _ _))
      ·rw [if_neg h8] at hg2
       have HG2 := Lib.hid hg2
       have q8 : ((qs.length : Int) == 8) = false := by rw [beq_eq_false_iff_ne]; omega
       have hq7 : qs.length ≤ 7 := by omega
       clear hg2 h8 hOj
       go_wp2_with (with_reducible refine wpList_pushAt rfl (.tmp 97) (.tmp 99) rfl mn mt HOJ.out rfl rfl (by omega) (Below.refl _ _) (by omega) ?_)
       intro v' w4 hown4 hb4 hk4 hsz4
       obtain ⟨o4, i4, j4, rfl⟩ := hown4.form
       have hT4 := HTJ.out.below hb4 (by omega)
       have hR4 := HRJ.out.below hb4 (by omega)
       have HEND : Hid (StK l w w1.heap.size N G a3 (qs ++ [(mn, mt)]) (.slice o4 i4 j4) (w4.setCell ⟨w1.heap.size, 3, none⟩ (.slice o4 i4 j4))) := Lib.hid (by
        have hb5 : Below w1.heap.size w4 (w4.setCell ⟨w1.heap.size, 3, none⟩ (.slice o4 i4 j4)) := (Below.refl w1.heap.size w4).setCell (p := ⟨w1.heap.size, 3, none⟩) (Nat.le_refl _) _
        refine ⟨by omega, hR4.below hb5 hT1, hT4.put3 _, hown4.keep (fun k hk _ => Below.heap_setCell _ _ _ _ (by show k ≠ w1.heap.size; omega)), (HBW.out.trans (hb4.mono (by omega))).trans (hb5.mono (by omega)), by simp; omega, HG2.out, hT1⟩)
       obtain ⟨⟨d0', d1', d2', d3', d4'⟩, ⟨g0', g1', g2', g3', g4'⟩, h6'⟩ := hT4
       clear hR4 hown4 hb4 hk4
       go_wp2_with fail
       go_roundw
       case rel => exact ⟨a3, qs ++ [(mn, mt)], o4, i4, j4, rfl, HEND.out⟩
       case measure => simp [RowKit.intOf]; omega
end Char
namespace Char
open Go.RowKit Go.Lib
def OnPost (l : List UInt8) (p : Nat) (w : World) (e : Ending) (w' : World) : Prop := match oneP (l.drop p) with
 | .inl err => (∃ (kd x : Int) (n t : ByteArray) (o : Option Addr) (i j : Nat) (em : Bool), e = .returned (.tuple #[tokV kd n t (.slice o i j) em, .int .i64 x, .int .i64 (err : Int)])) ∧ Below w.heap.size w w'
 | .inr (t, rest) => ∃ (p' : Nat) (o : Option Addr) (i j : Nat), p' ≤ l.length ∧ l.drop p' = rest ∧ e = .returned (.tuple #[tokV t.kd (bs t.nm) (bs t.tx) (.slice o i j) t.em, .int .i64 (p' : Int), .int .i64 0]) ∧ OwnsAt w.heap.size w' (.slice o i j) t.ats ∧ Below w.heap.size w w'
def FinO (l : List UInt8) (w : World) (P : Ending → World → Prop) : Nat ⊕ (Tk × List UInt8) → Prop
 | .inl err => ∀ (W : World) (kd x : Int) (n t : ByteArray) (o : Option Addr) (i j : Nat) (em : Bool), Below w.heap.size w W → P (.returned (.tuple #[tokV kd n t (.slice o i j) em, .int .i64 x, .int .i64 (err : Int)])) W
 | .inr (t, rest) => ∀ (W : World) (p' : Nat) (o : Option Addr) (i j : Nat), p' ≤ l.length → l.drop p' = rest → OwnsAt w.heap.size W (.slice o i j) t.ats → Below w.heap.size w W → P (.returned (.tuple #[tokV t.kd (bs t.nm) (bs t.tx) (.slice o i j) t.em, .int .i64 (p' : Int), .int .i64 0])) W
theorem finO_of {l : List UInt8} {p : Nat} {w : World} {G : Nat ⊕ (Tk × List UInt8)} (hG : oneP (l.drop p) = G) : FinO l w (OnPost l p w) G := by
 cases G with
 | inl err =>
  intro W kd x n t o i j em hW
  unfold OnPost
  rw [hG]
  exact ⟨⟨kd, x, n, t, o, i, j, em, rfl⟩, hW⟩
 | inr y =>
  obtain ⟨t, rest⟩ := y
  intro W p' o i j h1 h2 h3 h4
  unfold OnPost
  rw [hG]
  exact ⟨p', o, i, j, h1, h2, rfl, h3, h4⟩
theorem FinO.plain {l : List UInt8} {w : World} {P : Ending → World → Prop} {t : Tk} {rest : List UInt8} (h : FinO l w P (.inr (t, rest))) (hq : t.ats = []) {W : World} {p' : Nat} (h1 : p' ≤ l.length) (h2 : l.drop p' = rest) (h4 : Below w.heap.size w W) :
  P (.returned (.tuple #[tokV t.kd (bs t.nm) (bs t.tx) (.slice none 0 0) t.em, .int .i64 (p' : Int), .int .i64 0])) W :=
 h W p' none 0 0 h1 h2 (by rw [hq]; exact OwnsAt.nil _ _) h4
theorem oneP_txt {r : List UInt8} (h : [60].isPrefixOf r = false) : oneP r = txtP r := by
 have key : ∀ m : List UInt8, (60 :: m).isPrefixOf r = false := by
  intro m
  cases r with
  | nil => rfl
  | cons b t =>
   have hb : (60 == b) = false := by
    simp [List.isPrefixOf] at h
    simpa using h
   simp [List.isPrefixOf, hb]
 unfold oneP
 rw [key, key, key, key, key, h]
 rfl
theorem pre_trans {a b r : List UInt8} (h : b.isPrefixOf r = true) (hab : a.isPrefixOf b = true) : a.isPrefixOf r = true :=
 List.isPrefixOf_iff_prefix.2 ((List.isPrefixOf_iff_prefix.1 hab).trans (List.isPrefixOf_iff_prefix.1 h))
end Char
end Go.Proofs.YtlmodgnkmlbjhaaGreatDoor
