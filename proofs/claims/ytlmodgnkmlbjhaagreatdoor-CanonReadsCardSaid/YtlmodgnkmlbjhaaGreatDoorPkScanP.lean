import Derived.Test.YtlmodgnkmlbjhaaGreatDoorPkScanS
import Derived.Test.YtlmodgnkmlbjhaaGreatDoorPkMeant
import Derived.Test.YtlmodgnkmlbjhaaGreatDoorPkRefA
import Derived.Deep.CutRange
import Derived.Test.YtlmodgnkmlbjhaaGreatDoorPkShelf
import Derived.Test.YtlmodgnkmlbjhaaGreatDoorPkStart
import Derived.Lib.SliceRun
namespace Go.Proofs.YtlmodgnkmlbjhaaGreatDoor
namespace Char
open Go.RowKit Go.Lib Go.Shelf
theorem cell_of_block {w w' : World} {k : Nat} (h : w'.heap[k]? = w.heap[k]?) (o : Nat) : w'.cell? ⟨k, o, none⟩ = w.cell? ⟨k, o, none⟩ := by
 unfold World.cell?
 simp only [h]
theorem frozen_of_block {w w' : World} {k : Nat} (h : w'.heap[k]? = w.heap[k]?) (o : Nat) : w'.frozen? ⟨k, o, none⟩ = w.frozen? ⟨k, o, none⟩ := by
 unfold World.frozen?
 simp only [h]
theorem lt_of_block {w w' : World} {k : Nat} (h : w'.heap[k]? = w.heap[k]?) (hk : k < w.heap.size) : k < w'.heap.size := by
 rw [Array.getElem?_eq_getElem hk] at h
 exact (Array.getElem?_eq_some_iff.1 h).1
theorem RdB.block {R : Nat} {l : List UInt8} {w w' : World} (h : RdB R l w) (hb : w'.heap[R]? = w.heap[R]?) : RdB R l w' :=
 ⟨(cell_of_block hb 0).trans h.1, (frozen_of_block hb 0).trans h.2.1, lt_of_block hb h.2.2⟩
theorem TokAt.block {g : Nat} {kd : Int} {n t : ByteArray} {v : Value} {em : Bool} {w w' : World} (h : TokAt g kd n t v em w) (hb : w'.heap[g]? = w.heap[g]?) : TokAt g kd n t v em w' := by
 obtain ⟨⟨a0, a1, a2, a3, a4⟩, ⟨b0, b1, b2, b3, b4⟩, h3⟩ := h
 have c := cell_of_block hb
 have f := frozen_of_block hb
 exact ⟨⟨(c 0).trans a0, (c 1).trans a1, (c 2).trans a2, (c 3).trans a3, (c 4).trans a4⟩, ⟨(f 0).trans b0, (f 1).trans b1, (f 2).trans b2, (f 3).trans b3, (f 4).trans b4⟩, lt_of_block hb h3⟩
theorem TokAt.but {R g : Nat} {kd : Int} {n t : ByteArray} {v : Value} {em : Bool} {w w' : World} (h : TokAt g kd n t v em w) (hb : But R w w') (hR : g ≠ R) : TokAt g kd n t v em w' := h.block (hb.2 g h.2.2 hR)
theorem But.size {R : Nat} {w w' : World} (h : But R w w') : w.heap.size ≤ w'.heap.size := h.1.size
theorem But.tok {R g : Nat} {w w' : World} (h : But R w w') (hg : w.heap.size ≤ g) (hR : R < w.heap.size) (kd : Int) (n t : ByteArray) (v : Value) (em : Bool) : But R w (tokSet w' g kd n t v em) :=
 ⟨below_tokSet h.1 (by omega) kd n t v em, fun k hk hr => (tokSet_block _ _ _ _ _ _ _ k (by omega)).trans (h.2 k hk hr)⟩
theorem RdB.tok {R g : Nat} {l : List UInt8} {w : World} (h : RdB R l w) (hg : R ≠ g) (kd : Int) (n t : ByteArray) (v : Value) (em : Bool) : RdB R l (tokSet w g kd n t v em) := h.block (tokSet_block _ _ _ _ _ _ _ R hg)
theorem But.new {R : Nat} {w : World} (o : Obj) (hR : R < w.heap.size) : But R w (w.alloc o) := But.of ((Below.refl _ _).alloc (Nat.le_refl _) o) hR
def PcP (R : Nat) (x : Nat ⊕ (Tk × List UInt8)) (w : World) (e : Ending) (w' : World) : Prop := match x with
 | .inl err => PaP R err w e w'
 | .inr (t, rest) => ∃ (o : Option Addr) (i j : Nat), e = .returned (tokV t.kd (bs t.nm) (bs t.tx) (.slice o i j) t.em) ∧ RdB R rest w' ∧ But R w w' ∧ OwnsAt w.heap.size w' (.slice o i j) t.ats
theorem end_tok1 {fn : Func} {p : Tmp} (h : fn.results = #[.cell p 72]) {a : Act} {R : Ending → World → Prop} (w1 : World) (g : Nat) {kd : Int} {n t : ByteArray} {ats : Value} {em : Bool}
  (hk : TokAt g kd n t ats em w1) (hp : a.tmps.getD p undef = .pointer (some ⟨g, 0, none⟩)) (hd : a.defers = []) (hR : R (.returned (tokV kd n t ats em)) w1) : bodyPost Tryz.prog fn R .ret a w1 := by
 have hp' : a.tmps[p]?.getD undef = .pointer (some ⟨g, 0, none⟩) := by simpa using hp
 obtain ⟨⟨a0, a1, a2, a3, a4⟩, _, _⟩ := hk
 exact bodyPost_ret (v := tokV kd n t ats em) (by simp [results, h, hp', go_sem, a0, a1, a2, a3, a4, tokV]) hd hR
theorem begin_tok (R : Nat) (l : List UInt8) (w : World) (h : RdB R l w) (hE : Env R w) : ∃ W0, W0 = w.alloc (.cells #[.int .i64 0, .string ⟨#[]⟩, .string ⟨#[]⟩, .slice none 0 0, .bool false] 72) ∧
  RdB R l W0 ∧ Env R W0 ∧ TokAt w.heap.size 0 ⟨#[]⟩ ⟨#[]⟩ (.slice none 0 0) false W0 ∧ But R w W0 ∧ w.heap.size < W0.heap.size :=
 ⟨_, rfl, h.below ((Below.refl _ _).alloc (Nat.le_refl _) _), hE.but (But.new _ h.2.2), TokAt.new _ _ _ _ _ _, But.new _ h.2.2, by simp⟩
set_option maxHeartbeats 4000000 in
theorem data_any (R : Nat) (l : List UInt8) (w : World) (h : RdB R l w) (hl : l.length ≤ 100000) (hE : Env R w) :
  Calls Tryz.prog 115 #[.pointer (some ⟨R, 0, none⟩)] w (PcP R (datP l) w) := by
 have hR := h.2.2
 obtain ⟨W0, hW0, h0, hE0, hT0, hB0, hlt0⟩ := begin_tok R l w h hE
 have HW0 := Lib.hid hW0
 have HT0 := Lib.hid hT0
 have HB0 := Lib.hid hB0
 unfold datP
 by_cases hi : index l [93, 93, 62] = -1
 ·rw [if_pos hi]
  have HU := Lib.hid (show Calls Tryz.prog 137 #[.pointer (some ⟨R, 0, none⟩), .string ⟨#[93, 93, 62]⟩] W0 (fun e w' => e = pan 16 ∧ But R W0 w') from upTo_no R l [93, 93, 62] W0 h0 hl hE0.gl.1.2.1 hi)
  clear hi h0 hE0 hT0 hB0 hW0 h hE
  unfold PcP PaP
  go_enter Tryz.func115, Tryz.ntmps115
  go_wp2_with fail
  rw [← HW0.out]
  refine HU.out.mono ?_
  rintro e w1 ⟨rfl, hb1⟩
  have HB1 := Lib.hid (HB0.out.trans hb1)
  clear hb1
  unfold pan
  go_wp2_with fail
  exact ⟨rfl, rfl, HB1.out⟩
 ·rw [if_neg hi]
  obtain ⟨i, hin⟩ := idx_nat hi
  rw [hin, Int.toNat_natCast]
  have HU := Lib.hid (show Calls Tryz.prog 137 #[.pointer (some ⟨R, 0, none⟩), .string ⟨#[93, 93, 62]⟩] W0 (fun e w' => e = .returned (.string (bs (l.take i))) ∧ RdB R (l.drop (i + 3)) w' ∧ But R W0 w') from upTo_yes R l [93, 93, 62] i W0 h0 hl hE0.gl.1.2.1 hin)
  clear hi hin h0 hE0 hT0 hB0 hW0 h hE
  unfold PcP
  dsimp only
  generalize l.take i = V at *
  generalize l.drop (i + 3) = t at *
  go_enter Tryz.func115, Tryz.ntmps115
  go_wp2_with fail
  rw [← HW0.out]
  refine HU.out.mono ?_
  rintro e w1 ⟨rfl, hr1, hb1⟩
  have HR1 := Lib.hid hr1
  have HB1 := Lib.hid (HB0.out.trans hb1)
  have hk2 := HT0.out.but hb1 (by omega)
  have HK2 := Lib.hid hk2
  obtain ⟨⟨c0, c1, c2, c3, c4⟩, ⟨f0, f1, f2, f3, f4⟩, h3⟩ := hk2
  clear hb1 hr1
  go_wp2_with fail
  exact end_tok1 rfl _ w.heap.size (HK2.out.set) rfl rfl ⟨none, 0, 0, rfl, HR1.out.tok (by omega) _ _ _ _ _, HB1.out.tok (Nat.le_refl _) hR _ _ _ _ _, OwnsAt.nil _ _⟩
set_option maxHeartbeats 4000000 in
theorem comment_any (R : Nat) (l : List UInt8) (w : World) (h : RdB R l w) (hl : l.length ≤ 100000) (hE : Env R w) :
  Calls Tryz.prog 114 #[.pointer (some ⟨R, 0, none⟩)] w (PcP R (comP l) w) := by
 have hR := h.2.2
 obtain ⟨W0, hW0, h0, hE0, hT0, hB0, hlt0⟩ := begin_tok R l w h hE
 have HW0 := Lib.hid hW0
 have HT0 := Lib.hid hT0
 have HB0 := Lib.hid hB0
 unfold comP
 by_cases hi : index l [45, 45] = -1
 ·rw [if_pos hi]
  have HU := Lib.hid (show Calls Tryz.prog 137 #[.pointer (some ⟨R, 0, none⟩), .string ⟨#[45, 45]⟩] W0 (fun e w' => e = pan 16 ∧ But R W0 w') from upTo_no R l [45, 45] W0 h0 hl hE0.gl.1.2.1 hi)
  clear hi h0 hE0 hT0 hB0 hW0 h hE
  unfold PcP PaP
  go_enter Tryz.func114, Tryz.ntmps114
  go_wp2_with fail
  rw [← HW0.out]
  refine HU.out.mono ?_
  rintro e w1 ⟨rfl, hb1⟩
  have HB1 := Lib.hid (HB0.out.trans hb1)
  clear hb1
  unfold pan
  go_wp2_with fail
  exact ⟨rfl, rfl, HB1.out⟩
 rw [if_neg hi]
 obtain ⟨i, hin⟩ := idx_nat hi
 rw [hin, Int.toNat_natCast]
 have HU := Lib.hid (show Calls Tryz.prog 137 #[.pointer (some ⟨R, 0, none⟩), .string ⟨#[45, 45]⟩] W0 (fun e w' => e = .returned (.string (bs (l.take i))) ∧ RdB R (l.drop (i + 2)) w' ∧ But R W0 w') from upTo_yes R l [45, 45] i W0 h0 hl hE0.gl.1.2.1 hin)
 have e3 : l.drop (i + 3) = (l.drop (i + 2)).drop 1 := by rw [List.drop_drop]
 rw [e3]
 clear hi hin h0 hE0 hT0 hB0 hW0 h hE e3
 generalize l.take i = V at *
 generalize l.drop (i + 2) = t at *
 have hTk : ∀ W, RdB R t W → Calls Tryz.prog 120 #[.pointer (some ⟨R, 0, none⟩), .string ⟨#[62]⟩] W (fun e w' => e = .returned (.bool ([62].isPrefixOf t)) ∧ RdB R (if [62].isPrefixOf t then t.drop 1 else t) w' ∧ But R W w') := fun W hr => take_any R t [62] W hr
 cases hp : [62].isPrefixOf t with
 | true =>
  rw [hp, if_pos rfl] at hTk
  rw [if_pos rfl]
  have HTK := Lib.hid hTk
  clear hTk hp
  unfold PcP
  dsimp only
  generalize t.drop 1 = u at *
  go_enter Tryz.func114, Tryz.ntmps114
  go_wp2_with fail
  rw [← HW0.out]
  refine HU.out.mono ?_
  rintro e w1 ⟨rfl, hr1, hb1⟩
  have HT1 := Lib.hid (HTK.out w1 hr1)
  have HB1 := Lib.hid hb1
  clear hb1 hr1
  go_wp2_with fail
  refine HT1.out.mono ?_
  rintro e w2 ⟨rfl, hr2, hb2⟩
  have HR2 := Lib.hid hr2
  have HB2 := Lib.hid (HB0.out.trans (HB1.out.trans hb2))
  have hk2 := HT0.out.but (HB1.out.trans hb2) (by omega)
  have HK2 := Lib.hid hk2
  obtain ⟨⟨c0, c1, c2, c3, c4⟩, ⟨f0, f1, f2, f3, f4⟩, h3⟩ := hk2
  clear hb2 hr2
  go_wp2_with fail
  exact end_tok1 rfl _ w.heap.size (HK2.out.set) rfl rfl ⟨none, 0, 0, rfl, HR2.out.tok (by omega) _ _ _ _ _, HB2.out.tok (Nat.le_refl _) hR _ _ _ _ _, OwnsAt.nil _ _⟩
 | false =>
  rw [hp] at hTk
  rw [if_neg (by simp)]
  have HTK := Lib.hid hTk
  clear hTk hp
  unfold PcP PaP
  go_enter Tryz.func114, Tryz.ntmps114
  go_wp2_with fail
  rw [← HW0.out]
  refine HU.out.mono ?_
  rintro e w1 ⟨rfl, hr1, hb1⟩
  have HT1 := Lib.hid (HTK.out w1 hr1)
  have HB1 := Lib.hid hb1
  clear hb1 hr1
  go_wp2_with fail
  refine HT1.out.mono ?_
  rintro e w2 ⟨rfl, hr2, hb2⟩
  have HB2 := Lib.hid (HB0.out.trans (HB1.out.trans hb2))
  clear hb2 hr2
  go_wp2_with fail
  exact ⟨rfl, rfl, HB2.out⟩
set_option maxHeartbeats 400000 in
theorem unknown_any (R : Nat) (l : List UInt8) (w : World) (h : RdB R l w) :
  Calls Tryz.prog 118 #[.pointer (some ⟨R, 0, none⟩)] w (PcP R (.inl 13) w) := by
 have HB := Lib.hid (But.new (.cells #[.int .i64 0, .string ⟨#[]⟩, .string ⟨#[]⟩, .slice none 0 0, .bool false] 72) h.2.2)
 unfold PcP PaP
 clear h
 go_enter Tryz.func118, Tryz.ntmps118
 go_wp2_with fail
 exact ⟨rfl, rfl, HB.out⟩
set_option maxHeartbeats 4000000 in
theorem text_p (R : Nat) (l : List UInt8) (w : World) (h : RdB R l w) (hl : l.length ≤ 100000) (hE : Env R w) :
  Calls Tryz.prog 121 #[.pointer (some ⟨R, 0, none⟩)] w (PcP R (txtP l) w) := by
 have hR := h.2.2
 obtain ⟨W0, hW0, h0, hE0, hT0, hB0, hlt0⟩ := begin_tok R l w h hE
 have HW0 := Lib.hid hW0
 have HT0 := Lib.hid hT0
 have HB0 := Lib.hid hB0
 unfold txtP
 have hwl := whileL_any R l W0 h0 hl
 unfold ScP at hwl
 have HWL := Lib.hid hwl
 have hVl : (l.take (ltL l)).length ≤ 100000 := by rw [List.length_take]; omega
 have HGE := Lib.hid (fun W (hb : But R W0 W) => Get_any (l.take (ltL l)) W hVl (hE0.but hb).gl.1)
 clear hwl hVl h0 hE0 hT0 hB0 hW0 h hE
 generalize l.take (ltL l) = V at *
 generalize l.drop (ltL l) = t at *
 generalize getD5 false V = g at *
 obtain ⟨g1, g2⟩ := g
 dsimp only at HGE ⊢
 by_cases h0 : g2 = 0
 ·subst h0
  rw [if_neg (by simp)]
  unfold PcP
  dsimp only
  go_enter Tryz.func121, Tryz.ntmps121
  go_wp2_with fail
  rw [← HW0.out]
  refine HWL.out.mono ?_
  rintro e w1 ⟨rfl, hr1, hb1⟩
  have HR1 := Lib.hid hr1
  have HB1 := Lib.hid hb1
  clear hb1 hr1
  go_wp2_with fail
  refine (HGE.out _ HB1.out).mono ?_
  rintro e w2 ⟨rfl, hb2⟩
  have HR2 := Lib.hid (HR1.out.below hb2)
  have HB2 := Lib.hid (HB0.out.trans (HB1.out.trans (But.of hb2 HR1.out.2.2)))
  have hk2 := HT0.out.but (HB1.out.trans (But.of hb2 HR1.out.2.2)) (by omega)
  have HK2 := Lib.hid hk2
  obtain ⟨⟨c0, c1, c2, c3, c4⟩, ⟨f0, f1, f2, f3, f4⟩, h3⟩ := hk2
  clear hb2
  go_wp2_with fail
  refine (got_ok (bs g1) _).mono ?_
  rintro e w3 ⟨rfl, rfl⟩
  go_wp2_with fail
  exact end_tok1 rfl _ w.heap.size (HK2.out.set) rfl rfl ⟨none, 0, 0, rfl, HR2.out.tok (by omega) _ _ _ _ _, HB2.out.tok (Nat.le_refl _) hR _ _ _ _ _, OwnsAt.nil _ _⟩
 ·rw [if_pos h0]
  have HGO := Lib.hid (got_no (bs g1) g2 h0)
  unfold PcP PaP
  dsimp only
  clear h0
  go_enter Tryz.func121, Tryz.ntmps121
  go_wp2_with fail
  rw [← HW0.out]
  refine HWL.out.mono ?_
  rintro e w1 ⟨rfl, hr1, hb1⟩
  have HR1 := Lib.hid hr1
  have HB1 := Lib.hid hb1
  clear hb1 hr1
  go_wp2_with fail
  refine (HGE.out _ HB1.out).mono ?_
  rintro e w2 ⟨rfl, hb2⟩
  have HB2 := Lib.hid (HB0.out.trans (HB1.out.trans (But.of hb2 HR1.out.2.2)))
  clear hb2
  go_wp2_with fail
  refine (HGO.out _).mono ?_
  rintro e w3 ⟨rfl, rfl⟩
  unfold pan
  go_wp2_with fail
  exact ⟨rfl, rfl, HB2.out⟩
set_option maxHeartbeats 4000000 in
theorem end_any (R : Nat) (l : List UInt8) (w : World) (h : RdB R l w) (hl : l.length ≤ 100000) (ht : txD l = true) (hE : Env R w) :
  Calls Tryz.prog 117 #[.pointer (some ⟨R, 0, none⟩)] w (PcP R (endP l) w) := by
 have hR := h.2.2
 obtain ⟨W0, hW0, h0, hE0, hT0, hB0, hlt0⟩ := begin_tok R l w h hE
 have HW0 := Lib.hid hW0
 have HT0 := Lib.hid hT0
 have HB0 := Lib.hid hB0
 unfold endP
 by_cases hn : nmE l ≠ 0
 ·rw [if_pos hn]
  have hnm := name_no R l W0 h0 hl ht hE0 hn
  unfold PaP at hnm
  have HNM := Lib.hid hnm
  unfold PcP PaP
  dsimp only
  clear hn hnm h0 hE0 hT0 hB0 hW0 h hE
  generalize nmE l = err at *
  go_enter Tryz.func117, Tryz.ntmps117
  go_wp2_with fail
  rw [← HW0.out]
  refine HNM.out.mono ?_
  rintro e w1 ⟨rfl, hb1⟩
  have HB1 := Lib.hid (HB0.out.trans hb1)
  clear hb1
  unfold pan
  go_wp2_with fail
  exact ⟨rfl, rfl, HB1.out⟩
 rw [if_neg hn]
 have hnm := name_ok R l W0 h0 hl ht hE0 (by omega)
 unfold ScP at hnm
 have HNM := Lib.hid hnm
 have e1 : l.drop (runL l + spcL (l.drop (runL l))) = (l.drop (runL l)).drop (spcL (l.drop (runL l))) := by rw [List.drop_drop]
 have e2 : l.drop (runL l + spcL (l.drop (runL l)) + 1) = ((l.drop (runL l)).drop (spcL (l.drop (runL l)))).drop 1 := by rw [List.drop_drop, List.drop_drop, Nat.add_assoc]
 rw [e1, e2]
 have htl : (l.drop (runL l)).length ≤ 100000 := by rw [List.length_drop]; omega
 clear e1 e2 hn hnm h0 hE0 hT0 hB0 hW0 h hE ht hl
 generalize l.take (runL l) = V at *
 generalize l.drop (runL l) = t at *
 have hsp := fun W hr => spaces_p R t W hr htl
 unfold ScP at hsp
 have HSP := Lib.hid hsp
 clear hsp htl
 generalize t.drop (spcL t) = u at *
 generalize decide (0 < spcL t) = bb at *
 rcases must_cases u 62 with ⟨x, rfl, hm, _⟩ | ⟨hnil, hm, _⟩ | ⟨hne, hm, _⟩
 ·rw [if_neg (by omega)]
  have hmu : ∀ W, RdB R (62 :: x) W → Calls Tryz.prog 141 #[.pointer (some ⟨R, 0, none⟩), .string ⟨#[62]⟩] W (fun e w' => e = .returned (.tuple #[]) ∧ RdB R x w' ∧ But R W w') := fun W hr => must_ok R 62 x W hr
  have HMU := Lib.hid hmu
  clear hmu hm
  unfold PcP
  dsimp only
  go_enter Tryz.func117, Tryz.ntmps117
  go_wp2_with fail
  rw [← HW0.out]
  refine HNM.out.mono ?_
  rintro e w1 ⟨rfl, hr1, hb1⟩
  obtain ⟨W1, hW1⟩ : ∃ W1, W1 = w1.alloc (.cells #[.int .i64 2, .string (bs V), .string ⟨#[]⟩, .slice none 0 0, .bool false] 72) := ⟨_, rfl⟩
  have hbn : But R w1 W1 := by rw [hW1]; exact But.new _ hr1.2.2
  have hrn : RdB R t W1 := by rw [hW1]; exact hr1.below ((Below.refl _ _).alloc (Nat.le_refl _) _)
  have hTn : TokAt w1.heap.size 2 (bs V) ⟨#[]⟩ (.slice none 0 0) false W1 := by rw [hW1]; exact TokAt.new _ _ _ _ _ _
  have hsz1 := hb1.size
  have HS1 := Lib.hid (HSP.out W1 hrn)
  have HB1 := Lib.hid (hb1.trans hbn)
  have HTN := Lib.hid hTn
  have HW1 := Lib.hid hW1
  have hRw1 : R < w1.heap.size := hr1.2.2
  clear hb1 hr1 hbn hrn hTn hW1
  go_upto_region 2 with (fail)
  rw [← HW1.out]
  go_wp2_with fail
  refine HS1.out.mono ?_
  rintro e w2 ⟨rfl, hr2, hb2⟩
  have HM2 := Lib.hid (HMU.out w2 hr2)
  have HB2 := Lib.hid hb2
  clear hr2 hb2
  go_wp2_with fail
  refine HM2.out.mono ?_
  rintro e w3 ⟨rfl, hr3, hb3⟩
  have HR3 := Lib.hid hr3
  have HB3 := Lib.hid (HB0.out.trans ((HB1.out.trans HB2.out).trans hb3))
  have hk2 := HT0.out.but ((HB1.out.trans HB2.out).trans hb3) (by omega)
  have hk3 := HTN.out.but (HB2.out.trans hb3) (by omega)
  have HK2 := Lib.hid hk2
  obtain ⟨⟨c0, c1, c2, c3, c4⟩, ⟨f0, f1, f2, f3, f4⟩, h3⟩ := hk2
  obtain ⟨⟨d0, d1, d2, d3, d4⟩, _, _⟩ := hk3
  clear hb3 hr3
  go_wp2_with fail
  exact end_tok1 rfl _ w.heap.size (HK2.out.set) rfl rfl ⟨none, 0, 0, rfl, HR3.out.tok (by omega) _ _ _ _ _, HB3.out.tok (Nat.le_refl _) hR _ _ _ _ _, OwnsAt.nil _ _⟩
 all_goals
  have hm0 : mustL u 62 ≠ 0 := by omega
  rw [if_pos hm0]
  have hmu : ∀ W, RdB R u W → Calls Tryz.prog 141 #[.pointer (some ⟨R, 0, none⟩), .string ⟨#[62]⟩] W (fun e w' => e = pan (mustL u 62) ∧ But R W w') := fun W hr => must_no R 62 u W hr hm0
  have HMU := Lib.hid hmu
  clear hmu hm hm0
  unfold PcP PaP
  dsimp only
  generalize mustL u 62 = err at *
  go_enter Tryz.func117, Tryz.ntmps117
  go_wp2_with fail
  rw [← HW0.out]
  refine HNM.out.mono ?_
  rintro e w1 ⟨rfl, hr1, hb1⟩
  obtain ⟨W1, hW1⟩ : ∃ W1, W1 = w1.alloc (.cells #[.int .i64 2, .string (bs V), .string ⟨#[]⟩, .slice none 0 0, .bool false] 72) := ⟨_, rfl⟩
  have hbn : But R w1 W1 := by rw [hW1]; exact But.new _ hr1.2.2
  have hrn : RdB R t W1 := by rw [hW1]; exact hr1.below ((Below.refl _ _).alloc (Nat.le_refl _) _)
  have HS1 := Lib.hid (HSP.out W1 hrn)
  have HB1 := Lib.hid (hb1.trans hbn)
  have HW1 := Lib.hid hW1
  clear hb1 hr1 hbn hrn hW1
  go_upto_region 2 with (fail)
  rw [← HW1.out]
  go_wp2_with fail
  refine HS1.out.mono ?_
  rintro e w2 ⟨rfl, hr2, hb2⟩
  have HM2 := Lib.hid (HMU.out w2 hr2)
  have HB2 := Lib.hid hb2
  clear hr2 hb2
  go_wp2_with fail
  refine HM2.out.mono ?_
  rintro e w3 ⟨rfl, hb3⟩
  have HB3 := Lib.hid (HB0.out.trans ((HB1.out.trans HB2.out).trans hb3))
  clear hb3
  unfold pan
  go_wp2_with fail
  exact ⟨rfl, rfl, HB3.out⟩
end Char
namespace Char
open Go.RowKit Go.Lib
def attQ2 (r u2 : List UInt8) : Nat ⊕ (List UInt8 × List UInt8 × List UInt8) := match quoP u2 with
 | .inl e => .inl e
 | .inr (V, rest) => if (getD5 true V).2 ≠ 0 then .inl (getD5 true V).2 else .inr (r.take (runL r), (getD5 true V).1, rest)
def attQ1 (r u1 : List UInt8) : Nat ⊕ (List UInt8 × List UInt8 × List UInt8) :=
 if mustL u1 61 ≠ 0 then .inl (mustL u1 61) else attQ2 r ((u1.drop 1).drop (spcL (u1.drop 1)))
def attQ (r : List UInt8) : Nat ⊕ (List UInt8 × List UInt8 × List UInt8) :=
 if nmE r ≠ 0 then .inl (nmE r) else attQ1 r ((r.drop (runL r)).drop (spcL (r.drop (runL r))))
theorem attQ_eq (r : List UInt8) : attQ r = match attrL r with
  | .inl e => .inl e
  | .inr (n, t, k) => .inr (n, t, r.drop k) := by
 unfold attQ attrL
 by_cases h0 : nmE r ≠ 0
 ·rw [if_pos h0, if_pos h0]
 rw [if_neg h0, if_neg h0]
 unfold attQ1
 rw [List.drop_drop]
 by_cases h1 : mustL (r.drop (runL r + spcL (r.drop (runL r)))) 61 ≠ 0
 ·rw [if_pos h1, if_pos h1]
 rw [if_neg h1, if_neg h1]
 unfold attrL.valL attrL.quoL attQ2
 obtain ⟨a, ha⟩ : ∃ a, runL r + spcL (r.drop (runL r)) + 1 = a := ⟨_, rfl⟩
 have e1 : (r.drop (runL r + spcL (r.drop (runL r)))).drop 1 = r.drop a := by rw [List.drop_drop, ha]
 rw [ha, e1]
 obtain ⟨b, hb⟩ : ∃ b, a + spcL (r.drop a) = b := ⟨_, rfl⟩
 have e2 : (r.drop a).drop (spcL (r.drop a)) = r.drop b := by rw [List.drop_drop, hb]
 rw [hb, e2]
 have hd : (r.drop b).drop 1 = r.drop (b + 1) := by rw [List.drop_drop]
 cases hx : r.drop b with
 | nil => rfl
 | cons q t =>
  rw [hx] at hd
  have ht : t = r.drop (b + 1) := hd
  rw [quoP_cons]
  dsimp only
  by_cases h2 : q ≠ 34 ∧ q ≠ 39
  ·rw [if_pos h2, if_pos h2]
  rw [if_neg h2, if_neg h2, ← ht]
  by_cases h3 : index t [q] = -1
  ·rw [if_pos h3, if_pos h3]
  rw [if_neg h3, if_neg h3]
  dsimp only
  by_cases h4 : (getD5 true (t.take (index t [q]).toNat)).2 ≠ 0
  ·rw [if_pos h4, if_pos h4]
  rw [if_neg h4, if_neg h4]
  dsimp only
  rw [ht, List.drop_drop]
  simp only [Nat.add_assoc]
end Char
namespace Char
open Go.RowKit Go.Lib Go.Shelf
def attP (r : List UInt8) (qs : List At2) : Nat ⊕ (List UInt8 × List UInt8 × List UInt8) := match attQ r with
 | .inl e => .inl e
 | .inr (n, t, rest) => if (qs.map (·.1)).contains n then .inl 15 else if qs.length = 8 then .inl 19 else .inr (n, t, rest)
def AtP (R : Nat) (x : Nat ⊕ (List UInt8 × List UInt8 × List UInt8)) (w : World) (e : Ending) (w' : World) : Prop := match x with
 | .inl err => PaP R err w e w'
 | .inr (n, t, rest) => e = .returned (.agg #[.string (bs n), .string (bs t)]) ∧ RdB R rest w' ∧ But R w w'
theorem same_pred (n : List UInt8) (B : Nat) (w : World) (hB : B < w.heap.size) (hc : w.cell? ⟨B, 0, none⟩ = some (.string (bs n))) :
  PredBelow Tryz.prog 172 #[.pointer (some ⟨B, 0, none⟩)] (fun (x : At2) => .agg #[.string (bs x.1), .string (bs x.2)]) (fun x => x.1 == n) w := fun W x hb => by
 have hc1 : W.cell? ⟨B, 0, none⟩ = some (.string (bs n)) := (hb.cell (p := ⟨B, 0, none⟩) hB).trans hc
 have hBW : B < W.heap.size := Nat.lt_of_lt_of_le hB hb.size
 have hne : B ≠ W.heap.size := by omega
 have hq : ((bs x.1).toList == (bs n).toList) = (x.1 == n) := by rw [bs_tl, bs_tl]
 obtain ⟨v, hv⟩ : ∃ v, (x.1 == n) = v := ⟨_, rfl⟩
 rw [hv] at hq
 have HV := Lib.hid hv
 clear hv
 show Calls Tryz.prog 172 #[.agg #[.string (bs x.1), .string (bs x.2)], .pointer (some ⟨B, 0, none⟩)] W _
 generalize bs x.1 = X at *
 generalize bs n = Y at *
 go_enter Tryz.func172, Tryz.ntmps172
 go_wp2_with fail
 go_ret
 exact ⟨ret_b HV.out.symm, hb.alloc hb.size _⟩
theorem any_names (n : List UInt8) (qs : List At2) : qs.any (fun x => x.1 == n) = (qs.map (·.1)).contains n := by
 induction qs with
 | nil => rfl
 | cons x r ih =>
  simp only [List.any_cons, List.map_cons, List.contains_cons, ih]
  cases h : x.1 == n <;> cases h2 : n == x.1 <;> simp_all
set_option maxHeartbeats 400000 in
theorem idx_nil (v : Value) (w : World) : Calls Tryz.prog 183 #[.slice none 0 0, v] w fun e w' => e = .returned (.int .i64 (-1)) ∧ w = w' := by
 go_enter Tryz.func183, Tryz.ntmps183
 go_wp2_with fail
 go_loop [8] (fun v => v = .int .i64 0) (fun _ => 0)
 case atStart => rfl
 case round =>
  obtain rfl := hrel
  go_wp2_with fail
  go_ret
  exact ⟨rfl, rfl⟩
theorem cont_any (n : List UInt8) (qs : List At2) (B C : Nat) (oo : Option Addr) (oi oj : Nat) (w : World) (hl : qs.length ≤ 1000) (ho : OwnsAt C w (.slice oo oi oj) qs) (hB : B < w.heap.size) (hc : w.cell? ⟨B, 0, none⟩ = some (.string (bs n))) :
  Calls Tryz.prog 171 #[.slice oo oi oj, .func (.func 172) #[] #[.pointer (some ⟨B, 0, none⟩)]] w fun e w' => e = .returned (.bool ((qs.map (·.1)).contains n)) ∧ Below w.heap.size w w' := by
 obtain rfl := ho.len
 have ho0 := ho
 rcases ho.2 with ⟨h1, h2⟩ | ⟨g, cap, cur, e1, e2, hg, _⟩
 ·simp only [Value.slice.injEq] at h1
  obtain ⟨rfl, h3, rfl⟩ := h1
  obtain rfl : qs = [] := List.eq_nil_of_length_eq_zero h3
  show Calls Tryz.prog _ #[.slice none 0 0, _] w _
  go_enter Tryz.func171, Tryz.ntmps171
  go_wp2_with fail
  refine (idx_nil _ _).mono ?_
  rintro e w1 ⟨rfl, rfl⟩
  go_wp2_with fail
  go_ret
  exact ⟨rfl, Below.refl _ _⟩
 ·simp only [Value.slice.injEq] at e1
  obtain ⟨rfl, _, rfl⟩ := e1
  have eg : ∀ args w, (callFunc 172 args).run Tryz.prog w = .ok (.enter 172 args) w := enters_of Tryz.func172 (by kernel_rfl) rfl
  have hcon := AnyQ.slices_ContainsFunc layCont 2 Tryz.isAgg40 Tryz.sizeOf40 (fun (x : At2) => [.string (bs x.1), .string (bs x.2)]) (fun _ => rfl) (fun x => x.1 == n) 172 #[.pointer (some ⟨B, 0, none⟩)] eg g 0 qs.length oj qs w
   (same_pred n B w hB hc) (Nat.le_refl _) (by omega) (Array.getElem?_eq_some_iff.1 hg).1 (fun j hj i v hi => by
    obtain ⟨g', e3, _, _, r0, r1⟩ := ho0.reads j hj
    simp only [Option.some.injEq, Addr.mk.injEq] at e3
    obtain ⟨rfl, _⟩ := e3
    have hq : qs[j]! = qs.getD j ([], []) := by
     rw [List.getElem!_eq_getElem?_getD, List.getD_eq_getElem?_getD, List.getElem?_eq_getElem hj]
     rfl
    rw [hq] at hi
    rw [Nat.zero_add]
    match i, hi with
    | 0, hi => simp at hi; rw [← hi]; exact r0
    | 1, hi => simp at hi; rw [← hi]; exact r1
    | i + 2, hi => simp at hi)
  rw [List.take_length, any_names] at hcon
  exact hcon
end Char
namespace Char
open Go.RowKit Go.Lib
def sl47 (u : List UInt8) : List UInt8 := if [47].isPrefixOf u then u.drop 1 else u
def finQ (u : List UInt8) (qs : List At2) : Nat ⊕ (List At2 × Bool × List UInt8) :=
 if mustL (sl47 u) 62 ≠ 0 then .inl (mustL (sl47 u) 62) else .inr (qs, [47].isPrefixOf u, (sl47 u).drop 1)
theorem pre_one (c b : UInt8) (t : List UInt8) : [c].isPrefixOf (b :: t) = (c == b) := by simp [List.isPrefixOf]
theorem tag_fin {r : List UInt8} {qs : List At2} (h : ¬ (0 < spcL r ∧ [47].isPrefixOf (r.drop (spcL r)) = false ∧ [62].isPrefixOf (r.drop (spcL r)) = false)) : tagF r qs = finQ (r.drop (spcL r)) qs := by
 rw [tagF_eq]
 cases hu : r.drop (spcL r) with
 | nil => rfl
 | cons c r2 =>
  rw [hu, pre_one, pre_one] at h
  dsimp only
  by_cases h62 : c = 62
  ·subst h62
   rfl
  rw [if_neg h62]
  by_cases h47 : c = 47
  ·subst h47
   rw [if_pos rfl]
   rfl
  rw [if_neg h47]
  have h1 : ((47 : UInt8) == c) = false := by rw [beq_eq_false_iff_ne]; exact fun hh => h47 hh.symm
  have h2 : ((62 : UInt8) == c) = false := by rw [beq_eq_false_iff_ne]; exact fun hh => h62 hh.symm
  have h0 : spcL r = 0 := by
   by_cases hs : spcL r = 0
   ·exact hs
   ·exact absurd ⟨by omega, h1, h2⟩ h
  rw [if_pos h0]
  have hm : mustL (c :: r2) 62 = 13 := by simp [mustL, h62]
  have hs : sl47 (c :: r2) = c :: r2 := by
   unfold sl47
   rw [pre_one, h1]
   rfl
  unfold finQ
  rw [hs, hm, if_pos (by decide)]
theorem tag_go {r : List UInt8} {qs : List At2} (h0 : 0 < spcL r) (h1 : [47].isPrefixOf (r.drop (spcL r)) = false) (h2 : [62].isPrefixOf (r.drop (spcL r)) = false) :
  tagF r qs = match attP (r.drop (spcL r)) qs with
   | .inl e => .inl e
   | .inr (m, t, rest) => tagF rest (qs ++ [(m, t)]) := by
 rw [tagF_eq]
 unfold attP
 rw [attQ_eq]
 cases hu : r.drop (spcL r) with
 | nil => rfl
 | cons c r2 =>
  rw [hu, pre_one] at h1 h2
  dsimp only
  rw [if_neg (by rintro rfl; simp at h2), if_neg (by rintro rfl; simp at h1), if_neg (by omega)]
  cases attrL (c :: r2) with
  | inl e => rfl
  | inr x =>
   obtain ⟨m, t, k⟩ := x
   dsimp only
   split
   ·rfl
   ·split
    ·rfl
    ·rfl
theorem tx_spc {l : List UInt8} (h : txD l = true) : txD (l.drop (spcL l)) = true := by
 rw [spc_tl]
 exact tx_tl _ _ l (Nat.le_refl _) h
theorem tx_run {l : List UInt8} (h : txD l = true) : txD (l.drop (runL l)) = true := by
 rw [run_tl _ l (Nat.le_refl _) h]
 exact tx_tl _ _ l (Nat.le_refl _) h
theorem attQ_tx {r n t rest : List UInt8} (h : txD r = true) (ha : attQ r = .inr (n, t, rest)) : txD rest = true ∧ rest.length < r.length := by
 unfold attQ at ha
 split at ha
 ·cases ha
 ·have k1 := tx_spc (tx_run h)
  have l1 : ((r.drop (runL r)).drop (spcL (r.drop (runL r)))).length ≤ r.length := by rw [List.length_drop, List.length_drop]; omega
  generalize (r.drop (runL r)).drop (spcL (r.drop (runL r))) = u1 at *
  unfold attQ1 at ha
  rcases must_cases u1 61 with ⟨v1, rfl, hm, _⟩ | hno
  ·rw [if_neg (by omega)] at ha
   have k2 := tx_spc (tx_behind [61] v1 (by decide) k1)
   have ha2 : attQ2 r (v1.drop (spcL v1)) = .inr (n, t, rest) := ha
   rw [List.length_cons] at l1
   have l2 : (v1.drop (spcL v1)).length ≤ v1.length := by rw [List.length_drop]; omega
   generalize v1.drop (spcL v1) = u2 at *
   unfold attQ2 at ha2
   cases u2 with
   | nil => cases ha2
   | cons q x =>
    rw [quoP_cons] at ha2
    by_cases hq : q ≠ 34 ∧ q ≠ 39
    ·rw [if_pos hq] at ha2; cases ha2
    ·rw [if_neg hq] at ha2
     have hq2 : q.toNat < 128 := by
      by_cases h34 : q = 34
      ·rw [h34]; decide
      ·by_cases h39 : q = 39
       ·rw [h39]; decide
       ·exact absurd ⟨h34, h39⟩ hq
     by_cases hi : index x [q] = -1
     ·rw [if_pos hi] at ha2; cases ha2
     ·rw [if_neg hi] at ha2
      dsimp only at ha2
      obtain ⟨i, hin⟩ : ∃ i : Nat, index x [q] = (i : Int) := ⟨(index x [q]).toNat, by have := index_ge x [q]; omega⟩
      rw [hin, Int.toNat_natCast] at ha2
      split at ha2
      ·cases ha2
      ·simp only [Sum.inr.injEq, Prod.mk.injEq] at ha2
       have k3 : txD x = true := tx_behind [q] x (by simp [hq2]) k2
       have := tx_cut (m := [q]) (by simp) (by simp [hq2]) hin k3
       rw [← ha2.2.2]
       refine ⟨this.2.1, ?_⟩
       rw [List.length_cons] at l2
       rw [List.length_drop]
       omega
  ·rw [if_pos (by rcases hno with ⟨_, hh, _⟩ | ⟨_, hh, _⟩ <;> omega)] at ha
   cases ha
theorem attP_tx {r n t rest : List UInt8} {qs : List At2} (h : txD r = true) (ha : attP r qs = .inr (n, t, rest)) : txD rest = true ∧ rest.length < r.length := by
 unfold attP at ha
 split at ha
 ·cases ha
 ·rename_i h1
  split at ha
  ·cases ha
  ·split at ha
   ·cases ha
   ·simp only [Sum.inr.injEq, Prod.mk.injEq] at ha
    obtain ⟨rfl, rfl, rfl⟩ := ha
    exact attQ_tx h h1
theorem attP_len {r n t rest : List UInt8} {qs : List At2} (hq : qs.length ≤ 8) (ha : attP r qs = .inr (n, t, rest)) : qs.length ≤ 7 := by
 unfold attP at ha
 split at ha
 ·cases ha
 ·split at ha
  ·cases ha
  ·split at ha
   ·cases ha
   ·omega
end Char
namespace Char
open Go.RowKit Go.Lib Go.Shelf
theorem AtAt.block {g : Nat} {n t : ByteArray} {w w' : World} (h : AtAt g n t w) (hb : w'.heap[g]? = w.heap[g]?) : AtAt g n t w' := by
 obtain ⟨⟨a0, a1⟩, ⟨b0, b1⟩, h3⟩ := h
 exact ⟨⟨(cell_of_block hb 0).trans a0, (cell_of_block hb 1).trans a1⟩, ⟨(frozen_of_block hb 0).trans b0, (frozen_of_block hb 1).trans b1⟩, lt_of_block hb h3⟩
structure AtK (R : Nat) (w : World) (cur : List UInt8) (ov : Value) (qs : List At2) (C : Nat) (W : World) : Prop where
 rd : RdB R cur W
 env : Env R W
 box : AtAt w.heap.size ⟨#[]⟩ ⟨#[]⟩ W
 own : OwnsAt C W ov qs
 but : But R w W
 hr : R < w.heap.size
 hC : R < C
theorem AtK.next {R : Nat} {w : World} {cur cur' : List UInt8} {ov : Value} {qs : List At2} {C : Nat} {W W2 : World} (h : AtK R w cur ov qs C W) (hr : RdB R cur' W2) (hb : But R W W2) : AtK R w cur' ov qs C W2 :=
 ⟨hr, h.env.but hb, h.box.block (hb.2 _ h.box.2.2 (by have := h.hr; omega)), h.own.keep (fun k hk hk2 => hb.2 k hk2 (by have := h.hC; omega)), h.but.trans hb, h.hr, h.hC⟩
theorem AtK.below {R : Nat} {w : World} {cur : List UInt8} {ov : Value} {qs : List At2} {C : Nat} {W W2 : World} (h : AtK R w cur ov qs C W) (hb : Below W.heap.size W W2) : AtK R w cur ov qs C W2 := h.next (h.rd.below hb) (But.of hb h.rd.2.2)
def NmV (R B : Nat) (n : List UInt8) (W : World) : Prop := W.cell? ⟨B, 0, none⟩ = some (.string (bs n)) ∧ B < W.heap.size ∧ R < B
theorem NmV.but {R B : Nat} {n : List UInt8} {W W2 : World} (h : NmV R B n W) (hb : But R W W2) : NmV R B n W2 := by
 have e := hb.2 B h.2.1 (by have := h.2.2; omega)
 exact ⟨(cell_of_block e 0).trans h.1, lt_of_block e h.2.1, h.2.2⟩
theorem end_at1 {fn : Func} {p : Tmp} (h : fn.results = #[.cell p 40]) {a : Act} {R : Ending → World → Prop} (w1 : World) (g : Nat) {n t : ByteArray}
  (hk : AtAt g n t w1) (hp : a.tmps.getD p undef = .pointer (some ⟨g, 0, none⟩)) (hd : a.defers = []) (hR : R (.returned (.agg #[.string n, .string t])) w1) : bodyPost Tryz.prog fn R .ret a w1 := by
 have hp' : a.tmps[p]?.getD undef = .pointer (some ⟨g, 0, none⟩) := by simpa using hp
 obtain ⟨⟨a0, a1⟩, _, _⟩ := hk
 exact bodyPost_ret (v := .agg #[.string n, .string t]) (by simp [results, h, hp', go_sem, a0, a1]) hd hR
theorem atSet_block (w : World) (g : Nat) (n t : ByteArray) (k : Nat) (h : k ≠ g) : (atSet w g n t).heap[k]? = w.heap[k]? := by
 unfold atSet
 rw [Below.heap_setCell _ _ _ _ h, Below.heap_setCell _ _ _ _ h]
theorem But.at {R g : Nat} {w w' : World} (h : But R w w') (hg : w.heap.size ≤ g) (hR : R < w.heap.size) (n t : ByteArray) : But R w (atSet w' g n t) :=
 ⟨below_atSet h.1 (by omega) n t, fun k hk hr => (atSet_block _ _ _ _ k (by omega)).trans (h.2 k hk hr)⟩
set_option maxRecDepth 100000 in
set_option maxHeartbeats 16000000 in
theorem att_any (R : Nat) (l : List UInt8) (w : World) (h : RdB R l w) (hl : l.length ≤ 60000) (ht : txD l = true) (hE : Env R w) (qs : List At2) (C : Nat) (oo : Option Addr) (oi oj : Nat) (hq : qs.length ≤ 8) (ho : OwnsAt C w (.slice oo oi oj) qs) (hC : R < C) :
  Calls Tryz.prog 143 #[.pointer (some ⟨R, 0, none⟩), .slice oo oi oj] w (AtP R (attP l qs) w) := by
 obtain ⟨P, hP⟩ : ∃ P, AtP R (attP l qs) w = P := ⟨_, rfl⟩
 obtain ⟨G, hG⟩ : ∃ G, attP l qs = G := ⟨_, rfl⟩
 rw [hG] at hP
 have HP := Lib.hid hP
 rw [hG, hP]
 unfold attP attQ at hG
 have hR := h.2.2
 obtain rfl := ho.len
 obtain ⟨W0, hW0⟩ : ∃ W0, W0 = w.alloc (.cells #[.string ⟨#[]⟩, .string ⟨#[]⟩] 40) := ⟨_, rfl⟩
 have hb0 : Below w.heap.size w W0 := by rw [hW0]; exact (Below.refl _ _).alloc (Nat.le_refl _) _
 have hk0 : AtK R w l (.slice oo qs.length oj) qs C W0 := ⟨h.below hb0, hE.below hb0, by rw [hW0]; exact AtAt.new _ _ _, ho.keep (fun k _ hk => hb0.block k hk), But.of hb0 hR, hR, hC⟩
 have HK0 := Lib.hid hk0
 have HW0 := Lib.hid hW0
 -- what a way out by a panic owes
 have HPAN : Hid (∀ (err : Nat) (W : World), G = .inl err → But R w W → P (pan err) W) := Lib.hid (fun err W he hb => by
  have := HP.out
  rw [he] at this
  rw [← this]
  exact ⟨rfl, hb⟩)
 by_cases hn : nmE l ≠ 0
 ·rw [if_pos hn] at hG
  have hnm := name_no R l W0 hk0.rd (by omega) ht hk0.env hn
  unfold PaP at hnm
  have HNM := Lib.hid hnm
  have HQ := Lib.hid (fun W => HPAN.out (nmE l) W hG.symm)
  clear hn hnm hk0 hb0 hW0 h hE ht hG hP ho
  generalize nmE l = err at *
  go_enter Tryz.func143, Tryz.ntmps143
  go_wp2_with fail
  rw [← HW0.out]
  refine HNM.out.mono ?_
  rintro e w1 ⟨rfl, hb1⟩
  have HB1 := Lib.hid (HK0.out.but.trans hb1)
  clear hb1
  unfold pan
  go_wp2_with fail
  exact ⟨rfl, HQ.out _ HB1.out⟩
 rw [if_neg hn] at hG
 have hnm := name_ok R l W0 hk0.rd (by omega) ht hk0.env (by omega)
 unfold ScP at hnm
 have HNM := Lib.hid hnm
 have hrl := run_le _ l (Nat.le_refl _)
 have htl : (l.drop (runL l)).length ≤ 60000 := by rw [List.length_drop]; omega
 unfold attQ1 attQ2 at hG
 clear hn hnm hk0 hb0 hW0 h hE ht hP ho hrl
 generalize l.take (runL l) = N at *
 generalize l.drop (runL l) = t1 at *
 have hs1 := fun (W : World) (hr : RdB R t1 W) => spaces_p R t1 W hr (by omega)
 unfold ScP at hs1
 have hul : (t1.drop (spcL t1)).length ≤ 60000 := by rw [List.length_drop]; omega
 generalize t1.drop (spcL t1) = u1 at *
 generalize decide (0 < spcL t1) = b1 at *
 have HS1 := Lib.hid hs1
 clear hs1 htl
 go_enter Tryz.func143, Tryz.ntmps143
 go_wp2_with fail
 rw [← HW0.out]
 refine HNM.out.mono ?_
 rintro e w1 ⟨rfl, hr1, hb1⟩
 have hk1 := HK0.out.next hr1 hb1
 obtain ⟨W1, hW1⟩ : ∃ W1, W1 = w1.alloc (.cells #[.string (bs N)] 9) := ⟨_, rfl⟩
 have hbn : Below w1.heap.size w1 W1 := by rw [hW1]; exact (Below.refl _ _).alloc (Nat.le_refl _) _
 have hv1 : NmV R w1.heap.size N W1 := by
  rw [hW1]
  refine ⟨?_, by simp, hk1.rd.2.2⟩
  go_simp
 have HK1 := Lib.hid (hk1.below hbn)
 have HV1 := Lib.hid hv1
 have HW1 := Lib.hid hW1
 have HC1 := Lib.hid (HS1.out W1 (hk1.below hbn).rd)
 clear hr1 hb1 hk1 hbn hv1 hW1
 go_upto_region 2 with (fail)
 rw [← HW1.out]
 go_wp2_with fail
 refine HC1.out.mono ?_
 rintro e w2 ⟨rfl, hr2, hb2⟩
 have HK2 := Lib.hid (HK1.out.next hr2 hb2)
 have HV2 := Lib.hid (HV1.out.but hb2)
 clear hr2 hb2
 rcases must_cases u1 61 with ⟨v1, rfl, hm, _⟩ | hno
 rotate_left
 ·have hm0 : mustL u1 61 ≠ 0 := by
   rcases hno with ⟨_, h, _⟩ | ⟨_, h, _⟩ <;> omega
  rw [if_pos hm0] at hG
  have HQ := Lib.hid (fun W => HPAN.out (mustL u1 61) W hG.symm)
  have hmu : Calls Tryz.prog 141 #[.pointer (some ⟨R, 0, none⟩), .string ⟨#[61]⟩] w2 (fun e w' => e = pan (mustL u1 61) ∧ But R w2 w') := must_no R 61 u1 w2 HK2.out.rd hm0
  have HMU := Lib.hid hmu
  clear hmu hm0 hno hG
  generalize mustL u1 61 = err at *
  go_wp2_with fail
  refine HMU.out.mono ?_
  rintro e w3 ⟨rfl, hb3⟩
  have HB3 := Lib.hid (HK2.out.but.trans hb3)
  clear hb3
  unfold pan
  go_wp2_with fail
  exact ⟨rfl, HQ.out _ HB3.out⟩
 rw [if_neg (by omega)] at hG
 have hmu : Calls Tryz.prog 141 #[.pointer (some ⟨R, 0, none⟩), .string ⟨#[61]⟩] w2 (fun e w' => e = .returned (.tuple #[]) ∧ RdB R v1 w' ∧ But R w2 w') := must_ok R 61 v1 w2 HK2.out.rd
 have HMU := Lib.hid hmu
 rw [List.length_cons] at hul
 have hG1 : (match (match quoP (v1.drop (spcL v1)) with
   | .inl e => .inl e
   | .inr (V, rest) => if (getD5 true V).2 ≠ 0 then .inl (getD5 true V).2 else .inr (N, (getD5 true V).1, rest) : Nat ⊕ (List UInt8 × List UInt8 × List UInt8)) with
   | .inl e => .inl e
   | .inr (n, t, rest) => if (qs.map (·.1)).contains n then .inl 15 else if qs.length = 8 then .inl 19 else .inr (n, t, rest)) = G := hG
 have hs2 := fun (W : World) (hr : RdB R v1 W) => spaces_p R v1 W hr (by omega)
 unfold ScP at hs2
 have hul2 : (v1.drop (spcL v1)).length ≤ 60000 := by rw [List.length_drop]; omega
 generalize v1.drop (spcL v1) = u2 at *
 generalize decide (0 < spcL v1) = b2 at *
 have HS2 := Lib.hid hs2
 have hqu := fun (W : World) (hr : RdB R u2 W) (he : Env R W) => quoted_any R u2 W hr (by omega) he
 unfold QuP at hqu
 clear hmu hs2 hG hm
 go_wp2_with fail
 refine HMU.out.mono ?_
 rintro e w3 ⟨rfl, hr3, hb3⟩
 have HK3 := Lib.hid (HK2.out.next hr3 hb3)
 have HV3 := Lib.hid (HV2.out.but hb3)
 have HC3 := Lib.hid (HS2.out w3 hr3)
 clear hr3 hb3
 go_wp2_with fail
 refine HC3.out.mono ?_
 rintro e w4 ⟨rfl, hr4, hb4⟩
 have hk4 := HK3.out.next hr4 hb4
 have HK4 := Lib.hid hk4
 have HV4 := Lib.hid (HV3.out.but hb4)
 have hq4 := hqu w4 hr4 hk4.env
 clear hr4 hb4 hk4 hqu
 cases hx : quoP u2 with
 | inl err =>
  rw [hx] at hq4 hG1
  have HQ := Lib.hid (fun W => HPAN.out err W hG1.symm)
  have hq5 : Calls Tryz.prog 170 #[.pointer (some ⟨R, 0, none⟩)] w4 (fun e w' => e = pan err ∧ But R w4 w') := hq4
  have HQU := Lib.hid hq5
  clear hq4 hq5 hG1 hx
  go_wp2_with fail
  refine HQU.out.mono ?_
  rintro e w5 ⟨rfl, hb5⟩
  have HB5 := Lib.hid (HK4.out.but.trans hb5)
  clear hb5
  unfold pan
  go_wp2_with fail
  exact ⟨rfl, HQ.out _ HB5.out⟩
 | inr y =>
  obtain ⟨V, rest⟩ := y
  rw [hx] at hq4 hG1
  dsimp only at hG1
  have hq5 : Calls Tryz.prog 170 #[.pointer (some ⟨R, 0, none⟩)] w4 (fun e w' => e = .returned (.string (bs V)) ∧ RdB R rest w' ∧ But R w4 w') := hq4
  have HQU := Lib.hid hq5
  have hVl : V.length ≤ 60000 := by
   cases u2 with
   | nil => cases hx
   | cons q t =>
    rw [quoP_cons] at hx
    split at hx
    ·cases hx
    ·split at hx
     ·cases hx
     ·simp only [Sum.inr.injEq, Prod.mk.injEq] at hx
      rw [← hx.1, List.length_take]
      rw [List.length_cons] at hul2
      omega
  have hge := fun (W : World) (he : Env R W) => GetAttr_any V W (by omega) he.gl.1
  clear hq4 hq5 hx
  generalize getD5 true V = g at *
  obtain ⟨g1, g2⟩ := g
  dsimp only at hge hG1
  have HGE := Lib.hid hge
  clear hge
  go_wp2_with fail
  refine HQU.out.mono ?_
  rintro e w5 ⟨rfl, hr5, hb5⟩
  have hk5 := HK4.out.next hr5 hb5
  have HK5 := Lib.hid hk5
  have HV5 := Lib.hid (HV4.out.but hb5)
  have HG5 := Lib.hid (HGE.out w5 hk5.env)
  clear hr5 hb5 hk5
  go_wp2_with fail
  refine HG5.out.mono ?_
  rintro e w6 ⟨rfl, hb6⟩
  have HK6 := Lib.hid (HK5.out.below hb6)
  have HV6 := Lib.hid (HV5.out.but (But.of hb6 HK5.out.rd.2.2))
  clear hb6
  by_cases h0 : g2 ≠ 0
  ·rw [if_pos h0] at hG1
   have HQ := Lib.hid (fun W => HPAN.out g2 W hG1.symm)
   have HGO := Lib.hid (got_no (bs g1) g2 h0)
   clear hG1 h0
   go_wp2_with fail
   refine (HGO.out _).mono ?_
   rintro e w7 ⟨rfl, rfl⟩
   unfold pan
   go_wp2_with fail
   exact ⟨rfl, HQ.out _ HK6.out.but⟩
  obtain rfl : g2 = 0 := by omega
  rw [if_neg h0] at hG1
  dsimp only at hG1
  have hco := cont_any N qs w1.heap.size C oo qs.length oj w6 (by omega) HK6.out.own HV6.out.2.1 HV6.out.1
  clear h0
  cases hc : (qs.map (·.1)).contains N with
  | true =>
   rw [hc] at hco hG1
   rw [if_pos rfl] at hG1
   have HQ := Lib.hid (fun W => HPAN.out 15 W hG1.symm)
   have HCO := Lib.hid hco
   clear hco hG1 hc
   go_wp2_with fail
   refine (got_ok (bs g1) _).mono ?_
   rintro e w7 ⟨rfl, rfl⟩
   have hmf : ∀ (fn : Fn) (first cap : Array Value) (w : World), (Instr.makeFunc fn first cap).run Tryz.prog w = .ok (.func fn first cap) w := fun _ _ _ _ => rfl
   go_wp2_with fail
   refine HCO.out.mono ?_
   rintro e w8 ⟨rfl, hb8⟩
   have HB8 := Lib.hid (HK6.out.below hb8).but
   clear hb8
   go_wp2_with fail
   exact ⟨rfl, HQ.out _ HB8.out⟩
  | false =>
   rw [hc] at hco hG1
   rw [if_neg (by simp)] at hG1
   have HCO := Lib.hid hco
   clear hco hc
   by_cases h8 : qs.length = 8
   ·rw [if_pos h8] at hG1
    have HQ := Lib.hid (fun W => HPAN.out 19 W hG1.symm)
    have q8 : ((qs.length : Int) == 8) = true := by rw [beq_iff_eq]; omega
    clear hG1 h8
    go_wp2_with fail
    refine (got_ok (bs g1) _).mono ?_
    rintro e w7 ⟨rfl, rfl⟩
    have hmf : ∀ (fn : Fn) (first cap : Array Value) (w : World), (Instr.makeFunc fn first cap).run Tryz.prog w = .ok (.func fn first cap) w := fun _ _ _ _ => rfl
    go_wp2_with fail
    refine HCO.out.mono ?_
    rintro e w8 ⟨rfl, hb8⟩
    have HB8 := Lib.hid (HK6.out.below hb8).but
    clear hb8
    go_wp2_with fail
    exact ⟨rfl, HQ.out _ HB8.out⟩
   ·rw [if_neg h8] at hG1
    have HE : Hid (∀ W, RdB R rest W → But R w W → P (.returned (.agg #[.string (bs N), .string (bs g1)])) W) := Lib.hid (fun W h1 h2 => by
     have := HP.out
     rw [← hG1] at this
     rw [← this]
     exact ⟨rfl, h1, h2⟩)
    have q8 : ((qs.length : Int) == 8) = false := by rw [beq_eq_false_iff_ne]; omega
    clear hG1 h8
    go_wp2_with fail
    refine (got_ok (bs g1) _).mono ?_
    rintro e w7 ⟨rfl, rfl⟩
    have hmf : ∀ (fn : Fn) (first cap : Array Value) (w : World), (Instr.makeFunc fn first cap).run Tryz.prog w = .ok (.func fn first cap) w := fun _ _ _ _ => rfl
    go_wp2_with fail
    refine HCO.out.mono ?_
    rintro e w8 ⟨rfl, hb8⟩
    have hk8 := HK6.out.below hb8
    have HK8 := Lib.hid hk8
    have hv8 := HV6.out.but (But.of hb8 HK6.out.rd.2.2)
    obtain ⟨n0, n1, n2⟩ := hv8
    obtain ⟨⟨a0, a1⟩, ⟨b0', b1'⟩, h3⟩ := hk8.box
    clear hb8 hk8
    go_wp2_with fail
    exact end_at1 rfl _ w.heap.size (HK8.out.box.set) rfl rfl (HE.out _ (HK8.out.rd.block (atSet_block _ _ _ _ R (by omega))) (HK8.out.but.at (Nat.le_refl _) hR _ _))
end Char
end Go.Proofs.YtlmodgnkmlbjhaaGreatDoor
