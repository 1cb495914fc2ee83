import Derived.Test.YtlmodgnkmlbjhaaGreatDoorPkReader
import Derived.Test.YtlmodgnkmlbjhaaGreatDoorPkIs
import Derived.Test.YtlmodgnkmlbjhaaGreatDoorPkShelf
import Derived.Test.YtlmodgnkmlbjhaaGreatDoorPkAts
import Derived.WalkLawsBesides
import Derived.Deep.QuietTactic
import Derived.BigQuiet
import Derived.Test.YtlmodgnkmlbjhaaGreatDoorPkRun
namespace Go.Proofs.YtlmodgnkmlbjhaaGreatDoor
namespace Char
open Go.RowKit Go.Lib Go.Shelf
def pan (e : Nat) : Ending := .panicked [{ v := .iface 30 (.int .i64 (e : Int)), recovered := false }]
def ScP (R : Nat) (v : Value) (t : List UInt8) (w : World) (e : Ending) (w' : World) : Prop := e = .returned v ∧ RdB R t w' ∧ But R w w'
def PaP (R : Nat) (err : Nat) (w : World) (e : Ending) (w' : World) : Prop := e = pan err ∧ But R w w'
theorem hasp_any (l p : List UInt8) (w : World) : Calls Tryz.prog 168 #[.string (bs l), .string (bs p)] w fun e w' => e = .returned (.bool (p.isPrefixOf l)) ∧ w' = w :=
 Any.strings_HasPrefix layHasP (bs l) (bs p) w
set_option maxHeartbeats 2000000 in
theorem take_any (R : Nat) (l p : List UInt8) (w : World) (h : RdB R l w) :
  Calls Tryz.prog 120 #[.pointer (some ⟨R, 0, none⟩), .string (bs p)] w (ScP R (.bool (p.isPrefixOf l)) (if p.isPrefixOf l then l.drop p.length else l) w) := by
 have hC := cutp_any l p w
 obtain ⟨t, ht⟩ : ∃ t, (if p.isPrefixOf l then l.drop p.length else l) = t := ⟨_, rfl⟩
 rw [ht] at hC ⊢
 have HS := Lib.hid (h.set t)
 have HC := Lib.hid hC
 obtain ⟨h1, h2, h3⟩ := h
 clear hC ht
 generalize p.isPrefixOf l = v at *
 go_enter Tryz.func120, Tryz.ntmps120
 go_wp2_with fail
 refine HC.out.mono ?_
 rintro e w1 ⟨rfl, rfl⟩
 go_wp2_with fail
 go_ret
 exact ⟨rfl, HS.out, But.set _ _ _ _⟩
set_option maxHeartbeats 2000000 in
theorem ahead_any (R : Nat) (l p : List UInt8) (w : World) (h : RdB R l w) :
  Calls Tryz.prog 142 #[.pointer (some ⟨R, 0, none⟩), .string (bs p)] w fun e w' => e = .returned (.bool (p.isPrefixOf l)) ∧ w' = w := by
 have HC := Lib.hid (hasp_any l p w)
 obtain ⟨h1, h2, h3⟩ := h
 generalize p.isPrefixOf l = v at *
 go_enter Tryz.func142, Tryz.ntmps142
 go_wp2_with fail
 refine HC.out.mono ?_
 rintro e w1 ⟨rfl, rfl⟩
 go_wp2_with fail
 go_ret
 exact ⟨rfl, rfl⟩
theorem scut_any (l m : List UInt8) (w : World) (hl : l.length ≤ 100000) (hG : MaxL w) :
  Calls Tryz.prog 167 #[.string (bs l), .string (bs m)] w fun e w' => e = .returned (.tuple #[.string (bs (cut l m).1), .string (bs (cut l m).2.1), .bool (cut l m).2.2]) ∧ Below w.heap.size w w' := by
 obtain ⟨z, hz⟩ := hG
 have hs := bs_size l
 refine (Any.strings_Cut layCut (bs l) (bs m) z w (by omega) hz).mono fun e w' h => ?_
 obtain ⟨he, n, rfl⟩ := h
 exact ⟨he, below_drewN5 w n⟩
set_option maxHeartbeats 2000000 in
theorem upTo_yes (R : Nat) (l m : List UInt8) (i : Nat) (w : World) (h : RdB R l w) (hl : l.length ≤ 100000) (hG : MaxL w) (hi : index l m = (i : Int)) :
  Calls Tryz.prog 137 #[.pointer (some ⟨R, 0, none⟩), .string (bs m)] w (ScP R (.string (bs (l.take i))) (l.drop (i + m.length)) w) := by
 have hC := scut_any l m w hl hG
 have hc : cut l m = (l.take i, l.drop (i + m.length), true) := by
  unfold cut
  rw [hi, if_pos (by omega)]
  rfl
 rw [hc] at hC
 generalize l.take i = V at *
 generalize l.drop (i + m.length) = t at *
 have HC := Lib.hid hC
 have HR := Lib.hid h
 obtain ⟨h1, h2, h3⟩ := h
 clear hC hc hG hi
 go_enter Tryz.func137, Tryz.ntmps137
 go_wp2_with fail
 refine HC.out.mono ?_
 rintro e w1 ⟨rfl, hb1⟩
 have hr1 := HR.out.below hb1
 have HR1 := Lib.hid (hr1.set t)
 have HB1 := Lib.hid ((But.of hb1 h3).trans (But.set R 0 w1 (.string (bs t))))
 obtain ⟨k1, k2, k3⟩ := hr1
 clear hb1
 go_wp2_with fail
 go_ret
 exact ⟨rfl, HR1.out, HB1.out⟩
set_option maxHeartbeats 2000000 in
theorem upTo_no (R : Nat) (l m : List UInt8) (w : World) (h : RdB R l w) (hl : l.length ≤ 100000) (hG : MaxL w) (hi : index l m = -1) :
  Calls Tryz.prog 137 #[.pointer (some ⟨R, 0, none⟩), .string (bs m)] w (PaP R 16 w) := by
 have hC := scut_any l m w hl hG
 have hc : cut l m = (l, [], false) := by
  unfold cut
  rw [hi, if_neg (by omega)]
 rw [hc] at hC
 have HC := Lib.hid hC
 obtain ⟨h1, h2, h3⟩ := h
 clear hC hc hG hi
 go_enter Tryz.func137, Tryz.ntmps137
 go_wp2_with fail
 refine HC.out.mono ?_
 rintro e w1 ⟨rfl, hb1⟩
 have HB1 := Lib.hid (But.of hb1 h3)
 clear hb1
 go_wp2_with fail
 exact ⟨rfl, rfl, HB1.out⟩
theorem slice_to (l : List UInt8) (k : Nat) (h : k ≤ l.length) (wx : World) : (Instr.slice 9 (.string (bs l)) none (some (.int .i64 (k : Int))) none).run Tryz.prog wx = .ok (.string (bs (l.take k))) wx := by
 have hsz := bs_size l
 have := run_slice_string_h (P := Tryz.prog) wx 9 (bs l) Tryz.underlying9 .i64 (k : Int) (by omega) (by omega)
 rw [this, show (k : Int).toNat = k by omega, bs_ext]
 rfl
set_option maxHeartbeats 4000000 in
theorem while_any (g : Nat) (p : Nat → Bool) (R : Nat) (l : List UInt8) (w : World) (eg : ∀ args w, (callFunc g args).run Tryz.prog w = .ok (.enter g args) w) (hp : PredGrows Tryz.prog g #[] p w) (h : RdB R l w) (hl : l.length ≤ 100000) :
  Calls Tryz.prog 138 #[.pointer (some ⟨R, 0, none⟩), .func (.func g) #[] #[]] w (ScP R (.string (bs (l.take (tlL p l)))) (l.drop (tlL p l)) w) := by
 have hC := Any.strings_TrimLeftFunc_grows layTrimL g #[] eg p (bs l) w hp
 have he : trimLeftF p (bs l) = bs (l.drop (tlL p l)) := by
  rw [← bs_of (trimLeftF p (bs l)), trimLeft_eq]
  rfl
 rw [he] at hC
 have hC2 : Calls Tryz.prog 76 #[.string (bs l), .func (.func g) #[] #[]] w fun e w' => e = .returned (.string (bs (l.drop (tlL p l)))) ∧ Below w.heap.size w w' := hC
 have hk := tl_le p l
 generalize tlL p l = k at *
 have hsl := slice_to l k hk
 have hs1 := bs_size l
 have hs2 := bs_size (l.drop k)
 rw [List.length_drop] at hs2
 have hwr : IntKind.i64.wrap ((l.length : Int) - ((l.length - k : Nat) : Int)) = (k : Int) := by
  rw [show (l.length : Int) - ((l.length - k : Nat) : Int) = (k : Int) by omega]
  exact IntWalk.i64_in _ (by omega)
 generalize l.take k = V at *
 generalize l.drop k = t at *
 have HC := Lib.hid hC2
 have HR := Lib.hid h
 obtain ⟨h1, h2, h3⟩ := h
 clear hC he hp eg hC2
 go_enter Tryz.func138, Tryz.ntmps138
 go_wp2_with fail
 refine HC.out.mono ?_
 rintro e w1 ⟨rfl, hb1⟩
 have hr1 := HR.out.below hb1
 have HR1 := Lib.hid (fun n => (hr1.below (below_drewN5 w1 n)).set t)
 have HB1 := Lib.hid (fun n => ((But.of hb1 h3).trans (But.of (below_drewN5 w1 n) hr1.2.2)).trans (But.set R 0 (w1.drewN n) (.string (bs t))))
 obtain ⟨k1, k2, k3⟩ := hr1
 clear hb1
 go_wp2_with fail
 go_quiet (fail)
 go_wp2_with fail
 go_ret
 exact ⟨rfl, HR1.out _, HB1.out _⟩
theorem part_pred (w : World) : PredGrows Tryz.prog 69 #[] (fun r => paC (r : Int)) w := fun W x _ _ => chPart_any (x : Int) W
theorem space_pred (w : World) : PredGrows Tryz.prog 77 #[] (fun r => spC (r : Int)) w := fun W x _ _ => chSpace_any (x : Int) W
set_option maxHeartbeats 400000 in
theorem lt_clos (n : Int) (w : World) : Calls Tryz.prog 145 #[.int .i32 n] w fun e w' => e = .returned (.bool (n != 60)) ∧ w = w' := by
 go_enter Tryz.func145, Tryz.ntmps145
 go_wp2_with fail
 go_ret
 exact ⟨rfl, rfl⟩
theorem lt_pred (w : World) : PredGrows Tryz.prog 145 #[] (fun r => (r : Int) != 60) w := fun W x _ _ => (lt_clos (x : Int) W).mono fun _ _ h => ⟨h.1, h.2 ▸ Below.refl _ _⟩
theorem whileP_any (R : Nat) (l : List UInt8) (w : World) (h : RdB R l w) (hl : l.length ≤ 100000) (ht : txD l = true) :
  Calls Tryz.prog 138 #[.pointer (some ⟨R, 0, none⟩), .func (.func 69) #[] #[]] w (ScP R (.string (bs (l.take (runL l)))) (l.drop (runL l)) w) := by
 rw [run_tl _ l (Nat.le_refl _) ht]
 exact while_any 69 _ R l w (enters_of Tryz.func69 (by kernel_rfl) rfl) (part_pred w) h hl
theorem whileS_any (R : Nat) (l : List UInt8) (w : World) (h : RdB R l w) (hl : l.length ≤ 100000) :
  Calls Tryz.prog 138 #[.pointer (some ⟨R, 0, none⟩), .func (.func 77) #[] #[]] w (ScP R (.string (bs (l.take (spcL l)))) (l.drop (spcL l)) w) := by
 rw [spc_tl l]
 exact while_any 77 _ R l w (enters_of Tryz.func77 (by kernel_rfl) rfl) (space_pred w) h hl
theorem whileL_any (R : Nat) (l : List UInt8) (w : World) (h : RdB R l w) (hl : l.length ≤ 100000) :
  Calls Tryz.prog 138 #[.pointer (some ⟨R, 0, none⟩), .func (.func 145) #[] #[]] w (ScP R (.string (bs (l.take (ltL l)))) (l.drop (ltL l)) w) := by
 rw [lt_tl _ l (Nat.le_refl _)]
 exact while_any 145 _ R l w (enters_of Tryz.func145 (by kernel_rfl) rfl) (lt_pred w) h hl
end Char
namespace Char
open Go.RowKit Go.Lib Go.Shelf
theorem ne_nil_bs {l : List UInt8} (h : l ≠ []) : ((bs l).toList != []) = true := by rw [bs_tl]; simpa using h
theorem spaces_p (R : Nat) (l : List UInt8) (w : World) (h : RdB R l w) (hl : l.length ≤ 100000) :
  Calls Tryz.prog 139 #[.pointer (some ⟨R, 0, none⟩)] w (ScP R (.bool (decide (0 < spcL l))) (l.drop (spcL l)) w) := by
 have hC := whileS_any R l w h hl
 unfold ScP at hC ⊢
 have hle := spc_le l
 obtain ⟨V, hV⟩ : ∃ V, l.take (spcL l) = V := ⟨_, rfl⟩
 have hVl : V.length = spcL l := by rw [← hV, List.length_take]; omega
 rw [hV] at hC
 generalize spcL l = k at *
 generalize l.drop k = t at *
 have HC := Lib.hid hC
 have HR := Lib.hid h.2.2
 clear hC h hV
 by_cases h0 : k = 0
 ·obtain rfl : V = [] := List.eq_nil_of_length_eq_zero (by omega)
  rw [decide_eq_false (by omega)]
  clear h0 hVl hle
  have i1 : (bs []).toList = [] := bs_tl []
  have i2 : ((bs []).toList != []) = false := by rw [i1]; rfl
  go_enter Tryz.func139, Tryz.ntmps139
  go_wp2_with fail
  refine HC.out.mono ?_
  rintro e w1 ⟨rfl, hr, hb⟩
  have HR := Lib.hid hr
  have HB := Lib.hid hb
  clear hr hb
  go_wp2_with fail
  go_ret
  exact ⟨rfl, HR.out, HB.out⟩
 ·rw [decide_eq_true (by omega)]
  have hne : V ≠ [] := by rintro rfl; simp at hVl; omega
  have i1 : ¬ (bs V).toList = [] := by rw [bs_tl]; exact hne
  have i2 := ne_nil_bs hne
  have i3 : (bs V).toList.isEmpty = false := by rw [bs_tl]; cases V with | nil => exact absurd rfl hne | cons _ _ => rfl
  have i4 : (!(bs V).toList.isEmpty) = true := by rw [i3]; rfl
  clear h0 hVl hle hne
  generalize bs V = S at *
  go_enter Tryz.func139, Tryz.ntmps139
  go_wp2_with fail
  refine HC.out.mono ?_
  rintro e w1 ⟨rfl, hr, hb⟩
  have HR := Lib.hid hr
  have HB := Lib.hid hb
  clear hr hb
  go_wp2_with fail
  go_ret
  exact ⟨rfl, HR.out, HB.out⟩
def FoldV (w : World) : Prop := (w.cell? ⟨2, 120, none⟩ = some (.int .u16 88) ∧ w.cell? ⟨2, 88, none⟩ = some (.int .u16 120)) ∧ (w.cell? ⟨2, 109, none⟩ = some (.int .u16 77) ∧ w.cell? ⟨2, 77, none⟩ = some (.int .u16 109)) ∧
 (w.cell? ⟨2, 108, none⟩ = some (.int .u16 76) ∧ w.cell? ⟨2, 76, none⟩ = some (.int .u16 108))
theorem FoldV.below {w w' : World} (h : FoldV w) (hb : Below w.heap.size w w') : FoldV w' := by
 obtain ⟨⟨a, b⟩, ⟨c, d⟩, e, f⟩ := h
 have hB := World.block_lt_of_cell? _ _ a
 have k := fun o => hb.cell (p := ⟨2, o, none⟩) hB
 exact ⟨⟨(k _).trans a, (k _).trans b⟩, ⟨(k _).trans c, (k _).trans d⟩, (k _).trans e, (k _).trans f⟩
def Gl6 (w : World) : Prop := Gl w ∧ FoldV w
theorem Gl6.below {w w' : World} (h : Gl6 w) (hb : Below w.heap.size w w') : Gl6 w' := ⟨h.1.below hb, h.2.below hb⟩
def Env (R : Nat) (w : World) : Prop := ∃ w0, Gl6 w0 ∧ Below w0.heap.size w0 w ∧ w0.heap.size ≤ R
theorem Env.but {R : Nat} {w w' : World} (h : Env R w) (hb : But R w w') : Env R w' := by
 obtain ⟨w0, h1, h2, h3⟩ := h
 exact ⟨w0, h1, h2.trans (hb.1.mono h3), h3⟩
theorem Env.below {R : Nat} {w w' : World} (h : Env R w) (hb : Below w.heap.size w w') : Env R w' := by
 obtain ⟨w0, h1, h2, h3⟩ := h
 exact ⟨w0, h1, h2.trans (hb.mono h2.size), h3⟩
theorem Env.gl {R : Nat} {w : World} (h : Env R w) : Gl6 w := by
 obtain ⟨w0, h1, h2, _⟩ := h
 exact h1.below h2
theorem But.env {R : Nat} {w w' : World} (hb : But R w w') (hR : R < w.heap.size) : R < w'.heap.size := Nat.lt_of_lt_of_le hR (by
 have := hb.1.size
 exact this)
set_option maxHeartbeats 4000000 in
theorem name_ok (R : Nat) (l : List UInt8) (w : World) (h : RdB R l w) (hl : l.length ≤ 100000) (ht : txD l = true) (hE : Env R w) (hn : nmE l = 0) :
  Calls Tryz.prog 140 #[.pointer (some ⟨R, 0, none⟩)] w (ScP R (.string (bs (l.take (runL l)))) (l.drop (runL l)) w) := by
 have hC := whileP_any R l w h hl ht
 have hnm : nmD (bs (l.take (runL l))) = true := by
  unfold nmE at hn
  split at hn
  ·assumption
  ·split at hn <;> omega
 obtain ⟨V, hV⟩ : ∃ V, l.take (runL l) = V := ⟨_, rfl⟩
 have hVl : V.length ≤ 100000 := by rw [← hV, List.length_take]; omega
 have hsV := bs_size V
 rw [hV] at hC hnm ⊢
 generalize l.drop (runL l) = t at *
 have HN := Lib.hid (fun w1 (hb : But R w w1) => chName_any (bs V) w1 (by omega) (hE.but hb).gl.1.1)
 rw [hnm] at HN
 have HC := Lib.hid hC
 clear hC hV hn hnm ht hE
 unfold ScP at HC ⊢
 go_enter Tryz.func140, Tryz.ntmps140
 go_wp2_with fail
 refine HC.out.mono ?_
 rintro e w1 ⟨rfl, hr1, hb1⟩
 have HR1 := Lib.hid hr1
 have HB1 := Lib.hid hb1
 clear hr1 hb1
 go_wp2_with fail
 refine (HN.out _ HB1.out).mono ?_
 rintro e w2 ⟨rfl, hb2⟩
 have HR2 := Lib.hid (HR1.out.below hb2)
 have HB2 := Lib.hid (HB1.out.trans (But.of hb2 HR1.out.2.2))
 clear hb2
 go_wp2_with fail
 go_ret
 exact ⟨rfl, HR2.out, HB2.out⟩
set_option maxHeartbeats 4000000 in
theorem name_no (R : Nat) (l : List UInt8) (w : World) (h : RdB R l w) (hl : l.length ≤ 100000) (ht : txD l = true) (hE : Env R w) (hn : nmE l ≠ 0) :
  Calls Tryz.prog 140 #[.pointer (some ⟨R, 0, none⟩)] w (PaP R (nmE l) w) := by
 have hC := whileP_any R l w h hl ht
 have hnm : nmD (bs (l.take (runL l))) = false := by
  unfold nmE at hn
  split at hn
  ·exact absurd rfl hn
  ·rename_i h0; simpa using h0
 have hrl := run_le _ l (Nat.le_refl _)
 have hne : nmE l = if l = [] then 16 else 11 := by
  unfold nmE
  rw [if_neg (by rw [hnm]; simp)]
 rw [hne]
 obtain ⟨V, hV⟩ : ∃ V, l.take (runL l) = V := ⟨_, rfl⟩
 have hVl : V.length ≤ 100000 := by rw [← hV, List.length_take]; omega
 have hVl2 : V.length = runL l := by rw [← hV, List.length_take]; omega
 have hsV := bs_size V
 rw [hV] at hC hnm
 obtain ⟨t, ht2⟩ : ∃ t, l.drop (runL l) = t := ⟨_, rfl⟩
 have htl : t.length = l.length - runL l := by rw [← ht2, List.length_drop]
 rw [ht2] at hC
 have HN := Lib.hid (fun w1 (hb : But R w w1) => chName_any (bs V) w1 (by omega) (hE.but hb).gl.1.1)
 rw [hnm] at HN
 have HC := Lib.hid hC
 clear hC hn hnm ht hE hV ht2 hne
 unfold ScP at HC
 unfold PaP
 by_cases hV0 : V = []
 ·subst hV0
  have i1 : (bs []).toList = [] := bs_tl []
  have i2 : (bs []).toList.isEmpty = true := by rw [i1]; rfl
  by_cases ht0 : t = []
  ·subst ht0
   have hl0 : l = [] := List.eq_nil_of_length_eq_zero (by simp at hVl2 htl; omega)
   rw [if_pos hl0]
   clear hl0 htl hVl2 hrl
   go_enter Tryz.func140, Tryz.ntmps140
   go_wp2_with fail
   refine HC.out.mono ?_
   rintro e w1 ⟨rfl, hr1, hb1⟩
   have HR1 := Lib.hid hr1
   have HB1 := Lib.hid hb1
   clear hr1 hb1
   go_wp2_with fail
   refine (HN.out _ HB1.out).mono ?_
   rintro e w2 ⟨rfl, hb2⟩
   have hr2 := HR1.out.below hb2
   have HB2 := Lib.hid (HB1.out.trans (But.of hb2 HR1.out.2.2))
   obtain ⟨k1, k2, k3⟩ := hr2
   clear hb2
   go_wp2_with fail
   exact ⟨rfl, rfl, HB2.out⟩
  ·have hl0 : l ≠ [] := by
    rintro rfl
    simp at htl
    exact ht0 htl
   rw [if_neg hl0]
   have j1 : ¬ (bs t).toList = [] := by rw [bs_tl]; exact ht0
   have j2 : (bs t).toList.isEmpty = false := by rw [bs_tl]; cases t with | nil => exact absurd rfl ht0 | cons _ _ => rfl
   clear hl0 htl hVl2 hrl ht0
   generalize hS : bs t = S at *
   have HS := Lib.hid hS
   clear hS
   go_enter Tryz.func140, Tryz.ntmps140
   go_wp2_with fail
   refine HC.out.mono ?_
   rintro e w1 ⟨rfl, hr1, hb1⟩
   have HR1 := Lib.hid hr1
   have HB1 := Lib.hid hb1
   clear hr1 hb1
   go_wp2_with fail
   refine (HN.out _ HB1.out).mono ?_
   rintro e w2 ⟨rfl, hb2⟩
   have hr2 := HR1.out.below hb2
   have HB2 := Lib.hid (HB1.out.trans (But.of hb2 HR1.out.2.2))
   obtain ⟨k1, k2, k3⟩ := hr2
   rw [HS.out] at k1
   clear hb2
   go_wp2_with fail
   exact ⟨rfl, rfl, HB2.out⟩
 ·have hl0 : l ≠ [] := by
   rintro rfl
   rw [show runL [] = 0 from rfl] at hVl2
   exact hV0 (List.eq_nil_of_length_eq_zero hVl2)
  rw [if_neg hl0]
  have i1 : ¬ (bs V).toList = [] := by rw [bs_tl]; exact hV0
  have i2 : (bs V).toList.isEmpty = false := by rw [bs_tl]; cases V with | nil => exact absurd rfl hV0 | cons _ _ => rfl
  clear hl0 htl hVl2 hrl hV0
  go_enter Tryz.func140, Tryz.ntmps140
  go_wp2_with fail
  refine HC.out.mono ?_
  rintro e w1 ⟨rfl, hr1, hb1⟩
  have HR1 := Lib.hid hr1
  have HB1 := Lib.hid hb1
  clear hr1 hb1
  go_wp2_with fail
  refine (HN.out _ HB1.out).mono ?_
  rintro e w2 ⟨rfl, hb2⟩
  have HB2 := Lib.hid (HB1.out.trans (But.of hb2 HR1.out.2.2))
  clear hb2
  go_wp2_with fail
  exact ⟨rfl, rfl, HB2.out⟩
end Char
namespace Char
open Go.RowKit Go.Lib Go.Shelf
theorem must_cases (l : List UInt8) (c : UInt8) : (∃ t, l = c :: t ∧ mustL l c = 0 ∧ [c].isPrefixOf l = true) ∨ (l = [] ∧ mustL l c = 16 ∧ [c].isPrefixOf l = false) ∨ (l ≠ [] ∧ mustL l c = 13 ∧ [c].isPrefixOf l = false) := by
 cases l with
 | nil => exact .inr (.inl ⟨rfl, rfl, rfl⟩)
 | cons b t =>
  by_cases h : b = c
  ·subst h
   exact .inl ⟨t, rfl, by simp [mustL], by simp [List.isPrefixOf]⟩
  ·refine .inr (.inr ⟨by simp, by simp [mustL, h], ?_⟩)
   simp [List.isPrefixOf]
   exact fun hh => h hh.symm
set_option maxHeartbeats 4000000 in
theorem must_ok (R : Nat) (c : UInt8) (t : List UInt8) (w : World) (h : RdB R (c :: t) w) :
  Calls Tryz.prog 141 #[.pointer (some ⟨R, 0, none⟩), .string (bs [c])] w (ScP R (.tuple #[]) t w) := by
 have hC := take_any R (c :: t) [c] w h
 rw [show [c].isPrefixOf (c :: t) = true by simp [List.isPrefixOf]] at hC
 have hC2 : Calls Tryz.prog 120 #[.pointer (some ⟨R, 0, none⟩), .string (bs [c])] w (ScP R (.bool true) t w) := hC
 unfold ScP at hC2 ⊢
 have HC := Lib.hid hC2
 clear hC hC2 h
 generalize bs [c] = S at *
 go_enter Tryz.func141, Tryz.ntmps141
 go_wp2_with fail
 refine HC.out.mono ?_
 rintro e w1 ⟨rfl, hr1, hb1⟩
 have HR1 := Lib.hid hr1
 have HB1 := Lib.hid hb1
 clear hr1 hb1
 go_wp2_with fail
 first
  | exact ⟨rfl, HR1.out, HB1.out⟩
  | exact ⟨rfl, .tuple #[], by simp [results, Tryz.results141, go_sem], rfl, HR1.out, HB1.out⟩
  | exact bodyPost_ret (v := .tuple #[]) (by simp [results, Tryz.results141, go_sem]) rfl ⟨rfl, HR1.out, HB1.out⟩
set_option maxHeartbeats 4000000 in
theorem must_no (R : Nat) (c : UInt8) (l : List UInt8) (w : World) (h : RdB R l w) (hm : mustL l c ≠ 0) :
  Calls Tryz.prog 141 #[.pointer (some ⟨R, 0, none⟩), .string (bs [c])] w (PaP R (mustL l c) w) := by
 have hC := take_any R l [c] w h
 unfold ScP at hC
 unfold PaP
 rcases must_cases l c with ⟨t, _, h0, _⟩ | ⟨rfl, h0, hp⟩ | ⟨hne, h0, hp⟩
 ·exact absurd h0 hm
 ·rw [hp] at hC
  have HC := Lib.hid hC
  rw [h0]
  have i1 : (bs []).toList = [] := bs_tl []
  have i2 : (bs []).toList.isEmpty = true := by rw [i1]; rfl
  clear hC h hm hp h0
  generalize bs [c] = S at *
  go_enter Tryz.func141, Tryz.ntmps141
  go_wp2_with fail
  refine HC.out.mono ?_
  rintro e w1 ⟨rfl, hr1, hb1⟩
  have HB1 := Lib.hid hb1
  obtain ⟨k1, k2, k3⟩ := hr1
  have k1' : w1.cell? ⟨R, 0, none⟩ = some (.string (bs [])) := k1
  clear hb1 k1
  go_wp2_with fail
  exact ⟨rfl, rfl, HB1.out⟩
 ·rw [hp] at hC
  have HC := Lib.hid hC
  rw [h0]
  have j1 : ¬ (bs l).toList = [] := by rw [bs_tl]; exact hne
  have j2 : (bs l).toList.isEmpty = false := by rw [bs_tl]; cases l with | nil => exact absurd rfl hne | cons _ _ => rfl
  clear hC h hm hp h0
  generalize bs [c] = S at *
  go_enter Tryz.func141, Tryz.ntmps141
  go_wp2_with fail
  refine HC.out.mono ?_
  rintro e w1 ⟨rfl, hr1, hb1⟩
  have HB1 := Lib.hid hb1
  obtain ⟨k1, k2, k3⟩ := hr1
  have k1' : w1.cell? ⟨R, 0, none⟩ = some (.string (bs l)) := k1
  clear hb1 k1
  go_wp2_with fail
  exact ⟨rfl, rfl, HB1.out⟩
set_option maxHeartbeats 400000 in
theorem got_ok (s : ByteArray) (w : World) : Calls Tryz.prog 146 #[.string s, .int .i64 0] w fun e w' => e = .returned (.string s) ∧ w = w' := by
 go_enter Tryz.func146, Tryz.ntmps146
 go_wp2_with fail
 go_ret
 exact ⟨rfl, rfl⟩
set_option maxHeartbeats 400000 in
theorem got_no (s : ByteArray) (err : Nat) (h : err ≠ 0) (w : World) : Calls Tryz.prog 146 #[.string s, .int .i64 (err : Int)] w fun e w' => e = pan err ∧ w = w' := by
 have q : ((err : Int) != 0) = true := by rw [bne_iff_ne]; omega
 clear h
 go_enter Tryz.func146, Tryz.ntmps146
 go_wp2_with fail
 exact ⟨rfl, rfl, rfl⟩
def quoP (l : List UInt8) : Nat ⊕ (List UInt8 × List UInt8) := match l with
 | [] => .inl 16
 | q :: t => if q ≠ 34 ∧ q ≠ 39 then .inl 13 else if index t [q] = -1 then .inl 16 else .inr (t.take (index t [q]).toNat, t.drop ((index t [q]).toNat + 1))
theorem quoP_cons (q : UInt8) (t : List UInt8) : quoP (q :: t) = if q ≠ 34 ∧ q ≠ 39 then .inl 13 else if index t [q] = -1 then .inl 16 else .inr (t.take (index t [q]).toNat, t.drop ((index t [q]).toNat + 1)) := rfl
def QuP (R : Nat) (x : Nat ⊕ (List UInt8 × List UInt8)) (w : World) (e : Ending) (w' : World) : Prop := match x with
 | .inl err => PaP R err w e w'
 | .inr (v, t) => ScP R (.string (bs v)) t w e w'
set_option maxHeartbeats 8000000 in
theorem quoted_any (R : Nat) (l : List UInt8) (w : World) (h : RdB R l w) (hl : l.length ≤ 100000) (hE : Env R w) :
  Calls Tryz.prog 170 #[.pointer (some ⟨R, 0, none⟩)] w (QuP R (quoP l) w) := by
 have hC := take_any R l [34] w h
 unfold ScP at hC
 by_cases h34 : ∃ t, l = 34 :: t
 ·obtain ⟨t, rfl⟩ := h34
  rw [show [(34 : UInt8)].isPrefixOf (34 :: t) = true by simp [List.isPrefixOf]] at hC
  have hC2 : Calls Tryz.prog 120 #[.pointer (some ⟨R, 0, none⟩), .string ⟨#[34]⟩] w fun e w' => e = .returned (.bool true) ∧ RdB R t w' ∧ But R w w' := hC
  have HC := Lib.hid hC2
  have hq : quoP (34 :: t) = if index t [34] = -1 then .inl 16 else .inr (t.take (index t [34]).toNat, t.drop ((index t [34]).toNat + 1)) := by
   rw [quoP_cons, if_neg (by simp)]
  rw [hq]
  rw [List.length_cons] at hl
  by_cases hi : index t [34] = -1
  ·rw [if_pos hi]
   have HU := Lib.hid (fun w1 (hr : RdB R t w1) (hb : But R w w1) => upTo_no R t [34] w1 hr (by omega) (hE.but hb).gl.1.2.1 hi)
   clear hC hC2 h hE hq hi
   unfold QuP PaP
   unfold PaP at HU
   go_enter Tryz.func170, Tryz.ntmps170
   go_wp2_with fail
   refine HC.out.mono ?_
   rintro e w1 ⟨rfl, hr1, hb1⟩
   have hu : Calls Tryz.prog 137 #[.pointer (some ⟨R, 0, none⟩), .string ⟨#[34]⟩] w1 _ := HU.out w1 hr1 hb1
   have HU1 := Lib.hid hu
   have HB1 := Lib.hid hb1
   clear hr1 hb1 hu
   go_wp2_with fail
   refine HU1.out.mono ?_
   rintro e w2 ⟨rfl, hb2⟩
   have HB2 := Lib.hid (HB1.out.trans hb2)
   clear hb2
   unfold pan
   go_wp2_with fail
   exact ⟨rfl, rfl, HB2.out⟩
  ·rw [if_neg hi]
   obtain ⟨i, hin⟩ : ∃ i : Nat, index t [34] = (i : Int) := ⟨(index t [34]).toNat, by have := index_ge t [34]; omega⟩
   rw [hin, Int.toNat_natCast]
   have HU := Lib.hid (fun w1 (hr : RdB R t w1) (hb : But R w w1) => upTo_yes R t [34] i w1 hr (by omega) (hE.but hb).gl.1.2.1 hin)
   clear hC hC2 h hE hq hi hin
   unfold QuP ScP
   unfold ScP at HU
   rw [show i + [(34 : UInt8)].length = i + 1 from rfl] at HU
   dsimp only
   generalize t.take i = V at *
   generalize t.drop (i + 1) = u at *
   go_enter Tryz.func170, Tryz.ntmps170
   go_wp2_with fail
   refine HC.out.mono ?_
   rintro e w1 ⟨rfl, hr1, hb1⟩
   have hu : Calls Tryz.prog 137 #[.pointer (some ⟨R, 0, none⟩), .string ⟨#[34]⟩] w1 _ := HU.out w1 hr1 hb1
   have HU1 := Lib.hid hu
   have HB1 := Lib.hid hb1
   clear hr1 hb1 hu
   go_wp2_with fail
   refine HU1.out.mono ?_
   rintro e w2 ⟨rfl, hr2, hb2⟩
   have HR2 := Lib.hid hr2
   have HB2 := Lib.hid (HB1.out.trans hb2)
   clear hb2 hr2
   go_wp2_with fail
   go_ret
   exact ⟨rfl, HR2.out, HB2.out⟩
 ·have hp : [(34 : UInt8)].isPrefixOf l = false := by
   rcases must_cases l 34 with ⟨t, h1, _⟩ | ⟨_, _, h2⟩ | ⟨_, _, h2⟩
   ·exact absurd ⟨t, h1⟩ h34
   ·exact h2
   ·exact h2
  rw [hp] at hC
  have hC2 : Calls Tryz.prog 120 #[.pointer (some ⟨R, 0, none⟩), .string ⟨#[34]⟩] w fun e w' => e = .returned (.bool false) ∧ RdB R l w' ∧ But R w w' := hC
  have HC := Lib.hid hC2
  by_cases h39 : ∃ t, l = 39 :: t
  ·obtain ⟨t, rfl⟩ := h39
   have hq : quoP (39 :: t) = if index t [39] = -1 then .inl 16 else .inr (t.take (index t [39]).toNat, t.drop ((index t [39]).toNat + 1)) := by
    rw [quoP_cons, if_neg (by simp)]
   rw [hq]
   rw [List.length_cons] at hl
   have HM := Lib.hid (fun w1 (hr : RdB R (39 :: t) w1) => must_ok R 39 t w1 hr)
   unfold ScP at HM
   by_cases hi : index t [39] = -1
   ·rw [if_pos hi]
    have HU := Lib.hid (fun w1 (hr : RdB R t w1) (hb : But R w w1) => upTo_no R t [39] w1 hr (by omega) (hE.but hb).gl.1.2.1 hi)
    clear hC hC2 h hE hq hi hp h34
    unfold QuP PaP
    unfold PaP at HU
    go_enter Tryz.func170, Tryz.ntmps170
    go_wp2_with fail
    refine HC.out.mono ?_
    rintro e w1 ⟨rfl, hr1, hb1⟩
    have hm : Calls Tryz.prog 141 #[.pointer (some ⟨R, 0, none⟩), .string ⟨#[39]⟩] w1 _ := HM.out w1 hr1
    have HM1 := Lib.hid hm
    have HB1 := Lib.hid hb1
    clear hr1 hb1 hm
    go_wp2_with fail
    refine HM1.out.mono ?_
    rintro e w2 ⟨rfl, hr2, hb2⟩
    have hb12 := HB1.out.trans hb2
    have hu : Calls Tryz.prog 137 #[.pointer (some ⟨R, 0, none⟩), .string ⟨#[39]⟩] w2 _ := HU.out w2 hr2 hb12
    have HU1 := Lib.hid hu
    have HB2 := Lib.hid hb12
    clear hr2 hb2 hu hb12
    go_wp2_with fail
    refine HU1.out.mono ?_
    rintro e w3 ⟨rfl, hb3⟩
    have HB3 := Lib.hid (HB2.out.trans hb3)
    clear hb3
    unfold pan
    go_wp2_with fail
    exact ⟨rfl, rfl, HB3.out⟩
   ·rw [if_neg hi]
    obtain ⟨i, hin⟩ : ∃ i : Nat, index t [39] = (i : Int) := ⟨(index t [39]).toNat, by have := index_ge t [39]; omega⟩
    rw [hin, Int.toNat_natCast]
    have HU := Lib.hid (fun w1 (hr : RdB R t w1) (hb : But R w w1) => upTo_yes R t [39] i w1 hr (by omega) (hE.but hb).gl.1.2.1 hin)
    clear hC hC2 h hE hq hi hin hp h34
    unfold QuP ScP
    unfold ScP at HU
    rw [show i + [(39 : UInt8)].length = i + 1 from rfl] at HU
    dsimp only
    generalize t.take i = V at *
    generalize t.drop (i + 1) = u at *
    go_enter Tryz.func170, Tryz.ntmps170
    go_wp2_with fail
    refine HC.out.mono ?_
    rintro e w1 ⟨rfl, hr1, hb1⟩
    have hm : Calls Tryz.prog 141 #[.pointer (some ⟨R, 0, none⟩), .string ⟨#[39]⟩] w1 _ := HM.out w1 hr1
    have HM1 := Lib.hid hm
    have HB1 := Lib.hid hb1
    clear hr1 hb1 hm
    go_wp2_with fail
    refine HM1.out.mono ?_
    rintro e w2 ⟨rfl, hr2, hb2⟩
    have hb12 := HB1.out.trans hb2
    have hu : Calls Tryz.prog 137 #[.pointer (some ⟨R, 0, none⟩), .string ⟨#[39]⟩] w2 _ := HU.out w2 hr2 hb12
    have HU1 := Lib.hid hu
    have HB2 := Lib.hid hb12
    clear hr2 hb2 hu hb12
    go_wp2_with fail
    refine HU1.out.mono ?_
    rintro e w3 ⟨rfl, hr3, hb3⟩
    have HR3 := Lib.hid hr3
    have HB3 := Lib.hid (HB2.out.trans hb3)
    clear hb3 hr3
    go_wp2_with fail
    go_ret
    exact ⟨rfl, HR3.out, HB3.out⟩
  ·have hq : quoP l = .inl (mustL l 39) := by
    rcases must_cases l 39 with ⟨t, h1, _⟩ | ⟨rfl, h2, _⟩ | ⟨hne, h2, _⟩
    ·exact absurd ⟨t, h1⟩ h39
    ·rfl
    ·cases l with
     | nil => exact absurd rfl hne
     | cons b t =>
      rw [quoP_cons, if_pos ⟨fun h => h34 ⟨t, by rw [h]⟩, fun h => h39 ⟨t, by rw [h]⟩⟩, h2]
   rw [hq]
   have hm0 : mustL l 39 ≠ 0 := by
    rcases must_cases l 39 with ⟨t, h1, _⟩ | ⟨_, h2, _⟩ | ⟨_, h2, _⟩
    ·exact absurd ⟨t, h1⟩ h39
    ·omega
    ·omega
   have HM := Lib.hid (fun w1 (hr : RdB R l w1) => must_no R 39 l w1 hr hm0)
   unfold PaP at HM
   unfold QuP PaP
   generalize mustL l 39 = err at *
   clear hC hC2 h hE hq hp h34 h39 hm0
   go_enter Tryz.func170, Tryz.ntmps170
   go_wp2_with fail
   refine HC.out.mono ?_
   rintro e w1 ⟨rfl, hr1, hb1⟩
   have hm : Calls Tryz.prog 141 #[.pointer (some ⟨R, 0, none⟩), .string ⟨#[39]⟩] w1 _ := HM.out w1 hr1
   have HM1 := Lib.hid hm
   have HB1 := Lib.hid hb1
   clear hr1 hb1 hm
   go_wp2_with fail
   refine HM1.out.mono ?_
   rintro e w2 ⟨rfl, hb2⟩
   have HB2 := Lib.hid (HB1.out.trans hb2)
   clear hb2
   unfold pan
   go_wp2_with fail
   exact ⟨rfl, rfl, HB2.out⟩
end Char
end Go.Proofs.YtlmodgnkmlbjhaaGreatDoor
