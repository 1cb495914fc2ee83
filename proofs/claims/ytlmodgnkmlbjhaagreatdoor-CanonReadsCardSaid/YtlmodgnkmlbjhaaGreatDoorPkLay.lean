import Derived.Test.YtlmodgnkmlbjhaaGreatDoorPkTrM
import Derived.Test.YtlmodgnkmlbjhaaGreatDoorPkMat
import Derived.Test.YtlmodgnkmlbjhaaGreatDoorPkBs
import Derived.Lib.OthersKept
import Derived.Shelf.Strings.BuilderK
namespace Go.Proofs.YtlmodgnkmlbjhaaGreatDoor
namespace Char
open Go.Lib
def atsL : List At2 → List UInt8
 | [] => []
 | a :: r => 32 :: (a.1 ++ 61 :: 34 :: (putL true a.2 ++ 34 :: atsL r))
mutual
def mkT : Tr → List UInt8
 | .mk kd nm tx ats ks => if kd = 4 then putL false tx else if kd = 5 then 60 :: 33 :: 45 :: 45 :: (tx ++ [45, 45, 62])
  else if kd = 6 then (if tx = [] then 60 :: 63 :: (nm ++ [63, 62]) else 60 :: 63 :: (nm ++ 32 :: (tx ++ [63, 62])))
  else 60 :: (nm ++ (atsL ats ++ 62 :: (mkK ks ++ 60 :: 47 :: (nm ++ [62]))))
def mkK : List Tr → List UInt8
 | [] => []
 | k :: r => mkT k ++ mkK r
end
theorem mkT_el {nm tx : List UInt8} {ats : List At2} {ks : List Tr} : mkT (.mk 2 nm tx ats ks) = 60 :: (nm ++ (atsL ats ++ 62 :: (mkK ks ++ 60 :: 47 :: (nm ++ [62])))) := by rw [mkT]; rfl
theorem mkT_tx {nm tx : List UInt8} {ats : List At2} {ks : List Tr} : mkT (.mk 4 nm tx ats ks) = putL false tx := by rw [mkT]; rfl
theorem mkT_co {nm tx : List UInt8} {ats : List At2} {ks : List Tr} : mkT (.mk 5 nm tx ats ks) = 60 :: 33 :: 45 :: 45 :: (tx ++ [45, 45, 62]) := by rw [mkT]; rfl
theorem mkT_in {nm tx : List UInt8} {ats : List At2} {ks : List Tr} : mkT (.mk 6 nm tx ats ks) = if tx = [] then 60 :: 63 :: (nm ++ [63, 62]) else 60 :: 63 :: (nm ++ 32 :: (tx ++ [63, 62])) := by rw [mkT]; rfl
theorem atsL_take : ∀ (l : List At2) (k : Nat) (h : k < l.length), atsL (l.take (k + 1)) = atsL (l.take k) ++ (32 :: (l[k].1 ++ 61 :: 34 :: (putL true l[k].2 ++ [34])))
 | [], k, h => by cases h
 | a :: r, 0, _ => by simp [atsL]
 | a :: r, k + 1, h => by
  have := atsL_take r k (by simpa using h)
  simp only [List.take_succ_cons, atsL, List.getElem_cons_succ]
  rw [this]
  simp
theorem atsL_le : ∀ (l : List At2) (k : Nat), (atsL (l.take k)).length ≤ (atsL l).length
 | [], k => by simp
 | a :: r, 0 => by simp [atsL]
 | a :: r, k + 1 => by
  have := atsL_le r k
  simp only [List.take_succ_cons, atsL, List.length_cons, List.length_append]
  omega
theorem mkK_take : ∀ (l : List Tr) (k : Nat) (h : k < l.length), mkK (l.take (k + 1)) = mkK (l.take k) ++ mkT l[k]
 | [], k, h => by cases h
 | a :: r, 0, _ => by simp [mkK]
 | a :: r, k + 1, h => by
  have := mkK_take r k (by simpa using h)
  simp only [List.take_succ_cons, mkK, List.getElem_cons_succ]
  rw [this, List.append_assoc]
theorem mkK_le : ∀ (l : List Tr) (k : Nat), (mkK (l.take k)).length ≤ (mkK l).length
 | [], k => by simp
 | a :: r, 0 => by simp [mkK]
 | a :: r, k + 1 => by
  have := mkK_le r k
  simp only [List.take_succ_cons, mkK, List.length_append]
  omega
mutual
def okT : Tr → Prop
 | .mk kd nm tx ats ks => (kd = 2 ∨ kd = 4 ∨ kd = 5 ∨ kd = 6) ∧ nm.length ≤ 20000 ∧ tx.length ≤ 20000 ∧ ats.length ≤ 1000 ∧ (∀ a, a ∈ ats → a.1.length ≤ 20000 ∧ a.2.length ≤ 20000) ∧ ks.length ≤ 20000 ∧ okK ks
def okK : List Tr → Prop
 | [] => True
 | k :: r => okT k ∧ okK r
end
theorem okT_def {t : Tr} : okT t ↔ ((t.kd = 2 ∨ t.kd = 4 ∨ t.kd = 5 ∨ t.kd = 6) ∧ t.nm.length ≤ 20000 ∧ t.tx.length ≤ 20000 ∧ t.ats.length ≤ 1000 ∧ (∀ a, a ∈ t.ats → a.1.length ≤ 20000 ∧ a.2.length ≤ 20000) ∧ t.ks.length ≤ 20000 ∧ okK t.ks) := by
 cases t
 rw [okT]
 rfl
theorem okK_at : ∀ {ks : List Tr}, okK ks → ∀ k (h : k < ks.length), okT ks[k]
 | [], _, k, h => by cases h
 | x :: r, hs, 0, _ => by rw [okK] at hs; exact hs.1
 | x :: r, hs, k + 1, h => by
  rw [okK] at hs
  simp only [List.getElem_cons_succ]
  exact okK_at hs.2 k (by simpa using h)
end Char
namespace Char
open Go.RowKit Go.Lib Go.Shelf
def BlC (B b : Nat) (l : List UInt8) (w : World) : Prop := Lib.IsBuilderF 48 5 B b (Lib.byteCells l) w
def BlPost (B b : Nat) (l : List UInt8) (w w' : World) : Prop := BlC B b l w' ∧ Below B w w' ∧ Lib.OthersKept 5 (some b) w w'
theorem lies_c : liesAt Tryz.prog (Program.depth Tryz.prog) 48 (2 / Tryz.prog.cellsOf 48) 0 44 1 = true := by kernel_rfl
set_option maxHeartbeats 1000000 in
set_option maxRecDepth 100000 in
theorem check_fresh (b : Nat) (w : World) (h0 : w.cell? ⟨b, 0, none⟩ = some (.pointer none)) (hsh : w.shape? b = some (48, 2)) (hfz : w.frozen? ⟨b, 0, none⟩ = false) :
  Calls Tryz.prog 133 #[.pointer (some ⟨b, 0, none⟩)] w fun e w' => e = .returned (.tuple #[]) ∧ w' = w.setCell ⟨b, 0, none⟩ (.pointer (some ⟨b, 0, none⟩)) := by
 obtain ⟨j, hj, hjs⟩ := Option.map_eq_some_iff.1 layWriteX.sizeBuilder
 go_enter Tryz.func133, Tryz.ntmps133
 go_wp2
 rw [Lib.run_to_unsafe w ⟨b, 0, none⟩ Tryz.underlying41 Tryz.underlying192 hj (by rw [hjs]; decide) hsh (Nat.zero_lt_succ 1)]
 simp only [Result.andThen]
 rw [Oper.upon_value]
 go_wp2
 rw [run_callFunc_extern Tryz.func163 (by kernel_rfl) (by kernel_rfl) (by kernel_rfl) (e := Extern.AbiNoEscape.same) (by kernel_rfl)]
 rw [Lib.run_noEscape]
 simp only [Result.andThen]
 rw [Oper.upon_value]
 go_wp2
 rw [Lib.run_from_unsafe w ⟨b, 0, none⟩ Tryz.underlying192 Tryz.underlying41 hj hsh lies_c]
 simp only [Result.andThen]
 rw [Oper.upon_value]
 go_wp2
 go_end0
 exact ⟨rfl, rfl⟩
theorem check_any (B b : Nat) (l : List Value) (w : World) (h : Lib.IsBuilderF 48 5 B b l w) :
  Calls Tryz.prog 133 #[.pointer (some ⟨b, 0, none⟩)] w fun e w' => e = .returned (.tuple #[]) ∧ Lib.BuilderAtF 48 5 B b (.pointer (some ⟨b, 0, none⟩)) l w' ∧ Below B w w' ∧ Lib.OthersKept 5 (some b) w w' := by
 rcases h with h | h
 ·refine (check_fresh b w h.cell0 h.shape h.frozen0).mono ?_
  rintro e w' ⟨rfl, rfl⟩
  exact ⟨rfl, h.used _, (Below.refl B w).setCell (p := ⟨b, 0, none⟩) h.1 _, (Lib.OthersKept.refl _ _ w).setCell ⟨b, 0, none⟩ rfl _⟩
 ·refine (Any.Builder_copyCheck_used { layWrite with } layWriteX.toX72 b w h.cell0).mono ?_
  rintro e w' ⟨rfl, rfl⟩
  exact ⟨rfl, h, Below.refl B _, Lib.OthersKept.refl _ _ _⟩
set_option maxHeartbeats 2000000 in
set_option maxRecDepth 100000 in
theorem wrC_any (B b : Nat) (l s : List UInt8) (w : World) (h : BlC B b l w) (hlen : l.length + s.length ≤ 100000000) (hBw : B ≤ w.heap.size) :
  Calls Tryz.prog 107 #[.pointer (some ⟨b, 0, none⟩), .string (bs s)] w fun e w' => e = .returned (.tuple #[.int .i64 (s.length : Int), .nilIface]) ∧ BlPost B b (l ++ s) w w' := by
 have hsz := bs_size s
 have hlb := Lib.byteCells_length l
 obtain ⟨i0, hi, hz0, hz1, hz2⟩ := info_parts layWriteX.infoByte
 have e240 : ∀ args w, (callFunc 133 args).run Tryz.prog w = .ok (.enter 133 args) w := enters_of Tryz.func133 (by kernel_rfl) rfl
 have HC := Lib.hid (check_any B b _ w h)
 have hcat : Lib.byteCells l ++ Lib.strCells (bs s) = Lib.byteCells (l ++ s) := by rw [Lib.byteCells_append, Lib.strCells_eq]; rfl
 have HCAT := Lib.hid hcat
 clear hcat h
 generalize Lib.byteCells l = cs at *
 go_enter Tryz.func107, Tryz.ntmps107
 go_wp2_with (go_at_fn 133; refine HC.out.mono ?_)
 rintro e w1 ⟨rfl, h1, hb1, hk1⟩
 obtain ⟨hB, v, hbk, hown, hne⟩ := h1
 have c0 : w1.cell? ⟨b, 0, none⟩ = some (.pointer (some ⟨b, 0, none⟩)) := by rw [Lib.cell_of_heap hbk]; rfl
 have c1 : w1.cell? ⟨b, 1, none⟩ = some v := by rw [Lib.cell_of_heap hbk]; rfl
 go_wp2_with (at_builtin; refine Lib.wpList_append_own_stringF _ rfl _ _ 42 9 rfl B 5 i0 Tryz.underlying42 Tryz.underlying9 hi hz0 hz1 hz2 _ _ _ rfl hown (bs s) rfl ?c3 ?c4 ?c5 ?_)
 case c3 => unfold maxLen; omega
 case c4 => omega
 case c5 => have := hb1.size; omega
 intro v' w2 hown' hgrow _
 have hlt : b < w1.heap.size := by
  rcases Nat.lt_or_ge b w1.heap.size with h' | h'
  ·exact h'
  ·simp [Array.getElem?_eq_none h'] at hbk
 have hb2 : w2.heap[b]? = some (.cells #[.pointer (some ⟨b, 0, none⟩), v] 48 (0, 0)) := by
  rw [hgrow.block b hlt (fun e => hne e.symm)]
  exact hbk
 have d0 : w2.cell? ⟨b, 0, none⟩ = some (.pointer (some ⟨b, 0, none⟩)) := by rw [Lib.cell_of_heap hb2]; rfl
 have d1 : w2.cell? ⟨b, 1, none⟩ = some v := by rw [Lib.cell_of_heap hb2]; rfl
 have f1 : w2.frozen? ⟨b, 1, none⟩ = false := Lib.frozen_of_heap hb2 1
 obtain ⟨ao, n', cap, rfl⟩ : ∃ ao n' cap, v' = .slice ao n' cap := by
  rcases hown'.2 with ⟨hv, _⟩ | ⟨g, cap, cur, fz, hv, _⟩
  ·exact ⟨_, _, _, hv⟩
  ·exact ⟨_, _, _, hv⟩
 go_wp2
 go_ret2
 refine ⟨rfl, ?_, ?_, (hk1.grown hgrow (Lib.ownsRowF_kind hown)).setCell ⟨b, 1, none⟩ rfl _⟩
 ·unfold BlC
  rw [← HCAT.out]
  exact .inr (Lib.BuilderAtF.put (T := 48) (e := 5) hB hb2 (bs' := cs ++ Lib.strCells (bs s)) (by rw [List.length_append, Lib.strCells_length, hlb, hsz]; exact hown') (by decide))
 ·exact (hb1.grown hgrow (by have := hb1.size; omega) (fun k hk => (hown.lt k hk).1)).setCell (p := ⟨b, 1, none⟩) hB _
set_option maxHeartbeats 1000000 in
set_option maxRecDepth 100000 in
theorem outC_any (B b : Nat) (l : List UInt8) (w : World) (h : BlC B b l w) (h0 : l ≠ []) :
  Calls Tryz.prog 19 #[.pointer (some ⟨b, 0, none⟩)] w fun e w' => e = .returned (.string (bs l)) ∧ Below B w w' := by
 obtain ⟨p, hAt⟩ : ∃ p, Lib.BuilderAtF 48 5 B b p (Lib.byteCells l) w := by
  rcases h with h | h
  ·exact ⟨_, h⟩
  ·exact ⟨_, h⟩
 obtain ⟨hB, v, hbk, hown, hne⟩ := hAt
 have hl0 : l.length ≠ 0 := by simpa using h0
 rw [Lib.byteCells_length] at hown
 obtain ⟨g, cap, cur, fz, rfl, hbg, hg, hfz, hnc, hcm, hcs, htake⟩ : ∃ g cap cur fz, v = .slice (some ⟨g, 0, none⟩) l.length cap ∧ B ≤ g ∧ w.heap[g]? = some (.cells cur 5 fz) ∧ fz.2 ≤ l.length * 1 ∧ l.length ≤ cap ∧ cap ≤ maxLen ∧ cur.size = cap * 1 ∧ cur.toList.take (l.length * 1) = Lib.byteCells l := by
  rcases hown.2 with ⟨_, hz⟩ | ⟨g, cap, cur, fz, hv, r⟩
  ·exact absurd hz hl0
  ·exact ⟨g, cap, cur, fz, hv, r⟩
 have c1 : w.drew.cell? ⟨b, 1, none⟩ = some (.slice (some ⟨g, 0, none⟩) l.length cap) := by
  have : w.drew.heap[b]? = some (.cells #[p, .slice (some ⟨g, 0, none⟩) l.length cap] 48 (0, 0)) := hbk
  rw [Lib.cell_of_heap this]; rfl
 have hSD : (Builtin.unsafeSliceData_ #[42] 61 #[.slice (some ⟨g, 0, none⟩) l.length cap]).run Tryz.prog w.drew = .ok (.pointer (some ⟨g, 0, none⟩)) w.drew :=
  Lib.run_unsafeSliceData_row _ _ _ _ _ _ (by omega)
 have hUS : (Builtin.unsafeString_ #[61, 3] 9 #[.pointer (some ⟨g, 0, none⟩), .int .i64 l.length]).run Tryz.prog w.drew = .ok (.string (bs l)) (w.drew.freeze ⟨g, 0, none⟩ l.length) := by
  refine Lib.run_unsafeString_row w.drew 61 3 9 5 Tryz.underlying61 layStringX.cellsByte g cur.size (by have hg' : w.drew.heap[g]? = some (.cells cur 5 fz) := hg; simp [World.shape?, hg']) l h0 (by omega) (by unfold maxLen at hcm; omega) ?_
  intro j x hx
  have := hown.cells (g := g) rfl j (.int .u8 x.toNat) (by simp [Lib.byteCells, hx])
  exact this
 have mixed := layString.mixed
 go_enter Tryz.func19, Tryz.ntmps19
 go_wp2
 go_region_o
 all_goals (go_wp2; go_ret; exact ⟨rfl, Lib.below_freeze (Below.drew (Below.refl B w)) (p := ⟨g, 0, none⟩) hbg _⟩)
theorem blC_new (w : World) : BlC w.heap.size w.heap.size [] (w.alloc (.cells #[.pointer none, .slice none 0 0] 48)) := Lib.IsBuilderF.of (Lib.fresh_isBuilder 48 5 w)
theorem BlC.lt {B b : Nat} {l : List UInt8} {w : World} (h : BlC B b l w) : b < w.heap.size := h.elim (fun h => h.lt) (fun h => h.lt)
theorem BlC.ge {B b : Nat} {l : List UInt8} {w : World} (h : BlC B b l w) : B ≤ b := h.elim (fun h => h.1) (fun h => h.1)
end Char
namespace Char
open Go.RowKit Go.Lib Go.Shelf
theorem kept_row {b g : Nat} {w w' : World} {cs : Array Value} {T : TypeId} {fz : Nat × Nat} (hg : w.heap[g]? = some (.cells cs T fz)) (hT : T ≠ 5) (hgb : g ≠ b) (h : Lib.OthersKept 5 (some b) w w') : w'.heap[g]? = some (.cells cs T fz) :=
 h g _ hg (fun e => hgb (Option.some.inj e)) (fun c f e => by injection e with _ e2 _; exact hT e2)
theorem cell_row {w : World} {g k : Nat} {cs : Array Value} {T : TypeId} {fz : Nat × Nat} {v : Value} (hg : w.heap[g]? = some (.cells cs T fz)) (hk : cs[k]? = some v) : w.cell? ⟨g, k, none⟩ = some v := by
 rw [Lib.cell_of_heap hg]
 exact hk
def LayK (B b : Nat) (w : World) (acc : List UInt8) (ps : List (List UInt8)) (k : Nat) (wr : World) : Prop :=
 k ≤ ps.length ∧ BlC B b (acc ++ (ps.take k).flatten) wr ∧ Below B w wr ∧ Lib.OthersKept 5 (some b) w wr
theorem flat_le : ∀ (ps : List (List UInt8)) (k : Nat), ((ps.take k).flatten).length ≤ ps.flatten.length
 | [], k => by simp
 | p :: r, 0 => by simp
 | p :: r, k + 1 => by
  have := flat_le r k
  simp only [List.take_succ_cons, List.flatten_cons, List.length_append]
  omega
theorem flat_step : ∀ (ps : List (List UInt8)) (k : Nat), k < ps.length → (ps.take (k + 1)).flatten = (ps.take k).flatten ++ ps.getD k []
 | [], k, h => by cases h
 | p :: r, 0, _ => by simp
 | p :: r, k + 1, h => by
  have := flat_step r k (by simpa using h)
  simp only [List.take_succ_cons, List.flatten_cons, List.append_assoc, List.getD_cons_succ]
  rw [this]
theorem LayK.step {B b : Nat} {w wr w2 : World} {acc : List UInt8} {ps : List (List UInt8)} {k : Nat} (h : LayK B b w acc ps k wr) (hk : k < ps.length) (hp : BlPost B b ((acc ++ (ps.take k).flatten) ++ ps.getD k []) wr w2) : LayK B b w acc ps (k + 1) w2 := by
 obtain ⟨_, _, h3, h4⟩ := h
 obtain ⟨p1, p2, p3⟩ := hp
 refine ⟨hk, ?_, h3.trans p2, h4.trans p3⟩
 rw [flat_step ps k hk, ← List.append_assoc]
 exact p1
set_option maxRecDepth 100000 in
set_option maxHeartbeats 4000000 in
theorem lay_any (B b g : Nat) (acc : List UInt8) (ps : List (List UInt8)) (cs : Array Value) (T : TypeId) (fz : Nat × Nat) (w : World) (h : BlC B b acc w) (hl : acc.length + ps.flatten.length ≤ 100000000) (hpl : ps.length ≤ 100) (hBw : B ≤ w.heap.size)
  (hg : w.heap[g]? = some (.cells cs T fz)) (hT : T ≠ 5) (hgb : g ≠ b) (hcs : ∀ k, k < ps.length → cs[k]? = some (.string (bs (ps.getD k [])))) :
  Calls Tryz.prog 78 #[.pointer (some ⟨b, 0, none⟩), .slice (some ⟨g, 0, none⟩) ps.length ps.length] w fun e w' => e = .returned (.tuple #[]) ∧ BlPost B b (acc ++ ps.flatten) w w' := by
 have HK0 : Hid (LayK B b w acc ps 0 w) := Lib.hid ⟨Nat.zero_le _, by simpa using h, Below.refl _ _, Lib.OthersKept.refl _ _ _⟩
 have HG := Lib.hid (fun W (hW : Lib.OthersKept 5 (some b) w W) => kept_row hg hT hgb hW)
 have HCS := Lib.hid hcs
 have HL := Lib.hid hl
 have hbl := h.lt
 clear h hg hT hcs hl
 go_enter Tryz.func78, Tryz.ntmps78
 go_wp2_with fail
 go_loopw [8] (fun i wr => ∃ (k : Nat), i = .int .i64 (k : Int) ∧ LayK B b w acc ps k wr) (fun i _ => ps.length - (RowKit.intOf i).toNat)
 case atStart => exact ⟨0, rfl, HK0.out⟩
 case round =>
  obtain ⟨k, rfl, hk⟩ := hrel
  have HK := Lib.hid hk
  obtain ⟨hkl, hbl', hbw, hoth⟩ := hk
  have hz := hbw.size
  have HB := Lib.hid hbl'
  have hrow := HG.out wr hoth
  clear hbw HK0 hbl' hoth
  by_cases hlt : k < ps.length
  ·have hc := cell_row hrow (HCS.out k hlt)
   have hle := flat_le ps (k + 1)
   rw [flat_step ps k hlt, List.length_append] at hle
   obtain ⟨p, hp⟩ : ∃ p, p = ps.getD k [] := ⟨_, rfl⟩
   rw [← hp] at hc hle
   have HP := Lib.hid hp
   have hlen : (acc ++ (ps.take k).flatten).length + p.length ≤ 100000000 := by
    have := HL.out
    rw [List.length_append]
    omega
   have HW := Lib.hid (wrC_any B b (acc ++ (ps.take k).flatten) p wr HB.out hlen (by omega))
   clear hp hle hlen hrow
   go_wp2_with fail
   refine HW.out.mono ?_
   rintro e w2 ⟨rfl, hp2⟩
   rw [HP.out] at hp2
   have HK2 := Lib.hid (HK.out.step hlt hp2)
   clear hp2
   go_wp2_with fail
   go_roundw
   case rel => exact ⟨k + 1, by go_num, HK2.out⟩
   case measure => simp [RowKit.intOf]; omega
  ·have e : k = ps.length := by omega
   subst e
   go_wp2_with fail
   have h1 := HK.out
   unfold LayK at h1
   rw [List.take_length] at h1
   exact ⟨rfl, .tuple #[], by simp [results, go_sem], rfl, h1.2.1, h1.2.2.1, h1.2.2.2⟩
theorem BlC.alloc {B b : Nat} {l : List UInt8} {w : World} (h : BlC B b l w) (o : Obj) : BlC B b l (w.alloc o) := h.elim (fun h => .inl (h.alloc o)) (fun h => .inr (h.alloc o))
theorem BlC.drew {B b : Nat} {l : List UInt8} {w : World} (h : BlC B b l w) : BlC B b l w.drew := h
theorem BlPost.trans {B b : Nat} {l m : List UInt8} {w w1 w2 : World} (h : BlPost B b l w w1) (k : BlPost B b m w1 w2) : BlPost B b m w w2 := ⟨k.1, h.2.1.trans k.2.1, h.2.2.trans k.2.2⟩
theorem BlPost.alloc {B b : Nat} {l : List UInt8} {w w2 : World} (o : Obj) (h : BlPost B b l (w.alloc o) w2) (hBw : B ≤ w.heap.size) : BlPost B b l w w2 := ⟨h.1, ((Below.refl B w).alloc hBw o).trans h.2.1, ((Lib.OthersKept.refl _ _ w).alloc o).trans h.2.2⟩
theorem lay_at0 {B b : Nat} {acc : List UInt8} (ps : List (List UInt8)) {W : World} {cs : Array Value} {g n : Nat} {out : List UInt8} (h : BlC B b acc W) (hout : acc ++ ps.flatten = out) (hl : out.length ≤ 100000000) (hpl : ps.length ≤ 100) (hBw : B ≤ W.heap.size) (hg : g = W.heap.size) (hn : n = ps.length)
  (hcs : cs = (ps.map fun p => Value.string (bs p)).toArray) (d : Nat) :
  Calls Tryz.prog 78 #[.pointer (some ⟨b, 0, none⟩), .slice (some ⟨g, 0, none⟩) n n] ((W.alloc (.cells cs 9)).drewN d) fun e w' => e = .returned (.tuple #[]) ∧ BlPost B b out W w' := by
 subst hg hn hout
 rw [List.length_append] at hl
 have h2 : BlC B b acc ((W.alloc (.cells cs 9)).drewN d) := h.alloc (.cells cs 9)
 have hs2 : B ≤ ((W.alloc (.cells cs 9)).drewN d).heap.size := by
  show B ≤ (W.alloc (.cells cs 9)).heap.size
  simp; omega
 refine (lay_any B b W.heap.size acc ps cs 9 (0, 0) _ h2 hl hpl hs2 (World.alloc_heap_new W _) (by decide) (by have := h.lt; omega) ?_).mono ?_
 ·intro k hk
  subst hcs
  simp only [List.getElem?_toArray, List.getElem?_map]
  rw [List.getElem?_eq_getElem hk]
  simp [List.getD, List.getElem?_eq_getElem hk]
 ·rintro e w' ⟨he, h2⟩
  have hb : Below B W ((W.alloc (.cells cs 9)).drewN d) := ((Below.refl B W).alloc hBw _).trans ⟨rfl, rfl, rfl, Nat.le_refl _, fun _ _ => rfl⟩
  exact ⟨he, h2.1, hb.trans h2.2.1, ((Lib.OthersKept.refl _ _ W).alloc _).trans h2.2.2⟩
end Char
namespace Char
open Go.RowKit Go.Lib Go.Shelf
set_option maxRecDepth 100000 in
set_option maxHeartbeats 4000000 in
theorem layerC_any (k : Nat) (w : World) (hk : k = 2 ∨ k = 4 ∨ k = 5 ∨ k = 6) : Calls Tryz.prog 28 #[.int .i64 (k : Int)] w fun e w' => e = .returned (.func (.func (if k = 2 then 46 else if k = 4 then 47 else if k = 5 then 48 else 49)) #[] #[]) ∧ w' = w := by
 rcases hk with rfl | rfl | rfl | rfl
 all_goals
  go_enter Tryz.func28, Tryz.ntmps28
  go_wp2_with fail
  go_ret
  exact ⟨rfl, rfl⟩
set_option maxRecDepth 100000 in
set_option maxHeartbeats 4000000 in
theorem commentC_any (B b : Nat) (acc : List UInt8) (kd : Int) (nm tx : List UInt8) (va vk : Value) (w : World) (h : BlC B b acc w) (hBw : B ≤ w.heap.size) (hl : acc.length + tx.length ≤ 90000000) :
  Calls Tryz.prog 48 #[.pointer (some ⟨b, 0, none⟩), .agg #[.int .i64 kd, .string (bs nm), .string (bs tx), va, vk]] w fun e w' => e = .returned (.tuple #[]) ∧ BlPost B b (acc ++ (60 :: 33 :: 45 :: 45 :: (tx ++ [45, 45, 62]))) w w' := by
 have HL := Lib.hid (lay_at0 (B := B) (b := b) (acc := acc) [[60, 33, 45, 45], tx, [45, 45, 62]] (W := w.alloc (.cells #[.int .i64 kd, .string (bs nm), .string (bs tx), va, vk] 25)) (g := w.heap.size + 1) (out := acc ++ (60 :: 33 :: 45 :: 45 :: (tx ++ [45, 45, 62]))) (n := 3) (h.alloc _) (by simp) (by simp; omega) (by simp) (by simp; omega) (by simp) rfl rfl 1)
 generalize acc ++ (60 :: 33 :: 45 :: 45 :: (tx ++ [45, 45, 62])) = out at *
 go_enter Tryz.func48, Tryz.ntmps48
 go_wp2_with fail
 go_region_with (go_at_call 78; refine HL.out.mono ?_; rintro e w2 ⟨rfl, hp⟩)
 exact ⟨rfl, .tuple #[], by simp [results, go_sem], rfl, hp.alloc _ hBw⟩
set_option maxRecDepth 100000 in
set_option maxHeartbeats 4000000 in
theorem instrC_any (B b : Nat) (acc : List UInt8) (kd : Int) (nm tx : List UInt8) (va vk : Value) (w : World) (h : BlC B b acc w) (hBw : B ≤ w.heap.size) (hl : acc.length + nm.length + tx.length ≤ 90000000) :
  Calls Tryz.prog 49 #[.pointer (some ⟨b, 0, none⟩), .agg #[.int .i64 kd, .string (bs nm), .string (bs tx), va, vk]] w fun e w' => e = .returned (.tuple #[]) ∧ BlPost B b (acc ++ (if tx = [] then 60 :: 63 :: (nm ++ [63, 62]) else 60 :: 63 :: (nm ++ 32 :: (tx ++ [63, 62])))) w w' := by
 have hb0 := h.lt
 have key : ∀ w2, BlPost B b (acc ++ (60 :: 63 :: nm)) (w.alloc (.cells #[.int .i64 kd, .string (bs nm), .string (bs tx), va, vk] 25)) w2 → w2.cell? ⟨w.heap.size, 2, none⟩ = some (.string (bs tx)) := fun w2 hp =>
  cell_row (kept_row (World.alloc_heap_new w _) (by decide) (by omega) hp.2.2) rfl
 have HL := Lib.hid (lay_at0 (B := B) (b := b) (acc := acc) [[60, 63], nm] (W := w.alloc (.cells #[.int .i64 kd, .string (bs nm), .string (bs tx), va, vk] 25)) (g := w.heap.size + 1) (out := acc ++ (60 :: 63 :: nm)) (n := 2) (h.alloc _) (by simp) (by simp; omega) (by simp) (by simp; omega) (by simp) rfl rfl 1)
 have HKEY := Lib.hid key
 clear key
 by_cases he : tx = []
 ·rw [if_pos he]
  have he2 : (bs tx).toList.isEmpty = true := by rw [bs_tl, he]; rfl
  have he3 : (bs tx).toList = [] := by rw [bs_tl, he]
  have HE := Lib.hid he
  clear he
  go_enter Tryz.func49, Tryz.ntmps49
  go_wp2_with fail
  go_region_with (go_at_call 78; refine HL.out.mono ?_; rintro e w2 ⟨rfl, hp⟩)
  have hc := HKEY.out w2 hp
  have HP := Lib.hid hp
  have hs2 := Nat.le_trans (by simp; omega : B ≤ (w.alloc (.cells #[.int .i64 kd, .string (bs nm), .string (bs tx), va, vk] 25)).heap.size) hp.2.1.size
  clear hp
  go_wp2_with fail
  refine (lay_at0 [[63, 62]] HP.out.1 (out := acc ++ (60 :: 63 :: (nm ++ [63, 62]))) (by simp) (by simp; omega) (by simp) hs2 rfl rfl rfl 0).mono ?_
  rintro e w3 ⟨rfl, hp3⟩
  go_wp2_with fail
  exact ⟨rfl, .tuple #[], by simp [results, go_sem], rfl, (HP.out.trans hp3).alloc _ hBw⟩
 ·rw [if_neg he]
  have he2 : (bs tx).toList.isEmpty = false := by rw [bs_tl]; simpa using he
  have he3 : ¬ (bs tx).toList = [] := by rw [bs_tl]; exact he
  have HE := Lib.hid he
  clear he
  go_enter Tryz.func49, Tryz.ntmps49
  go_wp2_with fail
  go_region_with (go_at_call 78; refine HL.out.mono ?_; rintro e w2 ⟨rfl, hp⟩)
  have hc := HKEY.out w2 hp
  have HP := Lib.hid hp
  have hs2 := Nat.le_trans (by simp; omega : B ≤ (w.alloc (.cells #[.int .i64 kd, .string (bs nm), .string (bs tx), va, vk] 25)).heap.size) hp.2.1.size
  clear hp
  go_wp2_with fail
  go_region_with (go_at_call 78; refine (lay_at0 [[32], tx] HP.out.1 (out := acc ++ (60 :: 63 :: (nm ++ 32 :: tx))) (by simp) (by simp; omega) (by simp) hs2 rfl rfl rfl 1).mono ?_; rintro e w3 ⟨rfl, hp3⟩)
  have hs3 := Nat.le_trans hs2 hp3.2.1.size
  have HP3 := Lib.hid (HP.out.trans hp3)
  clear hp3
  go_wp2_with fail
  refine (lay_at0 [[63, 62]] HP3.out.1 (out := acc ++ (60 :: 63 :: (nm ++ 32 :: (tx ++ [63, 62])))) (by simp) (by simp; omega) (by simp) hs3 rfl rfl rfl 0).mono ?_
  rintro e w4 ⟨rfl, hp4⟩
  go_wp2_with fail
  exact ⟨rfl, .tuple #[], by simp [results, go_sem], rfl, (HP3.out.trans hp4).alloc _ hBw⟩
end Char
end Go.Proofs.YtlmodgnkmlbjhaaGreatDoor
