/- The program's own iterator over the characters of a text: what it hands to a loop. -/
import Derived.Test.YtblhiaeocinogaaCuts
import Derived.RangeFuncNested
import Derived.RangeFuncBound
import Derived.RangeFuncCalls
import Derived.RangeFuncLeaves
import Derived.RangeFuncBox
import Derived.Shelf.Abstract
import Derived.Shelf.RegionOpen
import Derived.WalkKit
import Derived.OwnWalkIn
import Derived.TacticsInMore
import Derived.LoopNIn
import Derived.LoopIn
import Derived.Lib.OthersKept
import Derived.WalkSmall
import Derived.Lib.Hide
import Derived.Test.YtblhiaeocinogaaProg
namespace Go.Proofs.Ytblhiaeocinogaa.Char
open Go.RowKit Go.Shelf
attribute [local go_sem] Oper.semAt_some

/-- the box of a text -/
abbrev boxed (s : ByteArray) : Obj := .cells #[.string s] 9
/-- what the body of a loop over characters keeps: iterators over texts, and the box of the text -/
def KpS (s : ByteArray) (bx : Nat) (W W' : World) : Prop :=
  W.heap.size ≤ W'.heap.size ∧ (∀ (k : Nat) (t : ByteArray) (p : Nat), W.heap[k]? = some (Obj.stringIter t p) → W'.heap[k]? = some (Obj.stringIter t p)) ∧ (W.heap[bx]? = some (boxed s) → W'.heap[bx]? = some (boxed s))
theorem kpS_refl (s : ByteArray) (bx : Nat) (W : World) : KpS s bx W W := ⟨Nat.le_refl _, fun _ _ _ h => h, fun h => h⟩
theorem kpS_t {s : ByteArray} {bx : Nat} {A B C : World} (h : KpS s bx A B) (k : KpS s bx B C) : KpS s bx A C :=
  ⟨Nat.le_trans h.1 k.1, fun i t p hi => k.2.1 i t p (h.2.1 i t p hi), fun hb => k.2.2 (h.2.2 hb)⟩
theorem kpS_b {s : ByteArray} {bx n₀ : Nat} (W : World) (l : Nat) (o o' : Obj) (_ : n₀ ≤ l) (h : W.heap[l]? = some o) (hc : o.isCells = false) (hw : o.isWalk = false) : KpS s bx W (W.putObj l o') := by
  refine ⟨by simp, fun k t p hk => ?_, fun hb => ?_⟩
  · by_cases e : k = l
    · subst e; rw [h] at hk; cases hk; cases hw
    · exact (World.putObj_heap_other e).trans hk
  · by_cases e : bx = l
    · subst e; rw [h] at hb; cases hb; cases hc
    · exact (World.putObj_heap_other e).trans hb
theorem kpS_alloc {s : ByteArray} {bx : Nat} (W : World) (o : Obj) : KpS s bx W (W.alloc o) :=
  ⟨by simp, fun k t p hk => (Below.heap_alloc W o k (Array.getElem?_eq_some_iff.1 hk).1).trans hk, fun hb => (Below.heap_alloc W o bx (Array.getElem?_eq_some_iff.1 hb).1).trans hb⟩
/-- a store into another box -/
theorem kpS_setCell {s : ByteArray} {bx : Nat} (W : World) (a : Addr) (v : Value) (h : a.block ≠ bx) : KpS s bx W (W.setCell a v) :=
  ⟨(KeepsOthers.setCell W a v).size, fun k t p hk => (KeepsOthers.setCell W a v).same k _ hk rfl, fun hb => by rw [Below.heap_setCell _ _ _ _ (fun e => h e.symm)]; exact hb⟩

theorem alloc_boxed (w : World) (s : ByteArray) : (w.alloc (boxed s)).heap[w.heap.size]? = some (boxed s) := World.alloc_heap_new w _
theorem boxed_cell {W : World} {s : ByteArray} {bx : Nat} (h : W.heap[bx]? = some (boxed s)) : W.cell? ⟨bx, 0, none⟩ = some (.string s) := by
  simp [World.cell?, h]

set_option maxHeartbeats 1000000 in
/-- chars(s): the text is boxed; the function value holds the box -/
theorem charsF_in (F : Fence) (n : Nat) (hf : F.fn 22) (hro : F.round = none) (s : ByteArray) (w : World) :
    CallsIn F n Try.prog 22 #[.string s] w fun e w' => e = .returned (.func (.func 33) #[] #[.pointer (some ⟨w.heap.size, 0, none⟩)]) ∧ w' = w.alloc (boxed s) := by
  refine callsIn_of_wp Try.func22 rfl hf ?_ hro
  simp only [Try.ntmps22, List.size_toArray, List.length_cons, List.length_nil, Nat.reduceAdd, Nat.reduceSub, Array.replicate_succ, Array.replicate_zero, List.push_toArray, List.append_toArray, List.nil_append, List.cons_append]
  gi_wp2
  go_ret
  exact ⟨rfl, rfl⟩

theorem slice_str (s : ByteArray) (a b : Nat) (h1 : a ≤ b) (h2 : b ≤ s.size) (wx : World) :
    (Instr.slice 9 (.string s) (some (.int .i64 (a : Int))) (some (.int .i64 (b : Int))) none).run Try.prog wx = .ok (.string (s.extract a b)) wx := by
  have := run_slice_string (P := Try.prog) wx 9 s .i64 .i64 (a : Int) (b : Int) Try.underlying9 (by omega) (by omega) (by omega)
  simpa using this
theorem emp (s : ByteArray) (b : Bool) (h : decide (s.size = 0) = b) : s.toList.isEmpty = b := by
  rw [Lib.toList_data, ← h, ← sz_list]
  cases s.data.toList <;> simp
theorem iterAt_grown (w : World) (k : Nat) (s : ByteArray) (p : Nat) : w.grownBy (w.iterAt k s p) (some k) :=
  ⟨rfl, rfl, rfl, by rw [Lib.iterAt_size]; exact Nat.le_refl _, fun j _ hj => Lib.iterAt_other w k j s p (fun e => hj (by rw [e]))⟩

set_option maxRecDepth 100000 in
set_option maxHeartbeats 4000000 in
/-- the iterator: for every loop body that keeps what it must -/
theorem charsI_in (F : Fence) (n : Nat) (hf : F.fn 33) (hro : F.round = none) (hn : 1 ≤ n) (l bx : Nat) (s : ByteArray) (hs : s.size ≤ 1000000) (J Jx : List Ch → World → Prop)
    (W : World) (hJ : AbidesFrom W.heap.size J)
    (hY : ∀ pre x W1, J pre W1 → pre.length < (crs s).length → YieldAt F (n - 1) Try.prog l #[.int .i64 (x.1.1 : Int), .string x.1.2] W1 fun e W' =>
      (e = .returned (.bool true) ∧ J (pre ++ [x]) W' ∧ KpS s bx W1 W') ∨ (e = .returned (.bool false) ∧ Jx (pre ++ [x]) W'))
    (hb : W.heap[bx]? = some (boxed s)) (h0 : J [] W) :
    CallsIn F n Try.prog 33 #[.func (.yield l) #[] #[], .pointer (some ⟨bx, 0, none⟩)] W fun e W' => (∃ v, e = .returned v) ∧
      ((∃ ys, ys = num 0 (crs s) ∧ J ys W') ∨ (∃ pre, pre <+: num 0 (crs s) ∧ Jx pre W')) := by
  have hbl : bx < W.heap.size := (Array.getElem?_eq_some_iff.1 hb).1
  have hc0 := boxed_cell hb
  refine callsIn_of_wp Try.func33 rfl hf ?_ hro
  simp only [Try.ntmps33, List.size_toArray, List.length_cons, List.length_nil, Nat.reduceAdd, Nat.reduceSub, Array.replicate_succ, Array.replicate_zero, List.push_toArray, List.append_toArray, List.nil_append, List.cons_append]
  gi_wp2
  gi_loopw [3, 4] (fun p b wr => ∃ (pre : List Ch) (place beg pos : Nat), p = .int .i64 (place : Int) ∧ b = .int .i64 (beg : Int) ∧ J pre wr ∧ wr.heap[W.heap.size]? = some (Obj.stringIter s pos) ∧ wr.heap[bx]? = some (boxed s) ∧
      pre.length = place ∧ place ≤ beg ∧ beg ≤ s.size ∧ Hid (pre ++ num place (from_ s beg) = num 0 (crs s)) ∧ ((pos = 0 ∧ beg = 0 ∧ place = 0) ∨ (beg < s.size ∧ pos = beg + wid s beg))) (fun _ _ wr => s.size - wr.iterPos W.heap.size)
  case atStart =>
    refine ⟨[], 0, 0, 0, rfl, rfl, hJ _ _ _ none h0 (World.grownBy_alloc W _ none) (fun r e => by cases e), World.alloc_heap_new W _, (Below.heap_alloc W _ bx hbl).trans hb, rfl, Nat.le_refl _, Nat.zero_le _, Lib.hid (by rw [from_zero]; rfl), .inl ⟨rfl, rfl, rfl⟩⟩
  case round =>
    obtain ⟨pre, place, beg, pos, rfl, rfl, hJp, hit, hbb, hpl, hpb, hbs, HL, hpos⟩ := hrel
    have hsz : W.heap.size < wr.heap.size := (Array.getElem?_eq_some_iff.1 hit).1
    have hcb := boxed_cell hbb
    by_cases hp : pos < s.size
    · have hnx : ∀ ty, (Instr.next (.pointer (some ⟨W.heap.size, 0, none⟩)) true ty).run Try.prog wr = _ := fun ty => Lib.run_next_any_at wr W.heap.size s pos ty hit hp
      have hit2 := Lib.iterAt_heap wr W.heap.size s pos (pos + (Utf8.decode s pos).2) hit
      have hbb2 : (wr.iterAt W.heap.size s (pos + (Utf8.decode s pos).2)).heap[bx]? = some (boxed s) := (Lib.iterAt_other _ _ _ _ _ (by omega)).trans hbb
      have hcb2 := boxed_cell hbb2
      have hJ2 : J pre (wr.iterAt W.heap.size s (pos + (Utf8.decode s pos).2)) := hJ pre _ _ (some W.heap.size) hJp (iterAt_grown _ _ _ _) (fun r e => by cases e; exact ⟨Nat.le_refl _, _, hit, rfl⟩)
      rcases hpos with ⟨rfl, rfl, rfl⟩ | ⟨hbs2, hpe⟩
      · rw [Nat.zero_add] at hit2 hbb2 hJ2
        gi_wp2
        go_roundw
        case rel => exact ⟨pre, 0, 0, (Utf8.decode s 0).2, rfl, rfl, hJ2, hit2, hbb2, hpl, Nat.le_refl _, hbs, HL, .inr ⟨hp, by unfold wid; omega⟩⟩
        case measure =>
          have := wid_pos s 0
          unfold wid at this
          simp only [World.iterPos, hit2, hit]
          omega
      · have hw := wid_pos s beg
        have hw2 := wid_pos s pos
        have hle := wid_le s pos hp
        have h4 : (s.extract beg pos).size ≤ 4 := by rw [hpe]; exact ext_four s beg hbs2
        have hx := mkCh_val place (s.extract beg pos) (by omega) h4
        have hst := from_step s beg hbs2
        rw [← hpe] at hst
        have hlen : pre.length < (crs s).length := by
          have h1 := congrArg List.length HL.out
          rw [List.length_append, num_length, num_length, hst, List.length_cons] at h1
          omega
        obtain ⟨fn, tmps, assign, body, hy, hR⟩ := hY pre (mkCh place (s.extract beg pos)) _ hJ2 hlen
        rw [hx] at hy
        have HL2 : Hid ((pre ++ [mkCh place (s.extract beg pos)]) ++ num (place + 1) (from_ s pos) = num 0 (crs s)) := Lib.hid (by rw [← HL.out, hst]; simp [num])
        have HST := Lib.hid hst
        have HPE := Lib.hid hpe
        have HX := Lib.hid hx
        have hbp : beg ≤ pos := by omega
        have hp1 : beg + 1 ≤ pos := by omega
        have hsl := slice_str s beg pos hbp (by omega)
        clear hst hpe hx hlen HL
        have hne : ((pos : Int) == 0) = false := by rw [beq_eq_false_iff_ne]; omega
        gi_wp2
        refine hR.mono ?_
        rintro e W3 (⟨rfl, hJ3, hk3⟩ | ⟨rfl, hJx3⟩)
        · have hit3 := hk3.2.1 _ _ _ hit2
          have hbb3 := hk3.2.2 hbb2
          gi_wp2
          go_roundw
          case rel => exact ⟨_, place + 1, pos, _, by go_num, rfl, hJ3, hit3, hbb3, by simp [hpl], by omega, by omega, HL2, .inr ⟨hp, rfl⟩⟩
          case measure =>
            unfold wid at hw2
            simp only [World.iterPos, hit3, hit]
            omega
        · gi_wp2
          refine bodyPost_ret (results_none rfl _ _ _) rfl ?_
          exact ⟨⟨_, rfl⟩, .inr ⟨_, ⟨_, HL2.out⟩, hJx3⟩⟩
    · have hnx : ∀ ty, (Instr.next (.pointer (some ⟨W.heap.size, 0, none⟩)) true ty).run Try.prog wr = _ := fun ty => Lib.run_next_end_at wr W.heap.size s pos ty hit hp
      rcases hpos with ⟨rfl, rfl, rfl⟩ | ⟨hbs2, hpe⟩
      · have hz : s = ⟨#[]⟩ := by
          have h1 : s.data.toList = [] := List.eq_nil_of_length_eq_zero (by rw [sz_list]; omega)
          have h2 : s.data = #[] := by simpa using h1
          cases s; simp_all
        have hend : pre = num 0 (crs s) := by
          have h1 := HL.out
          rw [from_end s 0 hp] at h1
          simpa [num] using h1
        have hem := emp s true (decide_eq_true (by omega))
        have HE := Lib.hid hend
        clear hz hend HL
        gi_wp2
        go_end0
        exact ⟨⟨_, rfl⟩, .inl ⟨pre, HE.out, hJp⟩⟩
      · have hem := emp s false (decide_eq_false (by omega))
        have hle := wid_le s beg hbs2
        have hps : pos = s.size := by omega
        subst hps
        have h4 : (s.extract beg s.size).size ≤ 4 := by rw [hpe]; exact ext_four s beg hbs2
        have hx := mkCh_val place (s.extract beg s.size) (by omega) h4
        have hst := from_step s beg hbs2
        rw [← hpe, from_end s s.size (Nat.lt_irrefl _)] at hst
        have hlen : pre.length < (crs s).length := by
          have h1 := congrArg List.length HL.out
          rw [List.length_append, num_length, num_length, hst, List.length_cons] at h1
          omega
        obtain ⟨fn, tmps, assign, body, hy, hR⟩ := hY pre (mkCh place (s.extract beg s.size)) _ hJp hlen
        rw [hx] at hy
        have HL2 : Hid (pre ++ [mkCh place (s.extract beg s.size)] = num 0 (crs s)) := Lib.hid (by rw [← HL.out, hst]; simp [num])
        clear hst hpe hx hlen HL
        gi_wp2
        refine hR.mono ?_
        rintro e W3 (⟨rfl, hJ3, hk3⟩ | ⟨rfl, hJx3⟩)
        · gi_wp2
          go_end0
          exact ⟨⟨_, rfl⟩, .inl ⟨_, HL2.out, hJ3⟩⟩
        · gi_wp2
          go_end0
          exact ⟨⟨_, rfl⟩, .inr ⟨_, ⟨[], by rw [List.append_nil, HL2.out]⟩, hJx3⟩⟩

/-- a builder's call keeps what the iterator wants -/
theorem kpS_others {s : ByteArray} {bx b : Nat} {W W' : World} {e : TypeId} (he : 9 ≠ e) (h : Lib.OthersKept e (some b) W W') (hs : W.heap.size ≤ W'.heap.size) (hW : ∃ cs t fz, W.heap[b]? = some (Obj.cells cs t fz)) (hne : bx ≠ b) : KpS s bx W W' :=
  ⟨hs, fun k t p hk => h k _ hk (fun e1 => by cases e1; obtain ⟨cs, t', fz, hb⟩ := hW; rw [hb] at hk; cases hk) (fun c fz e1 => by cases e1),
    fun hb => h bx _ hb (fun e1 => hne (Option.some.inj e1)) (fun c fz e1 => by cases e1; exact he rfl)⟩

theorem charsF_h (F : Fence) (n : Nat) (hf : F.fn 22) (hro : F.round = none) (s : ByteArray) (w : World) :
    CallsIn F n Try.prog 22 #[.string s] w fun e w' => e = .returned (.func (.func 33) #[] #[.pointer (some ⟨w.heap.size, 0, none⟩)]) ∧ Hid (w' = w.alloc (boxed s)) :=
  (charsF_in F n hf hro s w).mono fun _ _ h => ⟨h.1, Lib.hid h.2⟩

/-- what chars(s) hands back is an iterator over the characters of s -/
theorem chars_stops (F : Fence) (n : Nat) (hf : F.fn 33) (hro : F.round = none) (hn : 1 ≤ n) (bx : Nat) (s : ByteArray) (hs : s.size ≤ 1000000) (w : World) (hbl : bx < w.heap.size) (hb : w.heap[bx]? = some (boxed s)) :
    SeqStopsK F n Try.prog 33 #[.pointer (some ⟨bx, 0, none⟩)] (fun x : Ch => #[Value.int .i64 (x.1.1 : Int), Value.string x.1.2]) (KpS s bx) (fun ys => ys = num 0 (crs s)) (fun pre => pre <+: num 0 (crs s)) (crs s).length w :=
  fun l J Jx W hW hJ _ hY h0 => charsI_in F n hf hro hn l bx s hs J Jx W hJ hY ((hW.block bx hbl).trans hb) h0
end Go.Proofs.Ytblhiaeocinogaa.Char
