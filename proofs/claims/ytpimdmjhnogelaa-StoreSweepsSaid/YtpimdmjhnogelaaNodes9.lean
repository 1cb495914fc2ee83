/- The walks of nodes and its iterator. -/
import Derived.Test.YtpimdmjhnogelaaPStM
import Derived.Test.YtpimdmjhnogelaaRangeFix
import Derived.RangeFuncBox
namespace Go.Proofs.Ytpimdmjhnogelaa.Char
open Go.RowKit Go.Lib Go.Sort Go.Maps
attribute [local go_sem] Oper.semAt_some

/-- what the loop's rounds leave of the world, as the iterator wants it -/
structure StN (b mb Bt : Nat) (xs0 : List (Int × Value)) (pre : List (Int × Value)) (W : World) : Prop where
  box : W.cell? ⟨Bt, 0, none⟩ = some (.pointer (some ⟨b, 0, none⟩))
  fld : W.cell? ⟨b, 3, none⟩ = some (.map (some mb))
  map : ∃ n D, W.ownsMap Try.prog 3 heldE mb n D ∧ (∀ x, (pre ++ [x]) <+: xs0 → D.atKey (kI x.1) (.held nilV) = .held x.2) ∧ (pre = [] → Maps.size D ≤ 1000000 ∧ ∀ ss : List Int, ss.Perm (intKeys D) → ss.mergeSort leI = xs0.map (·.1))
def encN (x : Int × Value) : Array Value := #[.int .i64 x.1, x.2]

theorem look_at {W : World} {mb n : Nat} {D : DataW Value} (h : W.ownsMap Try.prog 3 heldE mb n D) {id : Int} {v : Value} (hv0 : D.atKey (kI id) (.held nilV) = .held v) (hid : (Lit.int .i64 id).wf = true) : (Instr.lookup 88 (.map (some mb)) (.int .i64 id) false).run Try.prog W = .ok v W := by
  obtain ⟨v', ps, hr, hv⟩ := h.lookup law_int Try.underlying88 (zero_vs W) (show heldE nilV = some (.held nilV, []) from rfl) (key_int hid)
  rw [hv0] at hv
  simp only [heldE, Option.some.injEq, Prod.mk.injEq, DataW.held.injEq] at hv
  rw [hr, hv.1]
theorem row_ints {w : World} {B n : Nat} {v : Value} {zs : List Int} (h : w.ownsRow B 3 1 v n (zs.map encZ)) : ∃ o j, v = .slice o n j ∧ IntsOn w (fun g => B ≤ g) (.slice o n j) zs := by
  have hl := h.1
  rw [List.length_map, Nat.mul_one] at hl
  have hc := fun g => World.ownsRow.cells h (g := g)
  rcases h.2 with ⟨rfl, rfl⟩ | ⟨g, cap, cur, rfl, hg, _⟩
  · have : zs = [] := List.eq_nil_of_length_eq_zero hl
    subst this
    exact ⟨none, 0, rfl, IntsOn.nil _ _ _ _⟩
  · refine ⟨_, _, rfl, _, _, _, rfl, hl.symm, .inr ⟨g, 0, rfl, hg, fun k hk => ?_⟩⟩
    have := hc g rfl k (.int .i64 (zs.getD k 0)) (by rw [List.getElem?_map, List.getElem?_eq_getElem hk, List.getD_eq_getElem?_getD, List.getElem?_eq_getElem hk]; rfl)
    rwa [Addr.add_lit] at this
theorem sortsA9 (m : Nat) : AnyZI.SortsIn Try.prog sortedA_ren Fence.wide m :=
  ⟨fun blk off cap ss W hH hblk hsz => callsIn_wide.2 (AnyM.slices_Sort_int sortA blk off cap ss W hH hblk hsz),
   fun p cap W => callsIn_wide.2 (AnyM.slices_Sort_int_none sortA p cap W)⟩
set_option maxRecDepth 100000 in
set_option maxHeartbeats 4000000 in
/-- nodes: the store's pointer is boxed; the function value holds the box -/
theorem nodes_in (F : Fence) (n : Nat) (hf : F.fn 48) (hro : F.round = none) (b : Nat) (w : World) :
    CallsIn F n Try.prog 48 #[.pointer (some ⟨b, 0, none⟩)] w fun e w' => e = .returned (.func (.func 73) #[] #[.pointer (some ⟨w.heap.size, 0, none⟩)]) ∧ w' = w.alloc (.cells #[.pointer (some ⟨b, 0, none⟩)] 24) := by
  have hmf : ∀ (fn : Fn) (first cap : Array Value) (w : World), (Instr.makeFunc fn first cap).run Try.prog w = .ok (.func fn first cap) w := fun _ _ _ _ => rfl
  refine callsIn_of_wp Try.func48 rfl hf ?_ hro
  simp only [Try.ntmps48, List.size_toArray, List.length_cons, List.length_nil, Nat.reduceAdd, Nat.reduceSub, Array.replicate_succ, Array.replicate_zero, List.push_toArray, List.append_toArray, List.nil_append, List.cons_append]
  gi_wp2
  go_ret
  exact ⟨rfl, rfl⟩
set_option maxRecDepth 100000 in
set_option maxHeartbeats 4000000 in
/-- the iterator of nodes: the numbers in order, each with its row -/
theorem nodes1_fix (n : Nat) (hn : 8 ≤ n) (b mb Bt : Nat) (xs0 : List (Int × Value)) (hxl : xs0.length ≤ 1000000) (hwf : ∀ x, x ∈ xs0 → (Lit.int .i64 x.1).wf = true) (w : World) :
    SeqFix Fence.wide n Try.prog 73 #[.pointer (some ⟨Bt, 0, none⟩)] encN (StN b mb Bt xs0) xs0 w := by
  intro l J W hW hSt h0 hY
  have hdd : ∀ k : Nat, (Fence.wide.depth.isSome = true → 1 ≤ k) := fun k h => by cases h
  have hs0 := hSt _ _ _ (h0 W (Below.refl _ _))
  obtain ⟨nm, D, hown, hat0, hkey0⟩ := hs0.map
  obtain ⟨hsz, hkeys⟩ := hkey0 rfl
  have hbl := hown.lt
  have hbx := hs0.box
  have hfl := hs0.fld
  -- maps.Keys and slices.Sorted
  have hseq : SeqGives Fence.wide (n - 1 - 1 - 1 - 1) Try.prog 92 #[.pointer (some ⟨W.heap.size, 0, none⟩)] encZ (fun ss => ss.Perm (intKeys D)) (Maps.size D) (W.alloc (.cells #[.map (some mb)] 88)) :=
    AnyZI.keys_gives (ρ := keysA_ren) { keysA with } Fence.wide _ trivial rfl (by omega) W.heap.size mb nm D _ (by simp) (by simp) (by
      obtain ⟨es, clock, hb, Ft, hs, hD⟩ := hown
      exact ⟨es, clock, (Below.heap_alloc _ _ mb hbl).trans hb, Ft, hs, hD⟩)
  have cK : ∀ mb W, CallsIn Fence.wide (n - 1) Try.prog 74 #[.map mb] W fun e w' => e = .returned (.func (.func 92) #[] #[.pointer (some ⟨W.heap.size, 0, none⟩)]) ∧ w' = W.alloc (.cells #[.map mb] 88) := fun mb W => AnyZI.keys_in keysA Fence.wide (n - 1) trivial rfl mb W
  have cS := AnyZI.sorted_in sortedA Fence.wide (n - 1) trivial trivial trivial trivial rfl (by omega) (sortsA9 _) (enters_of Try.func85 (by kernel_rfl) rfl) 92 #[.pointer (some ⟨W.heap.size, 0, none⟩)] trivial (enters_of Try.func92 (by kernel_rfl) rfl) _ _ (by unfold maxLen; omega) (by omega) _ hseq
  change CallsIn _ _ Try.prog 60 _ _ _ at cS
  have hfK : Fence.wide.fn 74 := trivial
  have hfS : Fence.wide.fn 60 := trivial
  clear hseq hown hat0 hkey0 hsz hs0
  refine callsIn_of_wp Try.func73 rfl trivial ?_ rfl
  simp only [Try.ntmps73, List.size_toArray, List.length_cons, List.length_nil, Nat.reduceAdd, Nat.reduceSub, Array.replicate_succ, Array.replicate_zero, List.push_toArray, List.append_toArray, List.nil_append, List.cons_append]
  gi_wp2_with (first
    | ((try refine ⟨hdd _, ?_⟩); gi_at_call 74; refine (cK _ _).mono ?_; rintro e w' ⟨rfl, rfl⟩)
    | ((try refine ⟨hdd _, ?_⟩); gi_at_call 60; refine cS.mono ?_; rintro e w1 ⟨v, ss, rfl, hS, hrow, hnil, hb⟩; obtain ⟨o, j, rfl, hon⟩ := row_ints hrow))
  have hks := hkeys ss hS
  have hlen : ss.length = xs0.length := by
    have := congrArg List.length hks
    rwa [List.length_mergeSort, List.length_map] at this
  have hB1 : Below W.heap.size W w1 := ((Below.refl _ W).alloc (Nat.le_refl _) _).trans (hb.mono (by simp))
  have hJ1 := h0 w1 hB1
  have HON : Hid (IntsOn w1 (fun g => W.heap.size ≤ g) (.slice o ss.length j) (xs0.map (·.1))) := Lib.hid (by
    have : IntsOn w1 (fun g => (W.alloc (.cells #[.map (some mb)] 88)).heap.size ≤ g) (.slice o ss.length j) (ss.mergeSort leI) := hon
    rw [hks] at this
    exact this.move fun g _ hF => ⟨by simp at hF; omega, rfl⟩)
  have HJ1 := Lib.hid hJ1
  have HSt := Lib.hid hSt
  have HY := Lib.hid hY
  have hWw := hB1.size
  clear hrow hon hb hS hks hkeys hnil hJ1 hSt hY h0 cK cS hbx hfl hbl
  rw [hlen] at HON ⊢
  gi_loopw [12] (fun v wr => ∃ k : Nat, v = .int .i64 (k : Int) ∧ k ≤ xs0.length ∧ w1.heap.size ≤ wr.heap.size ∧ Hid (J w1.heap.size (xs0.take k) wr) ∧ Hid (∀ q, W.heap.size ≤ q → q < w1.heap.size → wr.heap[q]? = w1.heap[q]?)) (fun v _ => xs0.length - (RowKit.intOf v).toNat)
  case atStart => exact ⟨0, rfl, Nat.zero_le _, Nat.le_refl _, Lib.hid (by rw [List.take_zero]; exact HJ1.out), Lib.hid fun _ _ _ => rfl⟩
  case round =>
    obtain ⟨k, rfl, hk, hwr, HJ, HF⟩ := hrel
    by_cases hlt : k < xs0.length
    · obtain ⟨g, off, rfl, hg, r0⟩ := HON.out.reads k (by simpa using hlt)
      have r1 := (World.cell?_of_block (w := w1) (w' := wr) (a := ⟨g, off + k, none⟩) (HF.out g hg (cell_lt r0))).trans r0
      have hxm := hwf _ (List.getElem_mem hlt)
      have hpx : (xs0.take k ++ [xs0[k]]) <+: xs0 := by rw [← List.take_succ_eq_append_getElem hlt]; exact List.take_prefix _ _
      have hst := HSt.out _ _ _ HJ.out
      obtain ⟨nm, D2, hown2, hat2, _⟩ := hst.map
      have hlk := look_at hown2 (hat2 _ hpx) hxm
      have hbx := hst.box
      have hfl := hst.fld
      obtain ⟨fn, tmps, assign, body, hy, hR⟩ := HY.out w1.heap.size _ _ wr hWw hwr HJ.out hpx
      rw [List.getElem_map] at r1
      have HE : Hid (xs0.take (k + 1) = xs0.take k ++ [xs0[k]]) := Lib.hid (List.take_succ_eq_append_getElem hlt)
      unfold encN at hy
      generalize xs0[k] = x at *
      obtain ⟨xi, xv⟩ := x
      have hR2 := hR.mono (R' := fun e W' => e = .returned (.bool true) ∧ Hid (J w1.heap.size (xs0.take (k + 1)) W') ∧ w1.heap.size ≤ W'.heap.size ∧ Hid (∀ q, W.heap.size ≤ q → q < w1.heap.size → W'.heap[q]? = w1.heap[q]?))
        (fun e W' h => ⟨h.1, Lib.hid (by rw [HE.out]; exact h.2.1), h.2.2.1, Lib.hid fun q q1 q2 => (h.2.2.2 q q1 q2).trans (HF.out q q1 q2)⟩)
      clear hR hown2 hat2 hst hpx HJ HF r0 HE
      dsimp only at *
      gi_wp2_with ((try refine ⟨hdd _, ?_⟩); refine hR2.mono ?_; clear hR2; rintro e W2 ⟨rfl, HJ2, hw2, HF2⟩)
      refine ⟨⟨k + 1, by rw [Int.natCast_add]; rfl, by omega, hw2, HJ2, HF2⟩, ?_⟩
      simp [RowKit.intOf]
      omega
    · have hke : k = xs0.length := by omega
      have HJ2 : Hid (J w1.heap.size xs0 wr) := Lib.hid (by have := HJ.out; rwa [hke, List.take_length] at this)
      clear HJ HF
      gi_wp2
      go_end0
      exact ⟨⟨_, rfl⟩, w1.heap.size, hWw, HJ2.out⟩
end Go.Proofs.Ytpimdmjhnogelaa.Char
