/- The walk of Count. -/
import Derived.Test.YtpimdmjhnogelaaNodes9
namespace Go.Proofs.Ytpimdmjhnogelaa.Char
open Go.RowKit Go.Lib Go.Sort Go.Maps
attribute [local go_sem] Oper.semAt_some

theorem wf_small {x : Int} (h1 : 1 ≤ x) (h2 : x ≤ 1000000) : (Lit.int .i64 x).wf = true := by
  have e1 : IntKind.i64.min = -9223372036854775808 := by rfl
  have e2 : IntKind.i64.max = 9223372036854775807 := by rfl
  simp [Lit.wf, e1, e2]
  constructor <;> omega
/-- what the store's iterator hands over -/
def xsP (gv : Nat) (X : Int → List VeV) (V : Int → Value) : List (Int × Value) := (idsX gv X).map fun id => (id, V id)
theorem xsP_fst (gv : Nat) (X : Int → List VeV) (V : Int → Value) : (xsP gv X V).map (·.1) = idsX gv X := by simp [xsP, Function.comp_def]
theorem xsP_len (gv : Nat) (X : Int → List VeV) (V : Int → Value) : (xsP gv X V).length ≤ gv := by unfold xsP; rw [List.length_map]; exact idsX_len
theorem xsP_mem {gv : Nat} {X : Int → List VeV} {V : Int → Value} {x : Int × Value} (h : x ∈ xsP gv X V) : x.2 = V x.1 ∧ 1 ≤ x.1 ∧ x.1 ≤ (gv : Int) ∧ X x.1 ≠ [] := by
  obtain ⟨id, hid, rfl⟩ := List.mem_map.1 h
  obtain ⟨⟨h1, h2⟩, h3⟩ := mem_idsX.1 hid
  exact ⟨rfl, h1, h2, h3⟩
theorem mem_of_pre {α : Type} {pre xs : List α} {x : α} (h : (pre ++ [x]) <+: xs) : x ∈ xs := by
  obtain ⟨t, rfl⟩ := h
  simp
theorem PSt.stN {Z : Nat → Prop} {B : Nat} {w : World} {b mb n : Nat} {D : DataW Value} {V : Int → Value} {X : Int → List VeV} {gv lt : Nat} (h : PSt Z B w b mb n D V X gv lt) (hg : gv ≤ 1000000) {Bt : Nat} (hbox : w.cell? ⟨Bt, 0, none⟩ = some (.pointer (some ⟨b, 0, none⟩))) (pre : List (Int × Value)) : StN b mb Bt (xsP gv X V) pre w :=
  ⟨hbox, h.cells.2.2.2.1, n, D, h.own, fun x hx => by rw [(xsP_mem (mem_of_pre hx)).1]; exact h.val _, fun _ => ⟨Nat.le_trans h.size hg, fun ss hp => by rw [xsP_fst]; exact h.keys hp⟩⟩
theorem xsP_wf {gv : Nat} (hg : gv ≤ 1000000) (X : Int → List VeV) (V : Int → Value) : ∀ x, x ∈ xsP gv X V → (Lit.int .i64 x.1).wf = true := fun x hx => by
  obtain ⟨_, h1, h2, _⟩ := xsP_mem hx
  exact wf_small h1 (by omega)
/-- how many versions -/
def cntL (X : Int → List VeV) (ids : List Int) : Nat := (ids.map fun id => (X id).length).sum
theorem cntL_snoc (X : Int → List VeV) (ids : List Int) (id : Int) : cntL X (ids ++ [id]) = cntL X ids + (X id).length := by simp [cntL]
theorem cntL_pre {X : Int → List VeV} {a b : List Int} (h : a <+: b) : cntL X a ≤ cntL X b := by
  obtain ⟨t, rfl⟩ := h
  simp [cntL]
theorem pre_fst {gv : Nat} {X : Int → List VeV} {V : Int → Value} {pre : List (Int × Value)} (h : pre <+: xsP gv X V) : pre.map (·.1) <+: idsX gv X := by
  rw [← xsP_fst gv X V]
  obtain ⟨t, ht⟩ := h
  exact ⟨t.map (·.1), by rw [← List.map_append, ht]⟩
set_option maxRecDepth 100000 in
set_option maxHeartbeats 4000000 in
theorem count_any {Z : Nat → Prop} {B : Nat} {w : World} {b mb n : Nat} {D : DataW Value} {V : Int → Value} {X : Int → List VeV} {gv lt : Nat} (h : PSt Z B w b mb n D V X gv lt) (hg : gv ≤ 100000) (hc : cntL X (idsX gv X) ≤ 2 ^ 60) :
    Calls Try.prog 30 #[.pointer (some ⟨b, 0, none⟩)] w fun e w' => e = .returned (.int .i64 (cntL X (idsX gv X) : Int)) ∧ Below w.heap.size w w' := by
  have hM := fun (W : World) (hb : Below w.heap.size w W) => (callsIn_wide (n := 19)).2 (made_yes b W (h.below hb).cells.1)
  have HM := Lib.hid hM
  have HN := fun (W : World) => Lib.hid (nodes_in Fence.wide 19 trivial rfl b W)
  have H := Lib.hid h
  clear h hM
  refine (callsIn_wide (n := 20)).1 ?_
  refine callsIn_of_wp_marks Try.func30 rfl trivial ?_ rfl
  simp only [Try.ntmps30, List.size_toArray, List.length_cons, List.length_nil, Nat.reduceAdd, Nat.reduceSub, Array.replicate_succ, Array.replicate_zero, List.push_toArray, List.append_toArray, List.nil_append, List.cons_append]
  gi_wp2_with (first
    | (refine ⟨trivial, ?_⟩; gi_at_call 47; refine (HM.out _ (Below.refl _ _)).mono ?_; rintro e w' ⟨rfl, rfl⟩)
    | (refine ⟨trivial, ?_⟩; gi_at_call 48; refine (HN _).out.mono ?_; rintro e w' ⟨rfl, rfl⟩))
  obtain ⟨WL, hWL⟩ : ∃ WL, WL = (w'.alloc (.cells #[.int .i64 0] 3)).alloc (.cells #[.pointer (some ⟨b, 0, none⟩)] 24) := ⟨_, rfl⟩
  rw [← hWL]
  have hB0 : Below w'.heap.size w' WL := by rw [hWL]; exact ((Below.refl _ _).alloc (Nat.le_refl _) _).alloc (by simp) _
  have hsL : WL.heap.size = w'.heap.size + 2 := by rw [hWL]; simp
  have hbx : WL.cell? ⟨w'.heap.size, 0, none⟩ = some (.int .i64 0) ∧ WL.frozen? ⟨w'.heap.size, 0, none⟩ = false := by rw [hWL]; exact ⟨by go_simp, by go_simp⟩
  have hbt : WL.cell? ⟨w'.heap.size + 1, 0, none⟩ = some (.pointer (some ⟨b, 0, none⟩)) := by rw [hWL]; go_simp
  refine wpIn_rangeFunc_fix (F := Fence.wide) (n := 20) rfl (by omega) (gf := 73) (lb := #[.pointer (some ⟨w'.heap.size + 1, 0, none⟩)]) rfl trivial (enters_of Try.func73 (by kernel_rfl) rfl)
    (nodes1_fix 19 (by omega) b mb (w'.heap.size + 1) (xsP gv X V) (Nat.le_trans (xsP_len _ _ _) (by omega)) (xsP_wf (by omega) X V) WL) (Below.refl _ _) (fun _ => rfl)
    (fun _ pre W => Below w'.heap.size w' W ∧ WL.heap.size ≤ W.heap.size ∧ (W.cell? ⟨w'.heap.size, 0, none⟩ = some (.int .i64 (cntL X (pre.map (·.1)) : Int)) ∧ W.frozen? ⟨w'.heap.size, 0, none⟩ = false) ∧ W.cell? ⟨w'.heap.size + 1, 0, none⟩ = some (.pointer (some ⟨b, 0, none⟩)))
    ?keep ?st ?start (fun x => { tmps := #[.pointer (some ⟨b, 0, none⟩), undef, .int .i64 0, .pointer (some ⟨w'.heap.size, 0, none⟩), undef, x.2, .pointer (some ⟨b, 0, none⟩), .bool true, .bool false, .pointer (some ⟨b, 0, none⟩), .func (.func 73) #[] #[.pointer (some ⟨w'.heap.size + 1, 0, none⟩)], .int .i64 x.1, x.2, undef, undef, undef, undef, undef], defers := [] })
    ?assign ?body ?done
  case keep =>
    rintro m pre W l o o' ⟨k1, k2, ⟨k3, k4⟩, k5⟩ hl _ _ _
    have e1 : (W.putObj l o').heap[w'.heap.size]? = W.heap[w'.heap.size]? := World.putObj_heap_other (by omega)
    have e2 : (W.putObj l o').heap[w'.heap.size + 1]? = W.heap[w'.heap.size + 1]? := World.putObj_heap_other (by omega)
    exact ⟨below_putObj k1 (by omega) o', by rw [World.putObj_size]; exact k2, ⟨(World.cell?_of_block (w := W) (a := ⟨w'.heap.size, 0, none⟩) e1).trans k3, (World.frozen?_of_block (w := W) (a := ⟨w'.heap.size, 0, none⟩) e1).trans k4⟩, (World.cell?_of_block (w := W) (a := ⟨w'.heap.size + 1, 0, none⟩) e2).trans k5⟩
  case st =>
    rintro m pre W ⟨k1, _, _, k5⟩
    exact (H.out.below k1).stN (by omega) k5 pre
  case start =>
    intro W hb
    exact ⟨hB0.trans (hb.mono (by omega)), hb.size, ⟨(hb.cell (p := ⟨w'.heap.size, 0, none⟩) (by simp; omega)).trans hbx.1, (World.frozen?_of_block (w := WL) (a := ⟨w'.heap.size, 0, none⟩) (hb.block w'.heap.size (by omega))).trans hbx.2⟩, (hb.cell (p := ⟨w'.heap.size + 1, 0, none⟩) (by simp; omega)).trans hbt⟩
  case assign =>
    rintro l ⟨xi, xv⟩ W K hK
    simp only [encN]
    gi_wp2
    exact hK
  case body =>
    rintro l m pre ⟨xi, xv⟩ W hm hmW ⟨k1, k2, ⟨k3, k4⟩, k5⟩ hpx
    obtain ⟨e0, _⟩ := xsP_mem (mem_of_pre hpx)
    dsimp only at e0
    subst e0
    obtain ⟨o, j, hV⟩ := H.out.form xi
    have hle := cntL_pre (X := X) (pre_fst hpx)
    rw [List.map_append, List.map_cons, List.map_nil, cntL_snoc] at hle
    rw [hV]
    have HP : Hid ((pre ++ [(xi, V xi)]).map (·.1) = pre.map (·.1) ++ [xi]) := Lib.hid (by simp)
    have HV := Lib.hid hV
    have HK1 := Lib.hid k1
    have HK5 := Lib.hid k5
    clear hV hpx k1 k5
    gi_wp2
    rw [IntWalk.wrap64_in _ (by omega)]
    refine ⟨⟨HK1.out.setCell (p := ⟨w'.heap.size, 0, none⟩) (Nat.le_refl _) _, by rw [World.size_setCell]; omega, ⟨?_, by rw [World.frozen?_setCell]; exact k4⟩, ?_⟩, by rw [World.size_setCell]; exact hmW, fun k q1 q2 => heap_set_ne (by simp; omega)⟩
    · rw [World.cell?_setCell_same' _ _ _ (by rw [k3]; rfl), ← HV.out, HP.out, cntL_snoc, Int.natCast_add]
    · have := HK5.out
      rw [← this]
      exact World.cell?_of_block (w := W) (a := ⟨w'.heap.size + 1, 0, none⟩) (heap_set_ne (by simp))
  case done =>
    rintro D m W hD ⟨k1, k2, ⟨k3, k4⟩, k5⟩ hK
    rw [xsP_fst] at k3
    gi_wp2
    refine ⟨by simp, .inl ⟨_, _, rfl, run_takeDeferred hK, ?_⟩⟩
    exact ⟨_, results_tmp rfl _ _ _, rfl, below_putObj k1 (by omega) _⟩
end Go.Proofs.Ytpimdmjhnogelaa.Char
