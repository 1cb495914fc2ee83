/- The walks of numbers, upTo and swept. -/
import Derived.Test.YtpimdmjhnogelaaLay9
import Derived.Test.YtpimdmjhnogelaaIntsW
import Derived.Test.YtpimdmjhnogelaaVsOn
import Derived.Test.YtpimdmjhnogelaaStoP
namespace Go.Proofs.Ytpimdmjhnogelaa.Char
open Go.RowKit Go.Lib Go.Sort

set_option maxRecDepth 100000 in
set_option maxHeartbeats 2000000 in
theorem pred_low (w : World) : PredAt Try.prog 98 #[] (Value.int .i64) (fun x => decide (x < 1)) w := fun W x _ => by
  show Calls Try.prog 98 #[.int .i64 x] W _
  go_enter Try.func98, Try.ntmps98
  go_wp2
  all_goals (go_ret; exact ⟨rfl, 0, rfl⟩)
set_option maxRecDepth 100000 in
set_option maxHeartbeats 2000000 in
theorem numbers_any (zs : List Int) (F : Nat → Prop) (o : Option Addr) (j : Nat) (w : World) (hz : zs.length ≤ 2 ^ 62) (h : IntsOn w F (.slice o zs.length j) zs) :
    Calls Try.prog 87 #[.slice o zs.length j] w fun e w' => e = .returned (.bool (!lowL zs)) ∧ ∃ n, w' = w.drewN n := by
  have hC : Calls Try.prog 93 #[.slice o zs.length j, .func (.func 98) #[] #[]] w fun e w' => e = .returned (.bool (lowL zs)) ∧ ∃ q, w' = w.drewN q := by
    obtain ⟨o', i', j', e1, e2, e3⟩ := h
    cases e1
    rcases e3 with rfl | ⟨g, off, rfl, _, hc⟩
    · have := AnyE.slices_ContainsFunc_empty containsA o j (.func (.func 98) #[] #[]) w
      refine Calls.mono this ?_
      rintro e w' ⟨rfl, rfl⟩
      exact ⟨rfl, 0, rfl⟩
    · have := AnyE.slices_ContainsFunc containsA (Value.int .i64) (fun x => decide (x < 1)) 98 #[] (enters_of Try.func98 (by kernel_rfl) rfl) g off zs.length j zs w (pred_low w) (Nat.le_refl _) (by omega)
        (fun k hk => by rw [hc k hk, getElem!_pos zs k hk, List.getD_eq_getElem?_getD, List.getElem?_eq_getElem hk]; rfl)
      rw [List.take_length] at this
      exact this
  generalize lowL zs = r at hC ⊢
  clear h
  go_enter Try.func87, Try.ntmps87
  go_wp2_with (go_at_call 93; refine hC.mono ?_; rintro e w' ⟨rfl, q, rfl⟩)
  go_ret
  exact ⟨rfl, q, rfl⟩

set_option maxRecDepth 100000 in
set_option maxHeartbeats 4000000 in
/-- the closure of upTo -/
theorem up_closure (ba bx g off n cap i y t : Nat) (W : World) (hi : i < n) (ha : W.cell? ⟨ba, 0, none⟩ = some (.slice (some ⟨g, off, none⟩) n cap)) (hx : W.cell? ⟨bx, 0, none⟩ = some (.int .u64 (t : Int))) (hc : W.cell? ⟨g, off + i * 8, none⟩ = some (.int .u64 (y : Int))) :
    Calls Try.prog 76 (#[.int .i64 i] ++ #[.pointer (some ⟨ba, 0, none⟩), .pointer (some ⟨bx, 0, none⟩)]) W fun e w' => e = .returned (.bool (decide (t < y))) ∧ ∃ q, w' = W.drewN q := by
  have hiz : (i : Int) < (n : Int) := by omega
  go_enter Try.func76, Try.ntmps76
  go_wp2
  go_region
  all_goals go_wp2
  all_goals go_ret
  all_goals exact ⟨by first | rfl | simp, 1, rfl⟩
/-- how many versions at the beginning are not above a time -/
def upN (t : Nat) (xs : List VeV) : Nat := (xs.takeWhile fun x => decide (x.1 ≤ t)).length
/-- versions that rise -/
def upX (xs : List VeV) : Prop := xs.Pairwise fun a b => a.1 < b.1
theorem upX_iff (xs : List VeV) : upX xs ↔ upV (xs.map toVe) := by unfold upX upV; rw [List.pairwise_map]; rfl
theorem lowV_up (t : Nat) (xs : List VeV) : lowV t (xs.map toVe) = (xs.take (upN t xs)).map toVe := by
  unfold lowV upN
  rw [List.takeWhile_map]
  congr 1
  have key : ∀ l : List VeV, l.takeWhile (fun x => decide (x.1 ≤ t)) = l.take (l.takeWhile fun x => decide (x.1 ≤ t)).length := by
    intro l
    induction l with
    | nil => rfl
    | cons x r ih =>
      rw [List.takeWhile_cons]
      split
      · rw [List.length_cons, List.take_succ_cons, ← ih]
      · rfl
  exact key xs
theorem upN_le (t : Nat) (xs : List VeV) : upN t xs ≤ xs.length := (List.takeWhile_sublist _).length_le
theorem count_up (t : Nat) : ∀ {xs : List VeV}, upX xs → xs.countP (fun x => !decide (t < x.1)) = upN t xs
  | [], _ => rfl
  | x :: r, h => by
    obtain ⟨h1, h2⟩ := List.pairwise_cons.1 h
    have ih := count_up t h2
    unfold upN at ih ⊢
    rw [List.countP_cons, List.takeWhile_cons]
    by_cases hx : x.1 ≤ t
    · have hx2 : ¬ t < x.1 := by omega
      simp [hx, hx2, ← ih]
    · have hx2 : t < x.1 := by omega
      simp only [hx, hx2, decide_true, decide_false, Bool.not_true, Bool.false_eq_true, if_false, List.length_nil, Nat.add_zero]
      exact List.countP_eq_zero.2 (fun y hy => by have := h1 y hy; simp; omega)
theorem count_range_up (t : Nat) {xs : List VeV} (h : upX xs) : (List.range xs.length).countP (fun i => !decide (t < (xs.getD i (0, rcV0)).1)) = upN t xs := by
  rw [← count_up t h]
  have e : xs = (List.range xs.length).map fun i => xs.getD i (0, rcV0) := by
    apply List.ext_getElem
    · simp
    · intro i h1 h2
      simp [List.getD_eq_getElem?_getD, List.getElem?_eq_getElem h1]
  conv => rhs; rw [e, List.countP_map]
  rfl
theorem upX_at {xs : List VeV} (h : upX xs) {a b : Nat} (hab : a ≤ b) (hb : b < xs.length) : (xs.getD a (0, rcV0)).1 ≤ (xs.getD b (0, rcV0)).1 := by
  rcases Nat.lt_or_eq_of_le hab with hlt | rfl
  · have := List.pairwise_iff_getElem.1 h a b (by omega) hb hlt
    rw [List.getD_eq_getElem?_getD, List.getElem?_eq_getElem (by omega), List.getD_eq_getElem?_getD, List.getElem?_eq_getElem hb]
    exact Nat.le_of_lt this
  · exact Nat.le_refl _
set_option maxRecDepth 100000 in
set_option maxHeartbeats 4000000 in
theorem upTo_any (t : Nat) (xs : List VeV) (F : Nat → Prop) (o : Option Addr) (j : Nat) (w : World) (hup : upX xs) (hn : xs.length ≤ 2 ^ 61) (h : VsOn w F (.slice o xs.length j) xs) :
    Calls Try.prog 49 #[.slice o xs.length j, .int .u64 (t : Int)] w fun e w' => e = .returned (.int .i64 (upN t xs : Int)) ∧ Below w.heap.size w w' := by
  obtain ⟨W0, hW0⟩ : ∃ W0, W0 = (w.alloc (.cells #[.slice o xs.length j] 42)).alloc (.cells #[.int .u64 (t : Int)] 23) := ⟨_, rfl⟩
  have hsize : W0.heap.size = w.heap.size + 1 + 1 := by rw [hW0]; simp
  have hB0 : Below w.heap.size w W0 := by rw [hW0]; exact ((Below.refl _ w).alloc (Nat.le_refl _) _).alloc (by simp) _
  have ca : W0.cell? ⟨w.heap.size, 0, none⟩ = some (.slice o xs.length j) := by rw [hW0]; exact cell_alloc_sl _ (cell_new_sl w _ _)
  have cx : W0.cell? ⟨w.heap.size + 1, 0, none⟩ = some (.int .u64 (t : Int)) := by rw [hW0]; have := cell_new_sl (w.alloc (.cells #[.slice o xs.length j] 42)) (.int .u64 (t : Int)) 23; rwa [World.size_alloc] at this
  have eg : ∀ args w, (callFunc 76 args).run Try.prog w = .ok (.enter 76 args) w := enters_of Try.func76 (by kernel_rfl) rfl
  have hS := Any.sort_Search searchA 76 #[.pointer (some ⟨w.heap.size, 0, none⟩), .pointer (some ⟨w.heap.size + 1, 0, none⟩)] xs.length (fun i => decide (t < (xs.getD i (0, rcV0)).1)) W0 eg (by omega)
    (fun m os i hi => by
      obtain ⟨g, off, rfl, _, hve, _⟩ := h.reads i hi
      have hgl := cell_lt hve.1
      have cc : W0.cell? ⟨g, off + i * 8, none⟩ = some (.int .u64 (((xs.getD i (0, rcV0)).1 : Nat) : Int)) := by
        rw [List.getD_eq_getElem?_getD, List.getElem?_eq_getElem hi]
        exact (hB0.cell (p := ⟨g, off + i * 8, none⟩) hgl).trans hve.1
      exact (up_closure w.heap.size (w.heap.size + 1) g off xs.length j i _ t _ hi (cell_grown (by simp [hsize]; omega) ca m os) (cell_grown (by simp [hsize]) cx m os) (cell_grown (by simp [hsize]; have := cell_lt hve.1; simp at this; omega) cc m os)).mono
        fun _ _ ⟨he, q, hq⟩ => ⟨he, q, #[], by rw [hq, grow_empty]⟩)
    (fun a b hab hb hpa => by have := upX_at hup hab hb; have := of_decide_eq_true hpa; exact decide_eq_true (by omega))
  rw [count_range_up t hup] at hS
  change Calls Try.prog 75 _ _ _ at hS
  clear ca cx h
  generalize upN t xs = r at hS ⊢
  go_enter Try.func49, Try.ntmps49
  go_wp2_with (go_at_call 75; rw [← hW0]; refine hS.mono ?_; rintro e w' ⟨rfl, q, os, rfl⟩)
  go_ret
  refine ⟨rfl, ?_⟩
  rw [← hW0]
  exact hB0.trans (below_grown_sl w.heap.size W0 q os (by omega))
/-- how many versions go -/
def swN (t : Nat) (xs : List VeV) : Nat := if upN t xs = 0 then 0 else if (xs.getD (upN t xs - 1) (0, rcV0)).2.1.gone = true then upN t xs else upN t xs - 1
set_option maxRecDepth 100000 in
set_option maxHeartbeats 4000000 in
theorem swept_any (t : Nat) (xs : List VeV) (F : Nat → Prop) (o : Option Addr) (j : Nat) (w : World) (hup : upX xs) (hn : xs.length ≤ 2 ^ 61) (h : VsOn w F (.slice o xs.length j) xs) :
    Calls Try.prog 51 #[.slice o xs.length j, .int .u64 (t : Int)] w fun e w' => e = .returned (.int .i64 (swN t xs : Int)) ∧ Below w.heap.size w w' := by
  have hU := upTo_any t xs F o j w hup hn h
  have hle := upN_le t xs
  have H := Lib.hid h
  obtain ⟨k, hk⟩ : ∃ k, upN t xs = k := ⟨_, rfl⟩
  obtain ⟨r, hr⟩ : ∃ r, swN t xs = r := ⟨_, rfl⟩
  have hr2 := hr
  unfold swN at hr2
  rw [hk] at hU hle hr2
  rw [hr]
  clear h hr
  by_cases h0 : k = 0
  · subst h0
    rw [if_pos rfl] at hr2
    subst hr2
    go_enter Try.func51, Try.ntmps51
    go_wp2_with (go_at_call 49; refine hU.mono ?_; rintro e w' ⟨rfl, hb⟩)
    go_ret
    exact ⟨rfl, hb⟩
  · rw [if_neg h0] at hr2
    have hk1 : k - 1 < xs.length := by omega
    rw [List.getD_eq_getElem?_getD, List.getElem?_eq_getElem hk1, Option.getD_some] at hr2
    obtain ⟨g, off, rfl, _, hve, _⟩ := H.out.reads (k - 1) hk1
    generalize xs[k - 1] = x at hve hr2
    have hgl := cell_lt hve.1
    have hg7 := hve.cells.2.2.2.2.2.2.2
    have HG : ∀ w', Below w.heap.size w w' → w'.cell? ⟨g, off + (k - 1) * 8 + 7, none⟩ = some (.bool x.2.1.gone) := fun w' hb => (hb.cell (p := ⟨g, off + (k - 1) * 8 + 7, none⟩) hgl).trans hg7
    have hki : (k : Int) - 1 = ((k - 1 : Nat) : Int) := by omega
    have hk0 : ((k : Int) == 0) = false := by simp; omega
    have hlt : ((k - 1 : Nat) : Int) < (xs.length : Int) := by omega
    clear hve hg7 H hk
    generalize x.2.1.gone = gn at HG hr2
    cases gn
    · rw [if_neg (by simp)] at hr2
      subst hr2
      go_enter Try.func51, Try.ntmps51
      go_wp2_with (go_at_call 49; refine hU.mono ?_; rintro e w' ⟨rfl, hb⟩; have hg := HG _ hb)
      go_ret
      exact ⟨rfl, hb⟩
    · rw [if_pos rfl] at hr2
      subst hr2
      go_enter Try.func51, Try.ntmps51
      go_wp2_with (go_at_call 49; refine hU.mono ?_; rintro e w' ⟨rfl, hb⟩; have hg := HG _ hb)
      go_ret
      exact ⟨rfl, hb⟩
end Go.Proofs.Ytpimdmjhnogelaa.Char
