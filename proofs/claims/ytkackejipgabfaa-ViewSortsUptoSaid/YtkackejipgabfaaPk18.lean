/- WorksA WorksB FewW Few StepV -/
import Derived.Test.YtkackejipgabfaaPk13
import Derived.Test.YtkackejipgabfaaPk16
import Derived.Test.YtkackejipgabfaaPk17
import Derived.Test.YtkackejipgabfaaPk00
import Derived.Test.YtkackejipgabfaaPk14
import Derived.Test.YtkackejipgabfaaPk15
import Derived.Test.YtkackejipgabfaaPk05
import Derived.Deep.RegionHeld3
/- The walk of the axes' works. -/
namespace Go.Proofs.Ytkackejipgabfaa.Char
open Go.RowKit Go.Lib Go.Shelf

section
variable {T : TypeId} {B : Nat} {w0 W : World} {p b sb b2 d t : Nat} {S : Sto} {own : Own} {Z Z1 Y Y1 : Nat → Prop}
theorem PairI.vh (h : PairI T B w0 W p b sb b2 d t S own Z Z1 Y Y1) (hl : S.L.length ≤ 5000000) (hL : wfL S.L) (ho : wfO own) : VH (fun g => Z g ∨ Z1 g) W (some ⟨b, 0, none⟩) (lookV S.L t own) := by
  obtain ⟨mb, D, h1, h2, h3⟩ := h.two.vs
  exact h1.vh h2 (by omega) hL ho
theorem PairI.dv (h : PairI T B w0 W p b sb b2 d t S own Z Z1 Y Y1) (hl : S.L.length ≤ 5000000) (hL : wfL S.L) (ho : wfO own) (hol : own.length ≤ 5000000) : DV W b2 S.L t own :=
  h.two.ws.dv (h.vh hl hL ho).sm hl hol
end
/-- what Made leaves may be -/
theorem wfO_ownA (t : Tr) (ht : totP t ≤ 2000000) : wfO (ownA t) := by
  unfold ownA
  refine wfO_lay (wfO_plantT t 1 1 [] (fun c hc => by cases hc) (by omega)) 1 fun z hz => ?_
  obtain ⟨h1, _, h3, h4, _⟩ := plantT_spec t 1 1 []
  unfold rootO at hz
  dsimp only at hz
  rcases hz with hz | hz
  · split at hz
    · cases hz
    · rw [List.mem_singleton] at hz
      subst hz
      exact wf_7 h3 (by omega)
  · cases hz
theorem wfO_puts {own : Own} (h : wfO own) : ∀ cs : List (Int × Rc), (∀ c, c ∈ cs → wfR c.2) → wfO (putsO own cs) := by
  intro cs
  induction cs generalizing own with
  | nil => intro _; exact h
  | cons c cs ih => intro hc; exact ih (wfO_put h c.1 (hc c List.mem_cons_self)) (fun x hx => hc x (List.mem_cons_of_mem _ hx))
theorem wfL_stoA (t : Tr) : wfL (stoA t).L := fun x hx z hz => by
  have hx : x ∈ [(⟨1, ⟨0, rootR⟩⟩ : On)] := hx
  rw [List.mem_singleton] at hx
  subst hx
  rcases hz with hz | hz <;> cases hz
def tW : Tr := .mk 2 [97] [] [] [.mk 2 [98] [] [] [], .mk 4 [] [116] [] []]
def ownW : Own := [(1, ⟨1, [], [], 0, [2], [], false⟩), (2, ⟨2, [97], [], 1, [3, 4], [], false⟩), (3, ⟨2, [98], [], 2, [], [], false⟩), (4, ⟨4, [], [116], 2, [], [], false⟩)]
theorem ownW_eq : ownA tW = ownW := by rfl
theorem look2 : lookV (stoA tW).L 0 ownW 2 = some ⟨2, [97], [], 1, [3, 4], [], false⟩ := by rfl
theorem look3 : lookV (stoA tW).L 0 ownW 3 = some ⟨2, [98], [], 2, [], [], false⟩ := by rfl
theorem look4 : lookV (stoA tW).L 0 ownW 4 = some ⟨4, [], [116], 2, [], [], false⟩ := by rfl
theorem tW_tot : totP tW = 3 := by rfl
theorem tW_cnt : cntT tW ≤ 100000 := by decide
def rowW : Array Value := #[.int .i64 2, .string ⟨#[98]⟩, .string ⟨#[]⟩, .slice none 0 0, .slice none 0 0, .int .i64 4, .string ⟨#[]⟩, .string ⟨#[116]⟩, .slice none 0 0, .slice none 0 0]
theorem ndW (w : World) : NdOn (w.alloc (.cells rowW 25)) (fun g => g = w.heap.size) tW (.slice none 0 0) (.slice (some ⟨w.heap.size, 0, none⟩) 2 2) := by
  have nil : ∀ F : Nat → Prop, AtsOn (w.alloc (.cells rowW 25)) F (.slice none 0 0) [] := fun F => ⟨none, 0, 0, rfl, rfl, .inl rfl⟩
  unfold tW
  rw [NdOn]
  refine ⟨nil _, _, _, _, rfl, rfl, .inr ⟨w.heap.size, 0, rfl, rfl, ?_⟩⟩
  rw [KsOn, KsOn, KsOn]
  refine ⟨⟨.slice none 0 0, .slice none 0 0, ⟨?_, ?_, ?_, ?_, ?_⟩, ?_⟩, ⟨.slice none 0 0, .slice none 0 0, ⟨?_, ?_, ?_, ?_, ?_⟩, ?_⟩, trivial⟩
  · rw [World.cell?_alloc_new]; rfl
  · rw [World.cell?_alloc_new]; rfl
  · rw [World.cell?_alloc_new]; rfl
  · rw [World.cell?_alloc_new]; rfl
  · rw [World.cell?_alloc_new]; rfl
  · rw [NdOn]; exact ⟨nil _, _, _, _, rfl, rfl, .inl rfl⟩
  · rw [World.cell?_alloc_new]; rfl
  · rw [World.cell?_alloc_new]; rfl
  · rw [World.cell?_alloc_new]; rfl
  · rw [World.cell?_alloc_new]; rfl
  · rw [World.cell?_alloc_new]; rfl
  · rw [NdOn]; exact ⟨nil _, _, _, _, rfl, rfl, .inl rfl⟩
theorem onceW : onceL (fun z => (lookV (stoA tW).L 0 ownW z).isSome) [3, 4] = [3, 4] := by rfl
theorem matchW : matchT 1 4 [] false (lookV (stoA tW).L 0 ownW 4) = true := by rfl
set_option maxRecDepth 100000 in
set_option maxHeartbeats 8000000 in
theorem worksA_any (w : World) : Calls Try.prog 36 #[] w fun e w' => e = .returned (.bool true) ∧ Below w.heap.size w w' := by
  have hmade : Calls Try.prog 37 #[.agg #[.int .i64 2, .string ⟨#[97]⟩, .string ⟨#[]⟩, .slice none 0 0, .slice (some ⟨w.heap.size, 0, none⟩) 2 2], .slice none 0 0] (w.alloc (.cells #[.int .i64 2, .string ⟨#[98]⟩, .string ⟨#[]⟩, .slice none 0 0, .slice none 0 0, .int .i64 4, .string ⟨#[]⟩, .string ⟨#[116]⟩, .slice none 0 0, .slice none 0 0] 25)) (MadeP 79 (w.alloc (.cells rowW 25)) (stoA tW) ownW) :=
    madeA_any tW (.slice none 0 0) (.slice (some ⟨w.heap.size, 0, none⟩) 2 2) none 0 [] (w.alloc (.cells rowW 25)) (F := fun g => g = w.heap.size) (G := fun _ => False) tW_cnt (ndW w) (fun g hg => by rw [hg]; simp) (by rw [tW_tot]; decide)
      ⟨⟨none, 0, 0, rfl, rfl, .inl rfl⟩, fun x hx => by cases hx⟩ (fun _ hg => hg.elim) (fun x hx => by cases hx) (Nat.zero_le _)
  have HM := Lib.hid hmade
  have HB0 : Hid (Below w.heap.size w (w.alloc (.cells rowW 25))) := Lib.hid ((Below.refl _ w).alloc (Nat.le_refl _) _)
  have HS0 : Hid ((w.alloc (.cells rowW 25)).heap.size = w.heap.size + 1) := Lib.hid (by simp)
  clear hmade
  go_enter Try.func36, Try.ntmps36
  go_wp2_with (first
    | (go_at_call 37
       refine HM.out.mono ?_
       rintro e w2 ⟨p, b, sb, b2, d, Z, Z1, Y, Y1, rfl, h2⟩
       have hc0 := h2.cells.1
       have hc1 := fun ob => Lib.cell?_alloc_some ob hc0
       have hv := h2.vh (by decide) (wfL_stoA tW) (by rw [← ownW_eq]; exact wfO_ownA tW (by rw [tW_tot]; decide))
       have hn := nodes_yes hv 2 1 (by decide) look2 (g := 94) rfl (enters_of Try.func94 (by kernel_rfl) rfl) (l := [3, 4]) (fun W ok jk oa ja hW hr => by
         have := children_any (hv.below hW) 2 ⟨2, [97], [], 1, [3, 4], [], false⟩ ok jk oa ja hr.1 (fun g hg => hg) (by decide) (by decide)
         rw [onceW] at this
         exact this)
       have HN := Lib.hid hn
       have HB2 := Lib.hid (HB0.out.trans (h2.bel.mono (by rw [HS0.out]; omega)))
       have HV := Lib.hid hv
       have HH := Lib.hid h2
       clear hv hn h2)
    | (go_at_call 38
       refine HN.out.mono ?_
       rintro e w3 ⟨u, rfl, q1, q2⟩
       obtain ⟨ou, ju, rfl⟩ := q1.form
       have hi : Hid (Calls Try.prog 14 #[.slice ou [3, 4].length ju, .slice (some ⟨w3.heap.size, 0, none⟩) 2 2] (w3.alloc (.cells #[.int .i64 3, .int .i64 4] 3)) fun e w' => e = .returned (.bool true) ∧ ∃ n, w' = (w3.alloc (.cells #[.int .i64 3, .int .i64 4] 3)).drewN n) := Lib.hid (by
         have := ints_any [3, 4] [3, 4] (fun _ => True) (fun _ => True) ou ju (some ⟨w3.heap.size, 0, none⟩) 2 (w3.alloc (.cells #[.int .i64 3, .int .i64 4] 3)) (by decide) ((q1.below ((Below.refl _ w3).alloc (Nat.le_refl _) _)).on fun _ _ => trivial)
           ⟨_, _, _, rfl, rfl, .inr ⟨w3.heap.size, 0, rfl, trivial, fun k hk => by
             have hk : k < 2 := hk
             have hk : k = 0 ∨ k = 1 := by omega
             rcases hk with rfl | rfl
             · rw [World.cell?_alloc_new]; rfl
             · rw [World.cell?_alloc_new]; rfl⟩⟩
         rw [decide_eq_true rfl] at this
         exact this)
       have HB3 := Lib.hid (HB2.out.trans (q2.mono HB2.out.size))
       have HC3 := Lib.hid (keep_cell hc0 q2)
       have HV3 := Lib.hid (HV.out.below q2)
       clear q1 q2 hc0 hc1 HN HV)
    | (go_at_call 14
       refine hi.out.mono ?_
       rintro e w4 ⟨rfl, n, hw⟩
       have hb4 : Below w3.heap.size w3 w4 := by rw [hw]; exact ((Below.refl _ w3).alloc (Nat.le_refl _) _).trans (below_drewN _ _ _)
       have HB4 := Lib.hid (HB3.out.trans (hb4.mono HB3.out.size))
       have HC4 := Lib.hid (keep_cell HC3.out hb4)
       have HV4 := Lib.hid (HV3.out.below hb4)
       have HNX := Lib.hid (nameX_any 10 w4)
       have hnm : ((bs (nmX 10)).toList == [115, 101, 108, 102]) = true := by rw [bs_tl]; rfl
       clear hw hb4)
    | (go_at_call 65
       refine HNX.out.mono ?_
       rintro e w5 ⟨rfl, q5⟩
       have HB5 := Lib.hid (HB4.out.trans (q5.mono HB4.out.size))
       have c5 := keep_cell HC4.out q5
       have hm5 := match_any (HV4.out.below q5) 1 4 [] false 4 (by decide)
       rw [matchW] at hm5
       have HM5 : Hid (Calls Try.prog 66 #[.pointer (some ⟨b, 0, none⟩), .int .i64 1, .agg #[.int .i64 4, .string ⟨#[]⟩, .bool false], .int .i64 4] w5 fun e w' => e = .returned (.bool true) ∧ Below w5.heap.size w5 w') := Lib.hid hm5
       clear q5 hm5)
    | (go_at_call 66
       refine HM5.out.mono ?_
       rintro e w6 ⟨rfl, q6⟩
       have HB6 := Lib.hid (HB5.out.trans (q6.mono HB5.out.size))
       clear q6))
  go_ret
  exact ⟨rfl, HB6.out⟩
end Go.Proofs.Ytkackejipgabfaa.Char

/- The walk of the view's own works. -/
namespace Go.Proofs.Ytkackejipgabfaa.Char
open Go.RowKit Go.Lib Go.Shelf

theorem wfL_stoI (t : Tr) (ht : totP t ≤ 2000000) : wfL (stoI t).L := by
  have hA := wfL_stoA t
  unfold stoI instS
  split
  · intro x hx
    rcases List.mem_append.1 hx with hx | hx
    · exact hA x hx
    · unfold layC at hx
      obtain ⟨c, hc, rfl⟩ := List.mem_map.1 hx
      exact wfO_ownA t ht c hc
  · exact hA
theorem stoI_len (t : Tr) : (stoI t).L.length ≤ totP t + 2 := by
  have h := ownA_len t
  have h1 : (stoA t).L.length = 1 := rfl
  unfold stoI instS
  split
  · unfold layC
    rw [List.length_append, List.length_map, h1]
    omega
  · rw [h1]; omega
theorem stoI_given (t : Tr) : (stoI t).given = 1 + totP t := by
  have h := (plantT_spec t 1 1 []).1
  unfold stoI instS
  split
  · exact h
  · exact h
def tB : Tr := .mk 2 [97] [] [([120], [49])] [.mk 4 [] [98] [] []]
def fullB : List Gn := [(1, false, ⟨1, [], [], 0, [2], [], false⟩), (2, false, ⟨2, [97], [], 1, [4], [3], false⟩), (3, true, ⟨3, [120], [49], 2, [], [], false⟩), (4, false, ⟨4, [], [98], 2, [], [], false⟩)]
theorem goB : goF (lookV (stoI tB).L 3 []) 6 1 false [] = some fullB := by rfl
theorem lookB1 : ((lookV (stoI tB).L 3 [] 1).getD rc0) = ⟨1, [], [], 0, [2], [], false⟩ := by rfl
theorem lookB3 : ((lookV (stoI tB).L 3 [] 3).getD rc0) = ⟨3, [120], [49], 2, [], [], false⟩ := by rfl
theorem tB_tot : totP tB = 3 := by rfl
theorem tB_cnt : cntT tB ≤ 100000 := by decide
def rowB1 : Array Value := #[.string ⟨#[120]⟩, .string ⟨#[49]⟩]
def rowB2 : Array Value := #[.int .i64 4, .string ⟨#[]⟩, .string ⟨#[98]⟩, .slice none 0 0, .slice none 0 0]
def wB (w : World) : World := (w.alloc (.cells rowB1 90)).alloc (.cells rowB2 25)
theorem ndB (w : World) : NdOn (wB w) (fun g => g = w.heap.size ∨ g = w.heap.size + 1) tB (.slice (some ⟨w.heap.size, 0, none⟩) 1 1) (.slice (some ⟨w.heap.size + 1, 0, none⟩) 1 1) := by
  have nil : ∀ F : Nat → Prop, AtsOn (wB w) F (.slice none 0 0) [] := fun F => ⟨none, 0, 0, rfl, rfl, .inl rfl⟩
  have h1 : (wB w).heap[w.heap.size]? = some (.cells rowB1 90 (0, 0)) := by
    unfold wB
    rw [Below.heap_alloc _ _ _ (by simp)]
    exact World.alloc_heap_new w _
  have h2 : (wB w).heap[w.heap.size + 1]? = some (.cells rowB2 25 (0, 0)) := by
    have := World.alloc_heap_new (w.alloc (.cells rowB1 90)) (.cells rowB2 25)
    simpa [wB] using this
  unfold tB
  rw [NdOn]
  refine ⟨⟨_, _, _, rfl, rfl, .inr ⟨w.heap.size, 0, rfl, .inl rfl, fun k hk => ?_⟩⟩, _, _, _, rfl, rfl, .inr ⟨w.heap.size + 1, 0, rfl, .inr rfl, ?_⟩⟩
  · have hk : k < 1 := hk
    obtain rfl : k = 0 := by omega
    unfold World.cell?
    rw [h1]
    exact ⟨rfl, rfl⟩
  · rw [KsOn, KsOn]
    refine ⟨⟨.slice none 0 0, .slice none 0 0, ⟨?_, ?_, ?_, ?_, ?_⟩, ?_⟩, trivial⟩
    · unfold World.cell?; rw [h2]; rfl
    · unfold World.cell?; rw [h2]; rfl
    · unfold World.cell?; rw [h2]; rfl
    · unfold World.cell?; rw [h2]; rfl
    · unfold World.cell?; rw [h2]; rfl
    · rw [NdOn]; exact ⟨nil _, _, _, _, rfl, rfl, .inl rfl⟩
set_option maxRecDepth 100000 in
set_option maxHeartbeats 8000000 in
theorem worksB_any (w : World) : Calls Try.prog 11 #[] w fun e w' => e = .returned (.bool true) ∧ Below w.heap.size w w' := by
  have hsz : (wB w).heap.size = w.heap.size + 2 := by simp [wB]
  have hlt : ∀ g, (g = w.heap.size ∨ g = w.heap.size + 1) → g < (wB w).heap.size := fun g hg => by omega
  have hmade : Calls Try.prog 12 #[.agg #[.int .i64 2, .string ⟨#[97]⟩, .string ⟨#[]⟩, .slice (some ⟨w.heap.size, 0, none⟩) 1 1, .slice (some ⟨w.heap.size + 1, 0, none⟩) 1 1]] ((w.alloc (.cells #[.string ⟨#[120]⟩, .string ⟨#[49]⟩] 90)).alloc (.cells #[.int .i64 4, .string ⟨#[]⟩, .string ⟨#[98]⟩, .slice none 0 0, .slice none 0 0] 25)) (MadeP3 41 (wB w) (stoI tB)) :=
    madeB_any tB (.slice (some ⟨w.heap.size, 0, none⟩) 1 1) (.slice (some ⟨w.heap.size + 1, 0, none⟩) 1 1) (wB w) (F := fun g => g = w.heap.size ∨ g = w.heap.size + 1) tB_cnt (ndB w) hlt (by rw [tB_tot]; decide)
  have HM := Lib.hid hmade
  have HB0 : Hid (Below w.heap.size w (wB w)) := Lib.hid (((Below.refl _ w).alloc (Nat.le_refl _) _).alloc (by simp) _)
  have HS0 : Hid ((wB w).heap.size = w.heap.size + 2) := Lib.hid hsz
  clear hmade hsz hlt
  go_enter Try.func11, Try.ntmps11
  go_wp2_with (first
    | (go_at_call 12
       refine HM.out.mono ?_
       rintro e w2 ⟨p, b, sb, b2, d, Z, Z1, Y, Y1, rfl, h2, _⟩
       have hc0 := h2.cells.1
       have hv := h2.vh (by have := stoI_len tB; rw [tB_tot] at this; omega) (wfL_stoI tB (by rw [tB_tot]; decide)) (fun _ hx => by cases hx)
       have HAL := Lib.hid (all_gen hv 6 fullB goB (by decide))
       have HB2 := Lib.hid (HB0.out.trans (h2.bel.mono (by rw [HS0.out]; omega)))
       have HV := Lib.hid hv
       clear hv h2 HM)
    | (go_at_call 15
       refine HAL.out.mono ?_
       rintro e w3 ⟨u, rfl, q1, q2⟩
       have q1 : OwnsInt w2.heap.size w3 u [1, 2, 3, 4] := q1
       obtain ⟨ou, ju, rfl⟩ := q1.form
       have hi : Hid (Calls Try.prog 14 #[.slice ou [1, 2, 3, 4].length ju, .slice (some ⟨w3.heap.size, 0, none⟩) 4 4] (w3.alloc (.cells #[.int .i64 1, .int .i64 2, .int .i64 3, .int .i64 4] 3)) fun e w' => e = .returned (.bool true) ∧ ∃ n, w' = (w3.alloc (.cells #[.int .i64 1, .int .i64 2, .int .i64 3, .int .i64 4] 3)).drewN n) := Lib.hid (by
         have := ints_any [1, 2, 3, 4] [1, 2, 3, 4] (fun _ => True) (fun _ => True) ou ju (some ⟨w3.heap.size, 0, none⟩) 4 (w3.alloc (.cells #[.int .i64 1, .int .i64 2, .int .i64 3, .int .i64 4] 3)) (by decide) ((q1.below ((Below.refl _ w3).alloc (Nat.le_refl _) _)).on fun _ _ => trivial)
           ⟨_, _, _, rfl, rfl, .inr ⟨w3.heap.size, 0, rfl, trivial, fun k hk => by
             have hk : k < 4 := hk
             have hk : k = 0 ∨ k = 1 ∨ k = 2 ∨ k = 3 := by omega
             rcases hk with rfl | rfl | rfl | rfl
             · rw [World.cell?_alloc_new]; rfl
             · rw [World.cell?_alloc_new]; rfl
             · rw [World.cell?_alloc_new]; rfl
             · rw [World.cell?_alloc_new]; rfl⟩⟩
         rw [decide_eq_true rfl] at this
         exact this)
       have HB3 := Lib.hid (HB2.out.trans (q2.mono HB2.out.size))
       have HC3 := Lib.hid (keep_cell hc0 q2)
       have HV3 := Lib.hid (HV.out.below q2)
       clear q1 q2 hc0 HAL HV)
    | (go_at_call 14
       refine hi.out.mono ?_
       rintro e w4 ⟨rfl, n, hw⟩
       have hb4 : Below w3.heap.size w3 w4 := by rw [hw]; exact ((Below.refl _ w3).alloc (Nat.le_refl _) _).trans (below_drewN _ _ _)
       have HB4 := Lib.hid (HB3.out.trans (hb4.mono HB3.out.size))
       have c4 := keep_cell HC3.out hb4
       have hv4 := HV3.out.below hb4
       have hval := valueV_any hv4 1 (by decide) 6 fullB goB (by decide) (by rw [lookB1]; exact .inl rfl) (by decide)
       rw [show txJ (blG 1 fullB) = [98] from rfl] at hval
       have HVL := Lib.hid hval
       have hnm : ((bs [98]).toList == [98]) = true := by rw [bs_tl]; rfl
       have HV4 := Lib.hid hv4
       clear hw hb4 hi hval hv4 HV3 HC3)
    | (go_at_call 32
       refine HVL.out.mono ?_
       rintro e w5 ⟨rfl, q5⟩
       have HB5 := Lib.hid (HB4.out.trans (q5.mono HB4.out.size))
       have c5 := keep_cell c4 q5
       have hval := valueV_text (HV4.out.below q5) 3 (by decide) (by rw [lookB3]; decide) (by rw [lookB3]; decide)
       rw [lookB3] at hval
       have HVL2 := Lib.hid hval
       have hnm2 : ((bs [49]).toList == [49]) = true := by rw [bs_tl]; rfl
       clear q5 hval HV4 HVL c4)
    | (go_at_call 32
       refine HVL2.out.mono ?_
       rintro e w6 ⟨rfl, q6⟩
       have HB6 := Lib.hid (HB5.out.trans (q6.mono HB5.out.size))
       clear q6))
  go_ret
  exact ⟨rfl, HB6.out⟩
end Go.Proofs.Ytkackejipgabfaa.Char

/- The walks of the statements' own few and Few. -/
namespace Go.Proofs.Ytkackejipgabfaa.Char
open Go.RowKit Go.Lib

mutual
/-- how many more nodes there may be behind this one; none: there are too many, or they are too deep -/
def fewT : Tr → Nat → Nat → Option Nat
  | .mk _ _ _ _ ks, d, m => if d = 0 ∨ m = 0 then none else fewK ks (d - 1) (m - 1)
def fewK : List Tr → Nat → Nat → Option Nat
  | [], _, m => some m
  | k :: ks, d, m => (fewT k d m).bind (fewK ks d)
end
theorem fewT_no {t : Tr} {d m : Nat} (h : d = 0 ∨ m = 0) : fewT t d m = none := by
  obtain ⟨kd, nm, tx, ats, ks⟩ := t
  rw [fewT, if_pos h]
theorem fewT_go {t : Tr} {d m : Nat} (h : ¬(d = 0 ∨ m = 0)) : fewT t d m = fewK t.ks (d - 1) (m - 1) := by
  obtain ⟨kd, nm, tx, ats, ks⟩ := t
  rw [fewT, if_neg h]
  rfl
mutual
theorem fewT_cnt : ∀ (t : Tr) (d m m' : Nat), fewT t d m = some m' → m' + cntT t = m
  | .mk kd nm tx ats ks, d, m, m', h => by
    rw [fewT] at h
    split at h
    · cases h
    · have := fewK_cnt ks _ _ _ h
      rw [cntT]
      omega
theorem fewK_cnt : ∀ (ks : List Tr) (d m m' : Nat), fewK ks d m = some m' → m' + cntK ks = m
  | [], d, m, m', h => by
    rw [fewK] at h
    cases h
    rw [cntK]; rfl
  | k :: ks, d, m, m', h => by
    rw [fewK] at h
    obtain ⟨x, hx, hy⟩ := Option.bind_eq_some_iff.1 h
    have h1 := fewT_cnt k _ _ _ hx
    have h2 := fewK_cnt ks _ _ _ hy
    rw [cntK]
    omega
end

set_option maxRecDepth 100000 in
set_option maxHeartbeats 4000000 in
theorem few_any (w0 : World) (n₀ L : Nat) (hL : n₀ ≤ L) : ∀ (d : Nat) (t : Tr) (va vk : Value) (w : World) (m : Nat), NdOn w0 (fun b => b < n₀) t va vk → Below n₀ w0 w → w.cell? ⟨L, 0, none⟩ = some (.int .i64 (m : Int)) → w.frozen? ⟨L, 0, none⟩ = false → m ≤ 2000 → d ≤ 30 →
    Calls Try.prog 41 #[ndV t va vk, .int .i64 (d : Int), .pointer (some ⟨L, 0, none⟩)] w fun e w' => e = .returned (.bool (fewT t d m).isSome) ∧ KpN n₀ L w w' ∧
      (∀ m', fewT t d m = some m' → w'.cell? ⟨L, 0, none⟩ = some (.int .i64 (m' : Int)) ∧ w'.frozen? ⟨L, 0, none⟩ = false) := by
  intro d
  induction d with
  | zero =>
    intro t va vk w m hn hb hc hf hm hd
    obtain ⟨oa, ja, ok, jk, rfl, rfl⟩ := hn.form
    have hLl : L < w.heap.size := cell_lt hc
    rw [fewT_no (.inl rfl)]
    clear hn
    unfold ndV
    go_enter Try.func41, Try.ntmps41
    go_wp2_with fail
    go_ret
    exact ⟨rfl, kpN_t (kpN_setCell hL _ _ _) (kpN_grow (by simp; omega) ((Below.refl _ _).alloc (Nat.le_refl _) _)), fun m' h => by cases h⟩
  | succ d ih =>
    intro t va vk w m hn hb hc hf hm hd
    obtain ⟨oa, ja, ok, jk, rfl, rfl⟩ := hn.form
    have hLl : L < w.heap.size := cell_lt hc
    have HN := Lib.hid hn
    have HIH := Lib.hid ih
    clear hn ih
    unfold ndV
    by_cases h0 : m = 0
    · subst h0
      rw [fewT_no (.inr rfl)]
      go_enter Try.func41, Try.ntmps41
      go_wp2_with fail
      go_ret
      exact ⟨rfl, kpN_t (kpN_setCell hL _ _ _) (kpN_grow (by simp; omega) ((Below.refl _ _).alloc (Nat.le_refl _) _)), fun m' h => by cases h⟩
    · rw [fewT_go (by omega), Nat.add_sub_cancel]
      have k1 : ((d : Int) + 1 == 0) = false := by rw [beq_eq_false_iff_ne]; omega
      have k2 : decide (((m - 1 : Nat) : Int) < 0) = false := by simp
      obtain ⟨w1, hw1⟩ : ∃ w1, w1 = (w.setCell ⟨L, 0, none⟩ (.int .i64 ((m - 1 : Nat) : Int))).alloc (.cells #[.int .i64 t.kd, .string (bs t.nm), .string (bs t.tx), .slice oa t.ats.length ja, .slice ok t.ks.length jk] 25) := ⟨_, rfl⟩
      have hk1 : KpN n₀ L w w1 := by rw [hw1]; exact kpN_t (kpN_setCell hL _ _ _) (kpN_grow (by simp; omega) ((Below.refl _ _).alloc (Nat.le_refl _) _))
      have s1 : w1.heap.size = w.heap.size + 1 := by rw [hw1]; simp
      have hbk : w1.heap[w.heap.size]? = some (.cells #[.int .i64 t.kd, .string (bs t.nm), .string (bs t.tx), .slice oa t.ats.length ja, .slice ok t.ks.length jk] 25 (0, 0)) := by
        rw [hw1]
        have := World.alloc_heap_new (w.setCell ⟨L, 0, none⟩ (.int .i64 ((m - 1 : Nat) : Int))) (.cells #[.int .i64 t.kd, .string (bs t.nm), .string (bs t.tx), .slice oa t.ats.length ja, .slice ok t.ks.length jk] 25)
        simpa using this
      have hc1 : w1.cell? ⟨L, 0, none⟩ = some (.int .i64 ((m - 1 : Nat) : Int)) ∧ w1.frozen? ⟨L, 0, none⟩ = false := by
        rw [hw1]
        refine ⟨?_, ?_⟩
        · rw [World.cell?_alloc_past _ _ _ (by simp; omega)]; exact World.cell?_setCell_same' _ _ _ (by rw [hc]; rfl)
        · rw [World.frozen?_alloc_past _ _ _ (by simp; omega), World.frozen?_setCell]; exact hf
      have hcl : ∀ W, KpN n₀ L w1 W → W.cell? ⟨w.heap.size, 4, none⟩ = some (.slice ok t.ks.length jk) := fun W hW => by
        have h := hW.2 w.heap.size _ hbk rfl (by omega)
        simp [World.cell?, h]
      have HCL := Lib.hid hcl
      have HK1 := Lib.hid hk1
      have HB := Lib.hid hb
      have HW1 := Lib.hid hw1
      clear hcl hk1 hbk hb
      have e1 : (m : Int) - 1 = ((m - 1 : Nat) : Int) := by omega
      go_enter Try.func41, Try.ntmps41
      go_wp2_with fail
      rw [← HW1.out]
      clear HW1 hw1
      go_loopw [7] (fun v wr => ∃ j m' : Nat, v = .int .i64 (j : Int) ∧ j ≤ t.ks.length ∧ j + m' ≤ 2000 ∧ wr.cell? ⟨L, 0, none⟩ = some (.int .i64 (m' : Int)) ∧ wr.frozen? ⟨L, 0, none⟩ = false ∧ KpN n₀ L w1 wr ∧ fewK (t.ks.drop j) d m' = fewK t.ks d (m - 1)) (fun v _ => t.ks.length - (RowKit.intOf v).toNat)
      case atStart => exact ⟨0, m - 1, rfl, Nat.zero_le _, by omega, hc1.1, hc1.2, kpN_refl _ _ _, rfl⟩
      case round =>
        obtain ⟨j, m1, rfl, hj, hjm, hcr, hfr, hkr, heq⟩ := hrel
        have hq4 := HCL.out _ hkr
        by_cases hlt : j < t.ks.length
        · obtain ⟨o9, i9, j9, hv9, hi9, hkids⟩ := HN.out.kids
          simp only [Value.slice.injEq] at hv9
          obtain ⟨rfl, rfl, rfl⟩ := hv9
          rcases hkids with h0 | ⟨g, off, rfl, hg, hK⟩
          · rw [h0] at hlt; cases hlt
          obtain ⟨va, vk, hat, hon⟩ := hK.at j hlt
          have hb0 : Below n₀ w0 wr := (HB.out.trans HK1.out.1).trans hkr.1
          obtain ⟨a0, a1, a2, a3, a4⟩ := hat.move (hb0.block g hg)
          have hc2 := HIH.out t.ks[j] va vk wr m1 hon hb0 hcr hfr (by omega) (by omega)
          rw [List.drop_eq_getElem_cons hlt, fewK] at heq
          have hcnt := fewT_cnt t.ks[j] d m1
          have hcp := cntT_pos t.ks[j]
          generalize t.ks[j] = kid at *
          obtain ⟨oa', ja', ok', jk', rfl, rfl⟩ := hon.form
          unfold ndV at hc2
          have HC2 := Lib.hid hc2
          have HKR := Lib.hid hkr
          have HEQ := Lib.hid heq
          have HCN := Lib.hid hcnt
          clear hc2 hon hat hK hkr heq hcnt
          cases hr : fewT kid d m1 with
          | none =>
            have HR := Lib.hid hr
            clear hr
            go_wp2_with fail
            refine HC2.out.mono ?_
            rintro e w2 ⟨rfl, hk2, _⟩
            rw [HR.out]
            go_wp2_with fail
            go_ret
            have heq := HEQ.out
            rw [HR.out] at heq
            rw [← heq]
            exact ⟨rfl, kpN_t HK1.out (kpN_t HKR.out hk2), fun m' h => by cases h⟩
          | some m2 =>
            have HR := Lib.hid hr
            have hm2 := HCN.out m2 hr
            clear hr
            go_wp2_with fail
            refine HC2.out.mono ?_
            rintro e w2 ⟨rfl, hk2, hm⟩
            obtain ⟨hc3, hf3⟩ := hm m2 HR.out
            rw [HR.out]
            go_wp2_with fail
            go_roundw
            case rel => exact ⟨_, _, _, _, _, _, _, _, _, _, _, _, _, _, _, _, _, _, _, ⟨j + 1, m2, by go_num, by omega, by omega, hc3, hf3, kpN_t HKR.out hk2, by have heq := HEQ.out; rw [HR.out] at heq; exact heq⟩, rfl⟩
            case measure => simp [RowKit.intOf]; omega
        · have e : j = t.ks.length := by omega
          subst e
          rw [List.drop_length, fewK] at heq
          go_wp2_with fail
          go_ret
          rw [← heq]
          exact ⟨rfl, kpN_t HK1.out hkr, fun m' h => by cases h; exact ⟨hcr, hfr⟩⟩
end Go.Proofs.Ytkackejipgabfaa.Char

/- The walk of the statements' own Few. -/
namespace Go.Proofs.Ytkackejipgabfaa.Char
open Go.RowKit Go.Lib

def fewB (t : Tr) : Bool := (fewT t 30 2000).isSome
theorem fewB_cnt {t : Tr} (h : fewB t = true) : cntT t ≤ 2000 := by
  obtain ⟨m, hm⟩ := Option.isSome_iff_exists.1 h
  have := fewT_cnt t _ _ _ hm
  omega
set_option maxRecDepth 100000 in
set_option maxHeartbeats 4000000 in
theorem fewF_any (t : Tr) (va vk : Value) (w : World) (hn : NdOn w (fun b => b < w.heap.size) t va vk) :
    Calls Try.prog 10 #[ndV t va vk] w fun e w' => e = .returned (.bool (fewB t)) ∧ Below w.heap.size w w' := by
  obtain ⟨oa, ja, ok, jk, rfl, rfl⟩ := hn.form
  obtain ⟨w1, hw1⟩ : ∃ w1, w1 = (w.alloc (.cells #[.int .i64 t.kd, .string (bs t.nm), .string (bs t.tx), .slice oa t.ats.length ja, .slice ok t.ks.length jk] 25)).alloc (.cells #[.int .i64 2000] 3) := ⟨_, rfl⟩
  have hb1 : Below w.heap.size w w1 := by rw [hw1]; exact ((Below.refl _ _).alloc (Nat.le_refl _) _).alloc (by simp) _
  have hc1 : w1.cell? ⟨w.heap.size + 1, 0, none⟩ = some (.int .i64 ((2000 : Nat) : Int)) ∧ w1.frozen? ⟨w.heap.size + 1, 0, none⟩ = false := by rw [hw1]; exact ⟨by go_simp, by go_simp⟩
  have h := few_any w w.heap.size (w.heap.size + 1) (by omega) 30 t _ _ w1 2000 hn hb1 hc1.1 hc1.2 (by omega) (by omega)
  unfold ndV at h
  have H := Lib.hid h
  have HB := Lib.hid hb1
  have HW := Lib.hid hw1
  clear h hn hb1 hc1
  unfold ndV fewB
  go_enter Try.func10, Try.ntmps10
  go_wp2_with fail
  rw [← HW.out]
  refine H.out.mono ?_
  rintro e w2 ⟨rfl, hk2, _⟩
  clear H HW hw1
  go_wp2_with fail
  go_ret
  exact ⟨rfl, HB.out.trans hk2.1⟩
end Go.Proofs.Ytkackejipgabfaa.Char

/- The walk of a pair's step: a put, or a plant, of both views. -/
namespace Go.Proofs.Ytkackejipgabfaa.Char
open Go.RowKit Go.Lib

/-- a step: its kind, its number, its record, its node -/
structure StX where
  kd : Int
  id : Int
  x : RcV
  t : Tr
  va : Value
  vk : Value
instance : Inhabited StX := ⟨⟨0, 0, rcV0, .mk 0 [] [] [] [], .slice none 0 0, .slice none 0 0⟩⟩
def stC (q : StX) : List Value := .int .i64 q.kd :: .int .i64 q.id :: (rcC q.x ++ [.int .i64 q.t.kd, .string (bs q.t.nm), .string (bs q.t.tx), q.va, q.vk])
def stV (q : StX) : Value := .agg #[.int .i64 q.kd, .int .i64 q.id, .int .i64 q.x.1.kd, .string (bs q.x.1.nm), .string (bs q.x.1.tx), .int .i64 q.x.1.pa, q.x.2.1, q.x.2.2, .bool q.x.1.gone, .int .i64 q.t.kd, .string (bs q.t.nm), .string (bs q.t.tx), q.va, q.vk]
/-- what a step's lists and node are, and where -/
structure StOn (w : World) (F : Nat → Prop) (q : StX) : Prop where
  rc : RcOn w F q.x
  nd : NdOn w F q.t q.va q.vk
theorem StOn.move {w w' : World} {F F' : Nat → Prop} (h : ∀ b, b < w.heap.size → F b → F' b ∧ w'.heap[b]? = w.heap[b]?) {q : StX} (ha : StOn w F q) : StOn w' F' q := ⟨ha.rc.move h, ha.nd.move h⟩
theorem StOn.form {w : World} {F : Nat → Prop} {q : StX} (h : StOn w F q) : ∃ ok jk oa ja oa2 ja2 ok2 jk2, q.x.2.1 = .slice ok q.x.1.ks.length jk ∧ q.x.2.2 = .slice oa q.x.1.ats.length ja ∧ q.va = .slice oa2 q.t.ats.length ja2 ∧ q.vk = .slice ok2 q.t.ks.length jk2 := by
  obtain ⟨ok, jk, oa, ja, e1, e2⟩ := h.rc.form
  obtain ⟨oa2, ja2, ok2, jk2, e3, e4⟩ := h.nd.form
  exact ⟨ok, jk, oa, ja, oa2, ja2, ok2, jk2, e1, e2, e3, e4⟩
/-- may it be asked for -/
structure StSm (q : StX) : Prop where
  sm : RcSm q.x.1
  idw : (Lit.int .i64 q.id).wf = true
  wf : wfR q.x.1
/-- what a step makes of the numbers given, and of what is put -/
def stepG (g : Nat) (own : Own) (q : StX) : Nat × Own := if q.kd = 0 then (g, putO own q.id q.x.1) else if fewB q.t then ((plantT q.t q.id g own).2.1, (plantT q.t q.id g own).2.2) else (g, own)
def givS (S : Sto) (g : Nat) : Sto := { S with given := g }
theorem givS_self (S : Sto) : givS S S.given = S := rfl
theorem few_cnt {t : Tr} (h : fewB t = true) : cntT t ≤ 100000 := by
  have := fewB_cnt h
  omega
/-- both views through a pair, the pair's block apart from theirs -/
def PairN (B : Nat) (w0 W : World) (p b sb b2 d t : Nat) (S : Sto) (own : Own) : Prop := ∃ Z Z1 Y Y1, PairI 41 B w0 W p b sb b2 d t S own Z Z1 Y Y1 ∧ ¬ (Z p ∨ Z1 p) ∧ ¬ (Y p ∨ Y1 p)
theorem HalfI.pair {P : Nat → Prop} {B : Nat} {w0 W W1 : World} {p b sb b2 d t : Nat} {S : Sto} {own : Own} {Z Z1 Y Y1 : Nat → Prop} (h : HalfI P B w0 W b sb b2 d t S own S own Z Z1 Y Y1) (hp : P p) (hl : B ≤ p) (hk : W.heap[p]? = W1.heap[p]?)
    (hc : W1.heap[p]? = some (.cells #[.pointer (some ⟨b, 0, none⟩), .pointer (some ⟨b2, 0, none⟩)] 41 (0, 0))) : PairN B w0 W p b sb b2 d t S own :=
  ⟨Z, Z1, Y, Y1, h.full (hk.trans hc) hl, (h.np p hp).2⟩
theorem putO_len1 (own : Own) (id : Int) (r : Rc) : (putO own id r).length ≤ own.length + 1 := by
  unfold putO
  split
  · omega
  · exact layO_len own id r
set_option maxRecDepth 100000 in
set_option maxHeartbeats 16000000 in
theorem step_any {B : Nat} {w0 w : World} {p b sb b2 d tm : Nat} {S : Sto} {own : Own} (hp0 : PairN B w0 w p b sb b2 d tm S own) (q : StX) {G : Nat → Prop} (hq : StOn w G q) (hG : ∀ g, G g → g < B) (hs : StSm q)
    (hg : S.given + totP q.t ≤ 10000000) (hl : own.length + totP q.t ≤ 9000000) :
    Calls Try.prog 13 #[.pointer (some ⟨p, 0, none⟩), stV q] w fun e W' => e = .returned (.bool true) ∧ PairN B w0 W' p b sb b2 d tm (givS S (stepG S.given own q).1) (stepG S.given own q).2 := by
  obtain ⟨Z, Z1, Y, Y1, h, hnz, hny⟩ := hp0
  obtain ⟨kd, id, ⟨r, v1, v2⟩, t, va, vk⟩ := q
  obtain ⟨ok, jk, oa, ja, oa2, ja2, ok2, jk2, e1, e2, e3, e4⟩ := hq.form
  dsimp only at e1 e2 e3 e4 hg hl
  subst e1 e2 e3 e4
  obtain ⟨hsm, hid, hwf⟩ := hs
  dsimp only at hsm hid hwf
  obtain ⟨hrc, hnd⟩ := hq
  dsimp only at hrc hnd
  unfold stV stepG
  dsimp only
  obtain ⟨W0, hW0⟩ : ∃ W0, W0 = w.alloc (.cells #[.int .i64 kd, .int .i64 id, .int .i64 r.kd, .string (bs r.nm), .string (bs r.tx), .int .i64 r.pa, .slice ok r.ks.length jk, .slice oa r.ats.length ja, .bool r.gone, .int .i64 t.kd, .string (bs t.nm), .string (bs t.tx), .slice oa2 t.ats.length ja2, .slice ok2 t.ks.length jk2] 36) := ⟨_, rfl⟩
  have hb0 : Below w.heap.size w W0 := by rw [hW0]; exact (Below.refl _ _).alloc (Nat.le_refl _) _
  have hk0 : W0.heap[w.heap.size]? = some (.cells #[.int .i64 kd, .int .i64 id, .int .i64 r.kd, .string (bs r.nm), .string (bs r.tx), .int .i64 r.pa, .slice ok r.ks.length jk, .slice oa r.ats.length ja, .bool r.gone, .int .i64 t.kd, .string (bs t.nm), .string (bs t.tx), .slice oa2 t.ats.length ja2, .slice ok2 t.ks.length jk2] 36 (0, 0)) := by rw [hW0]; exact World.alloc_heap_new w _
  have hs0 : W0.heap.size = w.heap.size + 1 := by rw [hW0]; simp
  have hlow := h.two.vs.lowB
  have hpl := h.lt
  obtain ⟨X, hX⟩ : ∃ X, w.heap.size = X := ⟨_, rfl⟩
  have hh : HalfI (fun g => g = p ∨ g = X) B w0 W0 b sb b2 d tm S own S own Z Z1 Y Y1 := by
    refine ⟨h.two.below hb0, fun g hg => ?_, h.bel.trans (hb0.mono hlow)⟩
    rcases hg with rfl | rfl
    · exact ⟨by omega, hnz, hny⟩
    · exact ⟨by omega, fun hz => by have := (h.two.vs.zB _ hz).2; omega, fun hz => by have := (h.two.ws.zB _ hz).2; omega⟩
  have hkp : W0.heap[p]? = some (.cells #[.pointer (some ⟨b, 0, none⟩), .pointer (some ⟨b2, 0, none⟩)] 41 (0, 0)) := (hb0.block p hpl).trans h.cell
  have hBp := h.low
  have hbw := h.bel
  have hGm : ∀ W, Below B w W → ∀ g, g < w.heap.size → G g → G g ∧ W.heap[g]? = w.heap[g]? := fun W hb g _ hg => ⟨hg, hb.block g (hG g hg)⟩
  have hb0B : Below B w W0 := hb0.mono hlow
  have cp : ∀ W : World, W.heap[p]? = W0.heap[p]? → W.cell? ⟨p, 0, none⟩ = some (.pointer (some ⟨b, 0, none⟩)) ∧ W.cell? ⟨p, 1, none⟩ = some (.pointer (some ⟨b2, 0, none⟩)) := fun W hW => by
    rw [hkp] at hW
    exact ⟨by simp [World.cell?, hW], by simp [World.cell?, hW]⟩
  have cx : ∀ W : World, W.heap[X]? = W0.heap[X]? → W.cell? ⟨X, 1, none⟩ = some (.int .i64 id) ∧ (W.cell? ⟨X, 2, none⟩ = some (.int .i64 r.kd) ∧ W.cell? ⟨X, 3, none⟩ = some (.string (bs r.nm)) ∧ W.cell? ⟨X, 4, none⟩ = some (.string (bs r.tx)) ∧ W.cell? ⟨X, 5, none⟩ = some (.int .i64 r.pa) ∧ W.cell? ⟨X, 6, none⟩ = some (.slice ok r.ks.length jk) ∧ W.cell? ⟨X, 7, none⟩ = some (.slice oa r.ats.length ja) ∧ W.cell? ⟨X, 8, none⟩ = some (.bool r.gone)) ∧
      (W.cell? ⟨X, 9, none⟩ = some (.int .i64 t.kd) ∧ W.cell? ⟨X, 10, none⟩ = some (.string (bs t.nm)) ∧ W.cell? ⟨X, 11, none⟩ = some (.string (bs t.tx)) ∧ W.cell? ⟨X, 12, none⟩ = some (.slice oa2 t.ats.length ja2) ∧ W.cell? ⟨X, 13, none⟩ = some (.slice ok2 t.ks.length jk2)) := fun W hW => by
    rw [← hX, hk0] at hW
    rw [← hX]
    exact ⟨by simp [World.cell?, hW], ⟨by simp [World.cell?, hW], by simp [World.cell?, hW], by simp [World.cell?, hW], by simp [World.cell?, hW], by simp [World.cell?, hW], by simp [World.cell?, hW], by simp [World.cell?, hW]⟩, by simp [World.cell?, hW], by simp [World.cell?, hW], by simp [World.cell?, hW], by simp [World.cell?, hW], by simp [World.cell?, hW]⟩
  have ck : W0.cell? ⟨X, 0, none⟩ = some (.int .i64 kd) := by rw [← hX]; simp [World.cell?, hk0]
  have HW0 := Lib.hid hW0
  have HKP := Lib.hid hkp
  have HG := Lib.hid hG
  have HBP := Lib.hid hBp
  by_cases hkd : kd = 0
  · subst hkd
    simp only [if_true]
    have hdr : Below W0.heap.size W0 W0.drew := (Below.refl _ _).drew
    have hh0 := hh.below hdr
    have hrc0 : RcOn W0.drew G (r, .slice ok r.ks.length jk, .slice oa r.ats.length ja) := hrc.move fun g hg1 hg2 => hGm _ (hb0B.trans (hdr.mono (by omega))) g hg1 hg2
    have hpv := half_putV hh0 (by omega) id hid (r, .slice ok r.ks.length jk, .slice oa r.ats.length ja) hrc0 hsm
    have hpw := half_putW hh0 (by omega) id (r, .slice ok r.ks.length jk, .slice oa r.ats.length ja) hrc0 (fun g hg => ⟨hh0.zlow (hG g hg), .inr (hG g hg), by have := hG g hg; show g < W0.heap.size; omega⟩) hsm
    unfold rcV at hpv hpw
    dsimp only at hpv hpw
    have HPV := Lib.hid hpv
    have HPW := Lib.hid hpw
    have HRC := Lib.hid hrc0
    have HGX : Hid (¬ G p ∧ ¬ G X) := Lib.hid ⟨fun hg => by have := hG p hg; omega, fun hg => by have := hG X hg; omega⟩
    have HCP := Lib.hid cp
    have HCX := Lib.hid cx
    obtain ⟨y0, y1⟩ := cp W0.drew rfl
    obtain ⟨x0, ⟨x1, x2, x3, x4, x5, x6, x7⟩, _⟩ := cx W0.drew rfl
    have HL : Hid (own.length ≤ 9000000) := Lib.hid (by omega)
    have HSM := Lib.hid hsm
    have HID := Lib.hid hid
    have HZ : Hid (B ≤ W0.heap.size) := Lib.hid (by omega)
    clear hW0 hs0 hpv hpw hrc0 hh0 hdr hh hkp hGm cp cx hb0 hb0B hk0 hrc hnd hnz hny h hG hBp hbw hsm
    go_enter Try.func13, Try.ntmps13
    go_upto_region 1 with fail
    rw [← HW0.out]
    clear HW0
    go_upto_region 2 with fail
    clear ck
    go_region_held3 (fun w' => w'.cell? ⟨p, 0, none⟩ = some (.pointer (some ⟨b, 0, none⟩)) ∧ w'.cell? ⟨p, 1, none⟩ = some (.pointer (some ⟨b2, 0, none⟩)) ∧ w'.cell? ⟨X, 1, none⟩ = some (.int .i64 id) ∧ w'.cell? ⟨X, 2, none⟩ = some (.int .i64 r.kd) ∧ w'.cell? ⟨X, 3, none⟩ = some (.string (bs r.nm)) ∧ w'.cell? ⟨X, 4, none⟩ = some (.string (bs r.tx)) ∧ w'.cell? ⟨X, 5, none⟩ = some (.int .i64 r.pa) ∧ w'.cell? ⟨X, 6, none⟩ = some (.slice ok r.ks.length jk) ∧ w'.cell? ⟨X, 7, none⟩ = some (.slice oa r.ats.length ja) ∧ w'.cell? ⟨X, 8, none⟩ = some (.bool r.gone))
      (first
        | exact ⟨y0, y1, x0, x1, x2, x3, x4, x5, x6, x7⟩
        | exact ⟨z0, z1, u0, u1, u2, u3, u4, u5, u6, u7⟩
        | exact ⟨s0, s1, t0, t1, t2, t3, t4, t5, t6, t7⟩)
      (first
        | (go_at_call 23
           with_reducible refine HPV.out.mono ?_
           rintro e w9 ⟨rfl, ⟨Z9, h9⟩, b9, k9⟩
           obtain ⟨z0, z1⟩ := HCP.out w9 (k9 p (.inl rfl))
           obtain ⟨u0, ⟨u1, u2, u3, u4, u5, u6, u7⟩, _⟩ := HCX.out w9 (k9 X (.inr rfl))
           have hpw := half_putW h9 (by have := HL.out; omega) id (r, .slice ok r.ks.length jk, .slice oa r.ats.length ja) (HRC.out.move fun g hg1 hg2 => ⟨hg2, b9.block g (HG.out g hg2)⟩) (fun g hg => ⟨h9.zlow (HG.out g hg), .inr (HG.out g hg), Nat.lt_of_lt_of_le (Nat.lt_of_lt_of_le (HG.out g hg) HZ.out) b9.size⟩) HSM.out
           unfold rcV at hpw
           dsimp only at hpw
           have HPW2 := Lib.hid hpw
           have HK9 := Lib.hid (And.intro (k9 p (.inl rfl)) (k9 X (.inr rfl)))
           clear hpw k9 h9 b9)
        | (go_at_call 23
           with_reducible refine HPV2.out.mono ?_
           rintro e w10 ⟨rfl, ⟨Z10, h10⟩, b10, k10⟩
           have kp := (k10 p ⟨.inl rfl, HGX.out.1⟩).trans HK9.out.1
           obtain ⟨s0, s1⟩ := HCP.out w10 kp
           obtain ⟨t0, ⟨t1, t2, t3, t4, t5, t6, t7⟩, _⟩ := HCX.out w10 ((k10 X ⟨.inr rfl, HGX.out.2⟩).trans HK9.out.2)
           have HH := Lib.hid (h10.pair ⟨.inl rfl, HGX.out.1⟩ HBP.out kp HKP.out)
           clear h10 k10 b10 kp)
        | (go_at_call 44
           with_reducible refine HPW2.out.mono ?_
           rintro e w10 ⟨rfl, ⟨Y10, h10⟩, b10, k10⟩
           have kp := (k10 p (.inl rfl)).trans HK9.out.1
           obtain ⟨s0, s1⟩ := HCP.out w10 kp
           obtain ⟨t0, ⟨t1, t2, t3, t4, t5, t6, t7⟩, _⟩ := HCX.out w10 ((k10 X (.inr rfl)).trans HK9.out.2)
           have HH := Lib.hid (h10.pair ⟨.inl rfl, HGX.out.1⟩ HBP.out kp HKP.out)
           clear h10 k10 b10 kp)
        | (go_at_call 44
           with_reducible refine HPW.out.mono ?_
           rintro e w9 ⟨rfl, ⟨Y9, h9⟩, b9, k9⟩
           obtain ⟨z0, z1⟩ := HCP.out w9 (k9 p (.inl rfl))
           obtain ⟨u0, ⟨u1, u2, u3, u4, u5, u6, u7⟩, _⟩ := HCX.out w9 (k9 X (.inr rfl))
           have hpv := half_putV h9 (by have := HL.out; omega) id HID.out (r, .slice ok r.ks.length jk, .slice oa r.ats.length ja) (HRC.out.move fun g hg1 hg2 => ⟨hg2, b9.block g (HG.out g hg2)⟩) HSM.out
           unfold rcV at hpv
           dsimp only at hpv
           have HPV2 := Lib.hid hpv
           have HK9 := Lib.hid (And.intro (k9 p (.inl rfl)) (k9 X (.inr rfl)))
           clear hpv k9 h9 b9))
    all_goals
      go_wp2_with fail
      go_ret
      exact ⟨rfl, HH.out⟩
  · simp only [if_neg hkd]
    have kb : ((kd : Int) == 0) = false := beq_eq_false_iff_ne.2 hkd
    have hnd0 : NdOn W0 G t (.slice oa2 t.ats.length ja2) (.slice ok2 t.ks.length jk2) := hnd.move fun g hg1 hg2 => hGm _ hb0B g hg1 hg2
    have hfew := fewF_any t (.slice oa2 t.ats.length ja2) (.slice ok2 t.ks.length jk2) W0 (hnd0.move fun g hg1 _ => ⟨hg1, rfl⟩)
    obtain ⟨E, hE⟩ : ∃ E, fewB t = E := ⟨_, rfl⟩
    rw [hE] at hfew ⊢
    unfold ndV at hfew
    have HF := Lib.hid hfew
    have HE := Lib.hid hE
    obtain ⟨_, _, x9, x10, x11, x12, x13⟩ := cx W0 rfl
    have HND := Lib.hid hnd0
    have HH0 := Lib.hid hh
    have HCP := Lib.hid cp
    have HCX := Lib.hid cx
    have HL : Hid (own.length + totP t ≤ 9000000) := Lib.hid (by omega)
    have HGV : Hid (S.given + totP t ≤ 10000000) := Lib.hid (by omega)
    have HZ : Hid (B ≤ W0.heap.size) := Lib.hid (by omega)
    have HGX : Hid (¬ G p ∧ ¬ G X) := Lib.hid ⟨fun hg => by have := hG p hg; omega, fun hg => by have := hG X hg; omega⟩
    clear hfew hE hnd0 hW0 hs0 hh hkp hGm cp cx hb0 hb0B hk0 hrc hnd hnz hny h hG hBp hbw hsm hkd hl hg
    go_enter Try.func13, Try.ntmps13
    go_upto_region 1 with fail
    rw [← HW0.out]
    clear HW0
    go_upto_region 3 with fail
    cases E with
    | false =>
      go_wp2_with (first
        | (go_at_call 10
           refine HF.out.mono ?_
           rintro e w1 ⟨rfl, q1⟩
           have HQ := Lib.hid q1
           clear q1 x9 x10 x11 x12 x13 ck))
      go_ret
      have hq := HH0.out.below HQ.out
      have kp : w1.heap[p]? = W0.heap[p]? := HQ.out.block p (HH0.out.np p (.inl rfl)).1
      exact ⟨rfl, hq.pair (.inl rfl) HBP.out kp HKP.out⟩
    | true =>
      try simp only [if_true]
      have hcnt := few_cnt HE.out
      go_upto_region 5 with (first
        | (go_at_call 10
           refine HF.out.mono ?_
           rintro e w1 ⟨rfl, q1⟩
           have HQ := Lib.hid q1
           clear q1 x9 x10 x11 x12 x13 ck))
      have hdr : Below w1.heap.size w1 w1.drew := (Below.refl _ _).drew
      have hq1 := HQ.out.trans (hdr.mono HQ.out.size)
      have hh1 := HH0.out.below hq1
      have kp1 : w1.drew.heap[p]? = W0.heap[p]? := hq1.block p (HH0.out.np p (.inl rfl)).1
      have kx1 : w1.drew.heap[X]? = W0.heap[X]? := hq1.block X (HH0.out.np X (.inr rfl)).1
      have hnd1 : NdOn w1.drew G t (.slice oa2 t.ats.length ja2) (.slice ok2 t.ks.length jk2) := HND.out.move fun g hg1 hg2 => ⟨hg2, hq1.block g hg1⟩
      have hpv := half_plantV hh1 t (.slice oa2 t.ats.length ja2) (.slice ok2 t.ks.length jk2) id hcnt hnd1 (fun g hg => ⟨Nat.lt_of_lt_of_le (Nat.lt_of_lt_of_le (HG.out g hg) HZ.out) hq1.size, hh1.zlow (HG.out g hg)⟩) (by have := HGV.out; omega) (by have := HL.out; omega)
      have hpw := half_plantW hh1 t (.slice oa2 t.ats.length ja2) (.slice ok2 t.ks.length jk2) id hcnt hnd1 (fun g hg => ⟨Nat.lt_of_lt_of_le (Nat.lt_of_lt_of_le (HG.out g hg) HZ.out) hq1.size, .inl (HG.out g hg)⟩) (by have := HGV.out; omega) (by have := HL.out; omega)
      unfold ndV at hpv hpw
      have HPV := Lib.hid hpv
      have HPW := Lib.hid hpw
      have HND1 := Lib.hid hnd1
      have HS1 := Lib.hid hq1.size
      obtain ⟨y0, y1⟩ := HCP.out w1.drew kp1
      obtain ⟨x1, _, x9, x10, x11, x12, x13⟩ := HCX.out w1.drew kx1
      have HK1 := Lib.hid (And.intro kp1 kx1)
      have HCN := Lib.hid hcnt
      clear hpv hpw hnd1 hh1 hq1 hdr HQ HH0 kp1 kx1 HF hcnt
      go_region_held3 (fun w' => w'.cell? ⟨p, 0, none⟩ = some (.pointer (some ⟨b, 0, none⟩)) ∧ w'.cell? ⟨p, 1, none⟩ = some (.pointer (some ⟨b2, 0, none⟩)) ∧ w'.cell? ⟨X, 1, none⟩ = some (.int .i64 id) ∧ w'.cell? ⟨X, 9, none⟩ = some (.int .i64 t.kd) ∧ w'.cell? ⟨X, 10, none⟩ = some (.string (bs t.nm)) ∧ w'.cell? ⟨X, 11, none⟩ = some (.string (bs t.tx)) ∧ w'.cell? ⟨X, 12, none⟩ = some (.slice oa2 t.ats.length ja2) ∧ w'.cell? ⟨X, 13, none⟩ = some (.slice ok2 t.ks.length jk2))
        (first
          | exact ⟨y0, y1, x1, x9, x10, x11, x12, x13⟩
          | exact ⟨z0, z1, u0, u1, u2, u3, u4, u5⟩
          | exact ⟨s0, s1, t0, t1, t2, t3, t4, t5⟩)
        (first
          | (go_at_call 21
             with_reducible refine HPV.out.mono ?_
             rintro e w9 ⟨rfl, ⟨Z9, h9⟩, b9, k9⟩
             have kp9 := (k9 p (.inl rfl)).trans HK1.out.1
             have kx9 := (k9 X (.inr rfl)).trans HK1.out.2
             obtain ⟨z0, z1⟩ := HCP.out w9 kp9
             obtain ⟨u0, _, u1, u2, u3, u4, u5⟩ := HCX.out w9 kx9
             have hpw := half_plantW h9 t (.slice oa2 t.ats.length ja2) (.slice ok2 t.ks.length jk2) id HCN.out (HND1.out.move fun g _ hg2 => ⟨hg2, b9.block g (HG.out g hg2)⟩) (fun g hg => ⟨Nat.lt_of_lt_of_le (Nat.lt_of_lt_of_le (Nat.lt_of_lt_of_le (HG.out g hg) HZ.out) HS1.out) b9.size, .inl (HG.out g hg)⟩) (by have := HGV.out; omega) (by have := HL.out; omega)
             unfold ndV at hpw
             have HPW2 := Lib.hid hpw
             have HK9 := Lib.hid (And.intro kp9 kx9)
             clear hpw k9 h9 b9 kp9 kx9)
          | (go_at_call 21
             with_reducible refine HPV2.out.mono ?_
             rintro e w10 ⟨rfl, ⟨Z10, h10⟩, b10, k10⟩
             have kp := (k10 p (.inl rfl)).trans HK9.out.1
             obtain ⟨s0, s1⟩ := HCP.out w10 kp
             obtain ⟨t0, _, t1, t2, t3, t4, t5⟩ := HCX.out w10 ((k10 X (.inr rfl)).trans HK9.out.2)
             have HH := Lib.hid (h10.pair (.inl rfl) HBP.out kp HKP.out)
             clear h10 k10 b10 kp)
          | (go_at_call 43
             with_reducible refine HPW2.out.mono ?_
             rintro e w10 ⟨rfl, ⟨Y10, h10⟩, b10, k10⟩
             have kp := (k10 p (.inl rfl)).trans HK9.out.1
             obtain ⟨s0, s1⟩ := HCP.out w10 kp
             obtain ⟨t0, _, t1, t2, t3, t4, t5⟩ := HCX.out w10 ((k10 X (.inr rfl)).trans HK9.out.2)
             have HH := Lib.hid (h10.pair (.inl rfl) HBP.out kp HKP.out)
             clear h10 k10 b10 kp)
          | (go_at_call 43
             with_reducible refine HPW.out.mono ?_
             rintro e w9 ⟨rfl, ⟨Y9, h9⟩, b9, k9⟩
             have kp9 := (k9 p (.inl rfl)).trans HK1.out.1
             have kx9 := (k9 X (.inr rfl)).trans HK1.out.2
             obtain ⟨z0, z1⟩ := HCP.out w9 kp9
             obtain ⟨u0, _, u1, u2, u3, u4, u5⟩ := HCX.out w9 kx9
             have hpv := half_plantV h9 t (.slice oa2 t.ats.length ja2) (.slice ok2 t.ks.length jk2) id HCN.out (HND1.out.move fun g _ hg2 => ⟨hg2, b9.block g (HG.out g hg2)⟩) (fun g hg => ⟨Nat.lt_of_lt_of_le (Nat.lt_of_lt_of_le (Nat.lt_of_lt_of_le (HG.out g hg) HZ.out) HS1.out) b9.size, h9.zlow (HG.out g hg)⟩) (by have := HGV.out; omega) (by have := HL.out; omega)
             unfold ndV at hpv
             have HPV2 := Lib.hid hpv
             have HK9 := Lib.hid (And.intro kp9 kx9)
             clear hpv k9 h9 b9 kp9 kx9))
      all_goals
        go_wp2_with fail
        go_ret
        exact ⟨rfl, HH.out⟩
end Go.Proofs.Ytkackejipgabfaa.Char
