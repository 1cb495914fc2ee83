/- WorksA LawNames11 -/
import Derived.Test.YtbbfcjaggdpfbaaPk13
import Derived.Test.YtbbfcjaggdpfbaaPk14
import Derived.Test.YtbbfcjaggdpfbaaPk15
import Derived.Test.YtbbfcjaggdpfbaaPk00
/- The walk of the axes' works. -/
namespace Go.Proofs.Ytbbfcjaggdpfbaa.Char
open Go.RowKit Go.Lib Go.Shelf

section
variable {T : TypeId} {B : Nat} {w0 W : World} {p b sb b2 d t : Nat} {S : Sto} {own : Own} {Z Z1 Y Y1 : Nat → Prop}
theorem PairI.vh (h : PairI T B w0 W p b sb b2 d t S own Z Z1 Y Y1) (hl : S.L.length ≤ 1000000) (hL : wfL S.L) (ho : wfO own) : VH (fun g => Z g ∨ Z1 g) W (some ⟨b, 0, none⟩) (lookV S.L t own) := by
  obtain ⟨mb, D, h1, h2, h3⟩ := h.two.vs
  exact h1.vh h2 (by omega) hL ho
theorem PairI.dv (h : PairI T B w0 W p b sb b2 d t S own Z Z1 Y Y1) (hl : S.L.length ≤ 1000000) (hL : wfL S.L) (ho : wfO own) (hol : own.length ≤ 5000000) : DV W b2 S.L t own :=
  h.two.ws.dv (h.vh hl hL ho).sm hl hol
end
/-- what Made leaves may be -/
theorem wfO_ownA (t : Tr) (ht : totP t ≤ 2000000) : wfO (ownA t) := by
  unfold ownA
  refine wfO_lay (wfO_plantT t 1 1 [] (fun c hc => by cases hc) (by omega)) 1 fun z hz => ?_
  obtain ⟨h1, _, h3, h4, _⟩ := plantT_spec t 1 1 []
  unfold rootO at hz
  dsimp only at hz
  rcases hz with hz | hz
  · split at hz
    · cases hz
    · rw [List.mem_singleton] at hz
      subst hz
      exact wf_7 h3 (by omega)
  · cases hz
theorem wfO_puts {own : Own} (h : wfO own) : ∀ cs : List (Int × Rc), (∀ c, c ∈ cs → wfR c.2) → wfO (putsO own cs) := by
  intro cs
  induction cs generalizing own with
  | nil => intro _; exact h
  | cons c cs ih => intro hc; exact ih (wfO_put h c.1 (hc c List.mem_cons_self)) (fun x hx => hc x (List.mem_cons_of_mem _ hx))
theorem wfL_stoA (t : Tr) : wfL (stoA t).L := fun x hx z hz => by
  have hx : x ∈ [(⟨1, ⟨0, rootR⟩⟩ : On)] := hx
  rw [List.mem_singleton] at hx
  subst hx
  rcases hz with hz | hz <;> cases hz
def tW : Tr := .mk 2 [97] [] [] [.mk 2 [98] [] [] [], .mk 4 [] [116] [] []]
def ownW : Own := [(1, ⟨1, [], [], 0, [2], [], false⟩), (2, ⟨2, [97], [], 1, [3, 4], [], false⟩), (3, ⟨2, [98], [], 2, [], [], false⟩), (4, ⟨4, [], [116], 2, [], [], false⟩)]
theorem ownW_eq : ownA tW = ownW := by rfl
theorem look2 : lookV (stoA tW).L 0 ownW 2 = some ⟨2, [97], [], 1, [3, 4], [], false⟩ := by rfl
theorem look3 : lookV (stoA tW).L 0 ownW 3 = some ⟨2, [98], [], 2, [], [], false⟩ := by rfl
theorem look4 : lookV (stoA tW).L 0 ownW 4 = some ⟨4, [], [116], 2, [], [], false⟩ := by rfl
theorem tW_tot : totP tW = 3 := by rfl
theorem tW_cnt : cntT tW ≤ 100000 := by decide
def rowW : Array Value := #[.int .i64 2, .string ⟨#[98]⟩, .string ⟨#[]⟩, .slice none 0 0, .slice none 0 0, .int .i64 4, .string ⟨#[]⟩, .string ⟨#[116]⟩, .slice none 0 0, .slice none 0 0]
theorem ndW (w : World) : NdOn (w.alloc (.cells rowW 25)) (fun g => g = w.heap.size) tW (.slice none 0 0) (.slice (some ⟨w.heap.size, 0, none⟩) 2 2) := by
  have nil : ∀ F : Nat → Prop, AtsOn (w.alloc (.cells rowW 25)) F (.slice none 0 0) [] := fun F => ⟨none, 0, 0, rfl, rfl, .inl rfl⟩
  unfold tW
  rw [NdOn]
  refine ⟨nil _, _, _, _, rfl, rfl, .inr ⟨w.heap.size, 0, rfl, rfl, ?_⟩⟩
  rw [KsOn, KsOn, KsOn]
  refine ⟨⟨.slice none 0 0, .slice none 0 0, ⟨?_, ?_, ?_, ?_, ?_⟩, ?_⟩, ⟨.slice none 0 0, .slice none 0 0, ⟨?_, ?_, ?_, ?_, ?_⟩, ?_⟩, trivial⟩
  · rw [World.cell?_alloc_new]; rfl
  · rw [World.cell?_alloc_new]; rfl
  · rw [World.cell?_alloc_new]; rfl
  · rw [World.cell?_alloc_new]; rfl
  · rw [World.cell?_alloc_new]; rfl
  · rw [NdOn]; exact ⟨nil _, _, _, _, rfl, rfl, .inl rfl⟩
  · rw [World.cell?_alloc_new]; rfl
  · rw [World.cell?_alloc_new]; rfl
  · rw [World.cell?_alloc_new]; rfl
  · rw [World.cell?_alloc_new]; rfl
  · rw [World.cell?_alloc_new]; rfl
  · rw [NdOn]; exact ⟨nil _, _, _, _, rfl, rfl, .inl rfl⟩
theorem onceW : onceL (fun z => (lookV (stoA tW).L 0 ownW z).isSome) [3, 4] = [3, 4] := by rfl
theorem matchW : matchT 1 4 [] false (lookV (stoA tW).L 0 ownW 4) = true := by rfl
set_option maxRecDepth 100000 in
set_option maxHeartbeats 8000000 in
theorem worksA_any (w : World) : Calls Try.prog 38 #[] w fun e w' => e = .returned (.bool true) ∧ Below w.heap.size w w' := by
  have hmade : Calls Try.prog 39 #[.agg #[.int .i64 2, .string ⟨#[97]⟩, .string ⟨#[]⟩, .slice none 0 0, .slice (some ⟨w.heap.size, 0, none⟩) 2 2], .slice none 0 0] (w.alloc (.cells #[.int .i64 2, .string ⟨#[98]⟩, .string ⟨#[]⟩, .slice none 0 0, .slice none 0 0, .int .i64 4, .string ⟨#[]⟩, .string ⟨#[116]⟩, .slice none 0 0, .slice none 0 0] 25)) (MadeP 79 (w.alloc (.cells rowW 25)) (stoA tW) ownW) :=
    madeA_any tW (.slice none 0 0) (.slice (some ⟨w.heap.size, 0, none⟩) 2 2) none 0 [] (w.alloc (.cells rowW 25)) (F := fun g => g = w.heap.size) (G := fun _ => False) tW_cnt (ndW w) (fun g hg => by rw [hg]; simp) (by rw [tW_tot]; decide)
      ⟨⟨none, 0, 0, rfl, rfl, .inl rfl⟩, fun x hx => by cases hx⟩ (fun _ hg => hg.elim) (fun x hx => by cases hx) (Nat.zero_le _)
  have HM := Lib.hid hmade
  have HB0 : Hid (Below w.heap.size w (w.alloc (.cells rowW 25))) := Lib.hid ((Below.refl _ w).alloc (Nat.le_refl _) _)
  have HS0 : Hid ((w.alloc (.cells rowW 25)).heap.size = w.heap.size + 1) := Lib.hid (by simp)
  clear hmade
  go_enter Try.func38, Try.ntmps38
  go_wp2_with (first
    | (go_at_call 39
       refine HM.out.mono ?_
       rintro e w2 ⟨p, b, sb, b2, d, Z, Z1, Y, Y1, rfl, h2⟩
       have hc0 := h2.cells.1
       have hc1 := fun ob => Lib.cell?_alloc_some ob hc0
       have hv := h2.vh (by decide) (wfL_stoA tW) (by rw [← ownW_eq]; exact wfO_ownA tW (by rw [tW_tot]; decide))
       have hn := nodes_yes hv 2 1 (by decide) look2 (g := 100) rfl (enters_of Try.func100 (by kernel_rfl) rfl) (l := [3, 4]) (fun W ok jk oa ja hW hr => by
         have := children_any (hv.below hW) 2 ⟨2, [97], [], 1, [3, 4], [], false⟩ ok jk oa ja hr.1 (fun g hg => hg) (by decide) (by decide)
         rw [onceW] at this
         exact this)
       have HN := Lib.hid hn
       have HB2 := Lib.hid (HB0.out.trans (h2.bel.mono (by rw [HS0.out]; omega)))
       have HV := Lib.hid hv
       have HH := Lib.hid h2
       clear hv hn h2)
    | (go_at_call 40
       refine HN.out.mono ?_
       rintro e w3 ⟨u, rfl, q1, q2⟩
       obtain ⟨ou, ju, rfl⟩ := q1.form
       have hi : Hid (Calls Try.prog 16 #[.slice ou [3, 4].length ju, .slice (some ⟨w3.heap.size, 0, none⟩) 2 2] (w3.alloc (.cells #[.int .i64 3, .int .i64 4] 3)) fun e w' => e = .returned (.bool true) ∧ ∃ n, w' = (w3.alloc (.cells #[.int .i64 3, .int .i64 4] 3)).drewN n) := Lib.hid (by
         have := ints_any [3, 4] [3, 4] (fun _ => True) (fun _ => True) ou ju (some ⟨w3.heap.size, 0, none⟩) 2 (w3.alloc (.cells #[.int .i64 3, .int .i64 4] 3)) (by decide) ((q1.below ((Below.refl _ w3).alloc (Nat.le_refl _) _)).on fun _ _ => trivial)
           ⟨_, _, _, rfl, rfl, .inr ⟨w3.heap.size, 0, rfl, trivial, fun k hk => by
             have hk : k < 2 := hk
             have hk : k = 0 ∨ k = 1 := by omega
             rcases hk with rfl | rfl
             · rw [World.cell?_alloc_new]; rfl
             · rw [World.cell?_alloc_new]; rfl⟩⟩
         rw [decide_eq_true rfl] at this
         exact this)
       have HB3 := Lib.hid (HB2.out.trans (q2.mono HB2.out.size))
       have HC3 := Lib.hid (keep_cell hc0 q2)
       have HV3 := Lib.hid (HV.out.below q2)
       clear q1 q2 hc0 hc1 HN HV)
    | (go_at_call 16
       refine hi.out.mono ?_
       rintro e w4 ⟨rfl, n, hw⟩
       have hb4 : Below w3.heap.size w3 w4 := by rw [hw]; exact ((Below.refl _ w3).alloc (Nat.le_refl _) _).trans (below_drewN _ _ _)
       have HB4 := Lib.hid (HB3.out.trans (hb4.mono HB3.out.size))
       have HC4 := Lib.hid (keep_cell HC3.out hb4)
       have HV4 := Lib.hid (HV3.out.below hb4)
       have HNX := Lib.hid (nameX_any 10 w4)
       have hnm : ((bs (nmX 10)).toList == [115, 101, 108, 102]) = true := by rw [bs_tl]; rfl
       clear hw hb4)
    | (go_at_call 47
       refine HNX.out.mono ?_
       rintro e w5 ⟨rfl, q5⟩
       have HB5 := Lib.hid (HB4.out.trans (q5.mono HB4.out.size))
       have c5 := keep_cell HC4.out q5
       have hm5 := match_any (HV4.out.below q5) 1 4 [] false 4 (by decide)
       rw [matchW] at hm5
       have HM5 : Hid (Calls Try.prog 42 #[.pointer (some ⟨b, 0, none⟩), .int .i64 1, .agg #[.int .i64 4, .string ⟨#[]⟩, .bool false], .int .i64 4] w5 fun e w' => e = .returned (.bool true) ∧ Below w5.heap.size w5 w') := Lib.hid hm5
       clear q5 hm5)
    | (go_at_call 42
       refine HM5.out.mono ?_
       rintro e w6 ⟨rfl, q6⟩
       have HB6 := Lib.hid (HB5.out.trans (q6.mono HB5.out.size))
       clear q6))
  go_ret
  exact ⟨rfl, HB6.out⟩
end Go.Proofs.Ytbbfcjaggdpfbaa.Char

/- The walk of the law AxisNames. -/
namespace Go.Proofs.Ytbbfcjaggdpfbaa.Char
open Go.RowKit Go.Lib

theorem ofF_spec (s : List UInt8) : ∀ (n a : Nat), 1 ≤ a → (ofF s n a = 0 ∧ ∀ j : Nat, a ≤ j → j < a + n → nmX (j : Int) ≠ s) ∨ (a ≤ ofF s n a ∧ ofF s n a < a + n ∧ nmX (ofF s n a : Int) = s)
  | 0, a, _ => .inl ⟨rfl, fun j h1 h2 => by omega⟩
  | n + 1, a, ha => by
    rw [ofF]
    by_cases h : nmX (a : Int) = s
    · rw [if_pos h]
      exact .inr ⟨Nat.le_refl _, by omega, h⟩
    · rw [if_neg h]
      rcases ofF_spec s n (a + 1) (by omega) with ⟨h1, h2⟩ | ⟨h1, h2, h3⟩
      · refine .inl ⟨h1, fun j h3 h4 => ?_⟩
        by_cases hj : j = a
        · rw [hj]; exact h
        · exact h2 j (by omega) (by omega)
      · exact .inr ⟨by omega, by omega, h3⟩
theorem ofX_spec (s : List UInt8) : (ofX s = 0 ∧ ∀ j : Nat, 1 ≤ j → j ≤ 12 → nmX (j : Int) ≠ s) ∨ (1 ≤ ofX s ∧ ofX s ≤ 12 ∧ nmX (ofX s : Int) = s) := by
  rcases ofF_spec s 12 1 (Nat.le_refl _) with ⟨h1, h2⟩ | ⟨h1, h2, h3⟩
  · exact .inl ⟨h1, fun j h3 h4 => h2 j h3 (by omega)⟩
  · exact .inr ⟨h1, by unfold ofX; omega, h3⟩
theorem ofX_nm {j : Nat} (h1 : 1 ≤ j) (h2 : j ≤ 12) : ofX (nmX (j : Int)) = j := by
  have h : j = 1 ∨ j = 2 ∨ j = 3 ∨ j = 4 ∨ j = 5 ∨ j = 6 ∨ j = 7 ∨ j = 8 ∨ j = 9 ∨ j = 10 ∨ j = 11 ∨ j = 12 := by omega
  rcases h with rfl | rfl | rfl | rfl | rfl | rfl | rfl | rfl | rfl | rfl | rfl | rfl <;> decide
set_option maxRecDepth 100000 in
set_option maxHeartbeats 16000000 in
theorem lawNames11_any (a : Int) (l : List UInt8) (w : World) : Calls Try.prog 9 #[.int .i64 a, .string (bs l)] w fun e w' => e = .returned (.bool true) ∧ Below w.heap.size w w' := by
  have HOF := Lib.hid (ofX_any l w)
  have HSP := Lib.hid (ofX_spec l)
  obtain ⟨K, hK⟩ : ∃ K, ofX l = K := ⟨_, rfl⟩
  rw [hK] at HOF HSP
  clear hK
  have HNM := Lib.hid fun W => nameX_any a W
  have HNR := Lib.hid fun W => nameR_any a W
  have HRV := Lib.hid fun W => revX_any a W
  have HNK := Lib.hid fun W => nameR_any (K : Int) W
  have HWK := Lib.hid worksA_any
  have hxe := bs_eqv (nmX a) (nmX a) true (decide_eq_true rfl)
  generalize nmX a = X at *
  have hcase : a = 3 ∨ a = 4 ∨ a = 6 ∨ a = 8 ∨ a = 12 ∨ ((a == 3) = false ∧ (a == 4) = false ∧ (a == 6) = false ∧ (a == 8) = false ∧ (a == 12) = false ∧ revX a = false) := by
    by_cases h : a = 3 ∨ a = 4 ∨ a = 6 ∨ a = 8 ∨ a = 12
    · omega
    · refine .inr (.inr (.inr (.inr (.inr ⟨beq_eq_false_iff_ne.2 (by omega), beq_eq_false_iff_ne.2 (by omega), beq_eq_false_iff_ne.2 (by omega), beq_eq_false_iff_ne.2 (by omega), beq_eq_false_iff_ne.2 (by omega), ?_⟩))))
      unfold revX
      rw [decide_eq_false (by omega), decide_eq_false (by omega), decide_eq_false (by omega), decide_eq_false (by omega), decide_eq_false (by omega)]
      rfl
  have hRV : ∃ R, revX a = R := ⟨_, rfl⟩
  obtain ⟨R, hR⟩ := hRV
  rw [hR] at HRV hcase
  rcases hcase with rfl | rfl | rfl | rfl | rfl | ⟨k3, k4, k6, k8, kc, rfl⟩
  rotate_left 5
  all_goals first | (obtain rfl : true = R := hR) | skip
  all_goals try clear hR
  all_goals rcases HSP.out with ⟨rfl, hz⟩ | ⟨h1, h12, hx⟩
  all_goals first
    | (have HZ := Lib.hid hz
       clear hz
       go_enter Try.func9, Try.ntmps9
       go_wp2_with (first
         | (go_at_call 46
            refine HOF.out.mono ?_
            rintro e w1 ⟨rfl, q1⟩
            have HB1 := Lib.hid q1
            clear q1)
         | (go_at_call 47
            refine (HNM.out _).mono ?_
            rintro e w2 ⟨rfl, q2⟩
            have HB2 := Lib.hid (HB1.out.trans (q2.mono HB1.out.size))
            clear q2)
         | (go_at_call 48
            with_reducible refine (HNR.out _).mono ?_
            rintro e w3 ⟨rfl, q3⟩
            have HB3 := Lib.hid (HB2.out.trans (q3.mono HB2.out.size))
            clear q3)
         | (go_at_call 49
            refine (HRV.out _).mono ?_
            rintro e w4 ⟨rfl, hw⟩
            have hw := hw.symm
            subst hw))
       go_loopw [6] (fun v wr => ∃ j : Nat, v = .int .i64 (j : Int) ∧ 1 ≤ j ∧ j ≤ 13 ∧ Hid (Below w.heap.size w wr)) (fun v _ => 13 - (RowKit.intOf v).toNat)
       case atStart => exact ⟨1, rfl, Nat.le_refl _, by omega, Lib.hid HB3.out⟩
       case round =>
         obtain ⟨j, rfl, hj1, hj13, HB⟩ := hrel
         by_cases hlt : j ≤ 12
         · have HNJ := Lib.hid fun W => nameR_any (j : Int) W
           have hoj := fun W => ofX_any (nmX (j : Int)) W
           simp only [ofX_nm hj1 hlt] at hoj
           have HOJ := Lib.hid hoj
           have hyl := bs_eqv (nmX (j : Int)) l false (decide_eq_false (HZ.out j hj1 hlt))
           have k0 : decide ((j : Int) ≤ 12) = true := decide_eq_true (by omega)
           clear hoj
           generalize nmX (j : Int) = Y at *
           go_wp2_with (first
             | (fail_if_success (have := HB6)
                go_at_call 48
                refine (HNJ.out _).mono ?_
                rintro e w6 ⟨rfl, q6⟩
                have HB6 := Lib.hid (HB.out.trans (q6.mono HB.out.size))
                clear q6)
             | (go_at_call 46
                refine (HOJ.out _).mono ?_
                rintro e w7 ⟨rfl, q7⟩
                have HB7 := Lib.hid (HB6.out.trans (q7.mono HB6.out.size))
                clear q7)
             | (go_at_call 48
                refine (HNJ.out _).mono ?_
                rintro e w8 ⟨rfl, q8⟩
                have HB8 := Lib.hid (HB7.out.trans (q8.mono HB7.out.size))
                clear q8))
           go_roundw
           case rel => exact ⟨j + 1, by go_num, by omega, by omega, HB8⟩
           case measure => simp [RowKit.intOf]; omega
         · have e : j = 13 := by omega
           subst e
           have HW := Lib.hid (HWK.out wr)
           go_wp2_with (first
             | (go_at_call 38
                refine HW.out.mono ?_
                rintro e w9 ⟨rfl, q9⟩
                have HB9 := Lib.hid (HB.out.trans (q9.mono HB.out.size))
                clear q9))
           go_ret
           exact ⟨rfl, HB9.out⟩)
    | (have kz : ((K : Int) == 0) = false := beq_eq_false_iff_ne.2 (by omega)
       have kn : ((K : Int) != 0) = true := by rw [bne, kz]; rfl
       have hks := bs_eqv (nmX (K : Int)) l true (decide_eq_true hx)
       clear hx h1 h12
       generalize nmX (K : Int) = V at *
       go_enter Try.func9, Try.ntmps9
       go_wp2_with (first
         | (go_at_call 46
            refine HOF.out.mono ?_
            rintro e w1 ⟨rfl, q1⟩
            have HB1 := Lib.hid q1
            clear q1)
         | (go_at_call 47
            refine (HNM.out _).mono ?_
            rintro e w2 ⟨rfl, q2⟩
            have HB2 := Lib.hid (HB1.out.trans (q2.mono HB1.out.size))
            clear q2)
         | (go_at_call 48
            with_reducible refine (HNR.out _).mono ?_
            rintro e w3 ⟨rfl, q3⟩
            have HB3 := Lib.hid (HB2.out.trans (q3.mono HB2.out.size))
            clear q3)
         | (go_at_call 48
            with_reducible refine (HNK.out _).mono ?_
            rintro e w5 ⟨rfl, q5⟩
            have HB5 := Lib.hid (HB3.out.trans (q5.mono HB3.out.size))
            clear q5)
         | (go_at_call 49
            refine (HRV.out _).mono ?_
            rintro e w4 ⟨rfl, hw⟩
            have hw := hw.symm
            subst hw))
       go_loopw [6] (fun v wr => ∃ j : Nat, v = .int .i64 (j : Int) ∧ 1 ≤ j ∧ j ≤ 13 ∧ Hid (Below w.heap.size w wr)) (fun v _ => 13 - (RowKit.intOf v).toNat)
       case atStart => exact ⟨1, rfl, Nat.le_refl _, by omega, Lib.hid HB5.out⟩
       case round =>
         obtain ⟨j, rfl, hj1, hj13, HB⟩ := hrel
         by_cases hlt : j ≤ 12
         · have HNJ := Lib.hid fun W => nameR_any (j : Int) W
           have hoj := fun W => ofX_any (nmX (j : Int)) W
           simp only [ofX_nm hj1 hlt] at hoj
           have HOJ := Lib.hid hoj
           have k0 : decide ((j : Int) ≤ 12) = true := decide_eq_true (by omega)
           clear hoj
           generalize nmX (j : Int) = Y at *
           go_wp2_with (first
             | (go_at_call 48
                refine (HNJ.out _).mono ?_
                rintro e w6 ⟨rfl, q6⟩
                have HB6 := Lib.hid (HB.out.trans (q6.mono HB.out.size))
                clear q6)
             | (go_at_call 46
                refine (HOJ.out _).mono ?_
                rintro e w7 ⟨rfl, q7⟩
                have HB7 := Lib.hid (HB6.out.trans (q7.mono HB6.out.size))
                clear q7))
           go_roundw
           case rel => exact ⟨j + 1, by go_num, by omega, by omega, HB7⟩
           case measure => simp [RowKit.intOf]; omega
         · have e : j = 13 := by omega
           subst e
           have HW := Lib.hid (HWK.out wr)
           go_wp2_with (first
             | (go_at_call 38
                refine HW.out.mono ?_
                rintro e w9 ⟨rfl, q9⟩
                have HB9 := Lib.hid (HB.out.trans (q9.mono HB.out.size))
                clear q9))
           go_ret
           exact ⟨rfl, HB9.out⟩)
end Go.Proofs.Ytbbfcjaggdpfbaa.Char
