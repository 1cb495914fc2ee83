/- The walk of 'some of the characters of a text, in their order'. -/
import Derived.Test.YtblhiaeocinogaaSeq
import Derived.Test.YtblhiaeocinogaaBuild
import Derived.Test.YtblhiaeocinogaaPick
namespace Go.Proofs.Ytblhiaeocinogaa.Char
open Go.RowKit Go.Shelf
attribute [local go_sem] Oper.semAt_some

/-- what the loop keeps: the builder, the two boxes, and what lay before -/
def CutI (w : World) (f m : Int) (pre : List Ch) (W : World) : Prop :=
  (Lib.IsBuilderF 46 5 w.heap.size (w.heap.size + 1 + 1) (Lib.byteCells (pick (sel f m) pre)) W ∧ W.heap[w.heap.size]? = some (.cells #[.int .i64 f] 3) ∧ W.heap[w.heap.size + 1]? = some (.cells #[.int .i64 m] 3)) ∧ Below w.heap.size w W
theorem cutI_own (w : World) (f m : Int) (B : Nat) (hB : w.heap.size ≤ B) : OwnFrom B (CutI w f m) :=
  OwnFrom.and (Own.from (fun _ _ _ _ hs hg hr => ⟨builder_kept hs.1 hg hr, cells_own hs.2.1 hg hr, cells_own hs.2.2 hg hr⟩) _) (ownFrom_below (Nat.le_refl _) hB)
def CutX (w : World) (f m : Int) (c : Code) (pre : List Ch) (W : World) : Prop :=
  c = Code.exit 0 ∧ ∃ ini last, pre = ini ++ [last] ∧ m ≤ (last.1.1 : Int) - f ∧ CutI w f m ini W
theorem cutX_own (w : World) (f m : Int) (B : Nat) (hB : w.heap.size ≤ B) (c : Code) : OwnFrom B (CutX w f m c) :=
  fun s A C row hs hg hr => by
    obtain ⟨hc, ini, last, h1, h2, h3⟩ := hs
    exact ⟨hc, ini, last, h1, h2, cutI_own w f m B hB ini A C row h3 hg hr⟩

abbrev cutW (w : World) (f m : Int) : World := ((w.alloc (.cells #[.int .i64 f] 3)).alloc (.cells #[.int .i64 m] 3)).alloc (.cells #[.pointer none, .slice none 0 0] 46)
theorem cut_start (w : World) (f m : Int) (s : ByteArray) : CutI w f m [] ((cutW w f m).alloc (boxed s)) ∧ ((cutW w f m).alloc (boxed s)).heap[w.heap.size + 1 + 1 + 1]? = some (boxed s) ∧ ((cutW w f m).alloc (boxed s)).heap.size = w.heap.size + 1 + 1 + 1 + 1 := by
  have hn : ∀ (W : World) (o : Obj), (W.alloc o).heap[W.heap.size]? = some o := fun W o => World.alloc_heap_new W o
  have ho : ∀ (W : World) (o : Obj) (k : Nat) (x : Obj), W.heap[k]? = some x → (W.alloc o).heap[k]? = some x := fun W o k x h => (Below.heap_alloc W o k (Array.getElem?_eq_some_iff.1 h).1).trans h
  refine ⟨⟨⟨?_, ho _ _ _ _ (ho _ _ _ _ (ho _ _ _ _ (hn w _))), ?_⟩, ?_⟩, ?_, by simp⟩
  · have h := (Lib.IsBuilderF.of (Lib.fresh_isBuilder 46 5 ((w.alloc (.cells #[.int .i64 f] 3)).alloc (.cells #[.int .i64 m] 3)))).alloc (boxed s)
    simp only [World.size_alloc] at h
    have one : ∀ p, Lib.BuilderAtF 46 5 (w.heap.size + 1 + 1) (w.heap.size + 1 + 1) p [] ((cutW w f m).alloc (boxed s)) → Lib.BuilderAtF 46 5 w.heap.size (w.heap.size + 1 + 1) p [] ((cutW w f m).alloc (boxed s)) := by
      rintro p ⟨hB, v, hb, hown, hne⟩
      refine ⟨by omega, v, hb, ⟨hown.1, ?_⟩, hne⟩
      rcases hown.2 with h | ⟨g, cap, cur, fz, h1, h2, h3⟩
      · exact .inl h
      · exact .inr ⟨g, cap, cur, fz, h1, by omega, h3⟩
    exact h.elim (fun x => .inl (one _ x)) (fun x => .inr (one _ x))
  · have := hn (w.alloc (.cells #[.int .i64 f] 3)) (.cells #[.int .i64 m] 3)
    rw [World.size_alloc] at this
    exact ho _ _ _ _ (ho _ _ _ _ this)
  · exact ((((Below.refl _ w).alloc (Nat.le_refl _) _).alloc (by simp) _).alloc (by simp; omega) _).alloc (by simp; omega) _
  · have := hn (cutW w f m) (boxed s)
    simp only [World.size_alloc] at this
    exact this
theorem cutI_drew {w : World} {f m : Int} {pre : List Ch} {W : World} (h : CutI w f m pre W) : CutI w f m pre W.drew := ⟨h.1, h.2.drew⟩

theorem w64 (n : Int) (h : -9223372036854775808 ≤ n ∧ n ≤ 9223372036854775807) : wrap64 n = n := by unfold wrap64; omega
theorem i64_bounds {n : Int} (h : (Lit.int .i64 n).wf = true) : -9223372036854775808 ≤ n ∧ n ≤ 9223372036854775807 := by
  simpa [Lit.wf, IntKind.min, IntKind.max, IntKind.signed, IntKind.bits] using h

set_option maxRecDepth 100000 in
set_option maxHeartbeats 4000000 in
theorem cut_any (s : ByteArray) (from_ many : Int) (w : World) (hs : s.size ≤ 1000000) (hw1 : (Lit.int .i64 from_).wf = true) (hw2 : (Lit.int .i64 many).wf = true) :
    Calls Try.prog 11 #[.string s, .int .i64 from_, .int .i64 many] w fun e w' => e = .returned (.string ⟨(cutD s from_ many).toArray⟩) ∧ Below w.heap.size w w' := by
  have hcl := crs_length s
  obtain ⟨X, hX⟩ : ∃ X, cutD s from_ many = X := ⟨_, rfl⟩
  rw [hX]
  have HX := Lib.hid hX
  have HW1 := Lib.hid hw1
  have HW2 := Lib.hid hw2
  clear hX hw1 hw2
  refine (callsIn_wide (n := 5)).1 ?_
  refine callsIn_of_wp_marks Try.func11 rfl trivial ?_ rfl
  simp only [Try.ntmps11, List.size_toArray, List.length_cons, List.length_nil, Nat.reduceAdd, Nat.reduceSub, Array.replicate_succ, Array.replicate_zero, List.push_toArray, List.append_toArray, List.nil_append, List.cons_append]
  by_cases hm : many < 1
  · have hx := HX.out
    unfold cutD at hx
    rw [if_pos hm] at hx
    have HX2 := Lib.hid hx
    clear hx HX
    gi_wp2
    exact ⟨_, results_tmp rfl _ _ _, by rw [← HX2.out]; rfl, ((Below.refl _ w).alloc (Nat.le_refl _) _).alloc (by simp) _⟩
  · have hb1 := i64_bounds HW1.out
    have hb2 := i64_bounds HW2.out
    by_cases hf : from_ < 0
    · have HF : Hid (∀ k : Nat, k ≤ 1000000 → wrap64 ((k : Int) - 0) = (k : Int) - 0) := Lib.hid (fun k hk => w64 _ ⟨by omega, by omega⟩)
      have HD : Hid (cutD s from_ many = pick (sel 0 (wrap64 (from_ + many))) (num 0 (crs s))) := Lib.hid (by unfold cutD; rw [if_neg hm, if_pos hf, w64 _ ⟨by omega, by omega⟩])
      clear hb1 hb2
      gi_wp2
      gi_region
      all_goals gi_wp2
      all_goals (try go_bits)
      gi_wp2_with (refine ⟨trivial, ?_⟩; gi_at_call 22; refine (charsF_h Fence.wide _ trivial rfl _ _).mono ?_; rintro e w1 ⟨rfl, hw1⟩)
      have h0 : CutI w 0 (wrap64 (from_ + many)) [] w1 := by
        rw [hw1.out]
        exact cutI_drew (cut_start w 0 (wrap64 (from_ + many)) s).1
      have hbox : w1.heap[w.heap.size + 1 + 1 + 1]? = some (boxed s) := by
        rw [hw1.out]
        exact (cut_start w 0 (wrap64 (from_ + many)) s).2.1
      have hsz : w1.heap.size = w.heap.size + 1 + 1 + 1 + 1 := by
        rw [hw1.out]
        exact (cut_start w 0 (wrap64 (from_ + many)) s).2.2
      clear hw1
      refine wpIn_rangeFunc_ownG (F := Fence.wide) (n := 5) rfl (by omega) (gf := 33) (lb := #[.pointer (some ⟨w.heap.size + 1 + 1 + 1, 0, none⟩)]) rfl trivial (enters_of Try.func33 (by kernel_rfl) rfl)
        (chars_stops Fence.wide (5 - 1) trivial rfl (by omega) (w.heap.size + 1 + 1 + 1) s hs w1 (by omega) hbox) kpS_t kpS_b (Below.refl _ _) (fun _ => rfl)
        (CutI w 0 (wrap64 (from_ + many))) (CutX w 0 (wrap64 (from_ + many))) (cutI_own w 0 (wrap64 (from_ + many)) _ (by omega)) (fun c => cutX_own w 0 (wrap64 (from_ + many)) _ (by omega) c) h0
        (fun x => { tmps := #[.string s, .int .i64 from_, .int .i64 many, undef, .pointer (some ⟨w.heap.size, 0, none⟩), .pointer (some ⟨w.heap.size + 1, 0, none⟩), .string ⟨#[]⟩, .pointer (some ⟨w.heap.size + 1 + 1, 0, none⟩), .int .i64 (x.1.1 : Int), .string x.1.2, .int .i64 many, .bool false, .int .i64 from_, .bool true, .int .i64 from_, .int .i64 many, .int .i64 (wrap64 (from_ + many)), .string s, .func (.func 33) #[] #[.pointer (some ⟨w.heap.size + 1 + 1 + 1, 0, none⟩)], .int .i64 (x.1.1 : Int), .string x.1.2, undef, undef, undef, undef, undef, undef, undef, undef, undef, undef, undef], defers := [] }) ?assign ?body ?done ?stop
      case assign =>
        intro l x W K hK
        gi_wp2
        exact hK
      case body =>
        rintro l pre x W ⟨⟨hI, hbf, hbm⟩, hB⟩ hlt
        have hcf : W.cell? ⟨w.heap.size, 0, none⟩ = some (.int .i64 (0)) := by simp [World.cell?, hbf]
        have hcm : W.cell? ⟨w.heap.size + 1, 0, none⟩ = some (.int .i64 ((wrap64 (from_ + many)))) := by simp [World.cell?, hbm]
        have hx1 := x.2.1
        have hwk := HF.out x.1.1 hx1
        have hpl := pick_length (sel (0) ((wrap64 (from_ + many)))) pre
        have hx4 := x.2.2
        have HLEN : Hid ((pick (sel (0) ((wrap64 (from_ + many)))) pre).length + x.1.2.size ≤ 140737488355328) := Lib.hid (by omega)
        by_cases h1 : (wrap64 (from_ + many)) ≤ (x.1.1 : Int) - 0
        · gi_wp2
          exact ⟨KeepsFrom.refl _ _, rfl, pre, x, rfl, h1, ⟨hI, hbf, hbm⟩, hB⟩
        · by_cases h2 : 0 ≤ (x.1.1 : Int)
          · have HP : Hid (pick (sel (0) ((wrap64 (from_ + many)))) (pre ++ [x]) = pick (sel (0) ((wrap64 (from_ + many)))) pre ++ x.1.2.data.toList) := Lib.hid (pick_yes _ pre x (sel_yes h2 (by omega)))
            gi_wp2_with (refine ⟨trivial, ?_⟩; gi_at_call 24; refine (CallsIn.inRound l (callsIn_wide.2 (write_any w.heap.size (w.heap.size + 1 + 1) (pick (sel (0) ((wrap64 (from_ + many)))) pre) x.1.2 W hI HLEN.out hB.size))).mono ?_; rintro e W1 ⟨rfl, i1, b1, k1⟩)
            have hsz1 := b1.size
            refine ⟨(others_keep hI k1 hsz1).from _, kpS_others (by decide) k1 hsz1 ?_ (by omega), ⟨by rw [HP.out]; exact i1, k1 _ _ hbf (by simp <;> omega) (by simp), k1 _ _ hbm (by simp) (by simp)⟩, hB.trans b1⟩
            obtain ⟨cs, hcs⟩ := builder_block hI
            exact ⟨cs, _, _, hcs⟩
          · exact absurd (Int.natCast_nonneg _) h2
      case done =>
        rintro D ys W hD rfl ⟨⟨hI, _, _⟩, hB⟩ hK
        gi_wp2_with (refine ⟨trivial, ?_⟩; gi_at_call 25; refine (callsIn_wide.2 (string_any w.heap.size (w.heap.size + 1 + 1) _ W hI hB.size)).mono ?_; rintro e W1 ⟨rfl, i1, b1, k1⟩)
        have hK1 : W1.heap[D]? = some (.deferred (some [])) := k1 _ _ hK (by simp; omega) (by simp)
        gi_wp2
        refine ⟨by simp, .inl ⟨_, _, rfl, run_takeDeferred hK1, ?_⟩⟩
        exact ⟨_, results_tmp rfl _ _ _, by rw [← HX.out, HD.out]; rfl, (hB.trans b1).trans (belowK_b (w := w) (Nat.le_refl _) W1 D _ _ (by omega) hK1 rfl rfl)⟩
      case stop =>
        rintro D c pre W hD hpre ⟨rfl, ini, last, rfl, hm2, ⟨⟨hI, _, _⟩, hB⟩⟩ hK
        have HPS := Lib.hid (pick_stop s hs 0 ((wrap64 (from_ + many))) ini last hpre hm2)
        gi_wp2_with (refine ⟨trivial, ?_⟩; gi_at_call 25; refine (callsIn_wide.2 (string_any w.heap.size (w.heap.size + 1 + 1) _ W hI hB.size)).mono ?_; rintro e W1 ⟨rfl, i1, b1, k1⟩)
        have hK1 : W1.heap[D]? = some (.deferred (some [])) := k1 _ _ hK (by simp; omega) (by simp)
        gi_wp2
        refine ⟨by simp, .inl ⟨_, _, rfl, run_takeDeferred hK1, ?_⟩⟩
        exact ⟨_, results_tmp rfl _ _ _, by rw [← HX.out, HD.out, HPS.out]; rfl, (hB.trans b1).trans (belowK_b (w := w) (Nat.le_refl _) W1 D _ _ (by omega) hK1 rfl rfl)⟩
    · have HF : Hid (∀ k : Nat, k ≤ 1000000 → wrap64 ((k : Int) - from_) = (k : Int) - from_) := Lib.hid (fun k hk => w64 _ ⟨by omega, by omega⟩)
      have HD : Hid (cutD s from_ many = pick (sel from_ many) (num 0 (crs s))) := Lib.hid (by unfold cutD; rw [if_neg hm, if_neg hf])
      clear hb1 hb2
      gi_wp2_with (refine ⟨trivial, ?_⟩; gi_at_call 22; refine (charsF_h Fence.wide _ trivial rfl _ _).mono ?_; rintro e w1 ⟨rfl, hw1⟩)
      have h0 : CutI w from_ many [] w1 := by
        rw [hw1.out]
        exact (cut_start w from_ many s).1
      have hbox : w1.heap[w.heap.size + 1 + 1 + 1]? = some (boxed s) := by
        rw [hw1.out]
        exact (cut_start w from_ many s).2.1
      have hsz : w1.heap.size = w.heap.size + 1 + 1 + 1 + 1 := by
        rw [hw1.out]
        exact (cut_start w from_ many s).2.2
      clear hw1
      refine wpIn_rangeFunc_ownG (F := Fence.wide) (n := 5) rfl (by omega) (gf := 33) (lb := #[.pointer (some ⟨w.heap.size + 1 + 1 + 1, 0, none⟩)]) rfl trivial (enters_of Try.func33 (by kernel_rfl) rfl)
        (chars_stops Fence.wide (5 - 1) trivial rfl (by omega) (w.heap.size + 1 + 1 + 1) s hs w1 (by omega) hbox) kpS_t kpS_b (Below.refl _ _) (fun _ => rfl)
        (CutI w from_ many) (CutX w from_ many) (cutI_own w from_ many _ (by omega)) (fun c => cutX_own w from_ many _ (by omega) c) h0
        (fun x => { tmps := #[.string s, .int .i64 from_, .int .i64 many, undef, .pointer (some ⟨w.heap.size, 0, none⟩), .pointer (some ⟨w.heap.size + 1, 0, none⟩), .string ⟨#[]⟩, .pointer (some ⟨w.heap.size + 1 + 1, 0, none⟩), .int .i64 (x.1.1 : Int), .string x.1.2, .int .i64 many, .bool false, .int .i64 from_, .bool false, undef, undef, undef, .string s, .func (.func 33) #[] #[.pointer (some ⟨w.heap.size + 1 + 1 + 1, 0, none⟩)], .int .i64 (x.1.1 : Int), .string x.1.2, undef, undef, undef, undef, undef, undef, undef, undef, undef, undef, undef], defers := [] }) ?assign ?body ?done ?stop
      case assign =>
        intro l x W K hK
        gi_wp2
        exact hK
      case body =>
        rintro l pre x W ⟨⟨hI, hbf, hbm⟩, hB⟩ hlt
        have hcf : W.cell? ⟨w.heap.size, 0, none⟩ = some (.int .i64 (from_)) := by simp [World.cell?, hbf]
        have hcm : W.cell? ⟨w.heap.size + 1, 0, none⟩ = some (.int .i64 (many)) := by simp [World.cell?, hbm]
        have hx1 := x.2.1
        have hwk := HF.out x.1.1 hx1
        have hpl := pick_length (sel (from_) (many)) pre
        have hx4 := x.2.2
        have HLEN : Hid ((pick (sel (from_) (many)) pre).length + x.1.2.size ≤ 140737488355328) := Lib.hid (by omega)
        by_cases h1 : many ≤ (x.1.1 : Int) - from_
        · gi_wp2
          exact ⟨KeepsFrom.refl _ _, rfl, pre, x, rfl, h1, ⟨hI, hbf, hbm⟩, hB⟩
        · by_cases h2 : from_ ≤ (x.1.1 : Int)
          · have HP : Hid (pick (sel (from_) (many)) (pre ++ [x]) = pick (sel (from_) (many)) pre ++ x.1.2.data.toList) := Lib.hid (pick_yes _ pre x (sel_yes h2 (by omega)))
            gi_wp2_with (refine ⟨trivial, ?_⟩; gi_at_call 24; refine (CallsIn.inRound l (callsIn_wide.2 (write_any w.heap.size (w.heap.size + 1 + 1) (pick (sel (from_) (many)) pre) x.1.2 W hI HLEN.out hB.size))).mono ?_; rintro e W1 ⟨rfl, i1, b1, k1⟩)
            have hsz1 := b1.size
            refine ⟨(others_keep hI k1 hsz1).from _, kpS_others (by decide) k1 hsz1 ?_ (by omega), ⟨by rw [HP.out]; exact i1, k1 _ _ hbf (by simp <;> omega) (by simp), k1 _ _ hbm (by simp) (by simp)⟩, hB.trans b1⟩
            obtain ⟨cs, hcs⟩ := builder_block hI
            exact ⟨cs, _, _, hcs⟩
          · have HP : Hid (pick (sel from_ many) (pre ++ [x]) = pick (sel from_ many) pre) := Lib.hid (pick_no _ pre x (sel_low (by omega)))
            gi_wp2
            exact ⟨KeepsFrom.refl _ _, kpS_refl _ _ _, ⟨by rw [HP.out]; exact hI, hbf, hbm⟩, hB⟩
      case done =>
        rintro D ys W hD rfl ⟨⟨hI, _, _⟩, hB⟩ hK
        gi_wp2_with (refine ⟨trivial, ?_⟩; gi_at_call 25; refine (callsIn_wide.2 (string_any w.heap.size (w.heap.size + 1 + 1) _ W hI hB.size)).mono ?_; rintro e W1 ⟨rfl, i1, b1, k1⟩)
        have hK1 : W1.heap[D]? = some (.deferred (some [])) := k1 _ _ hK (by simp; omega) (by simp)
        gi_wp2
        refine ⟨by simp, .inl ⟨_, _, rfl, run_takeDeferred hK1, ?_⟩⟩
        exact ⟨_, results_tmp rfl _ _ _, by rw [← HX.out, HD.out]; rfl, (hB.trans b1).trans (belowK_b (w := w) (Nat.le_refl _) W1 D _ _ (by omega) hK1 rfl rfl)⟩
      case stop =>
        rintro D c pre W hD hpre ⟨rfl, ini, last, rfl, hm2, ⟨⟨hI, _, _⟩, hB⟩⟩ hK
        have HPS := Lib.hid (pick_stop s hs from_ (many) ini last hpre hm2)
        gi_wp2_with (refine ⟨trivial, ?_⟩; gi_at_call 25; refine (callsIn_wide.2 (string_any w.heap.size (w.heap.size + 1 + 1) _ W hI hB.size)).mono ?_; rintro e W1 ⟨rfl, i1, b1, k1⟩)
        have hK1 : W1.heap[D]? = some (.deferred (some [])) := k1 _ _ hK (by simp; omega) (by simp)
        gi_wp2
        refine ⟨by simp, .inl ⟨_, _, rfl, run_takeDeferred hK1, ?_⟩⟩
        exact ⟨_, results_tmp rfl _ _ _, by rw [← HX.out, HD.out, HPS.out]; rfl, (hB.trans b1).trans (belowK_b (w := w) (Nat.le_refl _) W1 D _ _ (by omega) hK1 rfl rfl)⟩
end Go.Proofs.Ytblhiaeocinogaa.Char
