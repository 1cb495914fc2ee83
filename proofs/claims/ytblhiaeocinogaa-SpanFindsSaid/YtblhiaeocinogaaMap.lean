/- The walk of 'characters become others'. -/
import Derived.Test.YtblhiaeocinogaaFatesW
import Derived.Test.YtblhiaeocinogaaBuild
namespace Go.Proofs.Ytblhiaeocinogaa.Char
open Go.RowKit Go.Shelf
attribute [local go_sem] Oper.semAt_some

/-- what a character becomes -/
def turned (h : List ByteArray) (l : List Ch) (x : Ch) : ByteArray := (fateL h l x.1.2.data.toList).getD x.1.2
def mapL (h : List ByteArray) (l : List Ch) (pre : List Ch) : List UInt8 := pre.flatMap fun x => (turned h l x).data.toList
theorem mapL_snoc (h : List ByteArray) (l pre : List Ch) (x : Ch) : mapL h l (pre ++ [x]) = mapL h l pre ++ (turned h l x).data.toList := by simp [mapL]
theorem turned_four (h : List ByteArray) (l : List Ch) (x : Ch) (h4 : ∀ c ∈ h, c.size ≤ 4) : (turned h l x).size ≤ 4 := by
  unfold turned fateL
  cases l.find? (fun y => y.1.2.data.toList == x.1.2.data.toList) with
  | none => exact x.2.2
  | some y =>
    show (heir h y.1.1).size ≤ 4
    unfold heir
    split
    · rename_i hk
      exact h4 _ (by simp [List.getD, List.getElem?_eq_getElem hk])
    · show (0 : Nat) ≤ 4
      omega
theorem mapL_length (h : List ByteArray) (l : List Ch) (h4 : ∀ c ∈ h, c.size ≤ 4) : ∀ pre : List Ch, (mapL h l pre).length ≤ 4 * pre.length
  | [] => by simp [mapL]
  | x :: r => by
    have ih := mapL_length h l h4 r
    have t4 := turned_four h l x h4
    have e := sz_list (turned h l x)
    have : mapL h l (x :: r) = (turned h l x).data.toList ++ mapL h l r := by simp [mapL]
    rw [this, List.length_append, List.length_cons]
    omega
/-- what Map tells -/
def mapD (s f t : ByteArray) : List UInt8 := mapL (crs t) (num 0 (crs f)) (num 0 (crs s))

theorem builder_low {T e : TypeId} {B B' b : Nat} {bs : List Value} {w : World} (h : Lib.IsBuilderF T e B b bs w) (hB : B' ≤ B) : Lib.IsBuilderF T e B' b bs w := by
  have one : ∀ p, Lib.BuilderAtF T e B b p bs w → Lib.BuilderAtF T e B' b p bs w := by
    rintro p ⟨hb, v, hv, hown, hne⟩
    refine ⟨Nat.le_trans hB hb, v, hv, ⟨hown.1, ?_⟩, hne⟩
    rcases hown.2 with h | ⟨g, cap, cur, fz, h1, h2, h3⟩
    · exact .inl h
    · exact .inr ⟨g, cap, cur, fz, h1, Nat.le_trans hB h2, h3⟩
  exact h.elim (fun x => .inl (one _ x)) (fun x => .inr (one _ x))
def MapI (w : World) (B0 mb : Nat) (h : List ByteArray) (l : List Ch) (n : Nat) (D : DataW Unit) (pre : List Ch) (W : World) : Prop :=
  W.ownsMap Try.prog 9 fateR mb n D ∧ (Lib.IsBuilderF 46 5 w.heap.size (B0 + 1) (Lib.byteCells (mapL h l pre)) W ∧ W.heap[B0]? = some (.cells #[.map (some mb)] 54)) ∧ Below w.heap.size w W
theorem mapI_own (w : World) (B0 mb : Nat) (h : List ByteArray) (l : List Ch) (n : Nat) (D : DataW Unit) (B : Nat) (hB : w.heap.size ≤ B) (hm : mb < B) : OwnFrom B (MapI w B0 mb h l n D) :=
  OwnFrom.and (fun s A C row hs hg hr => hs.kept hg (fun e => by have := (hr _ e.symm).1; omega))
    (OwnFrom.and (Own.from (fun s A C row hs hg hr => ⟨builder_kept hs.1 hg hr, cells_own hs.2 hg hr⟩) _) (ownFrom_below (Nat.le_refl _) hB))
theorem owns_others {W W' : World} {mb n b e : Nat} {T : TypeId} {cs : Array Value} {D : DataW Unit} (h : W.ownsMap Try.prog 9 fateR mb n D) (hk : Lib.OthersKept e (some b) W W') (hb : W.heap[b]? = some (Obj.cells cs T (0, 0))) : W'.ownsMap Try.prog 9 fateR mb n D := by
  obtain ⟨es, ck, h1, h2⟩ := h
  exact ⟨es, ck, hk _ _ h1 (fun e => by cases e; rw [hb] at h1; cases h1) (fun c fz e => by cases e), h2⟩

set_option maxRecDepth 100000 in
set_option maxHeartbeats 4000000 in
theorem map_any (s f t : ByteArray) (w : World) (hs : s.size ≤ 1000000) (hf : f.size ≤ 1000000) (ht : t.size ≤ 1000000) :
    Calls Try.prog 17 #[.string s, .string f, .string t] w fun e w' => e = .returned (.string ⟨(mapD s f t).toArray⟩) ∧ Below w.heap.size w w' := by
  have hcs := crs_length s
  have h4 := crs_four t
  obtain ⟨X, hX⟩ : ∃ X, mapD s f t = X := ⟨_, rfl⟩
  rw [hX]
  have HX := Lib.hid hX
  have HC := Lib.hid (fatesOf_any f t w hf ht)
  have H4 := Lib.hid h4
  clear hX h4
  refine (callsIn_wide (n := 5)).1 ?_
  refine callsIn_of_wp_marks Try.func17 rfl trivial ?_ rfl
  simp only [Try.ntmps17, List.size_toArray, List.length_cons, List.length_nil, Nat.reduceAdd, Nat.reduceSub, Array.replicate_succ, Array.replicate_zero, List.push_toArray, List.append_toArray, List.nil_append, List.cons_append]
  gi_wp2_with (first | (refine ⟨trivial, ?_⟩; gi_at_call 28; refine (callsIn_wide.2 HC.out).mono ?_; rintro e W1 ⟨mb, n, D, rfl, hown, hF, hmb, hbw⟩) | (refine ⟨trivial, ?_⟩; gi_at_call 22; refine (charsF_h Fence.wide _ trivial rfl _ _).mono ?_; rintro e w2 ⟨rfl, hw2⟩))
  have hml := hown.lt
  have hwl := hbw.size
  have hn : ∀ (W : World) (o : Obj), (W.alloc o).heap[W.heap.size]? = some o := fun W o => World.alloc_heap_new W o
  have ho : ∀ (W : World) (o : Obj) (k : Nat) (x : Obj), W.heap[k]? = some x → (W.alloc o).heap[k]? = some x := fun W o k x h => (Below.heap_alloc W o k (Array.getElem?_eq_some_iff.1 h).1).trans h
  have h0 : MapI w W1.heap.size mb (crs t) (num 0 (crs f)) n D [] w2 := by
    rw [hw2.out]
    refine ⟨((hown.alloc _).alloc _).alloc _, ⟨?_, ho _ _ _ _ (ho _ _ _ _ (hn W1 _))⟩, ((hbw.alloc hwl _).alloc (by simp; omega) _).alloc (by simp; omega) _⟩
    have h := (Lib.IsBuilderF.of (Lib.fresh_isBuilder 46 5 (W1.alloc (.cells #[.map (some mb)] 54)))).alloc (boxed s)
    simp only [World.size_alloc] at h
    exact builder_low h (by omega)
  have hbox : w2.heap[W1.heap.size + 1 + 1]? = some (boxed s) := by
    rw [hw2.out]
    have := hn ((W1.alloc (.cells #[.map (some mb)] 54)).alloc (.cells #[.pointer none, .slice none 0 0] 46)) (boxed s)
    simpa only [World.size_alloc] using this
  have hsz : w2.heap.size = W1.heap.size + 1 + 1 + 1 := by rw [hw2.out]; simp
  clear hw2 hn ho HC
  refine wpIn_rangeFunc_ownG (F := Fence.wide) (n := 5) rfl (by omega) (gf := 33) (lb := #[.pointer (some ⟨W1.heap.size + 1 + 1, 0, none⟩)]) rfl trivial (enters_of Try.func33 (by kernel_rfl) rfl)
    (chars_stops Fence.wide (5 - 1) trivial rfl (by omega) (W1.heap.size + 1 + 1) s hs w2 (by omega) hbox) kpS_t kpS_b (Below.refl _ _) (fun _ => rfl)
    (MapI w W1.heap.size mb (crs t) (num 0 (crs f)) n D) (fun _ _ _ => False) (mapI_own w _ _ _ _ _ _ _ (by omega) (by omega)) (fun _ _ _ _ _ hs _ _ => hs) h0
    (fun x => { tmps := #[.string s, .string f, .string t, undef, undef, undef, .string ⟨#[]⟩, .pointer (some ⟨W1.heap.size, 0, none⟩), .pointer (some ⟨W1.heap.size + 1, 0, none⟩), undef, .string x.1.2, undef, undef, .string f, .string t, .map (some mb), .string s, .func (.func 33) #[] #[.pointer (some ⟨W1.heap.size + 1 + 1, 0, none⟩)], .int .i64 (x.1.1 : Int), .string x.1.2, undef, undef, undef, undef, undef, undef, undef, undef, undef, undef, undef, undef], defers := [] }) ?assign ?body ?done ?stop
  case assign =>
    intro l x W K hK
    gi_wp2
    exact hK
  case body =>
    rintro l pre x W ⟨hownW, ⟨hI, hbm⟩, hB⟩ hlt
    have hcm : W.cell? ⟨W1.heap.size, 0, none⟩ = some (.map (some mb)) := by simp [World.cell?, hbm]
    have hpl := mapL_length (crs t) (num 0 (crs f)) H4.out pre
    have ht4 := turned_four (crs t) (num 0 (crs f)) x H4.out
    have HLEN : Hid ((mapL (crs t) (num 0 (crs f)) pre).length + (turned (crs t) (num 0 (crs f)) x).size ≤ 140737488355328) := Lib.hid (by omega)
    have HT := Lib.hid (hF x.1.2.data.toList)
    have hWs := hB.size
    have hIa := fun o => hI.alloc o
    have hBs : ∀ o : Obj, w.heap.size ≤ (W.alloc o).heap.size := fun o => by simp; omega
    have HFIN : Hid (∀ (o : Obj) (c : ByteArray) (w3 : World), c = turned (crs t) (num 0 (crs f)) x → Lib.IsBuilderF 46 5 w.heap.size (W1.heap.size + 1) (Lib.byteCells (mapL (crs t) (num 0 (crs f)) pre ++ c.data.toList)) w3 → Below w.heap.size (W.alloc o) w3 → Lib.OthersKept 5 (some (W1.heap.size + 1)) (W.alloc o) w3 →
        KeepsFrom w2.heap.size W w3 ∧ KpS s (W1.heap.size + 1 + 1) W w3 ∧ MapI w W1.heap.size mb (crs t) (num 0 (crs f)) n D (pre ++ [x]) w3) := Lib.hid (by
      intro o c w3 hc i1 b1 k1
      subst hc
      have hsz1 := b1.size
      obtain ⟨cs, hcs⟩ := builder_block (hI.alloc o)
      refine ⟨((KeepsOthers.alloc W o).trans (others_keep (hI.alloc o) k1 hsz1)).from _, kpS_t (kpS_alloc _ _) (kpS_others (by decide) k1 hsz1 ⟨cs, _, _, hcs⟩ (by omega)), owns_others (hownW.alloc o) k1 hcs, ⟨by rw [mapL_snoc]; exact i1, ?_⟩, (hB.alloc hB.size o).trans b1⟩
      exact k1 _ _ ((Below.heap_alloc W o _ (Array.getElem?_eq_some_iff.1 hbm).1).trans hbm) (by simp) (by simp))
    by_cases hh : Maps.has D (.string x.1.2.data.toList) = true
    · obtain ⟨fv, hfv⟩ : ∃ fv, fateL (crs t) (num 0 (crs f)) x.1.2.data.toList = some fv := by
        have := HT.out.1
        rw [hh] at this
        exact Option.isSome_iff_exists.1 this.symm
      have htu : turned (crs t) (num 0 (crs f)) x = fv := by unfold turned; rw [hfv]; rfl
      have hat := HT.out.2 fv hfv (.lit (.string []))
      rw [htu] at HLEN HFIN ht4
      have HAT := Lib.hid hat
      clear hfv htu hat HT hpl
      gi_wp2_with (first | (gi_at_lookup; refine look_fate _ rfl _ _ rfl mb n D rfl hownW x rfl ?_; intro f0 hf0; obtain rfl : f0 = fv := by (rw [HAT.out] at hf0; cases f0; cases fv; simp_all)) | (refine ⟨trivial, ?_⟩; gi_at_call 24; refine (CallsIn.inRound l (callsIn_wide.2 (write_any w.heap.size (W1.heap.size + 1) (mapL (crs t) (num 0 (crs f)) pre) _ _ (hIa _) HLEN.out (hBs _)))).mono ?_; rintro e w3 ⟨rfl, i1, b1, k1⟩))
      exact HFIN.out _ _ _ rfl i1 b1 k1
    · rw [Bool.not_eq_true] at hh
      have htu : turned (crs t) (num 0 (crs f)) x = x.1.2 := by
        have := HT.out.1
        rw [hh] at this
        unfold turned
        cases hfv : fateL (crs t) (num 0 (crs f)) x.1.2.data.toList with
        | none => rfl
        | some v => rw [hfv] at this; cases this
      rw [htu] at HLEN HFIN ht4
      clear htu HT hpl
      gi_wp2_with (first | (gi_at_lookup; refine look_fate _ rfl _ _ rfl mb n D rfl hownW x rfl ?_; intro f0 hf0) | (refine ⟨trivial, ?_⟩; gi_at_call 24; refine (CallsIn.inRound l (callsIn_wide.2 (write_any w.heap.size (W1.heap.size + 1) (mapL (crs t) (num 0 (crs f)) pre) _ _ (hIa _) HLEN.out (hBs _)))).mono ?_; rintro e w3 ⟨rfl, i1, b1, k1⟩))
      exact HFIN.out _ _ _ rfl i1 b1 k1
  case done =>
    rintro D1 ys W hD rfl ⟨_, ⟨hI, _⟩, hB⟩ hK
    gi_wp2_with (refine ⟨trivial, ?_⟩; gi_at_call 25; refine (callsIn_wide.2 (string_any w.heap.size (W1.heap.size + 1) _ W hI hB.size)).mono ?_; rintro e W3 ⟨rfl, i1, b1, k1⟩)
    have hK1 : W3.heap[D1]? = some (.deferred (some [])) := k1 _ _ hK (by simp; omega) (by simp)
    gi_wp2
    refine ⟨by simp, .inl ⟨_, _, rfl, run_takeDeferred hK1, ?_⟩⟩
    exact ⟨_, results_tmp rfl _ _ _, by rw [← HX.out]; rfl, (hB.trans b1).trans (belowK_b (w := w) (Nat.le_refl _) W3 D1 _ _ (by omega) hK1 rfl rfl)⟩
  case stop =>
    rintro D c pre W _ _ h _
    exact h.elim
end Go.Proofs.Ytblhiaeocinogaa.Char
