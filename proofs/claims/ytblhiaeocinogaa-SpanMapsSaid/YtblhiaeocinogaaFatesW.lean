/- The walk of 'what becomes of each character'. -/
import Derived.Test.YtblhiaeocinogaaFates
namespace Go.Proofs.Ytblhiaeocinogaa.Char
open Go.RowKit Go.Shelf
attribute [local go_sem] Oper.semAt_some

/-- a slice in a box grows: what a loop over characters asks behind it -/
theorem box_grown {W w1 : World} {n₀ N B bx : Nat} {t e : TypeId} {size k m : Nat} {v v' : Value} {xs ys : List Value} {tmp : Obj} {s : ByteArray}
    (hv : Boxed W B t v) (hte : t ≠ e) (hrow : W.ownsRow N e size v k xs) (hN : N ≤ W.heap.size) (h0 : n₀ ≤ N) (hB : n₀ ≤ B) (hbN : bx < N) (hbB : bx ≠ B)
    (hown' : w1.ownsRow N e size v' m ys) (hgrow : (W.alloc tmp).grownBy w1 v.ownBlock) :
    Boxed w1 B t v ∧ Boxed (w1.setCell ⟨B, 0, none⟩ v') B t v' ∧ (w1.setCell ⟨B, 0, none⟩ v').ownsRow N e size v' m ys ∧ KeepsOthers W (w1.setCell ⟨B, 0, none⟩ v') ∧ KpS s bx W (w1.setCell ⟨B, 0, none⟩ v') ∧ Below n₀ W (w1.setCell ⟨B, 0, none⟩ v') := by
  have hv1 : Boxed w1 B t v := (hv.alloc tmp).kept hgrow (hv.not_row hte hrow)
  have hk : KeepsOthers W (w1.setCell ⟨B, 0, none⟩ v') := by
    refine ((KeepsOthers.alloc W tmp).trans (KeepsOthers.of_grownBy hgrow fun j o ej hj => ?_)).trans (KeepsOthers.setCell _ _ _)
    rcases (hrow.alloc tmp).2 with ⟨rfl, _⟩ | ⟨g, cap, cur, rfl, _, hgb, _⟩
    · simp [Value.ownBlock] at ej
    · obtain rfl : g = j := by simpa [Value.ownBlock] using ej
      rw [hgb] at hj; cases hj; rfl
  have hrowb : ∀ j, v.ownBlock = some j → N ≤ j := by
    intro j ej
    rcases hrow.2 with ⟨rfl, _⟩ | ⟨g, cap, cur, rfl, hb, _, _⟩
    · simp [Value.ownBlock] at ej
    · obtain rfl : g = j := by simpa [Value.ownBlock] using ej
      exact hb
  refine ⟨hv1, hv1.set v', hown'.kept (grownBy_setCell' w1 B v') (.inr (hv1.not_row hte hown').symm), hk, ⟨hk.size, fun j t p hj => hk.same j _ hj rfl, fun hb => ?_⟩, ?_⟩
  · rw [Below.heap_setCell _ _ _ _ (fun e => hbB e)]
    have hlt := (Array.getElem?_eq_some_iff.1 hb).1
    refine (hgrow.block bx (by simp; omega) (fun e1 => ?_)).trans ((Below.heap_alloc W tmp bx hlt).trans hb)
    have := hrowb bx e1.symm
    omega
  · exact (((Below.refl n₀ W).alloc (by omega) tmp).grown hgrow (by simp; omega) (fun j ej => by have := hrowb j ej; omega)).setCell (p := ⟨B, 0, none⟩) hB v'

/-- what stands behind fatesOf -/
def FatesPost (w : World) (h : List ByteArray) (l : List Ch) (e : Ending) (w' : World) : Prop :=
  ∃ b n D, e = .returned (.map (some b)) ∧ w'.ownsMap Try.prog 9 fateR b n D ∧ Fates D h l ∧ w.heap.size ≤ b ∧ Below w.heap.size w w'
/-- what the first loop keeps -/
def HeirI (w : World) (pre : List Ch) (W : World) : Prop :=
  (∃ v, Boxed W w.heap.size 24 v ∧ W.ownsRow (w.heap.size + 1 + 1) 9 1 v pre.length (pre.map fun x => .string x.1.2) ∧ True) ∧ Below w.heap.size w W ∧ w.heap.size + 1 + 1 ≤ W.heap.size
theorem heirI_own (w : World) (B : Nat) (hB : w.heap.size ≤ B) : OwnFrom B (HeirI w) :=
  OwnFrom.and (Own.from (holdsRow_own (w.heap.size + 1 + 1) w.heap.size 24 9 1 (fun pre : List Ch => pre.length) (fun pre => pre.map fun x => .string x.1.2) (fun _ _ => True)) _) (OwnFrom.and (ownFrom_below (Nat.le_refl _) hB) (fun _ _ _ _ hs hg _ => Nat.le_trans hs hg.size))

/-- what the second loop keeps -/
def FateI (w : World) (h : List ByteArray) (v : Value) (mb D1 : Nat) (pre : List Ch) (W : World) : Prop :=
  ((∃ D, W.ownsMap Try.prog 9 fateR mb pre.length D ∧ Fates D h pre) ∧ W.heap[D1]? = some (.deferred (some []))) ∧
  (Boxed W (mb + 1) 54 (.map (some mb)) ∧ Boxed W w.heap.size 24 v ∧ W.ownsRow (w.heap.size + 1 + 1) 9 1 v h.length (h.map Value.string)) ∧ Below w.heap.size w W
theorem fateI_own (w : World) (h : List ByteArray) (v : Value) (mb D1 B : Nat) (hB : w.heap.size ≤ B) (hm : mb < B) (hD : D1 < B) : OwnFrom B (FateI w h v mb D1) :=
  OwnFrom.and (fun s A C row hs hg hr => by
      obtain ⟨⟨D, ho, hf⟩, hk⟩ := hs
      exact ⟨⟨D, ho.kept hg (fun e => by have := (hr _ e.symm).1; omega), hf⟩, (hg.block D1 (Array.getElem?_eq_some_iff.1 hk).1 (fun e => by have := (hr _ e.symm).1; omega)).trans hk⟩)
    (OwnFrom.and (Own.from (fun s A C row hs hg hr => by
      obtain ⟨h1, h2, h3⟩ := hs
      have nb : ∀ {B' : Nat} {t' : TypeId} {u : Value}, Boxed A B' t' u → some B' ≠ row := fun hb e => by
        obtain ⟨o, ho, hc⟩ := hr _ e.symm
        rw [show A.heap[_]? = _ from hb] at ho; cases ho; cases hc
      refine ⟨h1.kept hg (nb h1), h2.kept hg (nb h2), h3.kept hg ?_⟩
      rcases h3.2 with ⟨rfl, _⟩ | ⟨g, cap, cur, rfl, _, hgb, _⟩
      · exact .inl rfl
      · refine .inr fun e => ?_
        obtain ⟨o, ho, hc⟩ := hr g e.symm
        rw [hgb] at ho; cases ho; cases hc) _) (ownFrom_below (Nat.le_refl _) hB))
theorem kpS_map {s : ByteArray} {bx mb : Nat} {W W' : World} (hg : W.grownBy W' (some mb)) (hm : ∃ es ck, W.heap[mb]? = some (Obj.map es ck)) : KpS s bx W W' := by
  obtain ⟨es, ck, hm⟩ := hm
  refine ⟨hg.size, fun k t p hk => (hg.block k (Array.getElem?_eq_some_iff.1 hk).1 (fun e => ?_)).trans hk, fun hb => (hg.block bx (Array.getElem?_eq_some_iff.1 hb).1 (fun e => ?_)).trans hb⟩
  · cases e; rw [hm] at hk; cases hk
  · cases e; rw [hm] at hb; cases hb

theorem row_ne_map {W : World} {N e size n mb : Nat} {v : Value} {xs : List Value} {es : Array MapEntry} {ck : Nat} (hr : W.ownsRow N e size v n xs) (hm : W.heap[mb]? = some (Obj.map es ck)) : v.ownBlock = none ∨ v.ownBlock ≠ some mb := by
  rcases hr.2 with ⟨rfl, _⟩ | ⟨g, cap, cur, rfl, _, hgb, _⟩
  · exact .inl rfl
  · refine .inr fun e => ?_
    obtain rfl : g = mb := by simpa [Value.ownBlock] using e
    rw [hgb] at hm; cases hm
/-- a new fate: what the round leaves -/
theorem fate_step {w W w3 : World} {h : List ByteArray} {v : Value} {mb D1 B bx : Nat} {pre : List Ch} {x : Ch} {s : ByteArray} {D : DataW Unit} {o1 o2 : Obj}
    (hI : FateI w h v mb D1 pre W) (hown : W.ownsMap Try.prog 9 fateR mb pre.length D) (hmB : mb < B) (hDm : D1 < mb) (hwm : w.heap.size < mb)
    (hown3 : w3.ownsMap Try.prog 9 fateR mb (pre.length + 1) (D.put (.string x.1.2.data.toList) (.lit (.string (heir h x.1.1).data.toList))))
    (hF : Fates (D.put (.string x.1.2.data.toList) (.lit (.string (heir h x.1.1).data.toList))) h (pre ++ [x])) (hg : ((W.alloc o1).alloc o2).grownBy w3 (some mb)) :
    KeepsFrom B W w3 ∧ KpS s bx W w3 ∧ FateI w h v mb D1 (pre ++ [x]) w3 := by
  obtain ⟨⟨_, hkD⟩, ⟨bM, bH, hr⟩, hB⟩ := hI
  obtain ⟨es, ck, hes, _⟩ := (hown.alloc o1).alloc o2
  have hD2 : ((W.alloc o1).alloc o2).heap[D1]? = some (.deferred (some [])) := by
    have hl := (Array.getElem?_eq_some_iff.1 hkD).1
    exact (Below.heap_alloc _ _ _ (by simp; omega)).trans ((Below.heap_alloc _ _ _ hl).trans hkD)
  refine ⟨((KeepsOthers.alloc W o1).trans (KeepsOthers.alloc _ o2)).from B |>.trans (KeepsFrom.of_grownBy hg (fun j e => by cases e; exact hmB)), kpS_t (kpS_t (kpS_alloc _ _) (kpS_alloc _ _)) (kpS_map hg ⟨es, ck, hes⟩),
    ⟨⟨_, by rw [List.length_append]; exact hown3, hF⟩, (hg.block D1 (Array.getElem?_eq_some_iff.1 hD2).1 (fun e => by cases e; omega)).trans hD2⟩,
    ⟨((bM.alloc o1).alloc o2).kept hg (by simp), ((bH.alloc o1).alloc o2).kept hg (by simp; omega), ((hr.alloc o1).alloc o2).kept hg (row_ne_map ((hr.alloc o1).alloc o2) hes)⟩,
    ((hB.alloc hB.size o1).alloc (by have := hB.size; simp; omega) o2).grown hg (by have := hB.size; simp; omega) (fun k e => by cases e; omega)⟩

set_option maxRecDepth 100000 in
set_option maxHeartbeats 4000000 in
theorem fatesOf_any (s t : ByteArray) (w : World) (hs : s.size ≤ 1000000) (ht : t.size ≤ 1000000) :
    Calls Try.prog 28 #[.string s, .string t] w (FatesPost w (crs t) (num 0 (crs s))) := by
  have hcs := crs_length s
  have hct := crs_length t
  obtain ⟨i0, hi, hz0, hz1, hz2⟩ := info_parts info_str
  refine (callsIn_wide (n := 5)).1 ?_
  refine callsIn_of_wp_marks Try.func28 rfl trivial ?_ rfl
  simp only [Try.ntmps28, List.size_toArray, List.length_cons, List.length_nil, Nat.reduceAdd, Nat.reduceSub, Array.replicate_succ, Array.replicate_zero, List.push_toArray, List.append_toArray, List.nil_append, List.cons_append]
  gi_wp2_with (refine ⟨trivial, ?_⟩; gi_at_call 22; refine (charsF_h Fence.wide _ trivial rfl _ _).mono ?_; rintro e w1 ⟨rfl, hw1⟩)
  have bO := Boxed.new w 24 (.slice none 0 0)
  have h0 : HeirI w [] w1 := by
    rw [hw1.out]
    exact ⟨⟨_, bO.alloc _, World.ownsRow_nil _ _ _ _, trivial⟩, ((Below.refl _ w).alloc (Nat.le_refl _) _).alloc (by simp) _, by simp⟩
  have hbox : w1.heap[w.heap.size + 1]? = some (boxed t) := by
    rw [hw1.out]
    have := alloc_boxed (w.alloc (.cells #[.slice none 0 0] 24)) t
    rwa [World.size_alloc] at this
  have hsz : w1.heap.size = w.heap.size + 1 + 1 := by rw [hw1.out]; simp
  clear hw1 bO
  refine wpIn_rangeFunc_ownG (F := Fence.wide) (n := 5) rfl (by omega) (gf := 33) (lb := #[.pointer (some ⟨w.heap.size + 1, 0, none⟩)]) rfl trivial (enters_of Try.func33 (by kernel_rfl) rfl)
    (chars_stops Fence.wide (5 - 1) trivial rfl (by omega) (w.heap.size + 1) t ht w1 (by omega) hbox) kpS_t kpS_b (Below.refl _ _) (fun _ => rfl)
    (HeirI w) (fun _ _ _ => False) (heirI_own w _ (by omega)) (fun _ _ _ _ _ hs _ _ => hs) h0
    (fun x => { tmps := #[.string s, .string t, undef, undef, .map none, .pointer (some ⟨w.heap.size, 0, none⟩), undef, .string x.1.2, undef, undef, undef, undef, undef, undef, .string t, .func (.func 33) #[] #[.pointer (some ⟨w.heap.size + 1, 0, none⟩)], .int .i64 (x.1.1 : Int), .string x.1.2, undef, undef, undef, undef, undef, undef, undef, undef, undef, undef, undef, undef, undef, undef, undef, undef, undef, undef, undef, undef, undef, undef, undef, undef, undef, undef, undef, undef, undef], defers := [] }) ?assign ?body ?done ?stop
  case assign =>
    intro l x W K hK
    gi_wp2
    exact hK
  case body =>
    rintro l pre x W ⟨⟨v, hv, hrow, _⟩, hB, hWs⟩ hlt
    have hc := hv.cell
    gi_wp2_with (gi_at_builtin; refine wpListIn_append_own _ rfl _ _ 24 rfl (w.heap.size + 1 + 1) 9 i0 (.string ⟨#[]⟩) 1 16 Try.underlying24 hi hz0 hz1 hz2 rfl (by decide) _ _ _ rfl (hrow.alloc _) ⟨W.heap.size, 0, none⟩ 1 1 [.string x.1.2] rfl rfl (cell_one_new _ _ _) (by simp [Value.oneCell']) (by unfold maxLen; omega) (by omega) (by simp; omega) ?_; intro v' w1 hown' hgrow _; obtain ⟨g', cap', rfl⟩ := ownsRow_succ hown'; obtain ⟨hv1, hv2, hr2, hk2, hp2, hb2⟩ := box_grown (n₀ := w.heap.size) (bx := w.heap.size + 1) (s := t) hv (by decide) hrow hWs (by omega) (Nat.le_refl _) (by omega) (by omega) hown' hgrow; have hc1 := hv1.cell; have hf1 := hv1.frozen)
    refine ⟨hk2.from _, hp2, ⟨⟨_, hv2, by simpa using hr2, trivial⟩, hB.trans hb2, Nat.le_trans hWs hb2.size⟩⟩
  case done =>
    rintro D1 ys W1 hD1 rfl ⟨⟨v, hv, hrow, _⟩, hB, hWs⟩ hK1
    have hmm := @run_makeMap Try.prog
    have hlen : (num 0 (crs t)).length = (crs t).length := num_length _ _
    have hvals : (num 0 (crs t)).map (fun x => Value.string x.1.2) = (crs t).map Value.string := by
      have := num_vals (crs t) 0 (by omega) (crs_four t)
      rw [← this, List.map_map]
      rw [this]
      rfl
    rw [hlen, hvals] at hrow
    clear hlen hvals
    have HCT := Lib.hid hct
    have HCS := Lib.hid hcs
    gi_wp2_with (refine ⟨trivial, ?_⟩; gi_at_call 22; refine (charsF_h Fence.wide _ trivial rfl _ _).mono ?_; rintro e w2 ⟨rfl, hw2⟩)
    have hD1l : D1 < W1.heap.size := (Array.getElem?_eq_some_iff.1 hK1).1
    have hnl := hv.lt
    have hm0 := World.ownsMap_made W1 Try.prog 9 fateR
    have bM := Boxed.new (W1.alloc (.map #[] 0)) 54 (.map (some W1.heap.size))
    rw [World.size_alloc] at bM
    have h02 : FateI w (crs t) v W1.heap.size D1 [] w2 := by
      rw [hw2.out]
      refine ⟨⟨⟨_, (hm0.alloc _).alloc _, fates_nil (crs t)⟩, ?_⟩, ⟨bM.alloc _, ((hv.alloc _).alloc _).alloc _, ((hrow.alloc _).alloc _).alloc _⟩, ((hB.alloc hB.size _).alloc (by simp; omega) _).alloc (by simp; omega) _⟩
      exact (Below.heap_alloc _ _ _ (by simp; omega)).trans ((Below.heap_alloc _ _ _ (by simp; omega)).trans ((Below.heap_alloc _ _ _ hD1l).trans hK1))
    have hbox2 : w2.heap[W1.heap.size + 1 + 1]? = some (boxed s) := by
      rw [hw2.out]
      have := alloc_boxed ((W1.alloc (.map #[] 0)).alloc (.cells #[.map (some W1.heap.size)] 54)) s
      simpa only [World.size_alloc] using this
    have hsz2 : w2.heap.size = W1.heap.size + 1 + 1 + 1 := by rw [hw2.out]; simp
    have hn0 := hB.size
    obtain ⟨va, vc, rfl, hcells⟩ := Texts.reads (show Texts (w.heap.size + 1 + 1) W1 v (crs t) from hrow)
    clear hw2 bM hm0 hcells
    refine wpIn_rangeFunc_ownG (F := Fence.wide) (n := 5) rfl (by omega) (gf := 33) (lb := #[.pointer (some ⟨W1.heap.size + 1 + 1, 0, none⟩)]) rfl trivial (enters_of Try.func33 (by kernel_rfl) rfl)
      (chars_stops Fence.wide (5 - 1) trivial rfl (by omega) (W1.heap.size + 1 + 1) s hs w2 (by omega) hbox2) kpS_t kpS_b (Below.refl _ _) (fun _ => rfl)
      (FateI w (crs t) (.slice va (crs t).length vc) W1.heap.size D1) (fun _ _ _ => False) (fateI_own w (crs t) _ _ _ _ (by omega) (by omega) (by omega)) (fun _ _ _ _ _ hs _ _ => hs) h02
      (fun x => { tmps := #[.string s, .string t, undef, undef, .map none, .pointer (some ⟨w.heap.size, 0, none⟩), undef, undef, .pointer (some ⟨W1.heap.size + 1, 0, none⟩), .int .i64 (x.1.1 : Int), .string x.1.2, undef, undef, undef, .string t, .func (.func 33) #[] #[.pointer (some ⟨w.heap.size + 1, 0, none⟩)], undef, undef, undef, undef, undef, undef, .map (some W1.heap.size), .string s, .func (.func 33) #[] #[.pointer (some ⟨W1.heap.size + 1 + 1, 0, none⟩)], .int .i64 (x.1.1 : Int), .string x.1.2, undef, undef, undef, undef, undef, undef, undef, undef, undef, undef, undef, undef, undef, undef, undef, undef, undef, undef, undef, undef], defers := [] }) ?assign2 ?body2 ?done2 ?stop2
    case assign2 =>
      intro l x W K hK
      gi_wp2
      exact hK
    case body2 =>
      rintro l pre x W ⟨⟨⟨D, hown, hF⟩, hkD⟩, ⟨bMx, bHx, hrx⟩, hBx⟩ hlt
      have hcm := bMx.cell
      have hch := bHx.cell
      have hWl := hown.lt
      have hlen2 := HCS.out
      by_cases hh : Maps.has D (.string x.1.2.data.toList) = true
      · gi_wp2_with (gi_at_lookup; refine look_fate _ rfl _ _ rfl W1.heap.size pre.length D rfl hown x rfl ?_; intro f0 hf0)
        exact ⟨(KeepsOthers.alloc _ _).from _, kpS_alloc _ _, ⟨⟨D, (hown.mono (by simp)).alloc _, fates_old hF x hh⟩, (Below.heap_alloc _ _ _ (Array.getElem?_eq_some_iff.1 hkD).1).trans hkD⟩, ⟨bMx.alloc _, bHx.alloc _, hrx.alloc _⟩, hBx.alloc hBx.size _⟩
      · rw [Bool.not_eq_true] at hh
        have him := hown.isMap
        have HF2 := Lib.hid (fates_new hF him x hh)
        have hrd := Texts.reads (show Texts (w.heap.size + 1 + 1) W (.slice va (crs t).length vc) (crs t) from hrx)
        have hch2 : ∀ o1 o2, ((W.alloc o1).alloc o2).cell? ⟨w.heap.size, 0, none⟩ = some (.slice va (crs t).length vc) := fun o1 o2 => ((bHx.alloc o1).alloc o2).cell
        have hcm2 : ∀ o1 o2, ((W.alloc o1).alloc o2).cell? ⟨W1.heap.size + 1, 0, none⟩ = some (.map (some W1.heap.size)) := fun o1 o2 => ((bMx.alloc o1).alloc o2).cell
        by_cases hk : x.1.1 < (crs t).length
        · obtain ⟨a', cap', hv', hc'⟩ := hrd
          obtain ⟨g, hg1, hg2, hg3⟩ := hc' _ hk
          have hva : va = some ⟨g, 0, none⟩ := by
            have : a' = va := by simp at hv'; exact hv'.1.symm
            rw [← this]; exact hg1
          subst hva
          have hhe : heir (crs t) x.1.1 = (crs t).getD x.1.1 ⟨#[]⟩ := by unfold heir; rw [if_pos hk]
          rw [← hhe] at hg3
          clear hhe hv' hc' hg1
          have HST := Lib.hid (fun (w3 : World) (o1 o2 : Obj) h1 h2 => fate_step (w3 := w3) (o1 := o1) (o2 := o2) (B := w2.heap.size) (bx := W1.heap.size + 1 + 1) (s := s) (x := x) ⟨⟨⟨D, hown, hF⟩, hkD⟩, ⟨bMx, bHx, hrx⟩, hBx⟩ hown (by omega) hD1l hnl h1 HF2.out h2)
          have hg4 : ∀ o1 o2, ((W.alloc o1).alloc o2).cell? ⟨g, x.1.1, none⟩ = some (.string (heir (crs t) x.1.1)) := fun o1 o2 => (((Below.refl W.heap.size W).alloc (Nat.le_refl _) o1).alloc (by simp) o2).cell (p := ⟨g, x.1.1, none⟩) hg2 |>.trans hg3
          generalize heir (crs t) x.1.1 = fx at hg3 hg4 HST
          gi_wp2_with (first | (gi_at_lookup; refine look_fate _ rfl _ _ rfl W1.heap.size pre.length D rfl hown x rfl ?_; intro f0 hf0) | (gi_at_mapUpdate; refine wpListIn_mapUpdate_own _ rfl _ _ _ 54 rfl 9 57 (Maps.string_keyed Try.underlying9) Try.underlying54 fateR W1.heap.size pre.length _ rfl ((hown.alloc _).alloc _) (by unfold maxLen; omega) _ _ _ rfl rfl (key_ch x) _ [] (fateR_mk fx) ?_; intro w3 hown3 hgrow3))
          first | exact HST.out _ _ _ hown3 hgrow3 | (rw [hsz2] at HST; exact HST.out _ _ _ hown3 hgrow3)
        · have hhe : heir (crs t) x.1.1 = ⟨#[]⟩ := by unfold heir; rw [if_neg hk]
          have HST := Lib.hid (fun (w3 : World) (o1 o2 : Obj) h1 h2 => fate_step (w3 := w3) (o1 := o1) (o2 := o2) (B := w2.heap.size) (bx := W1.heap.size + 1 + 1) (s := s) (x := x) ⟨⟨⟨D, hown, hF⟩, hkD⟩, ⟨bMx, bHx, hrx⟩, hBx⟩ hown (by omega) hD1l hnl h1 HF2.out h2)
          rw [hhe] at HST
          clear hhe hrd
          gi_wp2_with (first | (gi_at_lookup; refine look_fate _ rfl _ _ rfl W1.heap.size pre.length D rfl hown x rfl ?_; intro f0 hf0) | (gi_at_mapUpdate; refine wpListIn_mapUpdate_own _ rfl _ _ _ 54 rfl 9 57 (Maps.string_keyed Try.underlying9) Try.underlying54 fateR W1.heap.size pre.length _ rfl ((hown.alloc _).alloc _) (by unfold maxLen; omega) _ _ _ rfl rfl (key_ch x) _ [] (fateR_mk ⟨#[]⟩) ?_; intro w3 hown3 hgrow3))
          first | exact HST.out _ _ _ hown3 hgrow3 | (rw [hsz2] at HST; exact HST.out _ _ _ hown3 hgrow3)
    case done2 =>
      rintro D2 ys W2 hD2 rfl ⟨⟨⟨D, hown, hF⟩, hkD⟩, ⟨bMx, bHx, hrx⟩, hBx⟩ hK2
      have hcm := bMx.cell
      gi_wp2
      refine ⟨by simp, .inl ⟨_, _, rfl, run_takeDeferred hK2, ?_⟩⟩
      have hne : D1 ≠ D2 := by omega
      have hk1 : (W2.putObj D2 (.deferred none)).heap[D1]? = some (.deferred (some [])) := (World.putObj_heap_other hne).trans hkD
      refine ⟨by simp, .inl ⟨_, _, rfl, run_takeDeferred hk1, ?_⟩⟩
      refine ⟨_, results_tmp rfl _ _ _, W1.heap.size, _, D, rfl, (hown.kept (grownBy_putObj' _ D2 _) (fun e => by cases e; omega)).kept (grownBy_putObj' _ D1 _) (fun e => by cases e; omega), hF, hn0, ?_⟩
      exact (hBx.trans (belowK_b (w := w) (Nat.le_refl _) W2 D2 _ _ (by omega) hK2 rfl rfl)).trans (belowK_b (w := w) (Nat.le_refl _) _ D1 _ _ (by omega) hk1 rfl rfl)
    case stop2 =>
      rintro D c pre W _ _ h _
      exact h.elim
  case stop =>
    rintro D c pre W _ _ h _
    exact h.elim
end Go.Proofs.Ytblhiaeocinogaa.Char
