/- The walk of SpanFinds: what stands ahead of, and behind, any text in any other one is as the document says; of texts of at most 3000 bytes. -/
import Derived.Test.YtblhiaeocinogaaWorks
import Derived.Test.YtblhiaeocinogaaFindW
import Derived.Deep.QuietTactic
import Derived.BigQuiet
namespace Go.Proofs.Ytblhiaeocinogaa.Char
open Go.RowKit Go.Lib

theorem data_injF {a b : ByteArray} (h : a.data.toList = b.data.toList) : a = b := by
  cases a; cases b
  congr 1
  exact Array.toList_inj.1 h

/-- the worlds that keep what lay below -/
def KeptT (w : World) : Type := { W : World // Below w.heap.size w W }
def KeptT.at {w : World} (q : KeptT w) : World := q.1
theorem KeptT.ok {w : World} (q : KeptT w) : Below w.heap.size w q.at := q.2
theorem KeptT.on {w W' : World} (q : KeptT w) (h : Below q.at.heap.size q.at W') : ∃ q' : KeptT w, W' = q'.at := ⟨⟨W', q.ok.trans (h.mono q.ok.size)⟩, rfl⟩
/-- a region that draws its order, over worlds that keep what lay below -/
theorem wp_region_kept {P : Program} {id : Nat} {Q : Exit → Act → World → Prop} {a : Act} {w : World} {l : List Oper} (T : Type) (f : T → World) (hm : P.follows .mixedOrders = true) (hB : Region.lexB .any l.toArray = true)
    (h0 : ∃ q : T, w.drew = f q) (h : wpQuiet P l.toArray (fun w' => ∃ q : T, w' = f q) (fun a' => ∀ w', (∃ q : T, w' = f q) → Q .normal a' w') l a) : (Code.region id l.toArray true).wp P Q a w :=
  wp_region_quiet (C := fun w' => ∃ q : T, w' = f q) hm hB h0 (by simpa using h)

set_option maxRecDepth 100000 in
set_option maxHeartbeats 4000000 in
theorem finds_law (s t : ByteArray) (w : World) (hm : MaxL w) :
    Calls Try.prog 4 #[.string s, .string t] w fun e w' => e = .returned (.bool true) ∧ Below w.heap.size w w' := by
  by_cases hl : 3000 < s.size ∨ 3000 < t.size
  · go_enter Try.func4, Try.ntmps4
    by_cases h1 : 3000 < s.size
    · go_wp2_with fail
      refine (works_any _).mono ?_
      rintro e w1 ⟨rfl, h1⟩
      go_wp2_with fail
      go_ret
      exact ⟨rfl, h1⟩
    · have h2 : 3000 < t.size := by omega
      clear hl
      go_wp2_with fail
      refine (works_any _).mono ?_
      rintro e w1 ⟨rfl, h1⟩
      go_wp2_with fail
      go_ret
      exact ⟨rfl, h1⟩
  · have h1 : s.size ≤ 3000 := by omega
    have h2 : t.size ≤ 3000 := by omega
    clear hl
    have F1 := Lib.hid (refFind_any s t w (by omega) (by omega))
    have hr := index_room s.data.toList t.data.toList
    have hg := index_ge s.data.toList t.data.toList
    have CA := Lib.hid (fun W (hW : Below w.heap.size w W) => has_any s t W (by omega) (hm.below hW))
    have CB := Lib.hid (fun W (hW : Below w.heap.size w W) => before_any s t W (by omega) (hm.below hW))
    have CC := Lib.hid (fun W (hW : Below w.heap.size w W) => after_any s t W (by omega) (hm.below hW))
    unfold beforeL at CB
    unfold afterL at CC
    unfold contains at CA
    rw [sz_list, sz_list] at hr
    rw [sz_list] at CC
    generalize index s.data.toList t.data.toList = fi at F1 hr hg CA CB CC
    by_cases hfi : 0 ≤ fi
    · have hr2 := hr hfi
      obtain ⟨k, rfl⟩ : ∃ k : Nat, fi = (k : Int) := ⟨fi.toNat, by omega⟩
      rw [if_pos hfi] at CB CC
      rw [decide_eq_true hfi] at CA
      rw [Int.toNat_natCast] at CB CC
      have e1 : (⟨(s.data.toList.take k).toArray⟩ : ByteArray) = s.extract 0 k := by
        apply data_injF
        rw [extract_list]
        simp
      have e2 : (⟨(s.data.toList.drop (k + t.size)).toArray⟩ : ByteArray) = s.extract (k + t.size) s.size := by
        apply data_injF
        rw [Lib.ext_list]
      rw [e1] at CB
      rw [e2] at CC
      have hks : k ≤ s.size := by omega
      have hkt : k + t.size ≤ s.size := by omega
      clear hr hr2 hg hfi e1 e2
      have hmx : Try.prog.follows .mixedOrders = true := by kernel_rfl
      go_enter Try.func4, Try.ntmps4
      go_wp2_with fail
      refine F1.out.mono ?_
      rintro e w1 ⟨rfl, rfl⟩
      have hsl1 : ∀ wx, (Instr.slice 9 (.string s) none (some (.int .i64 (k : Int))) none).run Try.prog wx = .ok (.string (s.extract 0 k)) wx := fun wx => by
        have := run_slice_string_h (P := Try.prog) wx 9 s Try.underlying9 .i64 (k : Int) (by omega) (by omega)
        simpa using this
      have hsl2 : ∀ wx, (Instr.slice 9 (.string s) (some (.int .i64 ((k : Int) + (t.size : Int)))) none none).run Try.prog wx = .ok (.string (s.extract (k + t.size) s.size)) wx := fun wx => by
        have := run_slice_string_l (P := Try.prog) wx 9 s Try.underlying9 .i64 ((k : Int) + (t.size : Int)) (by omega) (by omega)
        have e : ((k : Int) + (t.size : Int)).toNat = k + t.size := by omega
        rw [e] at this
        exact this
      go_wp2_with fail
      haveI : Nonempty (KeptT w) := ⟨⟨w, Below.refl _ _⟩⟩
      refine wp_region_kept (KeptT w) KeptT.at (by kernel_rfl) (by kernel_rfl) ⟨⟨w.drew, (Below.refl _ w).drew⟩, rfl⟩ ?_
      repeat (go_big_quiet_step (first
        | (go_at_call 14; rename_i q; exact (CA.out q.at q.ok).mono (fun e w' h => ⟨h.1, q.on h.2⟩))
        | (go_at_call 15; rename_i q; exact (CB.out q.at q.ok).mono (fun e w' h => ⟨h.1, q.on h.2⟩))
        | (go_at_call 16; rename_i q; exact (CC.out q.at q.ok).mono (fun e w' h => ⟨h.1, q.on h.2⟩))
        | (go_at_call 8; rename_i q; exact (works_any q.at).mono (fun e w' h => ⟨h.1, q.on h.2⟩))))
      refine wpQuiet_nil ?_
      rintro w' ⟨q, rfl⟩
      go_wp2_with fail
      go_ret
      exact ⟨rfl, q.ok⟩
    · have hfm : fi = -1 := by omega
      subst hfm
      rw [if_neg hfi] at CB CC
      rw [decide_eq_false hfi] at CA
      clear hr hg hfi
      go_enter Try.func4, Try.ntmps4
      go_wp2_with fail
      refine F1.out.mono ?_
      rintro e w1 ⟨rfl, rfl⟩
      go_wp2_with fail
      refine (CA.out w (Below.refl _ _)).mono ?_
      rintro e w1 ⟨rfl, b1⟩
      go_wp2_with fail
      refine (CB.out w1 b1).mono ?_
      rintro e w2 ⟨rfl, b2⟩
      have b12 := b1.trans (b2.mono b1.size)
      go_wp2_with fail
      refine (CC.out w2 b12).mono ?_
      rintro e w3 ⟨rfl, b3⟩
      go_wp2_with fail
      refine (works_any _).mono ?_
      rintro e w4 ⟨rfl, b4⟩
      go_wp2_with fail
      go_ret
      exact ⟨rfl, b12.trans ((b3.trans (b4.mono b3.size)).mono b12.size)⟩
end Go.Proofs.Ytblhiaeocinogaa.Char
