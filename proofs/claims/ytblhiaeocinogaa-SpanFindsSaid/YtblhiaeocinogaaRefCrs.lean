/- The walk of the document's own 'the characters of a text'. -/
import Derived.Test.YtblhiaeocinogaaCuts
import Derived.Test.YtblhiaeocinogaaOneW
import Derived.Laws.AppendOwn
import Derived.OwnWalk
namespace Go.Proofs.Ytblhiaeocinogaa.Char
open Go.RowKit Go.Lib

theorem info_str : (Try.prog.info? 9).map (fun i => (i.zero, i.size, i.bytes)) = some (some (.string ⟨#[]⟩), 1, 16) := by kernel_rfl

/-- a value reads as texts, in memory that lies at or behind a place -/
def Texts (n₀ : Nat) (W : World) (v : Value) (l : List ByteArray) : Prop := W.ownsRow n₀ 9 1 v l.length (l.map Value.string)
/-- what Chars leaves: a slice of the call's own that holds the characters -/
def CrsPost (w : World) (l : List ByteArray) (e : Ending) (w' : World) : Prop :=
  ∃ v, e = .returned v ∧ Texts w.heap.size w' v l ∧ Below w.heap.size w w'

/-- One's answer and how many bytes the character has -/
theorem one_wid (s : ByteArray) (pos : Nat) (h : pos < s.size) : (if (oneL (s.data.toList.drop pos)).2 = 0 then 1 else (oneL (s.data.toList.drop pos)).2) = wid s pos := by
  have hne := drop_ne s pos h
  have hw := decodeL_width (s.data.toList.drop pos)
  rw [wid_drop]
  unfold oneL
  rw [if_neg hne]
  by_cases hb : (decodeL (s.data.toList.drop pos)).1 = 65533 ∧ (decodeL (s.data.toList.drop pos)).2 = 1
  · rw [if_pos hb]; simp [hb.2]
  · rw [if_neg hb, if_neg (by omega)]

theorem slice_mid (s : ByteArray) (a b : Nat) (c : Int) (hc : c = (b : Int)) (h1 : a ≤ b) (h2 : b ≤ s.size) (wx : World) :
    (Instr.slice 9 (.string s) (some (.int .i64 (a : Int))) (some (.int .i64 c)) none).run Try.prog wx = .ok (.string (s.extract a b)) wx := by
  subst hc
  have := run_slice_string (P := Try.prog) wx 9 s .i64 .i64 (a : Int) (b : Int) Try.underlying9 (by omega) (by omega) (by omega)
  simpa using this

set_option maxRecDepth 100000 in
set_option maxHeartbeats 2000000 in
theorem crs_any (s : ByteArray) (w : World) (hs : s.size ≤ 1000000) :
    Calls Try.prog 10 #[.string s] w (CrsPost w (crs s)) := by
  obtain ⟨i0, hi, hz0, hz1, hz2⟩ := info_parts info_str
  go_enter Try.func10, Try.ntmps10
  go_wp2_with fail
  go_loopw [3, 4] (fun v i wr => ∃ (pos : Nat) (acc : List ByteArray), pos ≤ s.size ∧ i = .int .i64 (pos : Int) ∧ acc.length ≤ pos ∧ wr.ownsRow w.heap.size 9 1 v acc.length (acc.map Value.string) ∧
      Below w.heap.size w wr ∧ Hid (acc ++ from_ s pos = crs s)) (fun _ i _ => s.size - (intOf i).toNat)
  case atStart => exact ⟨0, [], Nat.zero_le _, rfl, Nat.zero_le _, World.ownsRow_nil _ _ _ _, Below.refl _ _, Lib.hid (by rw [from_zero]; rfl)⟩
  case round =>
    obtain ⟨pos, acc, hp, rfl, hal, hown, hbw, HRp⟩ := hrel
    by_cases hlt : pos < s.size
    · have hco : Calls Try.prog 23 #[.string (s.extract pos s.size)] wr _ := one_any (s.extract pos s.size) wr (by rw [Lib.ext_size]; omega)
      rw [Lib.ext_list] at hco
      have how := one_wid s pos hlt
      have hst := from_step s pos hlt
      have hle := wid_le s pos hlt
      have hw1 := wid_pos s pos
      have h4 := ext_four s pos hlt
      generalize (oneL (s.data.toList.drop pos)).1 = N at hco
      generalize (oneL (s.data.toList.drop pos)).2 = M at hco how
      generalize wid s pos = D at *
      have HCO := Lib.hid hco
      have HOW := Lib.hid how
      have HST := Lib.hid hst
      have H4 := Lib.hid h4
      clear hco how hst h4
      have hwb := hbw.size
      go_wp2_with fail
      refine HCO.out.mono ?_
      rintro e w1 ⟨rfl, rfl⟩
      by_cases hm : M = 0
      · have hD : D = 1 := by have := HOW.out; rw [if_pos hm] at this; omega
        subst hD
        have hmb : ((M : Int) == 0) = true := by simp [hm]
        have HR2 : Hid ((acc ++ [s.extract pos (pos + 1)]) ++ from_ s (pos + 1) = crs s) := Lib.hid (by rw [← HRp.out, HST.out, List.append_assoc]; rfl)
        have hsl := slice_mid s pos (pos + 1) ((pos : Int) + 1) (by simp) (by omega) hle
        clear hm HOW HCO HST HRp
        go_wp2_with (at_builtin; refine wpList_append_own _ rfl _ _ 24 rfl w.heap.size 9 i0 (.string ⟨#[]⟩) 1 16 Try.underlying24 hi hz0 hz1 hz2 rfl (by decide) _ _ _ rfl (hown.alloc _) ⟨wr.heap.size, 0, none⟩ 1 1 [.string (s.extract pos (pos + 1))] rfl rfl ?c1 ?c2 ?c3 ?c4 ?c5 ?_)
        case c1 =>
          intro j u hj
          match j, hj with
          | 0, hj => simp at hj; subst hj; simp [Addr.add]
        case c2 => intro u hu; simp at hu; subst hu; rfl
        case c3 => unfold maxLen; omega
        case c4 => omega
        case c5 => simp; omega
        intro v' w1 hown' hgrow _
        have hb1 : Below w.heap.size w w1 := (hbw.alloc hwb _).grown hgrow (by simp; omega) (fun k hk => by
          rcases hown.2 with ⟨rfl, _⟩ | ⟨g, cap, cur, rfl, hg, _⟩
          · simp [Value.ownBlock] at hk
          · simp [Value.ownBlock] at hk; omega)
        have hown2 : w1.ownsRow w.heap.size 9 1 v' (acc ++ [s.extract pos (pos + 1)]).length ((acc ++ [s.extract pos (pos + 1)]).map Value.string) := by
          rw [List.length_append, List.map_append]
          exact hown'
        clear hown' hgrow hown
        go_wp2_with fail
        go_roundw
        case rel => exact ⟨pos + 1, acc ++ [s.extract pos (pos + 1)], by omega, by go_num, by rw [List.length_append]; simp; omega, hown2, hb1, HR2⟩
        case measure => simp [intOf]; omega
      · have hD : D = M := by have := HOW.out; rw [if_neg hm] at this; omega
        subst hD
        have hmb : ((D : Int) == 0) = false := by rw [beq_eq_false_iff_ne]; omega
        have HR2 : Hid ((acc ++ [s.extract pos (pos + D)]) ++ from_ s (pos + D) = crs s) := Lib.hid (by rw [← HRp.out, HST.out, List.append_assoc]; rfl)
        have hsl := slice_mid s pos (pos + D) ((pos : Int) + (D : Int)) (by simp) (by omega) hle
        clear hm HOW HCO HST HRp
        go_wp2_with (at_builtin; refine wpList_append_own _ rfl _ _ 24 rfl w.heap.size 9 i0 (.string ⟨#[]⟩) 1 16 Try.underlying24 hi hz0 hz1 hz2 rfl (by decide) _ _ _ rfl (hown.alloc _) ⟨wr.heap.size, 0, none⟩ 1 1 [.string (s.extract pos (pos + D))] rfl rfl ?c1 ?c2 ?c3 ?c4 ?c5 ?_)
        case c1 =>
          intro j u hj
          match j, hj with
          | 0, hj => simp at hj; subst hj; simp [Addr.add]
        case c2 => intro u hu; simp at hu; subst hu; rfl
        case c3 => unfold maxLen; omega
        case c4 => omega
        case c5 => simp; omega
        intro v' w1 hown' hgrow _
        have hb1 : Below w.heap.size w w1 := (hbw.alloc hwb _).grown hgrow (by simp; omega) (fun k hk => by
          rcases hown.2 with ⟨rfl, _⟩ | ⟨g, cap, cur, rfl, hg, _⟩
          · simp [Value.ownBlock] at hk
          · simp [Value.ownBlock] at hk; omega)
        have hown2 : w1.ownsRow w.heap.size 9 1 v' (acc ++ [s.extract pos (pos + D)]).length ((acc ++ [s.extract pos (pos + D)]).map Value.string) := by
          rw [List.length_append, List.map_append]
          exact hown'
        clear hown' hgrow hown
        go_wp2_with fail
        go_roundw
        case rel => exact ⟨pos + D, acc ++ [s.extract pos (pos + D)], by omega, by go_num, by rw [List.length_append]; simp; omega, hown2, hb1, HR2⟩
        case measure => simp [intOf]; omega
    · have hr := HRp.out
      rw [from_end s pos hlt, List.append_nil] at hr
      have HR1 := Lib.hid hr
      clear hr HRp
      go_wp2_with fail
      go_ret
      refine ⟨_, rfl, ?_, hbw⟩
      unfold Texts
      rw [← HR1.out]
      exact hown

/-- a slice that reads as these texts -/
def ReadsT (w : World) (v : Value) (l : List ByteArray) : Prop :=
  ∃ a cap, v = .slice a l.length cap ∧ ∀ j, j < l.length → ∃ g, a = some ⟨g, 0, none⟩ ∧ g < w.heap.size ∧ w.cell? ⟨g, j, none⟩ = some (.string (l.getD j ⟨#[]⟩))
theorem Texts.reads {n₀ : Nat} {w : World} {v : Value} {l : List ByteArray} (h : Texts n₀ w v l) : ReadsT w v l := by
  have hc := h
  rcases h.2 with ⟨rfl, hn⟩ | ⟨g, cap, cur, rfl, hg, hcur, _⟩
  · exact ⟨none, 0, by rw [hn], fun j hj => by omega⟩
  · refine ⟨_, cap, rfl, fun j hj => ⟨g, rfl, (Array.getElem?_eq_some_iff.1 hcur).1, ?_⟩⟩
    have := hc.cells (g := g) rfl j (.string (l.getD j ⟨#[]⟩)) (by simp [List.getD, List.getElem?_eq_getElem hj])
    have hadd : (⟨g, 0, none⟩ : Addr).add j = ⟨g, j, none⟩ := by unfold Addr.add; split <;> simp_all
    rwa [hadd] at this
theorem ReadsT.below {w w' : World} {v : Value} {l : List ByteArray} (h : ReadsT w v l) (hb : Below w.heap.size w w') : ReadsT w' v l := by
  obtain ⟨a, cap, hv, hc⟩ := h
  refine ⟨a, cap, hv, fun j hj => ?_⟩
  obtain ⟨g, h1, h2, h3⟩ := hc j hj
  exact ⟨g, h1, Nat.lt_of_lt_of_le h2 hb.size, (hb.cell (p := ⟨g, j, none⟩) h2).trans h3⟩
theorem drop_step (l : List ByteArray) (k : Nat) (h : k < l.length) : l.drop k = l.getD k ⟨#[]⟩ :: l.drop (k + 1) := by
  rw [List.drop_eq_getElem_cons h]
  simp [List.getD, List.getElem?_eq_getElem h]
end Go.Proofs.Ytblhiaeocinogaa.Char
