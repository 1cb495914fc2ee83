/- The walk of the document's own 'the characters of right UTF-8, and whether it is that'. -/
import Derived.Test.YtffbooapdlpocaaDoorOneW
import Derived.Laws.AppendOwn
import Derived.OwnWalk
import Derived.Lib.ValidAsc
namespace Go.Proofs.YtffbooapdlpocaaDoor.Char
open Go.RowKit Go.Lib

/-- the runes of bytes, one behind the other -/
def runesN : Nat → List UInt8 → List Int
  | 0, _ => []
  | n + 1, l => if l = [] then [] else ((decodeL l).1 : Int) :: runesN n (l.drop (decodeL l).2)
def runesL (l : List UInt8) : List Int := runesN l.length l
theorem runesN_nil : ∀ n, runesN n [] = []
  | 0 => rfl
  | _ + 1 => by simp [runesN]
theorem runesN_fuel : ∀ (n m : Nat) (l : List UInt8), l.length ≤ n → l.length ≤ m → runesN n l = runesN m l
  | 0, m, l, hn, _ => by
    obtain rfl : l = [] := List.eq_nil_of_length_eq_zero (by omega)
    rw [runesN_nil, runesN_nil]
  | n + 1, 0, l, _, hm => by
    obtain rfl : l = [] := List.eq_nil_of_length_eq_zero (by omega)
    rw [runesN_nil, runesN_nil]
  | n + 1, m + 1, l, hn, hm => by
    unfold runesN
    by_cases hne : l = []
    · simp [hne]
    · have hw := decodeL_width l
      have hl : 0 < l.length := List.length_pos_iff.2 hne
      rw [if_neg hne, if_neg hne, runesN_fuel n m (l.drop (decodeL l).2) (by rw [List.length_drop]; omega) (by rw [List.length_drop]; omega)]
theorem runesL_nil : runesL [] = [] := rfl
theorem runesL_step (l : List UInt8) (hne : l ≠ []) : runesL l = ((decodeL l).1 : Int) :: runesL (l.drop (decodeL l).2) := by
  have hl : 0 < l.length := List.length_pos_iff.2 hne
  have hw := decodeL_width l
  obtain ⟨n, hn⟩ : ∃ n, l.length = n + 1 := ⟨l.length - 1, by omega⟩
  unfold runesL
  rw [hn]
  show (if l = [] then [] else _) = _
  rw [if_neg hne, runesN_fuel n (l.drop (decodeL l).2).length _ (by rw [List.length_drop]; omega) (Nat.le_refl _)]
theorem allR_all (p : Int → Bool) : ∀ (n : Nat) (l : List UInt8), l.length ≤ n → allR p l = (runesL l).all p
  | 0, l, h => by
    obtain rfl : l = [] := List.eq_nil_of_length_eq_zero (by omega)
    rfl
  | n + 1, l, h => by
    by_cases hne : l = []
    · subst hne; rfl
    · have hw := decodeL_width l
      rw [allR_step p l hne, runesL_step l hne, List.all_cons, allR_all p n _ (by rw [List.length_drop]; omega)]
theorem runesL_length : ∀ (n : Nat) (l : List UInt8), l.length ≤ n → (runesL l).length ≤ l.length
  | 0, l, h => by
    obtain rfl : l = [] := List.eq_nil_of_length_eq_zero (by omega)
    exact Nat.le_refl _
  | n + 1, l, h => by
    by_cases hne : l = []
    · subst hne; exact Nat.le_refl _
    · have hw := decodeL_width l
      have hle := decodeL_le l hne
      have ih := runesL_length n (l.drop (decodeL l).2) (by rw [List.length_drop]; omega)
      rw [runesL_step l hne, List.length_cons]
      rw [List.length_drop] at ih
      omega

/-- what One says, and what it says of the whole -/
theorem one_stop (l : List UInt8) (hne : l ≠ []) (h : (oneL l).2 = 0) : validD l = false := by
  unfold oneL at h
  rw [if_neg hne] at h
  have hw := decodeL_width l
  by_cases hb : (decodeL l).1 = 65533 ∧ (decodeL l).2 = 1
  · rw [validD_step l hne, if_pos hb]
  · rw [if_neg hb] at h; omega
theorem one_go (l : List UInt8) (hne : l ≠ []) (h : (oneL l).2 ≠ 0) :
    validD l = validD (l.drop (oneL l).2) ∧ runesL l = ((oneL l).1 : Int) :: runesL (l.drop (oneL l).2) ∧ 1 ≤ (oneL l).2 ∧ (oneL l).2 ≤ l.length ∧ (oneL l).1 ≤ 1114111 := by
  unfold oneL at h ⊢
  rw [if_neg hne] at h ⊢
  by_cases hb : (decodeL l).1 = 65533 ∧ (decodeL l).2 = 1
  · rw [if_pos hb] at h; simp at h
  · rw [if_neg hb]
    exact ⟨by rw [validD_step l hne, if_neg hb], runesL_step l hne, decodeL_width l, decodeL_le l hne, decodeL_rune l⟩

theorem info_int : (Tryd.prog.info? 3).map (fun i => (i.zero, i.size, i.bytes)) = some (some (.int .i64 0), 1, 8) := by kernel_rfl

/-- what Chars leaves: a slice of the call's own that holds these numbers -/
def CharsPost (w : World) (V : Bool) (l : List Int) (e : Ending) (w' : World) : Prop :=
  ∃ v, e = .returned (.tuple #[v, .bool V]) ∧ w'.ownsRow w.heap.size 3 1 v l.length (l.map (Value.int .i64)) ∧ Below w.heap.size w w'
/-- the characters, if it is right UTF-8 -/
def chsL (l : List UInt8) : List Int := if validD l then runesL l else []

set_option maxRecDepth 100000 in
set_option maxHeartbeats 2000000 in
theorem chars_any (s : ByteArray) (w : World) (hs : s.size ≤ 1048576) :
    Calls Tryd.prog 22 #[.string s] w (CharsPost w (validD s.data.toList) (chsL s.data.toList)) := by
  obtain ⟨i0, hi, hz0, hz1, hz2⟩ := info_parts info_int
  have el : s.data.toList.length = s.size := by rw [Array.length_toList]; rfl
  obtain ⟨V, hV⟩ : ∃ V, validD s.data.toList = V := ⟨_, rfl⟩
  obtain ⟨X, hX⟩ : ∃ X, chsL s.data.toList = X := ⟨_, rfl⟩
  rw [hX, hV]
  unfold chsL at hX
  rw [hV] at hX
  have HX := Lib.hid hX
  clear hX
  have HV := Lib.hid hV
  have EL := Lib.hid el
  clear hV el
  go_enter Tryd.func22, Tryd.ntmps22
  go_wp2_with fail
  go_loopw [4, 5] (fun v i wr => ∃ (pos : Nat) (acc : List Int), pos ≤ s.size ∧ i = .int .i64 (pos : Int) ∧ acc.length ≤ pos ∧ wr.ownsRow w.heap.size 3 1 v acc.length (acc.map (Value.int .i64)) ∧
      Below w.heap.size w wr ∧ Hid (V = validD (s.data.toList.drop pos)) ∧ Hid (acc ++ runesL (s.data.toList.drop pos) = runesL s.data.toList)) (fun _ i _ => s.size - (intOf i).toNat)
  case atStart => exact ⟨0, [], Nat.zero_le _, rfl, Nat.zero_le _, World.ownsRow_nil _ _ _ _, Below.refl _ _, Lib.hid HV.out.symm, Lib.hid rfl⟩
  case round =>
    obtain ⟨pos, acc, hp, rfl, hal, hown, hbw, HVp, HRp⟩ := hrel
    by_cases hlt : pos < s.size
    · have hco : Calls Tryd.prog 33 #[.string (s.extract pos s.size)] wr _ := one_any (s.extract pos s.size) wr (by rw [Lib.ext_size]; omega)
      rw [Lib.ext_list] at hco
      have hne := drop_ne s pos hlt
      have hst := one_stop _ hne
      have hgo := one_go _ hne
      have hdl : (s.data.toList.drop pos).length = s.size - pos := by rw [List.length_drop, EL.out]
      generalize (oneL (s.data.toList.drop pos)).1 = N at hco hgo
      generalize (oneL (s.data.toList.drop pos)).2 = M at hco hst hgo
      have HCO := Lib.hid hco
      have HST := Lib.hid hst
      have HGO := Lib.hid hgo
      have HDL := Lib.hid hdl
      clear hco hne hst hgo hdl
      go_wp2_with fail
      refine HCO.out.mono ?_
      rintro e w1 ⟨rfl, rfl⟩
      by_cases hm : M = 0
      · have hmb : ((M : Int) == 0) = true := by simp [hm]
        have hf := HST.out hm
        rw [← HVp.out] at hf
        have HF := Lib.hid hf
        clear hf hm HCO HST HGO
        go_wp2_with fail
        go_ret2
        have hx := HX.out
        rw [HF.out, if_neg (by simp)] at hx
        rw [← hx, HF.out]
        exact ⟨_, rfl, World.ownsRow_nil _ _ _ _, hbw⟩
      · have hmb : ((M : Int) == 0) = false := by rw [beq_eq_false_iff_ne]; omega
        obtain ⟨g1, g2, g3, g4, g5⟩ := HGO.out hm
        rw [HDL.out] at g4
        rw [List.drop_drop] at g1 g2
        have HV2 : Hid (V = validD (s.data.toList.drop (pos + M))) := Lib.hid (HVp.out.trans g1)
        have HR2 : Hid ((acc ++ [(N : Int)]) ++ runesL (s.data.toList.drop (pos + M)) = runesL s.data.toList) := Lib.hid (by rw [← HRp.out, g2, List.append_assoc]; rfl)
        have hwb := hbw.size
        clear g1 g2 hm HCO HST HGO HVp HRp
        go_wp2_with (at_builtin; refine wpList_append_own _ rfl _ _ 39 rfl w.heap.size 3 i0 (.int .i64 0) 1 8 Tryd.underlying39 hi hz0 hz1 hz2 rfl (by decide) _ _ _ rfl (hown.alloc _) ⟨wr.heap.size, 0, none⟩ 1 1 [.int .i64 (N : Int)] rfl rfl ?c1 ?c2 ?c3 ?c4 ?c5 ?_)
        case c1 =>
          intro j u hj
          match j, hj with
          | 0, hj => simp at hj; subst hj; simp [Addr.add]
        case c2 => intro u hu; simp at hu; subst hu; rfl
        case c3 => unfold maxLen; omega
        case c4 => omega
        case c5 => simp; omega
        intro v' w1 hown' hgrow _
        have hb1 : Below w.heap.size w w1 := (hbw.alloc hwb _).grown hgrow (by simp; omega) (fun k hk => by
          rcases hown.2 with ⟨rfl, _⟩ | ⟨g, cap, cur, rfl, hg, _⟩
          · simp [Value.ownBlock] at hk
          · simp [Value.ownBlock] at hk; omega)
        have hown2 : w1.ownsRow w.heap.size 3 1 v' (acc ++ [(N : Int)]).length ((acc ++ [(N : Int)]).map (Value.int .i64)) := by
          rw [List.length_append, List.map_append]
          exact hown'
        clear hown' hgrow hown
        go_wp2_with fail
        go_roundw
        case rel => exact ⟨pos + M, acc ++ [(N : Int)], by omega, by go_num, by rw [List.length_append]; simp; omega, hown2, hb1, HV2, HR2⟩
        case measure => simp [intOf]; omega
    · have hnil := drop_end s pos hlt
      have hv := HVp.out
      have hr := HRp.out
      rw [hnil] at hv hr
      have HV1 := Lib.hid hv
      have HR1 := Lib.hid hr
      clear hnil hv hr HVp HRp
      go_wp2_with fail
      go_ret2
      have hv : V = true := HV1.out
      have hr : acc = runesL s.data.toList := by have := HR1.out; rw [runesL_nil, List.append_nil] at this; exact this
      have hx := HX.out
      rw [hv, if_pos rfl, ← hr] at hx
      rw [← hx, hv]
      exact ⟨_, rfl, hown, hbw⟩
end Go.Proofs.YtffbooapdlpocaaDoor.Char
