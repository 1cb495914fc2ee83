/- The walk of figure's shown: so many millionths as a text. -/
import Derived.Test.YtgoicjeegfflpaaDoorLay
import Derived.Deep.DeepCutAuto
import Derived.Deep.CutBlock
import Derived.Laws.EntriesVeiled
namespace Go.Proofs.YtgoicjeegfflpaaDoor.Char
open Go.RowKit Go.Lib

/-- what is left, as it lies in its box -/
def leftOf (n : Nat) (w : World) : Nat := match w.cell? ⟨n + 2, 0, none⟩ with | some (.int _ z) => z.toNat | _ => 0
theorem St.leftOf {n : Nat} {w W : World} {acc : List UInt8} {left : Nat} (h : St n w W acc left) : leftOf n W = left := by
  unfold Char.leftOf
  rw [h.2.1]
  show ((left : Int)).toNat = left
  omega
theorem St.facts {n : Nat} {w W : World} {acc : List UInt8} {left : Nat} (h : St n w W acc left) :
    W.cell? ⟨n + 1 + 1, 0, none⟩ = some (.int .i64 (left : Int)) ∧ W.frozen? ⟨n + 1 + 1, 0, none⟩ = false ∧
    W.cell? ⟨n + 1 + 1 + 1, 0, none⟩ = some (.func (.func 40) #[] #[.pointer (some ⟨n + 1, 0, none⟩), .pointer (some ⟨n, 0, none⟩)]) ∧ W.cell? ⟨n + 1, 0, none⟩ = some (.int .i64 (21 - (acc.length : Int))) ∧ n + 1 + 1 < W.heap.size :=
  ⟨h.2.1, h.2.2.1, h.2.2.2.1, h.1.2.1, by have := h.2.2.2.2.1; omega⟩
theorem St.init (w : World) (C : Array Value) (hC : C.size = 21) (m : Nat) :
    St w.heap.size w ((((w.alloc (Obj.cells C 94)).alloc (Obj.cells #[Value.int IntKind.i64 21] 3)).alloc (Obj.cells #[Value.int IntKind.i64 (m : Int)] 2)).alloc
      (Obj.cells #[Value.func (Fn.func 40) #[] #[Value.pointer (some ⟨w.heap.size + 1, 0, none⟩), Value.pointer (some ⟨w.heap.size, 0, none⟩)]] 95)) [] m := by
  have hb : Below w.heap.size w ((((w.alloc (Obj.cells C 94)).alloc (Obj.cells #[Value.int IntKind.i64 21] 3)).alloc (Obj.cells #[Value.int IntKind.i64 (m : Int)] 2)).alloc
      (Obj.cells #[Value.func (Fn.func 40) #[] #[Value.pointer (some ⟨w.heap.size + 1, 0, none⟩), Value.pointer (some ⟨w.heap.size, 0, none⟩)]] 95)) :=
    ((((Below.refl _ _).alloc (Nat.le_refl _) _).alloc (by simp) _).alloc (by simp; omega) _).alloc (by simp; omega) _
  refine ⟨⟨by simp, ?_, ?_, ?_, ?_⟩, ?_, ?_, ?_, ?_, hb⟩
  · show World.cell? _ ⟨w.heap.size + 1, 0, none⟩ = some (.int .i64 21)
    go_simp
  · go_simp
  · intro j hj
    refine ⟨by go_simp, C[j]'(by omega), ?_⟩
    rw [World.cell?_alloc_lt _ _ _ (by simp; omega), World.cell?_alloc_lt _ _ _ (by simp; omega), World.cell?_alloc_lt _ _ _ (by simp), World.cell?_alloc_new, Array.getElem?_eq_getElem (by omega)]
  · intro j hj
    simp at hj
  · show World.cell? _ ⟨w.heap.size + 1 + 1, 0, none⟩ = _
    go_simp
  · show World.frozen? _ ⟨w.heap.size + 1 + 1, 0, none⟩ = _
    go_simp
  · show World.cell? _ ⟨w.heap.size + 1 + 1 + 1, 0, none⟩ = _
    go_simp
  · simp

theorem slice_run (n k L : Nat) (hk : k + L = 21) (hL : 0 < L) (z : Int) (hz : z = (k : Int)) (W : World) :
    (Instr.sliceAt 94 (.pointer (some ⟨n, 0, none⟩)) (some (.int .i64 z)) none none).run Tryd.prog W = .ok (.slice (some ⟨n, k, none⟩) L L) W := by
  subst hz
  have hl : Tryd.prog.arrayLen 94 = 21 := by kernel_rfl
  have he : Tryd.prog.elem 94 = 5 := by kernel_rfl
  have ht : Tryd.prog.underlying 94 = some (.array (Tryd.prog.arrayLen 94) (Tryd.prog.elem 94)) := by rw [hl, he]; kernel_rfl
  rw [run_sliceAt_array_l W 94 ⟨n, 0, none⟩ ht .i64 (k : Int) (by omega) (by rw [hl]; omega), hl, he, Tryd.sizeOf5]
  show Result.ok (slicedAt ⟨n, 0, none⟩ (k : Int).toNat 21 21 1) W = _
  unfold slicedAt
  rw [show (k : Int).toNat = k by omega, if_neg (by omega), Nat.mul_one, show 21 - k = L by omega]
  have hadd : (⟨n, 0, none⟩ : Addr).add k = ⟨n, k, none⟩ := by unfold Addr.add; split <;> simp_all
  rw [hadd]
theorem St.text {n : Nat} {w W : World} {acc : List UInt8} {left : Nat} (h : St n w W acc left) (k : Nat) (hk : k + acc.length = 21) :
    (convert 57 9 (.slice (some ⟨n, k, none⟩) acc.length acc.length)).run Tryd.prog W = .ok (.string (bs acc)) W := by
  refine run_convert_bytes_back W 57 9 5 ⟨n, k, none⟩ acc.length acc Tryd.underlying57 Tryd.underlying5 Tryd.underlying9 ?_
  intro j hj
  have hadd : (⟨n, k, none⟩ : Addr).add j = ⟨n, k + j, none⟩ := by unfold Addr.add; split <;> simp_all
  have hc := h.1.2.2.2.2 j hj
  have hg : acc.getD j 0 = acc[j] := by simp [List.getD, List.getElem?_eq_getElem hj]
  rw [hadd, ← hg, ← hc, show 21 - acc.length = k by omega]

set_option maxRecDepth 100000 in
set_option maxHeartbeats 8000000 in
theorem shown_any (v : Int) (w : World) (h : -9223372036854775807 ≤ v ∧ v ≤ 9223372036854775807) :
    Calls Tryd.prog 27 #[.int .i64 v] w fun e w' => e = .returned (.string (bs (showN v))) ∧ Below w.heap.size w w' := by
  obtain ⟨m, hm⟩ : ∃ m, v.natAbs = m := ⟨_, rfl⟩
  have hmb : m ≤ 9223372036854775807 := by omega
  have hwn : IntKind.i64.wrap (-v) = -v := IntWalk.i64_in _ (by omega)
  have hmax : ∀ (ts : Array TypeId) (t : TypeId) wx, (Builtin.max_ ts t #[.int .i64 v, .int .i64 (-v)]).run Tryd.prog wx = .ok (.int .i64 (m : Int)) wx := fun ts t wx => by
    rw [run_max_int2]
    congr 2
    split <;> omega
  obtain ⟨X, hX⟩ : ∃ X, showN v = X := ⟨_, rfl⟩
  rw [hX]
  unfold showN bodyB at hX
  rw [hm] at hX
  obtain ⟨F, hF⟩ : ∃ F, fr 6 m = F := ⟨_, rfl⟩
  obtain ⟨Q, hQ⟩ : ∃ Q, m / 10 ^ 6 = Q := ⟨_, rfl⟩
  have hFl : F.length ≤ 6 := by rw [← hF]; exact (fr_pad 6 m).1
  have hQb : Q ≤ 9223372036854 := by omega
  have hQl := dg_len_le Q 13 (by omega)
  rw [hF, hQ] at hX
  have HX := Lib.hid hX
  have HF := Lib.hid hF
  have HQ := Lib.hid hQ
  have HQL := Lib.hid hQl
  clear hX hF hQ hm hQl
  go_enter Tryd.func27, Tryd.ntmps27
  go_upto_block 0 with (fail)
  go_cut [6] (fun b wx => ∃ (j left : Nat), b = .int .i64 (j : Int) ∧ j ≤ 6 ∧ left ≤ 9223372036854775807 ∧ Hid (St w.heap.size w wx [] left) ∧ Hid (lo j left = F) ∧ Hid (left / 10 ^ j = Q))
  case first =>
    go_wp2_with fail
    go_loopw [6] (fun b wr => ∃ (j left : Nat), b = .int .i64 (j : Int) ∧ j ≤ 6 ∧ left ≤ 9223372036854775807 ∧ Hid (St w.heap.size w wr [] left) ∧ Hid (fr j left = F) ∧ Hid (left / 10 ^ j = Q)) (fun b _ => (RowKit.intOf b).toNat)
    case atStart => exact ⟨6, m, rfl, by omega, hmb, Lib.hid (St.init w _ rfl m), HF, HQ⟩
    case round =>
      clear HF HQ
      obtain ⟨j, left, rfl, hj, hlb, HS, HF, HQ⟩ := hrel
      obtain ⟨g1, g2, g3, g4, g5⟩ := HS.out.facts
      by_cases hgo : 0 < j ∧ left % 10 = 0
      · obtain ⟨i, rfl⟩ : ∃ i, j = i + 1 := ⟨j - 1, by omega⟩
        have h0 : (left : Int) % 10 = 0 := by omega
        have ecast : ((left / 10 : Nat) : Int) = (left : Int) / 10 := by omega
        have HS' : Hid (St w.heap.size w (wr.setCell ⟨w.heap.size + 1 + 1, 0, none⟩ (.int .i64 ((left : Int) / 10))) [] (left / 10)) := Lib.hid (by rw [← ecast]; exact HS.out.left _)
        have HF' : Hid (fr i (left / 10) = F) := Lib.hid (by rw [← HF.out, fr_zero _ _ hgo.2])
        have HQ' : Hid (left / 10 / 10 ^ i = Q) := Lib.hid (by rw [← HQ.out, Nat.div_div_eq_div_mul, ← Nat.pow_succ'])
        clear hgo HS HF HQ ecast
        go_wp2_with fail
        go_roundw
        case rel => exact ⟨i, left / 10, by go_num, by omega, by omega, HS', HF', HQ'⟩
        case measure => simp [RowKit.intOf]
      · have hst : 0 < j → left % 10 ≠ 0 := fun h0 h1 => hgo ⟨h0, h1⟩
        have HF' : Hid (lo j left = F) := Lib.hid (by rw [← HF.out, fr_lo j left hst])
        by_cases h0 : 0 < j
        · have hz : ((left : Int) % 10 == 0) = false := by rw [beq_eq_false_iff_ne]; have := hst h0; omega
          clear hgo hst HF
          go_wp2_with fail
          go_meet
          exact ⟨j, left, rfl, hj, hlb, HS, HF', HQ⟩
        · obtain rfl : j = 0 := by omega
          clear hgo hst HF
          go_wp2_with fail
          go_meet
          exact ⟨0, left, rfl, hj, hlb, HS, HF', HQ⟩
  case rest =>
    clear HF HQ
    obtain ⟨j, left, rfl, hj, hlb, HS, HF, HQ⟩ := hcut
    go_upto_if 27 with (fail)
    go_cut [6] (fun _ wx => ∃ acc : List UInt8, Hid (St w.heap.size w wx acc Q) ∧ Hid (acc = if F = [] then [] else 46 :: F))
    case first =>
      have el := enters_digit
      have ey := enters_lay
      have hdg := fun wr acc l => layDigit_any w.heap.size w wr acc l
      have HDG := Lib.hid hdg
      have HLAY := Lib.hid (fun wr acc l => lay_any w.heap.size w wr acc l 46)
      clear hdg
      by_cases h0 : 0 < j
      · rw [decide_eq_true h0]
        go_wp2_with fail
        go_loopw [29] (fun i wr => ∃ i' : Nat, i = .int .i64 (i' : Int) ∧ i' ≤ j ∧ Hid (St w.heap.size w wr (lo i' left) (left / 10 ^ i'))) (fun i _ => j - (RowKit.intOf i).toNat)
        case atStart => exact ⟨0, rfl, Nat.zero_le _, Lib.hid (by rw [Nat.pow_zero, Nat.div_one]; exact HS.out)⟩
        case round =>
          clear HS
          obtain ⟨i, rfl, hi, HS⟩ := hrel
          by_cases hlt : i < j
          · have hC := HDG.out wr _ _ HS.out (by rw [lo_length]; omega) (Nat.le_trans (Nat.div_le_self _ _) hlb)
            rw [← lo_front, Nat.div_div_eq_div_mul, ← Nat.pow_succ] at hC
            have HC := Lib.hid hC
            clear hC
            go_wp2_with fail
            refine HC.out.mono ?_
            rintro e w1 ⟨rfl, hs1⟩
            have HS1 := Lib.hid hs1
            clear hs1
            go_wp2_with fail
            go_roundw
            case rel => exact ⟨i + 1, by go_num, by omega, HS1⟩
            case measure => simp [RowKit.intOf]; omega
          · obtain rfl : i = j := by omega
            obtain ⟨g1, g2, g3, g4, g5⟩ := HS.out.facts
            have hC := HLAY.out wr _ _ HS.out (by rw [lo_length]; omega)
            rw [HF.out, HQ.out] at hC
            have hFne : F ≠ [] := by rw [← HF.out]; intro h; have := congrArg List.length h; rw [lo_length] at this; simp at this; omega
            have HFN := Lib.hid hFne
            have HC := Lib.hid hC
            clear hC hFne
            go_wp2_with fail
            refine HC.out.mono ?_
            rintro e w1 ⟨rfl, hs1⟩
            have HS1 := Lib.hid hs1
            clear hs1
            go_wp2_with fail
            go_meet
            exact ⟨_, HS1, Lib.hid (by rw [if_neg HFN.out])⟩
      · obtain rfl : j = 0 := by omega
        have hFe : F = [] := HF.out.symm
        have hQe : left = Q := by have := HQ.out; rwa [Nat.pow_zero, Nat.div_one] at this
        have HS1 : Hid (St w.heap.size w wc [] Q) := Lib.hid (by rw [← hQe]; exact HS.out)
        have HR : Hid (([] : List UInt8) = if F = [] then [] else 46 :: F) := Lib.hid (by rw [if_pos hFe])
        clear hFe hQe HS HDG HLAY
        go_wp2_with fail
        go_meet
        exact ⟨[], HS1, HR⟩
    case rest =>
      obtain ⟨acc, HS, HA⟩ := hcut
      have hal : acc.length ≤ 7 := by
        rw [HA.out]
        split
        · simp
        · rw [List.length_cons]; omega
      have el := enters_digit
      have ey := enters_lay
      have hdg := fun wr acc l => layDigit_any w.heap.size w wr acc l
      have HDG := Lib.hid hdg
      have HLAY := Lib.hid (fun wr acc l => lay_any w.heap.size w wr acc l 45)
      clear hdg
      have hC := HDG.out wc _ _ HS.out (by omega) (by omega)
      have HC := Lib.hid hC
      clear hC
      go_wp2_with fail
      refine HC.out.mono ?_
      rintro e w1 ⟨rfl, hs1⟩
      have HS1 := Lib.hid hs1
      clear hs1
      have hT0 : txs (Q / 10) ++ (chr (Q % 10) :: acc) = tx Q ++ acc := by rw [tx_step, List.append_assoc]; rfl
      obtain ⟨T, hT⟩ : ∃ T, tx Q ++ acc = T := ⟨_, rfl⟩
      rw [hT] at hT0
      have hTne : T ≠ [] := by rw [← hT]; intro h; exact tx_ne Q (List.append_eq_nil_iff.1 h).1
      have HNE := Lib.hid hTne
      have hXT : (if v < 0 then [45] else []) ++ T = X := by rw [← HX.out, ← hT, HA.out]
      have HXT := Lib.hid hXT
      have HT0 := Lib.hid hT0
      have hdl : (dg (Q / 10)).length ≤ 12 := dg_len_le _ 12 (by omega)
      clear hT0 hT hXT HX HA HS hTne
      go_wp2_with fail
      go_loopw [] (fun wr => ∃ (acc' : List UInt8) (left' : Nat), Hid (St w.heap.size w wr acc' left') ∧ acc'.length + (dg left').length ≤ 20 ∧ left' ≤ 9223372036854775807 ∧ Hid (txs left' ++ acc' = T)) (fun wr => leftOf w.heap.size wr)
      case atStart => exact ⟨_, _, HS1, by rw [List.length_cons]; omega, by omega, HT0⟩
      case round =>
        clear HS1 HT0 hdl
        obtain ⟨acc', left', HS, hal', hlb', HT⟩ := hrel
        obtain ⟨g1, g2, g3, g4, g5⟩ := HS.out.facts
        by_cases h0 : 0 < left'
        · have hds := dg_len_step left' (by omega)
          have hC := HDG.out wr _ _ HS.out (by omega) hlb'
          have HC := Lib.hid hC
          have hts := txs_step left' (by omega)
          have HT' : Hid (txs (left' / 10) ++ (chr (left' % 10) :: acc') = T) := Lib.hid (by rw [← HT.out, hts, List.append_assoc]; rfl)
          have hlo := HS.out.leftOf
          have HLO := Lib.hid hlo
          have hlen' : acc'.length + 1 + (dg (left' / 10)).length ≤ 20 := by omega
          clear hC hts HT hlo hds HS
          go_wp2_with fail
          refine HC.out.mono ?_
          rintro e w2 ⟨rfl, hs2⟩
          have hlo2 := hs2.leftOf
          have HLO2 := Lib.hid hlo2
          have HS2 := Lib.hid hs2
          clear hs2 hlo2
          go_wp2_with fail
          go_roundw
          case rel => exact ⟨_, _, HS2, by rw [List.length_cons]; exact hlen', by omega, HT'⟩
          case measure => rw [HLO.out, HLO2.out]; omega
        · obtain rfl : left' = 0 := by omega
          have hTe : acc' = T := HT.out
          subst hTe
          clear HT
          by_cases hv : v < 0
          · have hC := HLAY.out wr _ _ HS.out (by omega)
            have HC := Lib.hid hC
            have hXe : X = 45 :: acc' := by rw [← HXT.out, if_pos hv]; rfl
            have HXE := Lib.hid hXe
            clear hC hXe HXT
            go_wp2_with fail
            refine HC.out.mono ?_
            rintro e w2 ⟨rfl, hs2⟩
            have HS2 := Lib.hid hs2
            obtain ⟨k1, k2, k3, k4, k5⟩ := hs2.facts
            obtain ⟨k, hk⟩ : ∃ k, k + (acc'.length + 1) = 21 := ⟨20 - acc'.length, by omega⟩
            have hsl := slice_run w.heap.size k (acc'.length + 1) hk (by omega) (21 - ((acc'.length : Int) + 1)) (by omega)
            have hcv := hs2.text k hk
            rw [List.length_cons] at hcv
            have hb := hs2.2.2.2.2.2
            clear hs2 hk
            go_wp2_with fail
            go_ret
            exact ⟨by rw [HXE.out]; rfl, hb⟩
          · have hXe : X = acc' := by rw [← HXT.out, if_neg hv]; rfl
            have HXE := Lib.hid hXe
            have hpos : 0 < acc'.length := by
              rcases Nat.eq_zero_or_pos acc'.length with h0 | h0
              · exfalso
                have hne := HNE.out
                exact hne (List.eq_nil_of_length_eq_zero h0)
              · exact h0
            obtain ⟨k, hk⟩ : ∃ k, k + acc'.length = 21 := ⟨21 - acc'.length, by omega⟩
            have hsl := slice_run w.heap.size k acc'.length hk hpos (21 - (acc'.length : Int)) (by omega)
            have hcv := HS.out.text k hk
            have hb := HS.out.2.2.2.2.2
            clear hk hXe HXT
            go_wp2_with fail
            go_ret
            exact ⟨by rw [HXE.out]; rfl, hb⟩
end Go.Proofs.YtgoicjeegfflpaaDoor.Char
