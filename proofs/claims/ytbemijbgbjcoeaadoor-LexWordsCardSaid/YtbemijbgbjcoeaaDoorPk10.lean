/- The walk of the document's own Lit. -/
import Derived.Test.YtbemijbgbjcoeaaDoorPk09
import Derived.Test.YtbemijbgbjcoeaaDoorPk04
namespace Go.Proofs.YtbemijbgbjcoeaaDoor.Char
end Go.Proofs.YtbemijbgbjcoeaaDoor.Char
namespace Go.Proofs.YtbemijbgbjcoeaaDoor.Fig
open Go.Proofs.YtbemijbgbjcoeaaDoor.Char Go.RowKit Go.Lib

theorem drop_cons (l : List UInt8) (k : Nat) (h : k < l.length) : l.drop k = l.getD k 0 :: l.drop (k + 1) := by
  have hg : l.getD k 0 = l[k] := by simp [List.getD, List.getElem?_eq_getElem h]
  rw [List.drop_eq_getElem_cons h, hg]
theorem lt10 {l : List Nat} {d : Nat} (hl : ∀ x ∈ l, x < 10) (hd : d < 10) : ∀ x ∈ l ++ [d], x < 10 := snoc_lt hl hd

set_option maxRecDepth 100000 in
set_option maxHeartbeats 8000000 in
theorem refLit_any (l : List UInt8) (w : World) (hl : l.length ≤ 500) :
    Calls Tryd.prog 44 #[.string (bs l)] w fun e w' => e = .returned (.tuple #[decV (litX (litL l)), .bool (litL l).isSome]) ∧ Below w.heap.size w w' := by
  obtain ⟨R, hR⟩ : ∃ R, litL l = R := ⟨_, rfl⟩
  rw [hR]
  have hgo : litGo (l.drop 0) 0 0 0 [] = R := by rw [List.drop_zero, litGo_eq, hR]
  have HGO0 := Lib.hid hgo
  have hsz : (bs l).size = l.length := bs_size l
  have HSZ := Lib.hid hsz
  obtain ⟨W0, hW0⟩ : ∃ W0, W0 = w.alloc (Obj.cells #[Value.int IntKind.i64 0, Value.int IntKind.i64 0] 25) := ⟨_, rfl⟩
  have aft : ∀ w1, Below W0.heap.size W0 w1 → w1.cell? ⟨w.heap.size, 0, none⟩ = some (.int .i64 0) ∧ w1.cell? ⟨w.heap.size, 1, none⟩ = some (.int .i64 0) ∧ w1.frozen? ⟨w.heap.size, 0, none⟩ = false ∧ w1.frozen? ⟨w.heap.size, 1, none⟩ = false ∧ w.heap.size < w1.heap.size ∧ Below w.heap.size w w1 := fun w1 h => by
    rw [hW0] at h
    exact kept_new w _ _ 25 w1 h
  have AFT := Lib.hid aft
  have HW0 := Lib.hid hW0
  clear hR hgo hW0 aft
  go_enter Tryd.func44, Tryd.ntmps44
  go_wp2_with fail
  rw [← HW0.out]
  go_loopw [4, 5, 6, 7, 8] (fun v p m b k wr => ∃ (acc : List Nat) (pp mm bb kk : Nat), p = .int .i64 (pp : Int) ∧ m = .int .i64 (mm : Int) ∧ b = .int .i64 (bb : Int) ∧ k = .int .i64 (kk : Int) ∧ kk ≤ l.length ∧ pp ≤ kk ∧ mm ≤ kk ∧ bb ≤ kk ∧ acc.length ≤ kk ∧ Hid (pp = 0 → bb = 0) ∧
      Hid (∀ d ∈ acc, d < 10) ∧ Owns W0.heap.size wr v acc ∧ Below W0.heap.size W0 wr ∧ Hid (litGo (l.drop kk) pp mm bb acc = R)) (fun _ _ _ _ k _ => l.length - (RowKit.intOf k).toNat)
  case atStart => exact ⟨[], 0, 0, 0, 0, rfl, rfl, rfl, rfl, by omega, by omega, by omega, by omega, by simp, Lib.hid (fun _ => rfl), Lib.hid (fun d hd => by cases hd), Owns.nil _ _, Below.refl _ _, HGO0⟩
  case round =>
    clear HGO0
    obtain ⟨acc, p, m, b, k, rfl, rfl, rfl, rfl, hk, hp, hm, hb, hal, HPB, HD, hown, hbw, HG⟩ := hrel
    by_cases hlt : k < l.length
    · have hlt' : k < (bs l).size := by rw [hsz]; exact hlt
      have hgt := bs_get l k hlt'
      have hg := HG.out
      rw [drop_cons l k hlt] at hg
      generalize l.getD k 0 = c at *
      cases hpt : ptB c with
      | true =>
        have hcv : (bs l)[k].toNat = 46 := by rw [hgt]; unfold ptB at hpt; exact beq_iff_eq.1 hpt
        rw [litGo_pt c _ _ _ _ _ hpt] at hg
        have HG' := Lib.hid hg
        have HPB' : Hid (p + 1 = 0 → b = 0) := Lib.hid (fun h => by omega)
        clear hgt hg HG hpt HPB
        go_wp2_with fail
        go_roundw
        case rel => exact ⟨acc, p + 1, m, b, k + 1, by go_num, rfl, rfl, by go_num, by omega, by omega, by omega, by omega, by omega, HPB', HD, hown, hbw, HG'⟩
        case measure => simp [RowKit.intOf]; omega
      | false =>
        cases hdg : digB c with
        | true =>
          have hd := digB_le hdg
          obtain ⟨d, hdd⟩ : ∃ d, d = dval c := ⟨_, rfl⟩
          have hcv : (bs l)[k].toNat = 48 + d := by rw [hgt, hdd]; unfold dval; omega
          have hd9 : d ≤ 9 := by rw [hdd]; unfold dval; omega
          have HD' := Lib.hid (lt10 HD.out (show d < 10 by omega))
          by_cases hp0 : p = 0
          · subst hp0
            have hb0 := HPB.out rfl
            subst hb0
            rw [litGo_dig0 c _ _ _ _ hdg (by omega), ← hdd] at hg
            have HG' := Lib.hid hg
            clear hgt hg HG hpt hdg hd hdd HD
            go_wp2_with (at_builtin; refine wpList_push rfl _ _ rfl d hown rfl rfl hbw (by omega) (by omega) ?_)
            intro v' w1 hown2 hb1
            clear hown
            go_wp2_with fail
            go_roundw
            case rel => exact ⟨acc ++ [d], 0, m + 1, 0, k + 1, rfl, by go_num, rfl, by go_num, by omega, by omega, by omega, by omega, by simp; omega, Lib.hid (fun _ => rfl), HD', hown2, hb1, HG'⟩
            case measure => simp [RowKit.intOf]; omega
          · rw [litGo_dig1 c _ _ _ _ _ hdg (by omega), ← hdd] at hg
            have hpp : 0 < p := by omega
            have HPB' : Hid (p = 0 → b + 1 = 0) := Lib.hid (fun h => absurd h hp0)
            by_cases hb6 : b + 1 ≤ 6
            · rw [if_pos hb6] at hg
              have HG' := Lib.hid hg
              clear hgt hg HG hpt hdg hd hdd HD HPB hp0
              go_wp2_with (at_builtin; refine wpList_push rfl _ _ rfl d hown rfl rfl hbw (by omega) (by omega) ?_)
              intro v' w1 hown2 hb1
              clear hown
              go_wp2_with fail
              go_roundw
              case rel => exact ⟨acc ++ [d], p, m + 1, b + 1, k + 1, rfl, by go_num, by go_num, by go_num, by omega, by omega, by omega, by omega, by simp; omega, HPB', HD', hown2, hb1, HG'⟩
              case measure => simp [RowKit.intOf]; omega
            · rw [if_neg hb6] at hg
              have HG' := Lib.hid hg
              clear hgt hg HG hpt hdg hd hdd HD' HPB hp0
              go_wp2_with fail
              go_roundw
              case rel => exact ⟨acc, p, m + 1, b + 1, k + 1, rfl, by go_num, by go_num, by go_num, by omega, by omega, by omega, by omega, by omega, HPB', HD, hown, hbw, HG'⟩
              case measure => simp [RowKit.intOf]; omega
        | false =>
          rw [litGo_bad c _ _ _ _ _ hpt hdg] at hg
          have XN : Hid (R = none) := Lib.hid hg.symm
          obtain ⟨n, hcv⟩ : ∃ n, (bs l)[k].toNat = n := ⟨_, rfl⟩
          have hn46 : ((n : Int) == 46) = false := by
            rw [beq_eq_false_iff_ne]
            intro h
            unfold ptB at hpt
            rw [← hgt, hcv, beq_eq_false_iff_ne] at hpt
            omega
          have hn : n < 48 ∨ (¬ n < 48 ∧ 57 < n) := by
            unfold digB at hdg
            rw [← hgt, hcv, Bool.and_eq_false_iff, decide_eq_false_iff_not, decide_eq_false_iff_not] at hdg
            omega
          obtain ⟨k0, k1, f0, f1, hs2, hbb⟩ := AFT.out _ hbw
          clear hgt hg HG hpt hdg hown HPB HD
          rcases hn with h1 | ⟨h1, h2⟩
          all_goals
            go_wp2_with fail
            exact end_lit rfl wr w.heap.size _ _ false k0 k1 rfl rfl rfl ⟨by rw [XN.out]; rfl, (hbb.setCell (Nat.le_refl _) _).setCell (Nat.le_refl _) _⟩
    · have hg := HG.out
      rw [List.drop_eq_nil_of_le (by omega)] at hg
      have hg' : (if 1 < p ∨ m = 0 then none else some (fitD (val (acc ++ List.replicate (6 - b) 0).reverse : Int))) = R := hg
      by_cases hbad : 1 < p ∨ m = 0
      · rw [if_pos hbad] at hg'
        have XN : Hid (R = none) := Lib.hid hg'.symm
        obtain ⟨k0, k1, f0, f1, hs2, hbb⟩ := AFT.out _ hbw
        have hbad2 : 1 < p ∨ (¬ 1 < p ∧ m = 0) := by omega
        clear hg hg' HG hown HPB HD hbad
        rcases hbad2 with h1 | ⟨h1, rfl⟩
        all_goals
          go_wp2_with fail
          exact end_lit rfl wr w.heap.size _ _ false k0 k1 rfl rfl rfl ⟨by rw [XN.out]; rfl, (hbb.setCell (Nat.le_refl _) _).setCell (Nat.le_refl _) _⟩
      · rw [if_neg hbad] at hg'
        obtain ⟨N, hN⟩ : ∃ N, acc ++ List.replicate (6 - b) 0 = N := ⟨_, rfl⟩
        rw [hN] at hg'
        have hNd : ∀ d ∈ N, d < 10 := by
          rw [← hN]
          intro d hd
          rcases List.mem_append.1 hd with h | h
          · exact HD.out d h
          · rw [List.eq_of_mem_replicate h]; omega
        have hNl : N.length ≤ 506 := by rw [← hN, List.length_append, List.length_replicate]; omega
        obtain ⟨n, hn⟩ : ∃ n, val N.reverse = n := ⟨_, rfl⟩
        rw [hn] at hg'
        obtain ⟨Y, hY⟩ : ∃ Y, fitD (n : Int) = Y := ⟨_, rfl⟩
        have hYs : sizedD n false = Y := hY
        rw [hY] at hg'
        have XS : Hid (R = some Y) := Lib.hid hg'.symm
        have CM := fun v W hv => madeL_any false v N.reverse n W hv (fun d hd => hNd d (List.mem_reverse.1 hd)) hn (by rw [List.length_reverse]; omega)
        rw [hYs] at CM
        unfold decV at CM
        have HM := Lib.hid CM
        have HN := Lib.hid hN
        have hp1 : p ≤ 1 := by omega
        have hm0 : ((m : Int) == 0) = false := by rw [beq_eq_false_iff_ne]; omega
        clear hg hg' HG HPB HD hbad hNd hn hY hYs CM hN
        go_wp2_with fail
        go_loopw [4, 9] (fun v i wx => ∃ (acc' : List Nat) (i' : Nat), i = .int .i64 (i' : Int) ∧ i' ≤ 506 ∧ acc'.length ≤ 506 ∧ Owns W0.heap.size wx v acc' ∧ Below W0.heap.size W0 wx ∧ Hid (acc' ++ List.replicate (6 - i') 0 = N)) (fun _ i _ => 6 - (RowKit.intOf i).toNat)
        case atStart => exact ⟨acc, b, rfl, by omega, by omega, hown, hbw, HN⟩
        case round =>
          clear HN hown hbw
          obtain ⟨acc', i, rfl, hi, hal', hown, hbw, HN⟩ := hrel
          by_cases h6 : i < 6
          · have HN' : Hid ((acc' ++ [0]) ++ List.replicate (6 - (i + 1)) 0 = N) := Lib.hid (by rw [← HN.out, List.append_assoc, show 6 - i = (6 - (i + 1)) + 1 by omega, List.replicate_succ]; rfl)
            have hal2 : acc'.length + 1 ≤ 506 := by
              have := congrArg List.length HN.out
              rw [List.length_append, List.length_replicate] at this
              omega
            clear HN
            go_wp2_with (at_builtin; refine wpList_push rfl _ _ rfl 0 hown rfl rfl hbw (by omega) (by omega) ?_)
            intro v' w1 hown2 hb1
            clear hown
            go_wp2_with fail
            go_roundw
            case rel => exact ⟨acc' ++ [0], i + 1, by go_num, by omega, by rw [List.length_append]; exact hal2, hown2, hb1, HN'⟩
            case measure => simp [RowKit.intOf]; omega
          · have hNe : acc' = N := by
              have := HN.out
              rwa [show 6 - i = 0 by omega, List.replicate_zero, List.append_nil] at this
            subst hNe
            clear HN
            obtain ⟨wo, rfl⟩ : ∃ wo : World, wo = wr := ⟨_, rfl⟩
            have hh := hown.holds
            obtain ⟨a, cap, rfl, hcap, _, hcells⟩ := hh
            have HC := Lib.hid hcells
            clear hcells hown
            go_wp2_with fail
            go_loopw [10, 11] (fun v i wx => ∃ (T : List Nat) (kk : Nat), i = .int .i64 ((kk : Int) - 1) ∧ kk ≤ acc'.length ∧ T.length + kk ≤ 506 ∧ Owns wo.heap.size wx v T ∧ Below wo.heap.size wo wx ∧ Hid (T ++ (acc'.take kk).reverse = acc'.reverse)) (fun _ i _ => (RowKit.intOf i + 1).toNat)
            case atStart => exact ⟨[], acc'.length, rfl, Nat.le_refl _, by simpa using hNl, Owns.nil _ _, Below.refl _ _, Lib.hid (by rw [List.take_of_length_le (Nat.le_refl _)]; rfl)⟩
            case round =>
              obtain ⟨T, kk, rfl, hkk, hTl, hownT, hbT, HT⟩ := hrel
              by_cases h0 : 0 < kk
              · obtain ⟨j, rfl⟩ : ∃ j, kk = j + 1 := ⟨kk - 1, by omega⟩
                have ej : ((↑(j + 1) : Int) - 1) = (j : Int) := by omega
                rw [ej]
                obtain ⟨g, rfl, hgs, hc⟩ := HC.out j (by omega)
                have hcell := (hbT.cell (p := ⟨g, j, none⟩) hgs).trans hc
                have hT' : (T ++ [acc'.getD j 0]) ++ (acc'.take j).reverse = acc'.reverse := by
                  have hg : acc'.getD j 0 = acc'[j]'(by omega) := by simp [List.getD, List.getElem?_eq_getElem (show j < acc'.length by omega)]
                  rw [← HT.out, List.take_succ_eq_append_getElem (by omega), List.reverse_append, List.append_assoc, hg]
                  rfl
                have HT' := Lib.hid hT'
                generalize acc'.getD j 0 = d at *
                clear hc hT' HT ej h0
                go_wp2_with (at_builtin; refine wpList_push rfl _ _ rfl d hownT rfl rfl hbT rfl (by omega) ?_)
                intro v' w1 hown2 hb1
                clear hownT
                go_wp2_with fail
                go_roundw
                case rel => exact ⟨T ++ [d], j, rfl, by omega, by rw [List.length_append, List.length_singleton]; omega, hown2, hb1, HT'⟩
                case measure => simp [RowKit.intOf]
              · obtain rfl : kk = 0 := by omega
                have hTe : T = acc'.reverse := by
                  have := HT.out
                  rwa [List.take_zero, List.reverse_nil, List.append_nil] at this
                subst hTe
                obtain ⟨wp, rfl⟩ : ∃ wp : World, wp = wr := ⟨_, rfl⟩
                have hC := HM.out _ wp hownT.holds
                have HC2 := Lib.hid hC
                clear hC hownT HT HC HM
                go_wp2_with fail
                refine HC2.out.mono ?_
                rintro e w5 ⟨rfl, hb5⟩
                have hb6 := hbw.trans ((hbT.trans (hb5.mono hbT.size)).mono hbw.size)
                obtain ⟨k0, k1, f0, f1, hs2, hbb⟩ := AFT.out _ hb6
                clear hb5 hb6 hbT hbw
                go_wp2_with fail
                exact end_lit rfl w5 w.heap.size _ _ true k0 k1 rfl rfl rfl ⟨by rw [XS.out]; rfl, (hbb.setCell (Nat.le_refl _) _).setCell (Nat.le_refl _) _⟩
end Go.Proofs.YtbemijbgbjcoeaaDoor.Fig
