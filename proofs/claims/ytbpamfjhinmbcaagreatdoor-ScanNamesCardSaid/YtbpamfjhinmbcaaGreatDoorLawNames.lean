/- LawNames -/
import Derived.Test.YtbpamfjhinmbcaaGreatDoorNamesM
/- The walk of the law ScanNames. -/
namespace Go.Proofs.YtbpamfjhinmbcaaGreatDoor.Char
open Go.RowKit Go.Lib

theorem nmD_len {l : List UInt8} (h : nmD (bs l) = true) : l.length ≤ 32 := by
  unfold nmD at h
  simp only [Bool.and_eq_true, decide_eq_true_eq] at h
  have := h.1.1.2
  rw [bs_size] at this
  exact this
theorem name_yes {l : List UInt8} (h : nmD (bs l) = true) (W : World) : Calls Tryz.prog 14 #[.string (bs l)] W fun e w' => e = .returned (.bool true) ∧ Below W.heap.size W w' := by
  have := refName_any (bs l) W (by have := nmD_len h; rw [bs_size]; omega)
  rw [h] at this
  exact this
theorem text_yes {l : List UInt8} (h : txD l = true) (hl : l.length ≤ 16000) (W : World) : Calls Tryz.prog 13 #[.string (bs l)] W fun e w' => e = .returned (.bool true) ∧ Below W.heap.size W w' := by
  have := refText_any (bs l) W (by rw [bs_size]; omega)
  rw [bs_list, h] at this
  exact this
theorem nodup_ne {qs : List At2} (h : (qs.map (·.1)).Nodup) {i j : Nat} (hi : i < j) (hj : j < qs.length) : ((bs (qs.getD i ([], [])).1).toList == (bs (qs.getD j ([], [])).1).toList) = false := by
  rw [bs_tl, bs_tl, beq_eq_false_iff_ne]
  have hi2 : i < qs.length := by omega
  have e1 : qs.getD i ([], []) = qs[i] := by simp [List.getD, List.getElem?_eq_getElem hi2]
  have e2 : qs.getD j ([], []) = qs[j] := by simp [List.getD, List.getElem?_eq_getElem hj]
  rw [e1, e2]
  have := List.pairwise_iff_getElem.1 h i j (by simpa using hi2) (by simpa using hj) hi
  simpa using this

set_option maxRecDepth 100000 in
set_option maxHeartbeats 32000000 in
theorem names_law (s : ByteArray) (w : World) (hz : s.size ≤ maxLen) (hG : Gl6 w) :
    Calls Tryz.prog 6 #[.string s] w fun e w' => e = .returned (.bool true) ∧ Below w.heap.size w w' := by
  obtain ⟨l, rfl⟩ : ∃ l, s = bs l := ⟨s.data.toList, (bs_of s).symm⟩
  have hsz := bs_size l
  unfold maxLen at hz
  rw [hsz] at hz
  have HG := Lib.hid hG
  have CW := fun W hW => Lib.hid (works_any W hW)
  obtain ⟨G, hF⟩ : ∃ G, scanL l = G := ⟨_, rfl⟩
  have C1 := scan_any l w hz hG
  clear hG
  unfold ScPost at C1
  rw [hF] at C1
  cases G with
  | inl err =>
    have he0 : err ≠ 0 := by
      unfold scanL at hF
      split at hF
      · cases hF; decide
      · split at hF
        · cases hF; decide
        · exact scanF_errne hF
    have E1 : Hid (Calls Tryz.prog 8 #[.string (bs l)] w fun e w' => e = .returned (.tuple #[.slice none 0 0, .int .i64 (err : Int)]) ∧ Below w.heap.size w w') := Lib.hid C1
    have hn1 : ((err : Int) != 0) = true := by rw [bne_iff_ne]; omega
    clear C1 hF
    go_enter Tryz.func6, Tryz.ntmps6
    go_wp2_with fail
    refine E1.out.mono ?_
    rintro e w1 ⟨rfl, h1⟩
    have G1 := Lib.hid (HG.out.below h1)
    clear E1
    go_wp2_with fail
    refine (CW _ G1.out).out.mono ?_
    rintro e w2 ⟨rfl, h2⟩
    go_wp2_with fail
    go_ret
    exact ⟨rfl, h1.trans (h2.mono h1.size)⟩
  | inr ts =>
    have hgd := scanL_good hF
    obtain ⟨hz1, hz2⟩ := scanL_len hF
    have E1 : Hid (Calls Tryz.prog 8 #[.string (bs l)] w fun e w' => ∃ (xs : List TkV) (o : Option Addr) (i j : Nat), xs.map (·.1) = ts ∧ e = .returned (.tuple #[.slice o i j, .int .i64 0]) ∧ OwnsTk w.heap.size w' (.slice o i j) xs ∧ Below w.heap.size w w') := Lib.hid C1
    have HGD := Lib.hid hgd
    have HZ2 := Lib.hid hz2
    clear C1 hF hgd hz2
    go_enter Tryz.func6, Tryz.ntmps6
    go_wp2_with fail
    refine E1.out.mono ?_
    rintro e w1 ⟨xs, o, i, j, hxs, rfl, ho, h1⟩
    obtain rfl := ho.len
    have hxl : xs.length ≤ 4000 := by
      have := congrArg List.length hxs
      rw [List.length_map] at this
      omega
    have HX : Hid (∀ k, (hk : k < xs.length) → GdT xs[k].1 ∧ xs[k].1.ats.length ≤ 4001) := Lib.hid (fun k hk => by
      have hm : xs[k].1 ∈ ts := by rw [← hxs]; exact List.mem_map_of_mem (List.getElem_mem hk)
      exact ⟨HGD.out _ hm, HZ2.out _ hm⟩)
    have G1 := Lib.hid (HG.out.below h1)
    have O1 := Lib.hid ho
    have H1 := Lib.hid h1
    clear E1 ho hxs h1 HGD HZ2
    go_wp2_with fail
    go_loopw [5] (fun v wr => ∃ k : Nat, v = .int .i64 (k : Int) ∧ k ≤ xs.length ∧ Hid (Below w1.heap.size w1 wr)) (fun v _ => xs.length - (RowKit.intOf v).toNat)
    case atStart => exact ⟨0, rfl, Nat.zero_le _, Lib.hid (Below.refl _ _)⟩
    case round =>
      obtain ⟨k, rfl, hk, HB⟩ := hrel
      by_cases hlt : k < xs.length
      · obtain ⟨g, rfl, _, hg0, q0, q1, q2, q3, q4⟩ := O1.out.reads k hlt
        have hat := O1.out.2 _ (List.getElem_mem hlt)
        obtain ⟨hgd, hal⟩ := HX.out k hlt
        generalize xs[k] = x at *
        obtain ⟨⟨kd, nm, tx, qs, em⟩, v1⟩ := x
        dsimp only at q0 q1 q2 q3 q4 hat hal
        obtain ⟨oa, ia, ja, rfl⟩ := hat.form
        obtain rfl := hat.len
        have r0 := (HB.out.cell (p := ⟨g, k * 5, none⟩) hg0).trans q0
        have r1 := (HB.out.cell (p := ⟨g, k * 5 + 1, none⟩) hg0).trans q1
        have r2 := (HB.out.cell (p := ⟨g, k * 5 + 2, none⟩) hg0).trans q2
        have HR2 := Lib.hid (fun (W : World) (hb : Below w1.heap.size w1 W) => (hb.cell (p := ⟨g, k * 5 + 2, none⟩) hg0).trans q2)
        have HR3 := Lib.hid (fun (W : World) (hb : Below w1.heap.size w1 W) => (hb.cell (p := ⟨g, k * 5 + 3, none⟩) hg0).trans q3)
        have r4 : True := trivial
        have hsz1 := HB.out.size
        have CT := fun W => Lib.hid (text_yes hgd.tx hgd.tl W)
        have HAT := Lib.hid hat
        have HND := Lib.hid hgd.nd
        have HNQ := Lib.hid hgd.ats
        have hkd : kd = 3 ∨ kd = 4 ∨ (kd ≠ 3 ∧ kd ≠ 4 ∧ nmD (bs nm) = true) := by
          by_cases h3 : kd = 3
          · exact .inl h3
          · by_cases h4 : kd = 4
            · exact .inr (.inl h4)
            · exact .inr (.inr ⟨h3, h4, hgd.nm h3 h4⟩)
        clear hgd hat q0 q1 q2 q3 q4
        rcases hkd with rfl | rfl | ⟨hk3, hk4, hnm⟩
        · go_wp2_with fail
          refine (CT _).out.mono ?_
          rintro e w3 ⟨rfl, h3⟩
          have HB2 := HB
          clear HB CT r0 r1 r2 r4
          have HB3 := Lib.hid (HB2.out.trans (h3.mono HB2.out.size))
          clear h3 HB2
          go_wp2_with fail
          go_loopw [6] (fun v wr => ∃ j : Nat, v = .int .i64 (j : Int) ∧ j ≤ qs.length ∧ Hid (Below w1.heap.size w1 wr)) (fun v _ => qs.length - (RowKit.intOf v).toNat)
          case atStart => exact ⟨0, rfl, Nat.zero_le _, HB3⟩
          case round =>
            obtain ⟨j, rfl, hj, HBj⟩ := hrel
            have r3 := HR3.out _ HBj.out
            clear HB3
            by_cases hlj : j < qs.length
            · obtain ⟨ga, rfl, _, hga, a0, _⟩ := (HAT.out.keep (fun k _ hk => HBj.out.block k hk)).reads j hlj
              have CN := fun W => Lib.hid (name_yes (HNQ.out (qs.getD j ([], [])) (by simp [List.getD, List.getElem?_eq_getElem hlj])) W)
              obtain ⟨nj, hnj⟩ : ∃ n, (qs.getD j ([], [])).1 = n := ⟨_, rfl⟩
              rw [hnj] at a0 CN
              have HNJ := Lib.hid hnj
              clear hnj
              go_wp2_with fail
              refine (CN _).out.mono ?_
              rintro e w5 ⟨rfl, h5⟩
              have HB5 := Lib.hid (HBj.out.trans (h5.mono HBj.out.size))
              clear h5 CN r3 a0 HBj
              go_wp2_with fail
              go_loopw [7] (fun v wr => ∃ i : Nat, v = .int .i64 (i : Int) ∧ i ≤ j ∧ Hid (Below w1.heap.size w1 wr)) (fun v _ => j - (RowKit.intOf v).toNat)
              case atStart => exact ⟨0, rfl, Nat.zero_le _, HB5⟩
              case round =>
                obtain ⟨i, rfl, hi, HBi⟩ := hrel
                clear HB5
                by_cases hij : i < j
                · have r3 := HR3.out _ HBi.out
                  obtain ⟨g1, hg1, _, hga1, a0, _⟩ := (HAT.out.keep (fun k _ hk => HBi.out.block k hk)).reads j hlj
                  obtain ⟨g2, hg2, _, hga2, b0, _⟩ := (HAT.out.keep (fun k _ hk => HBi.out.block k hk)).reads i (by omega)
                  obtain rfl : ga = g1 := by simpa using hg1
                  obtain rfl : ga = g2 := by simpa using hg2
                  have hne := nodup_ne HND.out hij hlj
                  clear hg1 hg2
                  obtain ⟨ni, hni⟩ : ∃ n, (qs.getD i ([], [])).1 = n := ⟨_, rfl⟩
                  rw [hni] at b0 hne
                  rw [HNJ.out] at a0 hne
                  clear hni
                  go_wp2_with fail
                  go_quiet (fail)
                  go_wp2_with fail
                  go_roundw
                  case rel => exact ⟨i + 1, by go_num, by omega, Lib.hid (HBi.out.trans ((below_drewN5 _ _).mono HBi.out.size))⟩
                  case measure => simp [RowKit.intOf]; omega
                · go_wp2_with fail
                  go_roundw
                  case rel => exact ⟨j + 1, by go_num, by omega, HBi⟩
                  case measure => simp [RowKit.intOf]; omega
            · go_wp2_with fail
              go_roundw
              case rel => exact ⟨k + 1, by go_num, by omega, HBj⟩
              case measure => simp [RowKit.intOf]; omega
        · go_wp2_with fail
          refine (CT _).out.mono ?_
          rintro e w3 ⟨rfl, h3⟩
          have HB2 := HB
          clear HB CT r0 r1 r2 r4
          have HB3 := Lib.hid (HB2.out.trans (h3.mono HB2.out.size))
          clear h3 HB2
          go_wp2_with fail
          go_loopw [6] (fun v wr => ∃ j : Nat, v = .int .i64 (j : Int) ∧ j ≤ qs.length ∧ Hid (Below w1.heap.size w1 wr)) (fun v _ => qs.length - (RowKit.intOf v).toNat)
          case atStart => exact ⟨0, rfl, Nat.zero_le _, HB3⟩
          case round =>
            obtain ⟨j, rfl, hj, HBj⟩ := hrel
            have r3 := HR3.out _ HBj.out
            clear HB3
            by_cases hlj : j < qs.length
            · obtain ⟨ga, rfl, _, hga, a0, _⟩ := (HAT.out.keep (fun k _ hk => HBj.out.block k hk)).reads j hlj
              have CN := fun W => Lib.hid (name_yes (HNQ.out (qs.getD j ([], [])) (by simp [List.getD, List.getElem?_eq_getElem hlj])) W)
              obtain ⟨nj, hnj⟩ : ∃ n, (qs.getD j ([], [])).1 = n := ⟨_, rfl⟩
              rw [hnj] at a0 CN
              have HNJ := Lib.hid hnj
              clear hnj
              go_wp2_with fail
              refine (CN _).out.mono ?_
              rintro e w5 ⟨rfl, h5⟩
              have HB5 := Lib.hid (HBj.out.trans (h5.mono HBj.out.size))
              clear h5 CN r3 a0 HBj
              go_wp2_with fail
              go_loopw [7] (fun v wr => ∃ i : Nat, v = .int .i64 (i : Int) ∧ i ≤ j ∧ Hid (Below w1.heap.size w1 wr)) (fun v _ => j - (RowKit.intOf v).toNat)
              case atStart => exact ⟨0, rfl, Nat.zero_le _, HB5⟩
              case round =>
                obtain ⟨i, rfl, hi, HBi⟩ := hrel
                clear HB5
                by_cases hij : i < j
                · have r3 := HR3.out _ HBi.out
                  obtain ⟨g1, hg1, _, hga1, a0, _⟩ := (HAT.out.keep (fun k _ hk => HBi.out.block k hk)).reads j hlj
                  obtain ⟨g2, hg2, _, hga2, b0, _⟩ := (HAT.out.keep (fun k _ hk => HBi.out.block k hk)).reads i (by omega)
                  obtain rfl : ga = g1 := by simpa using hg1
                  obtain rfl : ga = g2 := by simpa using hg2
                  have hne := nodup_ne HND.out hij hlj
                  clear hg1 hg2
                  obtain ⟨ni, hni⟩ : ∃ n, (qs.getD i ([], [])).1 = n := ⟨_, rfl⟩
                  rw [hni] at b0 hne
                  rw [HNJ.out] at a0 hne
                  clear hni
                  go_wp2_with fail
                  go_quiet (fail)
                  go_wp2_with fail
                  go_roundw
                  case rel => exact ⟨i + 1, by go_num, by omega, Lib.hid (HBi.out.trans ((below_drewN5 _ _).mono HBi.out.size))⟩
                  case measure => simp [RowKit.intOf]; omega
                · go_wp2_with fail
                  go_roundw
                  case rel => exact ⟨j + 1, by go_num, by omega, HBi⟩
                  case measure => simp [RowKit.intOf]; omega
            · go_wp2_with fail
              go_roundw
              case rel => exact ⟨k + 1, by go_num, by omega, HBj⟩
              case measure => simp [RowKit.intOf]; omega
        · have e3 : (kd != 3) = true := by rw [bne_iff_ne]; exact hk3
          have e4 : (kd != 4) = true := by rw [bne_iff_ne]; exact hk4
          have CN := fun W => Lib.hid (name_yes hnm W)
          clear hk3 hk4 hnm
          go_wp2_with fail
          refine (CN _).out.mono ?_
          rintro e w2 ⟨rfl, h2⟩
          have HB2 := Lib.hid (HB.out.trans (h2.mono HB.out.size))
          have r2 := HR2.out _ HB2.out
          clear h2 HB CN r0 r1 r4
          go_wp2_with fail
          refine (CT _).out.mono ?_
          rintro e w3 ⟨rfl, h3⟩
          clear CT r2
          have HB3 := Lib.hid (HB2.out.trans (h3.mono HB2.out.size))
          clear h3 HB2
          go_wp2_with fail
          go_loopw [6] (fun v wr => ∃ j : Nat, v = .int .i64 (j : Int) ∧ j ≤ qs.length ∧ Hid (Below w1.heap.size w1 wr)) (fun v _ => qs.length - (RowKit.intOf v).toNat)
          case atStart => exact ⟨0, rfl, Nat.zero_le _, HB3⟩
          case round =>
            obtain ⟨j, rfl, hj, HBj⟩ := hrel
            have r3 := HR3.out _ HBj.out
            clear HB3
            by_cases hlj : j < qs.length
            · obtain ⟨ga, rfl, _, hga, a0, _⟩ := (HAT.out.keep (fun k _ hk => HBj.out.block k hk)).reads j hlj
              have CN := fun W => Lib.hid (name_yes (HNQ.out (qs.getD j ([], [])) (by simp [List.getD, List.getElem?_eq_getElem hlj])) W)
              obtain ⟨nj, hnj⟩ : ∃ n, (qs.getD j ([], [])).1 = n := ⟨_, rfl⟩
              rw [hnj] at a0 CN
              have HNJ := Lib.hid hnj
              clear hnj
              go_wp2_with fail
              refine (CN _).out.mono ?_
              rintro e w5 ⟨rfl, h5⟩
              have HB5 := Lib.hid (HBj.out.trans (h5.mono HBj.out.size))
              clear h5 CN r3 a0 HBj
              go_wp2_with fail
              go_loopw [7] (fun v wr => ∃ i : Nat, v = .int .i64 (i : Int) ∧ i ≤ j ∧ Hid (Below w1.heap.size w1 wr)) (fun v _ => j - (RowKit.intOf v).toNat)
              case atStart => exact ⟨0, rfl, Nat.zero_le _, HB5⟩
              case round =>
                obtain ⟨i, rfl, hi, HBi⟩ := hrel
                clear HB5
                by_cases hij : i < j
                · have r3 := HR3.out _ HBi.out
                  obtain ⟨g1, hg1, _, hga1, a0, _⟩ := (HAT.out.keep (fun k _ hk => HBi.out.block k hk)).reads j hlj
                  obtain ⟨g2, hg2, _, hga2, b0, _⟩ := (HAT.out.keep (fun k _ hk => HBi.out.block k hk)).reads i (by omega)
                  obtain rfl : ga = g1 := by simpa using hg1
                  obtain rfl : ga = g2 := by simpa using hg2
                  have hne := nodup_ne HND.out hij hlj
                  clear hg1 hg2
                  obtain ⟨ni, hni⟩ : ∃ n, (qs.getD i ([], [])).1 = n := ⟨_, rfl⟩
                  rw [hni] at b0 hne
                  rw [HNJ.out] at a0 hne
                  clear hni
                  go_wp2_with fail
                  go_quiet (fail)
                  go_wp2_with fail
                  go_roundw
                  case rel => exact ⟨i + 1, by go_num, by omega, Lib.hid (HBi.out.trans ((below_drewN5 _ _).mono HBi.out.size))⟩
                  case measure => simp [RowKit.intOf]; omega
                · go_wp2_with fail
                  go_roundw
                  case rel => exact ⟨j + 1, by go_num, by omega, HBi⟩
                  case measure => simp [RowKit.intOf]; omega
            · go_wp2_with fail
              go_roundw
              case rel => exact ⟨k + 1, by go_num, by omega, HBj⟩
              case measure => simp [RowKit.intOf]; omega
      · go_wp2_with fail
        have GE := Lib.hid (G1.out.below HB.out)
        refine (CW _ GE.out).out.mono ?_
        rintro e w2 ⟨rfl, h2⟩
        go_wp2_with fail
        go_ret
        exact ⟨rfl, (H1.out.trans (HB.out.mono H1.out.size)).trans (h2.mono (Nat.le_trans H1.out.size HB.out.size))⟩
end Go.Proofs.YtbpamfjhinmbcaaGreatDoor.Char
