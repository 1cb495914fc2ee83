/- LawPlain -/
import Derived.Test.YtbpamfjhinmbcaaGreatDoorPlainM
import Derived.StillTailTactics
/- The walk of the law ScanPlain. -/
namespace Go.Proofs.YtbpamfjhinmbcaaGreatDoor.Char
open Go.RowKit Go.Lib

theorem take_snoc (l : List UInt8) (k : Nat) (h : k < l.length) : l.take (k + 1) = l.take k ++ [l.getD k 0] := by
  rw [List.take_succ_eq_append_getElem h]
  simp [List.getD, List.getElem?_eq_getElem h]

theorem one_of_map {xs : List TkV} {t : Tk} (h : xs.map (·.1) = [t]) : ∃ x, xs = [x] ∧ x.1 = t := by
  cases xs with
  | nil => simp at h
  | cons x r =>
    cases r with
    | nil => exact ⟨x, rfl, by simpa using h⟩
    | cons y r => simp at h

set_option maxRecDepth 100000 in
set_option maxHeartbeats 16000000 in
theorem plain_law (s : ByteArray) (w : World) (hz : s.size ≤ maxLen) (hG : Gl6 w) :
    Calls Tryz.prog 5 #[.string s] w fun e w' => e = .returned (.bool true) ∧ Below w.heap.size w w' := by
  obtain ⟨l, rfl⟩ : ∃ l, s = bs l := ⟨s.data.toList, (bs_of s).symm⟩
  have hsz := bs_size l
  unfold maxLen at hz
  rw [hsz] at hz
  have HG := Lib.hid hG
  have CW := fun W hW => Lib.hid (works_any W hW)
  have C1 := fun W (hW : Gl6 W) => Lib.hid (scan_any l W (by omega) hW)
  clear hG
  go_enter Tryz.func5, Tryz.ntmps5
  go_wp2_with fail
  go_loop [3] (fun v => ∃ k : Nat, v = .int .i64 (k : Int) ∧ k ≤ l.length ∧ Hid (∀ x, x ∈ l.take k → x ≠ 60 ∧ x ≠ 38)) (fun v => l.length - (RowKit.intOf v).toNat)
  case atStart => exact ⟨0, rfl, Nat.zero_le _, Lib.hid (fun x hx => by simp at hx)⟩
  case round =>
    obtain ⟨k, rfl, hk, HNO⟩ := hrel
    by_cases hlt : k < l.length
    · have hlt' : k < (bs l).size := by rw [hsz]; exact hlt
      have hgt := bs_get l k hlt'
      have hts := Lib.hid (take_snoc l k hlt)
      generalize l.getD k 0 = b at *
      by_cases h60 : b = 60
      · subst h60
        have hg : ((bs l)[k]'hlt').toNat = 60 := by rw [hgt]; rfl
        clear hgt C1
        go_wp2_with fail
        refine (CW _ HG.out).out.mono ?_
        rintro e w1 ⟨rfl, h1⟩
        go_wp2_with fail
        go_ret
        exact ⟨rfl, h1⟩
      by_cases h38 : b = 38
      · subst h38
        have hg : ((bs l)[k]'hlt').toNat = 38 := by rw [hgt]; rfl
        clear hgt C1
        go_wp2_with fail
        refine (CW _ HG.out).out.mono ?_
        rintro e w1 ⟨rfl, h1⟩
        go_wp2_with fail
        go_ret
        exact ⟨rfl, h1⟩
      · obtain ⟨n1, hg, hn1, hn2⟩ : ∃ n1 : Nat, ((bs l)[k]'hlt').toNat = n1 ∧ ((n1 : Int) == 60) = false ∧ ((n1 : Int) == 38) = false := by
          refine ⟨_, by rw [hgt], ?_, ?_⟩
          · rw [beq_eq_false_iff_ne]
            intro hh
            exact h60 (UInt8.toNat_inj.1 (by rw [show (60 : UInt8).toNat = 60 from rfl]; omega))
          · rw [beq_eq_false_iff_ne]
            intro hh
            exact h38 (UInt8.toNat_inj.1 (by rw [show (38 : UInt8).toNat = 38 from rfl]; omega))
        have HN2 : Hid (∀ x, x ∈ l.take (k + 1) → x ≠ 60 ∧ x ≠ 38) := Lib.hid (fun x hx => by
          rw [hts.out, List.mem_append, List.mem_singleton] at hx
          rcases hx with hx | rfl
          · exact HNO.out x hx
          · exact ⟨h60, h38⟩)
        clear hgt h60 h38
        go_wp2_with fail
        go_round
        case rel => exact ⟨k + 1, by go_num, by omega, HN2⟩
        case measure => simp [RowKit.intOf]; omega
    · obtain rfl : k = l.length := by omega
      have hno := HNO.out
      rw [List.take_length] at hno
      have hsp := scan_plain l hno
      clear hno HNO
      have D1 := (C1 w HG.out).out
      unfold ScPost at D1
      by_cases h4 : 4000 < l.length
      · rw [if_pos h4] at hsp
        rw [hsp] at D1
        have E1 : Hid (Calls Tryz.prog 8 #[.string (bs l)] w fun e w' => e = .returned (.tuple #[.slice none 0 0, .int .i64 3]) ∧ Below w.heap.size w w') := Lib.hid D1
        clear D1 C1 hsp
        go_wp2_with fail
        refine E1.out.mono ?_
        rintro e w1 ⟨rfl, h1⟩
        have G1 := Lib.hid (HG.out.below h1)
        clear E1
        go_wp2_with fail
        refine (CW _ G1.out).out.mono ?_
        rintro e w2 ⟨rfl, h2⟩
        go_wp2_with fail
        go_ret
        exact ⟨rfl, h1.trans (h2.mono h1.size)⟩
      have C2 := fun W => refText_any (bs l) W (by omega)
      simp only [bs_list] at C2
      rw [if_neg h4] at hsp
      by_cases ht : txD l = false
      · rw [if_pos ht] at hsp
        rw [hsp] at D1
        rw [ht] at C2
        have E1 : Hid (Calls Tryz.prog 8 #[.string (bs l)] w fun e w' => e = .returned (.tuple #[.slice none 0 0, .int .i64 10]) ∧ Below w.heap.size w w') := Lib.hid D1
        have E2 := fun W => Lib.hid (C2 W)
        clear D1 C1 C2 hsp
        go_wp2_with fail
        refine E1.out.mono ?_
        rintro e w1 ⟨rfl, h1⟩
        have G1 := Lib.hid (HG.out.below h1)
        clear E1
        go_wp2_with fail
        refine (E2 _).out.mono ?_
        rintro e w2 ⟨rfl, h2⟩
        have G2 := Lib.hid (G1.out.below h2)
        clear E2
        go_wp2_with fail
        refine (CW _ G2.out).out.mono ?_
        rintro e w3 ⟨rfl, h3⟩
        go_wp2_with fail
        go_ret
        exact ⟨rfl, (h1.trans (h2.mono h1.size)).trans (h3.mono (Nat.le_trans h1.size h2.size))⟩
      rw [if_neg ht] at hsp
      have htt : txD l = true := by simpa using ht
      rw [htt] at C2
      have E2 := fun W => Lib.hid (C2 W)
      clear C1 C2 ht
      by_cases hn : l = []
      · rw [if_pos hn] at hsp
        rw [hsp] at D1
        have E1 : Hid (Calls Tryz.prog 8 #[.string (bs l)] w fun e w' => ∃ (xs : List TkV) (o : Option Addr) (i j : Nat), xs.map (·.1) = [] ∧ e = .returned (.tuple #[.slice o i j, .int .i64 0]) ∧ OwnsTk w.heap.size w' (.slice o i j) xs ∧ Below w.heap.size w w') := Lib.hid D1
        clear D1 hsp htt
        subst hn
        have i1 : (bs []).toList = [] := bs_tl []
        have i2 : (bs []).toList.isEmpty = true := by rw [i1]; rfl
        have i3 : ((bs []).toList == []) = true := by rw [i1]; rfl
        go_wp2_with fail
        refine E1.out.mono ?_
        rintro e w1 ⟨xs, o, i, j, hxs, rfl, ho, h1⟩
        obtain rfl : xs = [] := by simpa using hxs
        obtain rfl := ho.len
        have G1 := Lib.hid (HG.out.below h1)
        clear E1 ho hxs
        go_wp2_with fail
        refine (E2 _).out.mono ?_
        rintro e w2 ⟨rfl, h2⟩
        have G2 := Lib.hid (G1.out.below h2)
        clear E2
        go_wp2_with fail
        refine (CW _ G2.out).out.mono ?_
        rintro e w3 ⟨rfl, h3⟩
        go_wp2_with fail
        go_ret
        exact ⟨rfl, (h1.trans (h2.mono h1.size)).trans (h3.mono (Nat.le_trans h1.size h2.size))⟩
      · rw [if_neg hn] at hsp
        rw [hsp] at D1
        have E1 : Hid (Calls Tryz.prog 8 #[.string (bs l)] w fun e w' => ∃ (xs : List TkV) (o : Option Addr) (i j : Nat), xs.map (·.1) = [⟨3, [], linesL l, [], false⟩] ∧ e = .returned (.tuple #[.slice o i j, .int .i64 0]) ∧ OwnsTk w.heap.size w' (.slice o i j) xs ∧ Below w.heap.size w w') := Lib.hid D1
        have E3 : ∀ W, Hid (Calls Tryz.prog 12 #[.string (bs l)] W fun e w' => e = .returned (.string (bs (linesL l))) ∧ w' = W) := fun W => Lib.hid ((refLines_any l W (by omega)).mono fun e w' h => ⟨h.1, h.2.symm⟩)
        clear D1 hsp htt
        have i1 : (bs l).toList = l := bs_tl l
        have i4 : l.isEmpty = false := by cases l <;> simp_all
        have i2 : (bs l).toList.isEmpty = false := by rw [i1]; exact i4
        have i3 : ((bs l).toList == []) = false := by rw [i1]; cases l <;> simp_all
        go_wp2_with fail
        refine E1.out.mono ?_
        rintro e w1 ⟨xs, o, i, j, hxs, rfl, ho, h1⟩
        obtain ⟨x, rfl, hx⟩ := one_of_map hxs
        obtain rfl := ho.len
        have hr := ho.reads 0 (by simp)
        simp only [List.getElem_cons_zero, hx] at hr
        generalize linesL l = L at *
        have HR := Lib.hid hr
        have G1 := Lib.hid (HG.out.below h1)
        have H1 := Lib.hid h1
        clear E1 ho hxs hx h1 hr
        go_wp2_with fail
        refine (E2 _).out.mono ?_
        rintro e w2 ⟨rfl, h2⟩
        have G2 := Lib.hid (G1.out.below h2)
        have H2 := Lib.hid (H1.out.trans (h2.mono H1.out.size))
        obtain ⟨g, rfl, _, hg, r0, r1, r2, r3, r4⟩ := HR.out
        have c0 := (h2.cell (p := ⟨g, 0 * 5, none⟩) hg).trans r0
        have c2 := (h2.cell (p := ⟨g, 0 * 5 + 2, none⟩) hg).trans r2
        simp only [Nat.zero_mul, Nat.zero_add] at c0 c2
        have k1 : ((bs L).toList == (bs L).toList) = true := by simp
        clear E2 HR r0 r1 r2 r3 r4
        have G3 := Lib.hid (G2.out.below ((Below.refl w2.heap.size w2).drew))
        have H3 := Lib.hid (H2.out.drew)
        have hs3 : w.heap.size ≤ w2.drew.heap.size := H3.out.size
        go_wp2_with fail
        go_still_tail 24, (by kernel_rfl)
        still_call (E3 _).out
        repeat still_step
        refine wpStill_nil ?_
        change wpList _ _ _ _ _ w2.drew
        go_wp2_with fail
        refine (CW _ G3.out).out.mono ?_
        rintro e w5 ⟨rfl, h5⟩
        have H5 := Lib.hid (H3.out.trans (h5.mono hs3))
        clear h5
        go_wp2_with fail
        go_ret
        exact ⟨rfl, H5.out⟩
end Go.Proofs.YtbpamfjhinmbcaaGreatDoor.Char
