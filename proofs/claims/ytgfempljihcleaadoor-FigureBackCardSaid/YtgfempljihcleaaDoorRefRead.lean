/- The walk of the document's own Read. -/
import Derived.Test.YtgfempljihcleaaDoorRefLit
import Derived.Test.YtgfempljihcleaaDoorRefNeg
import Derived.Test.YtgfempljihcleaaDoorRead
import Derived.Deep.DeepCutAuto
import Derived.Deep.CutBlock
namespace Go.Proofs.YtgfempljihcleaaDoor.Char
open Go.RowKit Go.Lib

theorem head_cons (u : List UInt8) (h : 0 < u.length) : u = u.getD 0 0 :: u.drop 1 := by
  match u, h with
  | c :: t, _ => rfl
theorem last_snoc (u : List UInt8) (n : Nat) (h : u.length = n + 1) : u = u.take n ++ [u.getD n 0] := by
  have h1 := take_snoc u n (by omega)
  rw [List.take_of_length_le (by omega)] at h1
  exact h1
theorem unsg_head (u : List UInt8) : unsg u = if 0 < u.length ∧ u.getD 0 0 = 45 then (u.drop 1, true) else (u, false) := by
  match u with
  | [] => rfl
  | c :: t =>
    by_cases h : c = 45
    · subst h; rw [if_pos ⟨by simp, rfl⟩]; rfl
    · rw [if_neg (fun hh => h hh.2)]
      unfold unsg
      split
      · rename_i h1; injection h1 with h2; exact absurd h2 h
      · rfl

set_option maxRecDepth 100000 in
set_option maxHeartbeats 8000000 in
theorem refRead_any (l : List UInt8) (w : World) (hl : l.length ≤ 500) :
    Calls Tryd.prog 14 #[.string (bs l)] w fun e w' => e = .returned (decV (readD l)) ∧ Below w.heap.size w w' := by
  obtain ⟨R, hR⟩ : ∃ R, readD l = R := ⟨_, rfl⟩
  rw [hR]
  have hRu : readU (rtrim (l.dropWhile spB)) = R := hR
  obtain ⟨X1, hX1⟩ : ∃ X, l.dropWhile spB = X := ⟨_, rfl⟩
  have h1l := dropWhile_le spB l
  rw [hX1] at hRu h1l
  have HX1 := Lib.hid hX1
  have HRU := Lib.hid hRu
  obtain ⟨W0, hW0⟩ : ∃ W0, W0 = w.alloc (Obj.cells #[Value.int IntKind.i64 0, Value.int IntKind.i64 0] 23) := ⟨_, rfl⟩
  have aft : ∀ w1, Below W0.heap.size W0 w1 → w1.cell? ⟨w.heap.size, 0, none⟩ = some (.int .i64 0) ∧ w1.cell? ⟨w.heap.size, 1, none⟩ = some (.int .i64 0) ∧ w1.frozen? ⟨w.heap.size, 0, none⟩ = false ∧ w1.frozen? ⟨w.heap.size, 1, none⟩ = false ∧ w.heap.size < w1.heap.size ∧ Below w.heap.size w w1 := fun w1 h => by
    rw [hW0] at h
    exact kept_new w _ _ 23 w1 h
  have AFT := Lib.hid aft
  have HW0 := Lib.hid hW0
  have CS := fun n W => Lib.hid (refSpace_any n W)
  clear hR hRu hX1 hW0 aft
  go_enter Tryd.func14, Tryd.ntmps14
  go_upto_block 0 with (fail)
  rw [← HW0.out]
  go_cut [0] (fun s wx => s = .string (bs X1) ∧ wx = W0)
  case first =>
    go_wp2_with fail
    go_loop [0] (fun s => ∃ (u : List UInt8), s = .string (bs u) ∧ u.length ≤ 500 ∧ Hid (u.dropWhile spB = X1)) (fun s => match s with | .string B => B.size | _ => 0)
    case atStart => exact ⟨l, rfl, hl, HX1⟩
    case round =>
      clear HX1
      obtain ⟨u, rfl, hul, HU⟩ := hrel
      have hsz : (bs u).size = u.length := bs_size u
      by_cases h0 : 0 < u.length
      · have h0' : 0 < (bs u).size := by rw [hsz]; exact h0
        have hgt := bs_get u 0 h0'
        have hu := head_cons u h0
        generalize u.getD 0 0 = c at hgt hu
        have hsp : spC ((c.toNat : Nat) : Int) = spB c := (spB_eq c).symm
        have hcv : (bs u)[0].toNat = c.toNat := by rw [hgt]
        have hd := HU.out
        rw [hu, List.dropWhile_cons] at hd
        have hn255 := UInt8.toNat_lt c
        obtain ⟨n, hn⟩ : ∃ n, c.toNat = n := ⟨_, rfl⟩
        rw [hn] at hcv hsp hn255
        cases hs : spB c with
        | true =>
          rw [if_pos hs] at hd
          rw [hs] at hsp
          have hex : (bs u).extract 1 u.length = bs (u.drop 1) := by rw [bs_ext, List.take_of_length_le (by rw [List.length_drop]; exact Nat.le_refl _)]
          have hl1 : (u.drop 1).length + 1 = u.length := by rw [List.length_drop]; omega
          have hs1 : (bs (u.drop 1)).size = (u.drop 1).length := bs_size _
          have HD := Lib.hid hd
          have HE := Lib.hid hex
          have HSP := Lib.hid hsp
          generalize u.drop 1 = t at *
          clear hd hu hgt hs HU hex hsp hn
          go_wp2_with fail
          refine (CS _ _).out.mono ?_
          rintro e w1 ⟨rfl, rfl⟩
          rw [HSP.out]
          go_wp2_with fail
          go_round
          case rel => exact ⟨t, congrArg Value.string HE.out, by omega, HD⟩
          case measure => rw [HE.out]; show (bs t).size < (bs u).size; omega
        | false =>
          rw [if_neg (by rw [hs]; simp), ← hu] at hd
          rw [hs] at hsp
          subst hd
          have HSP := Lib.hid hsp
          clear hu hgt hs HU hsp hn
          go_wp2_with fail
          refine (CS _ _).out.mono ?_
          rintro e w1 ⟨rfl, rfl⟩
          rw [HSP.out]
          go_wp2_with fail
          go_meet
          exact ⟨rfl, rfl⟩
      · obtain rfl : u = [] := List.eq_nil_of_length_eq_zero (by omega)
        have hd : [] = X1 := HU.out
        subst hd
        clear HU h0
        go_wp2_with fail
        go_meet
        exact ⟨rfl, rfl⟩
  case rest =>
    clear HX1
    obtain ⟨rfl, rfl⟩ := hcut
    obtain ⟨X2, hX2⟩ : ∃ X, rtrim X1 = X := ⟨_, rfl⟩
    have HX2 := Lib.hid hX2
    have HRU2 : Hid (readU X2 = R) := Lib.hid (by rw [← HX2.out]; exact HRU.out)
    have h2l : X2.length ≤ 500 := by
      have h := dropWhile_le spB X1.reverse
      rw [List.length_reverse] at h
      have e : X2.length = (X1.reverse.dropWhile spB).length := by rw [← hX2]; unfold rtrim; rw [List.length_reverse]
      omega
    clear hX2 HRU
    go_upto_block 2 with (fail)
    go_cut [0] (fun s wx => s = .string (bs X2) ∧ wx = wc)
    case first =>
      go_wp2_with fail
      go_loop [0] (fun s => ∃ (u : List UInt8), s = .string (bs u) ∧ u.length ≤ 500 ∧ Hid (rtrim u = X2)) (fun s => match s with | .string B => B.size | _ => 0)
      case atStart => exact ⟨X1, rfl, by omega, HX2⟩
      case round =>
        clear HX2
        obtain ⟨u, rfl, hul, HU⟩ := hrel
        have hsz : (bs u).size = u.length := bs_size u
        by_cases h0 : 0 < u.length
        · obtain ⟨i, hi⟩ : ∃ i, u.length = i + 1 := ⟨u.length - 1, by omega⟩
          rw [hi] at hsz hul
          have h0' : i < (bs u).size := by omega
          have hgt := bs_get u i h0'
          have hu := last_snoc u i hi
          generalize u.getD i 0 = c at hgt hu
          have hsp : spC ((c.toNat : Nat) : Int) = spB c := (spB_eq c).symm
          have hcv : (bs u)[i].toNat = c.toNat := by rw [hgt]
          have hd := HU.out
          rw [hu, rtrim_snoc] at hd
          have hn255 := UInt8.toNat_lt c
          obtain ⟨n, hn⟩ : ∃ n, c.toNat = n := ⟨_, rfl⟩
          rw [hn] at hcv hsp hn255
          have hex : (bs u).extract 0 i = bs (u.take i) := by rw [bs_ext, List.drop_zero, Nat.sub_zero]
          have hl1 : (u.take i).length = i := by rw [List.length_take]; omega
          have hs1 : (bs (u.take i)).size = i := by rw [bs_size, hl1]
          cases hs : spB c with
          | true =>
            rw [if_pos hs] at hd
            rw [hs] at hsp
            have HD := Lib.hid hd
            have HE := Lib.hid hex
            have HSP := Lib.hid hsp
            generalize u.take i = t at *
            clear hd hu hgt hs HU hex hsp hn hi h0
            go_wp2_with fail
            refine (CS _ _).out.mono ?_
            rintro e w1 ⟨rfl, rfl⟩
            rw [HSP.out]
            go_wp2_with fail
            go_round
            case rel => exact ⟨t, congrArg Value.string HE.out, by omega, HD⟩
            case measure => rw [HE.out]; show (bs t).size < (bs u).size; omega
          | false =>
            rw [if_neg (by rw [hs]; simp), ← hu] at hd
            rw [hs] at hsp
            have HD := Lib.hid hd
            have HSP := Lib.hid hsp
            clear hu hgt hs HU hsp hn hex hl1 hs1 hi h0 hd
            go_wp2_with fail
            refine (CS _ _).out.mono ?_
            rintro e w1 ⟨rfl, rfl⟩
            rw [HSP.out]
            go_wp2_with fail
            go_meet
            exact ⟨by rw [HD.out], rfl⟩
        · obtain rfl : u = [] := List.eq_nil_of_length_eq_zero (by omega)
          have hd : [] = X2 := HU.out
          have HD := Lib.hid hd
          clear HU h0 hd
          go_wp2_with fail
          go_meet
          exact ⟨by rw [HD.out], rfl⟩
    case rest =>
      clear HX2
      obtain ⟨rfl, rfl⟩ := hcut
      have hru := HRU2.out
      rw [readU_eq, unsg_head] at hru
      have hsz : (bs X2).size = X2.length := bs_size X2
      clear HRU2 CS
      by_cases h0 : 0 < X2.length
      · have h0' : 0 < (bs X2).size := by rw [hsz]; exact h0
        have hgt := bs_get X2 0 h0'
        by_cases h45 : X2.getD 0 0 = 45
        · have hc : 0 < X2.length ∧ X2.getD 0 0 = 45 := ⟨h0, h45⟩
          rw [if_pos hc] at hru
          replace hru : ((litL (X2.drop 1)).map negD).getD .nan = R := hru
          have hcv : (bs X2)[0].toNat = 45 := by rw [hgt, h45]; rfl
          have hex : (bs X2).extract 1 X2.length = bs (X2.drop 1) := by rw [bs_ext, List.take_of_length_le (by rw [List.length_drop]; exact Nat.le_refl _)]
          have CL := fun W => refLit_any (X2.drop 1) W (by rw [List.length_drop]; omega)
          have hok := litX_ok ((X2.drop 1))
          generalize litL ((X2.drop 1)) = o at *
          obtain ⟨Y, hY⟩ : ∃ Y, litX o = Y := ⟨_, rfl⟩
          obtain ⟨S, hS⟩ : ∃ S, o.isSome = S := ⟨_, rfl⟩
          have hN := fun W => refNeg_any (outT (litX o)) (outV (litX o)) W (okD_bounds hok)
          rw [toD_out _ hok, hY] at hN
          obtain ⟨Z, hZ⟩ : ∃ Z, negD Y = Z := ⟨_, rfl⟩
          rw [hZ] at hN
          rw [hY, hS] at CL
          unfold aggV decV at hN
          unfold decV at CL
          have hXY : R = if S = false then .nan else Z := by
            rw [← hru, ← hS, ← hZ, ← hY]
            cases o with
            | none => rfl
            | some x => rfl
          have HXY := Lib.hid hXY
          have H3 := Lib.hid CL
          have H4 := Lib.hid hN
          clear CL hN hXY hru hY hZ hS hok
          have HEX := Lib.hid hex
          obtain ⟨V, hV⟩ : ∃ V, bs (X2.drop 1) = V := ⟨_, rfl⟩
          rw [hV] at hex H3
          clear hgt h45 hV HEX
          go_wp2_with fail
          refine (H3.out _).mono ?_
          rintro e w2 ⟨rfl, hb2⟩
          obtain ⟨a2, b2, c2, d2, s2, k2⟩ := AFT.out _ hb2
          clear hb2
          cases S with
          | false =>
            have XN : Hid (R = .nan) := Lib.hid (by rw [HXY.out, if_pos rfl])
            clear HXY H4
            go_wp2_with fail
            exact end_at rfl w.heap.size 1 0 (by go_simp) (by go_simp) rfl rfl ⟨by rw [XN.out]; rfl, ((k2.setCell (Nat.le_refl _) _).setCell (Nat.le_refl _) _).alloc (by simp; omega) _⟩
          | true =>
            have XN : Hid (R = Z) := Lib.hid (by rw [HXY.out, if_neg (by simp)])
            clear HXY
            go_wp2_with fail
            refine (H4.out _).mono ?_
            rintro e w3 ⟨rfl, hb3⟩
            obtain ⟨q0, q1, r0, r1, qs, qb'⟩ := kept_past w2 w3 _ _ _ _ s2 a2 b2 c2 d2 hb3
            have qb := k2.trans (qb'.mono (by omega))
            clear qb' hb3 a2 b2 c2 d2 s2 k2
            go_wp2_with fail
            exact end_at rfl w.heap.size (outT Z) (outV Z) (by go_simp) (by go_simp) rfl rfl ⟨by rw [XN.out]; rfl, (qb.setCell (Nat.le_refl _) _).setCell (Nat.le_refl _) _⟩
        · have hc : ¬ (0 < X2.length ∧ X2.getD 0 0 = 45) := fun h => h45 h.2
          rw [if_neg hc] at hru
          replace hru : (litL X2).getD .nan = R := hru
          obtain ⟨n, hn⟩ : ∃ n, (bs X2)[0].toNat = n := ⟨_, rfl⟩
          have hne : ((n : Int) == 45) = false := by
            rw [beq_eq_false_iff_ne]
            intro h
            apply h45
            rw [← hgt]
            apply UInt8.toNat_inj.1
            rw [hn]
            show n = 45
            omega
          have CL := fun W => refLit_any X2 W (by omega)
          have hok := litX_ok (X2)
          generalize litL (X2) = o at *
          obtain ⟨Y, hY⟩ : ∃ Y, litX o = Y := ⟨_, rfl⟩
          obtain ⟨S, hS⟩ : ∃ S, o.isSome = S := ⟨_, rfl⟩
          have hN := fun W => refNeg_any (outT (litX o)) (outV (litX o)) W (okD_bounds hok)
          rw [toD_out _ hok, hY] at hN
          obtain ⟨Z, hZ⟩ : ∃ Z, negD Y = Z := ⟨_, rfl⟩
          rw [hZ] at hN
          rw [hY, hS] at CL
          unfold aggV decV at hN
          unfold decV at CL
          have hXY : R = if S = false then .nan else Y := by
            rw [← hru, ← hS, ← hY]
            cases o with
            | none => rfl
            | some x => rfl
          have HXY := Lib.hid hXY
          have H3 := Lib.hid CL
          have H4 := Lib.hid hN
          clear CL hN hXY hru hY hZ hS hok
          clear hgt h45
          go_wp2_with fail
          refine (H3.out _).mono ?_
          rintro e w2 ⟨rfl, hb2⟩
          obtain ⟨a2, b2, c2, d2, s2, k2⟩ := AFT.out _ hb2
          clear hb2
          cases S with
          | false =>
            have XN : Hid (R = .nan) := Lib.hid (by rw [HXY.out, if_pos rfl])
            clear HXY H4
            go_wp2_with fail
            exact end_at rfl w.heap.size 1 0 (by go_simp) (by go_simp) rfl rfl ⟨by rw [XN.out]; rfl, ((k2.setCell (Nat.le_refl _) _).setCell (Nat.le_refl _) _).alloc (by simp; omega) _⟩
          | true =>
            have XN : Hid (R = Y) := Lib.hid (by rw [HXY.out, if_neg (by simp)])
            clear HXY H4
            go_wp2_with fail
            exact end_at rfl w.heap.size (outT Y) (outV Y) (by go_simp) (by go_simp) rfl rfl ⟨by rw [XN.out]; rfl, ((k2.setCell (Nat.le_refl _) _).setCell (Nat.le_refl _) _).alloc (by simp; omega) _⟩
      · have hc : ¬ (0 < X2.length ∧ X2.getD 0 0 = 45) := fun h => h0 h.1
        rw [if_neg hc] at hru
        replace hru : (litL X2).getD .nan = R := hru
        have CL := fun W => refLit_any X2 W (by omega)
        have hok := litX_ok (X2)
        generalize litL (X2) = o at *
        obtain ⟨Y, hY⟩ : ∃ Y, litX o = Y := ⟨_, rfl⟩
        obtain ⟨S, hS⟩ : ∃ S, o.isSome = S := ⟨_, rfl⟩
        have hN := fun W => refNeg_any (outT (litX o)) (outV (litX o)) W (okD_bounds hok)
        rw [toD_out _ hok, hY] at hN
        obtain ⟨Z, hZ⟩ : ∃ Z, negD Y = Z := ⟨_, rfl⟩
        rw [hZ] at hN
        rw [hY, hS] at CL
        unfold aggV decV at hN
        unfold decV at CL
        have hXY : R = if S = false then .nan else Y := by
          rw [← hru, ← hS, ← hY]
          cases o with
          | none => rfl
          | some x => rfl
        have HXY := Lib.hid hXY
        have H3 := Lib.hid CL
        have H4 := Lib.hid hN
        clear CL hN hXY hru hY hZ hS hok
        go_wp2_with fail
        refine (H3.out _).mono ?_
        rintro e w2 ⟨rfl, hb2⟩
        obtain ⟨a2, b2, c2, d2, s2, k2⟩ := AFT.out _ hb2
        clear hb2
        cases S with
        | false =>
          have XN : Hid (R = .nan) := Lib.hid (by rw [HXY.out, if_pos rfl])
          clear HXY H4
          go_wp2_with fail
          exact end_at rfl w.heap.size 1 0 (by go_simp) (by go_simp) rfl rfl ⟨by rw [XN.out]; rfl, ((k2.setCell (Nat.le_refl _) _).setCell (Nat.le_refl _) _).alloc (by simp; omega) _⟩
        | true =>
          have XN : Hid (R = Y) := Lib.hid (by rw [HXY.out, if_neg (by simp)])
          clear HXY H4
          go_wp2_with fail
          exact end_at rfl w.heap.size (outT Y) (outV Y) (by go_simp) (by go_simp) rfl rfl ⟨by rw [XN.out]; rfl, ((k2.setCell (Nat.le_refl _) _).setCell (Nat.le_refl _) _).alloc (by simp; omega) _⟩
end Go.Proofs.YtgfempljihcleaaDoor.Char
