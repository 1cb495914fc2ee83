/- The walk of figure's Read. -/
import Derived.Test.YteooaibbblfmjaaDoorLit
import Derived.Test.YteooaibbblfmjaaDoorNeg
namespace Go.Proofs.YteooaibbblfmjaaDoor.Char
open Go.RowKit Go.Lib

/-- what a pair of cells reads behind a new block, and a call that kept both -/
theorem kept_past (w w3 : World) (o : Obj) (g : Nat) (x y : Value) (hs : g < w.heap.size) (a0 : w.cell? ⟨g, 0, none⟩ = some x) (a1 : w.cell? ⟨g, 1, none⟩ = some y) (f0 : w.frozen? ⟨g, 0, none⟩ = false) (f1 : w.frozen? ⟨g, 1, none⟩ = false)
    (hb : Below (w.alloc o).heap.size (w.alloc o) w3) :
    w3.cell? ⟨g, 0, none⟩ = some x ∧ w3.cell? ⟨g, 1, none⟩ = some y ∧ w3.frozen? ⟨g, 0, none⟩ = false ∧ w3.frozen? ⟨g, 1, none⟩ = false ∧ g < w3.heap.size ∧ Below w.heap.size w w3 := by
  have hb' := ((Below.refl w.heap.size w).alloc (Nat.le_refl _) o).trans (hb.mono (by simp))
  exact ⟨(hb'.cell (p := ⟨g, 0, none⟩) hs).trans a0, (hb'.cell (p := ⟨g, 1, none⟩) hs).trans a1, (hb'.frozen (p := ⟨g, 0, none⟩) hs).trans f0, (hb'.frozen (p := ⟨g, 1, none⟩) hs).trans f1, Nat.lt_of_lt_of_le hs hb'.size, hb'⟩
theorem lit_ok (l : List UInt8) (x : Nm) (h : litL l = some x) : okD x := by
  unfold litL at h
  simp only at h
  split at h
  · injection h with h
    rw [← h]
    exact fitD_ok _
  · cases h
theorem litX_ok (l : List UInt8) : okD (litX (litL l)) := by
  unfold litX
  cases h : litL l with
  | none => exact ⟨by decide, by decide⟩
  | some x => exact lit_ok l x h
theorem readU_eq (u : List UInt8) : readU u = if (unsg u).2 = true then ((litL (unsg u).1).map negD).getD .nan else (litL (unsg u).1).getD .nan := by
  match u with
  | [] => rfl
  | b :: t =>
    by_cases hb : b = 45
    · subst hb; rfl
    · have e : unsg (b :: t) = (b :: t, false) := by
        unfold unsg
        split
        · rename_i h1; injection h1 with h2; exact absurd h2 hb
        · rfl
      have e2 : readU (b :: t) = (litL (b :: t)).getD .nan := by
        unfold readU
        split
        · rename_i h1; injection h1 with h2; exact absurd h2 hb
        · rfl
      rw [e, e2]
      rfl
theorem trimL_le (l : List UInt8) : (trimL l).length ≤ l.length := by
  unfold trimL
  rw [List.length_reverse]
  have h1 := dropWhile_le spB (l.dropWhile spB).reverse
  rw [List.length_reverse] at h1
  have h2 := dropWhile_le spB l
  omega
theorem unsg_le (u : List UInt8) : (unsg u).1.length ≤ u.length := by
  unfold unsg
  split
  · simp
  · exact Nat.le_refl _
theorem readU_ok (u : List UInt8) : okD (readU u) := by
  rw [readU_eq]
  cases h : litL (unsg u).1 with
  | none => split <;> trivial
  | some x =>
    have hx := lit_ok _ x h
    split
    · exact negD_ok x hx
    · exact hx

set_option maxRecDepth 100000 in
set_option maxHeartbeats 8000000 in
theorem read_any (l : List UInt8) (w : World) (hl : l.length ≤ 500) (hT : Tabs w) :
    Calls Tryd.prog 24 #[.string (bs l)] w fun e w' => e = .returned (decV (readD l)) ∧ Below w.heap.size w w' := by
  have htl := trimL_le l
  obtain ⟨X, hX⟩ : ∃ X, readD l = X := ⟨_, rfl⟩
  rw [hX]
  unfold readD at hX
  have CT := fun W (hW : Tabs W) => trim_space l W (by omega) hW
  generalize trimL l = u at hX CT htl
  have CP := fun W => cut_minus u W
  have hul := unsg_le u
  rw [readU_eq] at hX
  generalize hv : (unsg u).1 = v at hX CP hul
  generalize (unsg u).2 = b at hX CP
  have CL := fun W => lit_any v W (by omega)
  have hok := litX_ok v
  generalize litL v = o at hX CL hok
  have hN := fun W => neg_any (outT (litX o)) (outV (litX o)) W (okD_bounds hok)
  rw [toD_out _ hok] at hN
  obtain ⟨Y, hY⟩ : ∃ Y, litX o = Y := ⟨_, rfl⟩
  obtain ⟨Z, hZ⟩ : ∃ Z, negD Y = Z := ⟨_, rfl⟩
  obtain ⟨S, hS⟩ : ∃ S, o.isSome = S := ⟨_, rfl⟩
  have hXY : X = if S = false then .nan else if b = true then Z else Y := by
    rw [← hX, ← hS, ← hZ, ← hY]
    cases o with
    | none => cases b <;> rfl
    | some x => cases b <;> rfl
  rw [hY, hZ] at hN
  rw [hY, hS] at CL
  unfold aggV decV at hN
  unfold decV at CL
  have HT := Lib.hid hT
  have H1 := Lib.hid CT
  have H2 := Lib.hid CP
  have H3 := Lib.hid CL
  have H4 := Lib.hid hN
  have HXY := Lib.hid hXY
  obtain ⟨W0, hW0⟩ : ∃ W0, W0 = w.alloc (Obj.cells #[Value.int IntKind.i64 0, Value.int IntKind.i64 0] 24) := ⟨_, rfl⟩
  have hbw : Below w.heap.size w W0 := by rw [hW0]; exact (Below.refl _ _).alloc (Nat.le_refl _) _
  have hs0 : w.heap.size < W0.heap.size := by rw [hW0]; simp
  have a0 : W0.cell? ⟨w.heap.size, 0, none⟩ = some (.int .i64 0) := by rw [hW0]; go_simp
  have b0 : W0.cell? ⟨w.heap.size, 1, none⟩ = some (.int .i64 0) := by rw [hW0]; go_simp
  have c0 : W0.frozen? ⟨w.heap.size, 0, none⟩ = false := by rw [hW0]; go_simp
  have d0 : W0.frozen? ⟨w.heap.size, 1, none⟩ = false := by rw [hW0]; go_simp
  have HW0 := Lib.hid hW0
  clear hW0 hT CT CP CL hN hXY hX hY hZ hS hok hv htl hul hl
  go_enter Tryd.func24, Tryd.ntmps24
  go_wp2_with fail
  rw [← HW0.out]
  refine (H1.out _ (HT.out.below hbw)).mono ?_
  rintro e w1 ⟨rfl, hb1⟩
  go_wp2_with fail
  refine (H2.out _).mono ?_
  rintro e w1' ⟨rfl, rfl⟩
  go_wp2_with fail
  refine (H3.out _).mono ?_
  rintro e w2 ⟨rfl, hb2⟩
  have h2 := hb1.trans (hb2.mono hb1.size)
  have a2 := (h2.cell (p := ⟨w.heap.size, 0, none⟩) hs0).trans a0
  have b2 := (h2.cell (p := ⟨w.heap.size, 1, none⟩) hs0).trans b0
  have c2 := (h2.frozen (p := ⟨w.heap.size, 0, none⟩) hs0).trans c0
  have d2 := (h2.frozen (p := ⟨w.heap.size, 1, none⟩) hs0).trans d0
  have s2 := Nat.lt_of_lt_of_le hs0 h2.size
  have k2 := hbw.trans (h2.mono hbw.size)
  clear h2 hb2 hb1 a0 b0 c0 d0 hs0 hbw
  cases S with
  | false =>
    have XN : Hid (X = .nan) := Lib.hid (by rw [HXY.out, if_pos rfl])
    clear HXY H4
    go_wp2_with fail
    exact end_at rfl w.heap.size 1 0 (by go_simp) (by go_simp) rfl rfl ⟨by rw [XN.out]; rfl, ((k2.setCell (Nat.le_refl _) _).setCell (Nat.le_refl _) _).alloc (by simp; omega) _⟩
  | true =>
    cases b with
    | true =>
      have XN : Hid (X = Z) := Lib.hid (by rw [HXY.out, if_neg (by simp), if_pos rfl])
      clear HXY
      go_wp2_with fail
      refine (H4.out _).mono ?_
      rintro e w3 ⟨rfl, hb3⟩
      obtain ⟨q0, q1, r0, r1, qs, qb'⟩ := kept_past w2 w3 _ _ _ _ s2 a2 b2 c2 d2 hb3
      have qb := k2.trans (qb'.mono (by omega))
      clear qb'
      clear hb3 a2 b2 c2 d2 s2 k2
      go_wp2_with fail
      exact end_at rfl w.heap.size (outT Z) (outV Z) (by go_simp) (by go_simp) rfl rfl ⟨by rw [XN.out]; rfl, (qb.setCell (Nat.le_refl _) _).setCell (Nat.le_refl _) _⟩
    | false =>
      have XN : Hid (X = Y) := Lib.hid (by rw [HXY.out, if_neg (by simp), if_neg (by simp)])
      clear HXY H4
      go_wp2_with fail
      exact end_at rfl w.heap.size (outT Y) (outV Y) (by go_simp) (by go_simp) rfl rfl ⟨by rw [XN.out]; rfl, ((k2.setCell (Nat.le_refl _) _).setCell (Nat.le_refl _) _).alloc (by simp; omega) _⟩
end Go.Proofs.YteooaibbblfmjaaDoor.Char
