/- The walk of step: a call answers as the document says. -/
import Derived.Test.YtpimdmjhnogelaaPS9
import Derived.Test.YtpimdmjhnogelaaStepIn
import Derived.Deep.RegionHeld3
namespace Go.Proofs.Ytpimdmjhnogelaa.Char
open Go.RowKit Go.Lib

/-- what a step makes of the store -/
def stepS (S : Sto) (x : StV) : Sto := if x.kd = 0 then freshS S else if x.kd = 1 then instS S x.time (x.cs.map toCh) else if x.kd = 2 then sweepS S x.time else S
/-- what a step is, as a value -/
def stV (x : StV) : Value := .agg #[.int .i64 x.kd, .int .i64 x.id, .int .u64 (x.time : Int), x.lv]
set_option maxRecDepth 100000 in
set_option maxHeartbeats 8000000 in
theorem step_any {B : Nat} {w : World} {s d : Nat} {S : Sto} (h : Two B w s d S) (x : StV) (hx : StOk w B x) (hg : S.given ≤ 1000) (hl : S.L.length ≤ 10000) :
    Calls Try.prog 10 #[.pointer (some ⟨s, 0, none⟩), .pointer (some ⟨d, 0, none⟩), stV x] w fun e w' => e = .returned (.bool true) ∧ Two B w' s d (stepS S x) ∧ Below B w w' := by
  have hBw := h.B
  obtain ⟨kd, id, time, cs, lv⟩ := x
  obtain ⟨o, j, hlv⟩ := hx.form
  dsimp only at hlv
  subst hlv
  unfold stV stepS
  dsimp only
  obtain ⟨W1, hW1⟩ : ∃ W1, W1 = w.alloc (.cells #[.int .i64 kd, .int .i64 id, .int .u64 (time : Int), .slice o cs.length j] 31) := ⟨_, rfl⟩
  have hb1 : Below w.heap.size w W1 := by rw [hW1]; exact (Below.refl _ _).alloc (Nat.le_refl _) _
  have hs1 : W1.heap.size = w.heap.size + 1 := by rw [hW1]; simp
  have hk1 : W1.heap[w.heap.size]? = some (.cells #[.int .i64 kd, .int .i64 id, .int .u64 (time : Int), .slice o cs.length j] 31 (0, 0)) := by rw [hW1]; exact World.alloc_heap_new w _
  have hbB : Below B w W1 := hb1.mono hBw
  have hx1 := hx.below hbB
  have HW1 := Lib.hid hW1
  have a0 : W1.cell? ⟨w.heap.size, 0, none⟩ = some (.int .i64 kd) := by simp [World.cell?, hk1]
  have a1 : W1.cell? ⟨w.heap.size, 1, none⟩ = some (.int .i64 id) := by simp [World.cell?, hk1]
  have a2 : W1.cell? ⟨w.heap.size, 2, none⟩ = some (.int .u64 (time : Int)) := by simp [World.cell?, hk1]
  have a3 : W1.cell? ⟨w.heap.size, 3, none⟩ = some (.slice o cs.length j) := by simp [World.cell?, hk1]
  obtain ⟨Z, v, xs, p1, r1, e1, ap⟩ := h
  have hz := p1.zB
  have hown : ∀ k, ownB d v k → k < w.heap.size := fun k hk => (r1.own hk).2
  replace p1 := p1.below hb1
  replace r1 := r1.below hb1
  have hxl : xs.length = S.L.length := by rw [← e1, List.length_map]
  have hz1 : ∀ g, Z g → B ≤ g ∧ g < W1.heap.size := fun g hg => ⟨(hz g hg).1, by have := (hz g hg).2; omega⟩
  by_cases k0 : kd = 0
  · subst k0
    rw [if_pos rfl]
    have HA := Lib.hid (ps_fresh p1 (by omega))
    have HR1 := Lib.hid r1
    have HE1 := Lib.hid e1
    have HAP := Lib.hid ap
    have HZ1 := Lib.hid hz1
    have HBB := Lib.hid hbB
    clear p1 r1 e1 ap hz hx hx1 hk1 hW1
    go_enter Try.func10, Try.ntmps10
    go_wp2_with (first
      | (go_at_call 31; rw [← HW1.out]; refine HA.out.mono ?_; rintro e w2 ⟨rfl, p2, o2⟩; have HB := Lib.hid (refFresh_any (HR1.out.only o2 (fun k hk ho => HAP.out k hk ho)) (by omega)); have HP2 := Lib.hid p2; have HO2 := Lib.hid o2; clear p2 o2)
      | (go_at_call 41; refine HB.out.mono ?_; rintro e w3 ⟨rfl, r3, o3⟩))
    go_ret
    obtain ⟨q1, q2⟩ := Two.seq HR1.out HAP.out HP2.out HO2.out (fun g hg => .inl hg) r3 o3 (fun g hg => .inl hg) HE1.out
    exact ⟨by simp, q1, HBB.out.trans q2⟩
  · have m0 : (kd == 0) = false := beq_eq_false_iff_ne.2 k0
    rw [if_neg k0]
    by_cases k1 : kd = 1
    · subst k1
      rw [if_pos rfl]
      have HR1 := Lib.hid r1
      have HE1 := Lib.hid e1
      have HAP := Lib.hid ap
      have HBB := Lib.hid hbB
      have HOW := Lib.hid hown
      have HZ := Lib.hid hz
      have HBOX := Lib.hid (fun (W : World) (hb : W.heap[w.heap.size]? = W1.heap[w.heap.size]?) => (⟨(World.cell?_of_block (w := W1) (a := ⟨w.heap.size, 2, none⟩) hb).trans a2, (World.cell?_of_block (w := W1) (a := ⟨w.heap.size, 3, none⟩) hb).trans a3⟩ : W.cell? ⟨w.heap.size, 2, none⟩ = some (.int .u64 (time : Int)) ∧ W.cell? ⟨w.heap.size, 3, none⟩ = some (.slice o cs.length j)))
      have s1 := HBOX.out W1.drew rfl
      have HX1 := Lib.hid hx1
      have hr2 : RefS B W1.drew d v xs S.given S.last := r1.below (Below.refl _ _).drew
      have hc2 : ChsOn W1.drew (fun g => g < B) (.slice o cs.length j) cs := hx1.on.below (Below.refl _ _).drew
      have HBF := fun w2 (o2 : Only B Z W1.drew w2) => Lib.hid (refInst_any (hr2.only o2 ap) time cs o j (hc2.below o2.1) hx1.sm (Nat.le_trans hx1.len (by decide)) (by omega) (by omega))
      have HA := Lib.hid (ps_inst (p1.below (Below.refl _ _).drew) time cs o j (by show B ≤ W1.heap.size; omega) (fun g (hg : g < B) hzz => by have := (hz g hzz).1; omega) hx1.on hx1.sm hx1.len (by omega) (by omega))
      clear p1 r1 e1 ap hz hx hx1 hk1 hW1
      go_enter Try.func10, Try.ntmps10
      go_wp2_with fail
      rw [← HW1.out]
      go_region_held3 (fun w' => w'.cell? ⟨w.heap.size, 2, none⟩ = some (.int .u64 (time : Int)) ∧ w'.cell? ⟨w.heap.size, 3, none⟩ = some (.slice o cs.length j))
        (first | exact s1 | exact s2 | exact s3)
        (first
          | (go_at_call 32
             refine HA.out.mono ?_
             rintro e w2 ⟨rfl, o2, Z', p2, z1, z2⟩
             have HB := HBF w2 o2
             have s2 := HBOX.out w2 (o2.2 w.heap.size (by show w.heap.size < W1.heap.size; omega) (fun hzz => by have := (HZ.out _ hzz).2; omega))
             have hs2 : w.heap.size + 1 ≤ w2.heap.size := by have h9 : W1.heap.size ≤ w2.heap.size := o2.1.size; omega
             have HP2 := Lib.hid p2
             have HO2 := Lib.hid o2
             clear p2 o2)
          | (go_at_call 42
             refine HB.out.mono ?_
             rintro e w3 ⟨rfl, r3, o3⟩
             have s3 := HBOX.out w3 ((o3.2 w.heap.size (by omega) (fun hzz => by have := HOW.out _ hzz; omega)).trans (HO2.out.2 w.heap.size (by show w.heap.size < W1.heap.size; omega) (fun hzz => by have := (HZ.out _ hzz).2; omega)))
             have HR3 := Lib.hid r3
             have HO3 := Lib.hid o3
             clear r3 o3))
      all_goals
        go_wp2_with fail
        go_ret
        have hE : instE ⟨xs.map toOn, S.given, S.last⟩ time (cs.map toCh) = instE S time (cs.map toCh) := by rw [HE1.out]
        have hfin : Two B w3 s d (instS S time (cs.map toCh)) ∧ Below B W1.drew w3 := by
          have hr3 := HR3.out
          by_cases h0 : instE S time (cs.map toCh) = 0
          · rw [hE, if_pos h0] at hr3
            obtain ⟨v', r4, hv'⟩ := hr3
            refine Two.seq (w := W1.drew) hr2 HAP.out HP2.out HO2.out z2 (v' := v') (xs' := xs ++ cs.map (toOnC time)) ?_ HO3.out hv' ?_
            · unfold instS
              rw [if_pos h0]
              exact r4
            · unfold instS
              rw [if_pos h0, List.map_append, HE1.out]
              unfold layC
              rw [List.map_map, List.map_map]
              rfl
          · rw [hE, if_neg h0] at hr3
            refine Two.seq (w := W1.drew) hr2 HAP.out HP2.out HO2.out z2 (v' := v) (xs' := xs) ?_ HO3.out (fun g hg => .inl hg) ?_
            · unfold instS
              rw [if_neg h0]
              exact hr3
            · unfold instS
              rw [if_neg h0]
              exact HE1.out
        exact ⟨by simp [hE], hfin.1, HBB.out.trans ((Below.refl B W1).drew.trans hfin.2)⟩
    · have m1 : (kd == 1) = false := beq_eq_false_iff_ne.2 k1
      rw [if_neg k1]
      by_cases k2 : kd = 2
      · subst k2
        rw [if_pos rfl]
        have HR1 := Lib.hid r1
        have HE1 := Lib.hid e1
        have HAP := Lib.hid ap
        have HBB := Lib.hid hbB
        have HOW := Lib.hid hown
        have HZ := Lib.hid hz
        have HBOX := Lib.hid (fun (W : World) (hb : W.heap[w.heap.size]? = W1.heap[w.heap.size]?) => (⟨(World.cell?_of_block (w := W1) (a := ⟨w.heap.size, 2, none⟩) hb).trans a2, (World.cell?_of_block (w := W1) (a := ⟨w.heap.size, 3, none⟩) hb).trans a3⟩ : W.cell? ⟨w.heap.size, 2, none⟩ = some (.int .u64 (time : Int)) ∧ W.cell? ⟨w.heap.size, 3, none⟩ = some (.slice o cs.length j)))
        have s1 := HBOX.out W1.drew rfl
        have hr2 : RefS B W1.drew d v xs S.given S.last := r1.below (Below.refl _ _).drew
        have HBF := fun w2 (o2 : Only B Z W1.drew w2) => Lib.hid (refSweep_any (hr2.only o2 ap) time (by omega))
        have HA := Lib.hid (ps_sweep (p1.below (Below.refl _ _).drew) (by show B ≤ W1.heap.size; omega) time (by omega) (by omega))
        clear p1 r1 e1 ap hz hx hx1 hk1 hW1
        go_enter Try.func10, Try.ntmps10
        go_wp2_with fail
        rw [← HW1.out]
        go_region_held3 (fun w' => w'.cell? ⟨w.heap.size, 2, none⟩ = some (.int .u64 (time : Int)) ∧ w'.cell? ⟨w.heap.size, 3, none⟩ = some (.slice o cs.length j))
          (first | exact s1 | exact s2 | exact s3)
          (first
            | (go_at_call 13
               refine HA.out.mono ?_
               rintro e w2 ⟨rfl, p2, o2⟩
               have HB := HBF w2 o2
               have s2 := HBOX.out w2 (o2.2 w.heap.size (by show w.heap.size < W1.heap.size; omega) (fun hzz => by have := (HZ.out _ hzz).2; omega))
               have hs2 : w.heap.size + 1 ≤ w2.heap.size := by have h9 : W1.heap.size ≤ w2.heap.size := o2.1.size; omega
               have HP2 := Lib.hid p2
               have HO2 := Lib.hid o2
               clear p2 o2)
            | (go_at_call 43
               refine HB.out.mono ?_
               rintro e w3 ⟨rfl, ⟨v', r3, hv'⟩, o3⟩
               have s3 := HBOX.out w3 ((o3.2 w.heap.size (by omega) (fun hzz => by have := HOW.out _ hzz; omega)).trans (HO2.out.2 w.heap.size (by show w.heap.size < W1.heap.size; omega) (fun hzz => by have := (HZ.out _ hzz).2; omega)))
               have HR3 := Lib.hid r3
               have HO3 := Lib.hid o3
               clear r3 o3))
        all_goals
          go_wp2_with fail
          go_ret
          have hsl : (sweepR time xs).length = (sweepL time S.L).length := by rw [← HE1.out, ← sweepR_toOn, List.length_map]
          have hfin := Two.seq (w := W1.drew) hr2 HAP.out HP2.out HO2.out (fun g hg => .inl hg) HR3.out HO3.out (fun g hg => .inr (hv' g hg)) (by rw [sweepR_toOn, HE1.out]; rfl)
          exact ⟨by simp [hsl], hfin.1, HBB.out.trans ((Below.refl B W1).drew.trans hfin.2)⟩
      · have m2 : (kd == 2) = false := beq_eq_false_iff_ne.2 k2
        rw [if_neg k2]
        have HA := Lib.hid (ps_at p1 id hx.idw time (by omega))
        have HSM := Lib.hid (fun r (hr : atV (versL S.L id) time = some r) => p1.sm hr)
        have HV1 := fun w' (hb : Below W1.heap.size W1 w') => Lib.hid (ps_versions (p1.below hb) id hx.idw (by omega))
        have hTwo : Two B W1 s d S := ⟨Z, v, xs, p1, r1, e1, ap⟩
        have HP1 : Hid (Two B W1 s d S) := Lib.hid hTwo
        clear hTwo
        have htie := at_tie id time xs
        rw [e1] at htie
        have hnone := fun hc => atR_none (c := atL id time xs) hc
        have hon : RcOn W1 (fun g => g < B) (atR (atL id time xs)).1 := by
          unfold atR
          cases hcl : atL id time xs with
          | none => exact RcOn.none _ _
          | some y =>
            dsimp only
            split
            · exact RcOn.none _ _
            · exact r1.row.2 y (List.mem_filter.1 (List.mem_of_getLast? hcl)).1
        have HRB0 := fun w' (hb : Below W1.heap.size W1 w') => refAt_any (r1.below hb) id time (by omega)
        obtain ⟨⟨⟨rd, vd1, vd2⟩, isd⟩, hat⟩ : ∃ c, atR (atL id time xs) = c := ⟨_, rfl⟩
        rw [hat] at htie hnone hon
        have HRB := fun w' (hb : Below W1.heap.size W1 w') => Lib.hid (by have := HRB0 w' hb; rwa [hat] at this)
        obtain ⟨okd, jkd, oad, jad, e5, e6⟩ := hon.form
        dsimp only at e5 e6 htie hnone
        subst e5 e6
        unfold rcV at HRB
        dsimp only at HRB
        have HTIE := Lib.hid htie
        have HNONE := Lib.hid hnone
        have HON := Lib.hid hon
        clear htie hnone hon HRB0 hat
        have HBB := Lib.hid hbB
        have HXL := Lib.hid hxl
        have HIDW := Lib.hid hx.idw
        clear p1 r1 e1 ap hz hx hx1 hk1 hW1 hown hz1
        go_enter Try.func10, Try.ntmps10
        go_wp2_with (first
          | (go_at_call 12
             rw [← HW1.out]
             refine HA.out.mono ?_
             rintro e w2 ⟨⟨r2, va2, vb2⟩, rfl, q1, q2, q3⟩
             dsimp only at q1
             obtain ⟨ok2, jk2, oa2, ja2, e3, e4⟩ := q2.form
             dsimp only at e3 e4
             subst e3 e4
             have hq1 := q1
             have HQ1 := Lib.hid hq1
             have HQ2 := Lib.hid q2
             have HQ3 := Lib.hid q3
             have a1a := fun ob => Lib.cell?_alloc_some ob ((q3.cell (p := ⟨w.heap.size, 1, none⟩) (by simp; omega)).trans a1)
             have a2a := fun ob => Lib.cell?_alloc_some ob ((q3.cell (p := ⟨w.heap.size, 2, none⟩) (by simp; omega)).trans a2)
             have hs2 := q3.size
             clear q1 q2 q3 hq1
             unfold rcV
             dsimp only)
          | (go_at_call 44
             refine (HRB _ (HQ3.out.alloc HQ3.out.size _)).out.mono ?_
             rintro e w3 ⟨rfl, p3⟩
             have hs3 := p3.size
             have HP3 := Lib.hid p3
             clear p3))
        -- the two answers are alike
        have hrd : r2 = rd ∧ (atV (versL S.L id) time).isSome = isd ∧ RcSm rd := by
          have h1 := HTIE.out
          have h2 := HQ1.out
          cases isd with
          | true =>
            rw [if_pos rfl] at h1
            have h3 := HSM.out rd h1
            rw [h1] at h2 ⊢
            exact ⟨h2, rfl, h3⟩
          | false =>
            rw [if_neg (by simp)] at h1
            have h3 : rd = rc0 := congrArg Prod.fst (HNONE.out rfl)
            rw [h1] at h2 ⊢
            exact ⟨h2.trans h3.symm, rfl, by rw [h3]; exact ⟨by decide, by decide⟩⟩
        obtain ⟨rfl, his, hsm⟩ := hrd
        rw [his]
        obtain ⟨W4, hW4⟩ : ∃ W4, W4 = w3.alloc (rcB (r2, .slice okd r2.ks.length jkd, .slice oad r2.ats.length jad)) := ⟨_, rfl⟩
        have hs23 : w2.heap.size < w3.heap.size := by have := hs3; simp at this; omega
        have hb24 : Below w2.heap.size w2 W4 := by rw [hW4]; exact (((Below.refl _ _).alloc (Nat.le_refl _) _).trans (HP3.out.mono (by simp))).alloc (by omega) _
        have hb14 : Below W1.heap.size W1 W4 := HQ3.out.trans (hb24.mono HQ3.out.size)
        have hs4 : W4.heap.size = w3.heap.size + 1 := by rw [hW4]; simp
        have t2 : W4.heap[w2.heap.size]? = some (rcB (r2, .slice ok2 r2.ks.length jk2, .slice oa2 r2.ats.length ja2)) := by
          rw [hW4, Below.heap_alloc _ _ _ hs23, HP3.out.block _ (by simp)]
          exact World.alloc_heap_new w2 _
        have t3 : W4.heap[w3.heap.size]? = some (rcB (r2, .slice okd r2.ks.length jkd, .slice oad r2.ats.length jad)) := by rw [hW4]; exact World.alloc_heap_new w3 _
        have t1 : W4.cell? ⟨w.heap.size, 1, none⟩ = some (.int .i64 id) := (hb14.cell (p := ⟨w.heap.size, 1, none⟩) (by simp; omega)).trans a1
        obtain ⟨⟨b0, b1, b2, b3, b4, b5, b6⟩, _⟩ := rc_blk t2
        obtain ⟨⟨c0, c1, c2, c3, c4, c5, c6⟩, _⟩ := rc_blk t3
        dsimp only at b0 b1 b2 b3 b4 b5 b6 c0 c1 c2 c3 c4 c5 c6
        have KS := Lib.hid (fun (W : World) (hb : Below W4.heap.size W4 W) => (⟨(hb.cell (p := ⟨w.heap.size, 1, none⟩) (by simp; omega)).trans t1, (hb.cell (p := ⟨w2.heap.size, 0, none⟩) (by simp; omega)).trans b0, (hb.cell (p := ⟨w2.heap.size, 1, none⟩) (by simp; omega)).trans b1, (hb.cell (p := ⟨w2.heap.size, 2, none⟩) (by simp; omega)).trans b2, (hb.cell (p := ⟨w2.heap.size, 3, none⟩) (by simp; omega)).trans b3, (hb.cell (p := ⟨w2.heap.size, 4, none⟩) (by simp; omega)).trans b4, (hb.cell (p := ⟨w2.heap.size, 5, none⟩) (by simp; omega)).trans b5, (hb.cell (p := ⟨w2.heap.size, 6, none⟩) (by simp; omega)).trans b6,
          (hb.cell (p := ⟨w3.heap.size, 0, none⟩) (by simp; omega)).trans c0, (hb.cell (p := ⟨w3.heap.size, 1, none⟩) (by simp; omega)).trans c1, (hb.cell (p := ⟨w3.heap.size, 2, none⟩) (by simp; omega)).trans c2, (hb.cell (p := ⟨w3.heap.size, 3, none⟩) (by simp; omega)).trans c3, (hb.cell (p := ⟨w3.heap.size, 4, none⟩) (by simp; omega)).trans c4, (hb.cell (p := ⟨w3.heap.size, 5, none⟩) (by simp; omega)).trans c5, (hb.cell (p := ⟨w3.heap.size, 6, none⟩) (by simp; omega)).trans c6⟩ : W.cell? ⟨w.heap.size, 1, none⟩ = some (.int .i64 id) ∧ W.cell? ⟨w2.heap.size, 0, none⟩ = some (.int .i64 r2.kd) ∧ W.cell? ⟨w2.heap.size, 1, none⟩ = some (.string (bs r2.nm)) ∧ W.cell? ⟨w2.heap.size, 2, none⟩ = some (.string (bs r2.tx)) ∧ W.cell? ⟨w2.heap.size, 3, none⟩ = some (.int .i64 r2.pa) ∧ W.cell? ⟨w2.heap.size, 4, none⟩ = some (.slice ok2 r2.ks.length jk2) ∧ W.cell? ⟨w2.heap.size, 5, none⟩ = some (.slice oa2 r2.ats.length ja2) ∧ W.cell? ⟨w2.heap.size, 6, none⟩ = some (.bool r2.gone) ∧ W.cell? ⟨w3.heap.size, 0, none⟩ = some (.int .i64 r2.kd) ∧ W.cell? ⟨w3.heap.size, 1, none⟩ = some (.string (bs r2.nm)) ∧ W.cell? ⟨w3.heap.size, 2, none⟩ = some (.string (bs r2.tx)) ∧ W.cell? ⟨w3.heap.size, 3, none⟩ = some (.int .i64 r2.pa) ∧ W.cell? ⟨w3.heap.size, 4, none⟩ = some (.slice okd r2.ks.length jkd) ∧ W.cell? ⟨w3.heap.size, 5, none⟩ = some (.slice oad r2.ats.length jad) ∧ W.cell? ⟨w3.heap.size, 6, none⟩ = some (.bool r2.gone)))
        have hr2 : RcOn W4 (fun g => W1.heap.size ≤ g) (r2, .slice ok2 r2.ks.length jk2, .slice oa2 r2.ats.length ja2) := HQ2.out.below hb24
        have hrd : RcOn W4 (fun g => g < B) (r2, .slice okd r2.ks.length jkd, .slice oad r2.ats.length jad) := HON.out.below hb14
        have HS := fun w' (hb : Below W4.heap.size W4 w') => Lib.hid (refSame_any r2 r2 ok2 jk2 oa2 ja2 okd jkd oad jad w' _ _ (hr2.below hb).1 (hr2.below hb).2 (hrd.below hb).1 (hrd.below hb).2 (Nat.le_trans hsm.1 (by decide)) (Nat.le_trans hsm.2 (by decide)))
        have HV2 := fun w' (hb : Below W4.heap.size W4 w') => Lib.hid (two_dvers (Two.below (Two.below HP1.out hb14) hb) id (by omega))
        have HW4 := Lib.hid hW4
        have HB14 := Lib.hid hb14
        unfold rcB at HW4
        dsimp only at HW4
        have s4 := KS.out W4.drew (Below.refl _ _).drew
        clear hb24 t1 t2 t3 b0 b1 b2 b3 b4 b5 b6 c0 c1 c2 c3 c4 c5 c6 hr2 hrd hsm his hW4 a1a a2a
        rw [← HW4.out]
        go_region_held3 (fun w' => w'.cell? ⟨w.heap.size, 1, none⟩ = some (.int .i64 id) ∧ w'.cell? ⟨w2.heap.size, 0, none⟩ = some (.int .i64 r2.kd) ∧ w'.cell? ⟨w2.heap.size, 1, none⟩ = some (.string (bs r2.nm)) ∧ w'.cell? ⟨w2.heap.size, 2, none⟩ = some (.string (bs r2.tx)) ∧ w'.cell? ⟨w2.heap.size, 3, none⟩ = some (.int .i64 r2.pa) ∧ w'.cell? ⟨w2.heap.size, 4, none⟩ = some (.slice ok2 r2.ks.length jk2) ∧ w'.cell? ⟨w2.heap.size, 5, none⟩ = some (.slice oa2 r2.ats.length ja2) ∧ w'.cell? ⟨w2.heap.size, 6, none⟩ = some (.bool r2.gone) ∧ w'.cell? ⟨w3.heap.size, 0, none⟩ = some (.int .i64 r2.kd) ∧ w'.cell? ⟨w3.heap.size, 1, none⟩ = some (.string (bs r2.nm)) ∧ w'.cell? ⟨w3.heap.size, 2, none⟩ = some (.string (bs r2.tx)) ∧ w'.cell? ⟨w3.heap.size, 3, none⟩ = some (.int .i64 r2.pa) ∧ w'.cell? ⟨w3.heap.size, 4, none⟩ = some (.slice okd r2.ks.length jkd) ∧ w'.cell? ⟨w3.heap.size, 5, none⟩ = some (.slice oad r2.ats.length jad) ∧ w'.cell? ⟨w3.heap.size, 6, none⟩ = some (.bool r2.gone))
          (first | exact s4 | exact s5 | exact s6 | exact s7 | exact s8)
          (first
            | (go_at_call 14
               refine (HS _ (Below.refl _ _).drew).out.mono ?_
               rintro e w5 ⟨rfl, q5⟩
               have q45 : Below W4.heap.size W4 w5 := (Below.refl _ _).drew.trans q5
               have s5 := KS.out w5 q45
               have H5 := HV1 w5 (HB14.out.trans (q45.mono HB14.out.size))
               rw [decide_eq_true (show r2 = r2 from rfl)])
            | (go_at_call 15
               refine H5.out.mono ?_
               rintro e w6 ⟨u6, y6, rfl, e6, o6, m6, q6⟩
               have q46 := q45.trans (q6.mono q45.size)
               have s6 := KS.out w6 q46
               have v6 := o6.on
               obtain ⟨oy, jy, rfl⟩ := v6.form
               have H6 := HV2 w6 q46)
            | (go_at_call 46
               refine H6.out.mono ?_
               rintro e w7 ⟨u7, y7, rfl, e7, v7, q7⟩
               have q47 := q46.trans (q7.mono q46.size)
               have s7 := KS.out w7 q47
               obtain ⟨oz, jz, rfl⟩ := v7.form
               have H7 := Lib.hid (all_any y6 y7 _ _ oy jy oz jz w7 (by have := congrArg List.length e6; rw [List.length_map] at this; have := versL_le S.L id; omega) m6 (v6.below q7) v7))
            | (go_at_call 45
               refine H7.out.mono ?_
               rintro e w8 ⟨rfl, q8⟩
               have q48 := q47.trans (q8.mono q47.size)
               have s8 := KS.out w8 q48
               rw [decide_eq_true (e6.trans e7.symm)]))
        all_goals
          go_wp2_with fail
          go_ret
          exact ⟨by simp, Two.below (Two.below HP1.out HB14.out) q48, (HBB.out.trans (HB14.out.mono (by omega))).trans (q48.mono (by omega))⟩
end Go.Proofs.Ytpimdmjhnogelaa.Char
