/- The walk of the law ViewNone. -/
import Derived.Test.YtkackejipgabfaaPk21
import Derived.Test.YtkackejipgabfaaPk19
import Derived.Test.YtkackejipgabfaaPk14
namespace Go.Proofs.Ytkackejipgabfaa.Char
open Go.RowKit Go.Lib

/-- what is asked of no view -/
structure NoA (W : World) (vp : Option Addr) (id : Int) : Prop where
  get : Calls Try.prog 27 #[.pointer vp, .int .i64 id] W (GetVP W none)
  all : Calls Try.prog 15 #[.pointer vp] W fun e w' => ∃ u, e = .returned u ∧ OwnsInt W.heap.size w' u [] ∧ Below W.heap.size W w'
  par : Calls Try.prog 33 #[.pointer vp, .int .i64 id] W fun e w' => ∃ u, e = .returned u ∧ OwnsInt W.heap.size w' u [] ∧ Below W.heap.size W w'
  bel : Calls Try.prog 34 #[.pointer vp, .int .i64 id] W fun e w' => ∃ u, e = .returned u ∧ OwnsInt W.heap.size w' u [] ∧ Below W.heap.size W w'
  val : Calls Try.prog 32 #[.pointer vp, .int .i64 id] W fun e w' => e = .returned (.string ⟨#[]⟩) ∧ Below W.heap.size W w'
theorem nov_asked {Z : Nat → Prop} {W : World} {vp : Option Addr} (h : NoV Z W vp) (id : Int) (hid : (Lit.int .i64 id).wf = true) : NoA W vp id := by
  have hv := h.vh
  refine ⟨getV_gen hv id hid, all_gen hv 1 [] rfl (by decide), ?_, ?_, ?_⟩
  · exact parents_gen hv (fun _ _ q => by cases q) id hid 1 [] rfl (by decide)
  · exact below_gen hv id hid 1 [] rfl (by decide)
  · exact valueV_text hv id hid (by show rc0.kd ≠ 1; decide) (by show rc0.kd ≠ 2; decide)
theorem nov_sort {Z : Nat → Prop} {W : World} {vp : Option Addr} (h : NoV Z W vp) {g : Nat} (hg : W.heap[g]? = some (.cells #[.int .i64 1] 3 (0, 0))) :
    Calls Try.prog 17 #[.pointer vp, .slice (some ⟨g, 0, none⟩) 1 1] W fun e w' => ∃ u, e = .returned u ∧ OwnsInt W.heap.size w' u [] ∧ Below W.heap.size W w' :=
  sort_gen h.vh 1 [] rfl (by decide) List.nodup_nil (fun _ q => by cases q) (K := fun k => k = g) (some ⟨g, 0, none⟩) 1 [1] ⟨_, _, _, rfl, rfl, .inr ⟨g, 0, rfl, rfl, fun k hk => by
    obtain rfl : k = 0 := by simp at hk; exact hk
    simp [World.cell?, hg]⟩⟩ (fun k hk => by rw [hk]; exact (Array.getElem?_eq_some_iff.1 hg).1) (by decide) (fun z hz => by rw [List.mem_singleton] at hz; subst hz; decide)
theorem box_kept {Wp W' : World} {cs : Array Value} {T : TypeId} (h : Below (Wp.alloc (.cells cs T)).heap.size (Wp.alloc (.cells cs T)) W') : W'.heap[Wp.heap.size]? = some (.cells cs T (0, 0)) := (h.block _ (by simp)).trans (World.alloc_heap_new _ _)
theorem box_on {W W' : World} {g : Nat} {ob : Obj} (h : W.heap[g]? = some ob) (hb : Below W.heap.size W W') : W'.heap[g]? = some ob := (hb.block _ (Array.getElem?_eq_some_iff.1 h).1).trans h
theorem below_al {B : Nat} {w0 W W' : World} {ob : Obj} (h : Below B w0 W) (hB : B ≤ W.heap.size) (hb : Below (W.alloc ob).heap.size (W.alloc ob) W') : Below B w0 W' := (h.alloc hB ob).trans (hb.mono (by simp; omega))
set_option maxRecDepth 100000 in
set_option maxHeartbeats 16000000 in
theorem lawNone_any (q : StX) (w : World) (hq : StOn w (fun g => g < w.heap.size) q) (hs : StSm q) :
    Calls Try.prog 5 #[stV q] w fun e w' => e = .returned (.bool true) ∧ Below w.heap.size w w' := by
  obtain ⟨kd, id, ⟨r, v1, v2⟩, t, va, vk⟩ := q
  obtain ⟨ok, jk, oa, ja, oa2, ja2, ok2, jk2, e1, e2, e3, e4⟩ := hq.form
  dsimp only at e1 e2 e3 e4
  subst e1 e2 e3 e4
  have hid := hs.idw
  have hrc := hq.rc
  dsimp only at hid hrc
  unfold stV
  dsimp only
  obtain ⟨X, hX⟩ : ∃ X, w.heap.size = X := ⟨_, rfl⟩
  obtain ⟨W3, hW3⟩ : ∃ W3, W3 = ((w.alloc (.cells #[.int .i64 kd, .int .i64 id, .int .i64 r.kd, .string (bs r.nm), .string (bs r.tx), .int .i64 r.pa, .slice ok r.ks.length jk, .slice oa r.ats.length ja, .bool r.gone, .int .i64 t.kd, .string (bs t.nm), .string (bs t.tx), .slice oa2 t.ats.length ja2, .slice ok2 t.ks.length jk2] 36)).alloc (.cells #[.pointer none, .pointer none, .int .u64 0, .map none] 63)).alloc (.cells #[.pointer none, .pointer (some ⟨X + 1, 0, none⟩)] 38) := ⟨_, rfl⟩
  have hb3 : Below w.heap.size w W3 := by rw [hW3]; exact (((Below.refl _ _).alloc (Nat.le_refl _) _).alloc (by simp) _).alloc (by simp; omega) _
  go_enter Try.func5, Try.ntmps5
  go_upto_region 3 with fail
  rw [← hW3]
  have hsz3 : W3.heap.size = X + 3 := by rw [hW3]; simp [hX]
  have hkx : W3.heap[X]? = some (.cells #[.int .i64 kd, .int .i64 id, .int .i64 r.kd, .string (bs r.nm), .string (bs r.tx), .int .i64 r.pa, .slice ok r.ks.length jk, .slice oa r.ats.length ja, .bool r.gone, .int .i64 t.kd, .string (bs t.nm), .string (bs t.tx), .slice oa2 t.ats.length ja2, .slice ok2 t.ks.length jk2] 36 (0, 0)) := by
    rw [hW3, Below.heap_alloc _ _ _ (by simp; omega), Below.heap_alloc _ _ _ (by simp; omega), ← hX]
    exact World.alloc_heap_new w _
  have hkv : W3.heap[X + 1]? = some (.cells #[.pointer none, .pointer none, .int .u64 0, .map none] 63 (0, 0)) := by
    rw [hW3, Below.heap_alloc _ _ _ (by simp; omega)]
    have := World.alloc_heap_new (w.alloc (.cells #[.int .i64 kd, .int .i64 id, .int .i64 r.kd, .string (bs r.nm), .string (bs r.tx), .int .i64 r.pa, .slice ok r.ks.length jk, .slice oa r.ats.length ja, .bool r.gone, .int .i64 t.kd, .string (bs t.nm), .string (bs t.tx), .slice oa2 t.ats.length ja2, .slice ok2 t.ks.length jk2] 36)) (.cells #[.pointer none, .pointer none, .int .u64 0, .map none] 63)
    simpa [hX] using this
  have hkr : W3.heap[X + 2]? = some (.cells #[.pointer none, .pointer (some ⟨X + 1, 0, none⟩)] 38 (0, 0)) := by
    rw [hW3]
    have := World.alloc_heap_new ((w.alloc (.cells #[.int .i64 kd, .int .i64 id, .int .i64 r.kd, .string (bs r.nm), .string (bs r.tx), .int .i64 r.pa, .slice ok r.ks.length jk, .slice oa r.ats.length ja, .bool r.gone, .int .i64 t.kd, .string (bs t.nm), .string (bs t.tx), .slice oa2 t.ats.length ja2, .slice ok2 t.ks.length jk2] 36)).alloc (.cells #[.pointer none, .pointer none, .int .u64 0, .map none] 63)) (.cells #[.pointer none, .pointer (some ⟨X + 1, 0, none⟩)] 38)
    simpa [hX] using this
  have hrc3 : RcOn W3 (fun g => g < W3.heap.size) (r, .slice ok r.ks.length jk, .slice oa r.ats.length ja) := hrc.move fun g hg hF => ⟨Nat.lt_of_lt_of_le hg hb3.size, hb3.block g hg⟩
  have hx1 : W3.cell? ⟨X, 1, none⟩ = some (.int .i64 id) := by simp [World.cell?, hkx]
  have hx2 : W3.cell? ⟨X, 2, none⟩ = some (.int .i64 r.kd) := by simp [World.cell?, hkx]
  have hx3 : W3.cell? ⟨X, 3, none⟩ = some (.string (bs r.nm)) := by simp [World.cell?, hkx]
  have hx4 : W3.cell? ⟨X, 4, none⟩ = some (.string (bs r.tx)) := by simp [World.cell?, hkx]
  have hx5 : W3.cell? ⟨X, 5, none⟩ = some (.int .i64 r.pa) := by simp [World.cell?, hkx]
  have hx6 : W3.cell? ⟨X, 6, none⟩ = some (.slice ok r.ks.length jk) := by simp [World.cell?, hkx]
  have hx7 : W3.cell? ⟨X, 7, none⟩ = some (.slice oa r.ats.length ja) := by simp [World.cell?, hkx]
  have hx8 : W3.cell? ⟨X, 8, none⟩ = some (.bool r.gone) := by simp [World.cell?, hkx]
  have hro : ∀ k, k < 2 → ∃ vp Z, W3.cell? ⟨X + 1 + 1, k, none⟩ = some (.pointer vp) ∧ NoV Z W3 vp := fun k hk => by
    have : k = 0 ∨ k = 1 := by omega
    rcases this with rfl | rfl
    · exact ⟨none, _, by simp [World.cell?, hkr], NoV.none W3⟩
    · exact ⟨some ⟨X + 1, 0, none⟩, _, by simp [World.cell?, hkr], NoV.zero (b := X + 1) (by simp [World.cell?, hkv])⟩
  have HRO := Lib.hid hro
  have HRC := Lib.hid hrc3
  have HB3 := Lib.hid hb3
  have HID := Lib.hid hid
  have HWK := Lib.hid worksB_any
  have HXS := Lib.hid (And.intro hx1 (And.intro hx2 (And.intro hx3 (And.intro hx4 (And.intro hx5 (And.intro hx6 (And.intro hx7 hx8)))))))
  clear hro hrc3 hb3 hid hkx hkv hkr hsz3 hW3 hrc hs hq hx1 hx2 hx3 hx4 hx5 hx6 hx7 hx8 hX
  go_wp2_with fail
  go_loopw [5] (fun v wr => ∃ k : Nat, v = .int .i64 (k : Int) ∧ k ≤ 2 ∧ Hid (Below W3.heap.size W3 wr)) (fun v _ => 2 - (RowKit.intOf v).toNat)
  case atStart => exact ⟨0, rfl, Nat.zero_le _, Lib.hid (Below.refl _ _)⟩
  case round =>
    obtain ⟨k, rfl, hk, HR⟩ := hrel
    by_cases hlt : k < 2
    · obtain ⟨vp, Z, hvp, hno⟩ := HRO.out k hlt
      have hc := keep_cell hvp HR.out
      have hn := hno.below HR.out
      obtain ⟨y1, y2, y3, y4, y5, y6, y7, y8⟩ := HXS.out
      have x1 := keep_cell y1 HR.out
      have HN := Lib.hid hn
      have BW : Hid (Below wr.heap.size wr wr) := Lib.hid (Below.refl _ _)
      have HGT := Lib.hid (nov_asked hn id HID.out).get
      have HLT := Lib.hid hlt
      have k1 : decide ((k : Int) < 2) = true := decide_eq_true (by omega)
      have hk0 : (0 : Int) ≤ (k : Int) := by omega
      have hk2 : (k : Int) < 2 := by omega
      have HNB := Lib.hid fun (W : World) (hb : Below wr.heap.size wr W) => hn.below hb
      have HNA := Lib.hid fun (W : World) (hb : Below wr.heap.size wr W) => nov_asked (hn.below hb) id HID.out
      have HXR := Lib.hid fun (W : World) (hb : Below wr.heap.size wr W) => And.intro (keep_cell (keep_cell y2 HR.out) hb) (And.intro (keep_cell (keep_cell y3 HR.out) hb) (And.intro (keep_cell (keep_cell y4 HR.out) hb) (And.intro (keep_cell (keep_cell y5 HR.out) hb) (And.intro (keep_cell (keep_cell y6 HR.out) hb) (And.intro (keep_cell (keep_cell y7 HR.out) hb) (keep_cell (keep_cell y8 HR.out) hb))))))
      have HX1 := Lib.hid fun (W : World) (hb : Below wr.heap.size wr W) => keep_cell x1 hb
      have HRX := Lib.hid fun (W : World) (hb : Below wr.heap.size wr W) => (HRC.out.move (F' := fun g => g < W3.heap.size) fun g hg hF => ⟨hF, (hb.block g (Nat.lt_of_lt_of_le hF HR.out.size)).trans (HR.out.block g hF)⟩ : RcOn W (fun g => g < W3.heap.size) (r, .slice ok r.ks.length jk, .slice oa r.ats.length ja))
      clear hvp hno hn y1 y2 y3 y4 y5 y6 y7 y8 hlt hk HRC
      go_upto_region 8 with (first
        | (go_at_call 27
           refine HGT.out.mono ?_
           rintro e wa ⟨⟨r0, va0, vb0⟩, rfl, f1, f2, f3⟩
           obtain ⟨o1, j1, o2, j2, f4, f5⟩ := f2.form
           dsimp only [Option.getD] at f1 f4 f5
           subst f1 f4 f5
           unfold rcV rc0
           dsimp only
           have HF2 := Lib.hid f2
           have HF3 := Lib.hid f3
           clear f2 f3))
      obtain ⟨W8, hW8⟩ : ∃ W8, W8 = wa.alloc (.cells #[.int .i64 0, .string (bs []), .string (bs []), .int .i64 0, .slice o1 0 j1, .slice o2 0 j2, .bool false] 34) := ⟨_, rfl⟩
      rw [← hW8]
      have hb8a : Below wa.heap.size wa W8 := by rw [hW8]; exact (Below.refl _ _).alloc (Nat.le_refl _) _
      have hb8 : Below wr.heap.size wr W8 := HF3.out.trans (hb8a.mono HF3.out.size)
      have hk8 : W8.heap[wa.heap.size]? = some (.cells #[.int .i64 0, .string (bs []), .string (bs []), .int .i64 0, .slice o1 0 j1, .slice o2 0 j2, .bool false] 34 (0, 0)) := by rw [hW8]; exact World.alloc_heap_new wa _
      obtain ⟨P7, hP7⟩ : ∃ P7, wa.heap.size = P7 := ⟨_, rfl⟩
      rw [hP7] at hk8 ⊢
      have hp7 : P7 < W8.heap.size := (Array.getElem?_eq_some_iff.1 hk8).1
      have x1 := HX1.out W8 hb8
      have HK8 := Lib.hid hk8
      have HB8 := Lib.hid hb8
      have HP7 := Lib.hid hp7
      have HND := Lib.hid (none_node (HNB.out W8 hb8) id HID.out)
      clear hW8 hb8a hb8 hk8 hp7 hP7 HF2 HF3 HGT HN
      go_upto_region 9 with (first
        | (go_at_call 28
           refine HND.out.mono ?_
           rintro e wb ⟨rfl, qb⟩
           unfold nd0
           have hb9 := HB8.out.trans (qb.mono HB8.out.size)
           have HB9 := Lib.hid hb9
           have HK9 := Lib.hid ((qb.block _ HP7.out).trans HK8.out)
           have HP9 := Lib.hid (Nat.lt_of_lt_of_le HP7.out qb.size)
           clear qb hb9))
      obtain ⟨W9, hW9⟩ : ∃ W9, W9 = wb.alloc (.cells #[.int .i64 0, .string ⟨#[]⟩, .string ⟨#[]⟩, .slice none 0 0, .slice none 0 0] 25) := ⟨_, rfl⟩
      rw [← hW9]
      have hb9a : Below wb.heap.size wb W9 := by rw [hW9]; exact (Below.refl _ _).alloc (Nat.le_refl _) _
      have hb9 : Below wr.heap.size wr W9 := HB9.out.trans (hb9a.mono HB9.out.size)
      have hk7 : W9.heap[P7]? = some (.cells #[.int .i64 0, .string (bs []), .string (bs []), .int .i64 0, .slice o1 0 j1, .slice o2 0 j2, .bool false] 34 (0, 0)) := (hb9a.block _ HP9.out).trans HK9.out
      have hk9 : W9.heap[wb.heap.size]? = some nd0B := by rw [hW9]; exact World.alloc_heap_new wb _
      obtain ⟨P9, hP9⟩ : ∃ P9, wb.heap.size = P9 := ⟨_, rfl⟩
      rw [hP9] at hk9 ⊢
      have hp9 : P9 < W9.heap.size := (Array.getElem?_eq_some_iff.1 hk9).1
      have r0 : W9.cell? ⟨P7, 0, none⟩ = some (.int .i64 0) := by simp [World.cell?, hk7]
      have r1 : W9.cell? ⟨P7, 1, none⟩ = some (.string (bs [])) := by simp [World.cell?, hk7]
      have r2 : W9.cell? ⟨P7, 2, none⟩ = some (.string (bs [])) := by simp [World.cell?, hk7]
      have r3 : W9.cell? ⟨P7, 3, none⟩ = some (.int .i64 0) := by simp [World.cell?, hk7]
      have r4 : W9.cell? ⟨P7, 4, none⟩ = some (.slice o1 0 j1) := by simp [World.cell?, hk7]
      have r5 : W9.cell? ⟨P7, 5, none⟩ = some (.slice o2 0 j2) := by simp [World.cell?, hk7]
      have r6 : W9.cell? ⟨P7, 6, none⟩ = some (.bool false) := by simp [World.cell?, hk7]
      have HSA := Lib.hid (refSame_any rc0 rc0 o1 j1 o2 j2 none 0 none 0 W9 (fun _ => True) (fun _ => True) (IntsOn.nil _ _ _ _) (IntsOn.nil _ _ _ _) (IntsOn.nil _ _ _ _) (IntsOn.nil _ _ _ _) (by decide) (by decide))
      rw [decide_eq_true rfl] at HSA
      replace HSA : Hid (Calls Try.prog 29 #[.agg #[.int .i64 0, .string (bs []), .string (bs []), .int .i64 0, .slice o1 0 j1, .slice o2 0 j2, .bool false], .agg #[.int .i64 0, .string ⟨#[]⟩, .string ⟨#[]⟩, .int .i64 0, .slice none 0 0, .slice none 0 0, .bool false]] W9 fun e w' => e = .returned (.bool true) ∧ Below W9.heap.size W9 w') := HSA
      have BW := Lib.hid hb9
      have HP9 := Lib.hid hp9
      have HK9 := Lib.hid hk9
      clear hW9 hb9a hb9 hk7 hk9 hp9 hP9 HB8 HK8 HND HP7 HB9
      go_upto_region 11 with (first
        | (go_at_call 29
           refine HSA.out.mono ?_
           rintro e wc ⟨rfl, qb⟩
           have hkc := (qb.block _ HP9.out).trans HK9.out
           obtain ⟨⟨s0, s1, s2, s3, s4⟩, _⟩ := nd0_blk hkc
           have BW := Lib.hid (BW.out.trans (qb.mono BW.out.size))
           have HS7 := Lib.hid (same_nd0 wc)
           unfold nd0 at HS7
           clear qb hkc r0 r1 r2 r3 r4 r5 r6 HSA)
        | (go_at_call 30
           refine HS7.out.mono ?_
           rintro e wd ⟨rfl, qb⟩
           have BW := Lib.hid (BW.out.trans (qb.mono BW.out.size))
           have x1 := HX1.out _ BW.out
           obtain ⟨x2, x3, x4, x5, x6, x7, x8⟩ := HXR.out _ BW.out
           have HPT := Lib.hid (none_put (HNB.out _ BW.out) id _ (HRX.out _ BW.out))
           unfold rcV at HPT
           dsimp only at HPT
           clear qb s0 s1 s2 s3 s4 HS7)
        | (go_at_call 23
           refine HPT.out.mono ?_
           rintro e we ⟨rfl, qb⟩
           have BW := Lib.hid (BW.out.trans (qb.mono BW.out.size))
           have x1 := HX1.out _ BW.out
           have HTM := Lib.hid (none_time (HNB.out _ BW.out))
           clear qb x2 x3 x4 x5 x6 x7 x8 HPT)
        | (go_at_call 31
           refine HTM.out.mono ?_
           rintro e wf ⟨rfl, hwf⟩
           subst hwf
           have HVL := Lib.hid (HNA.out _ BW.out).val
           clear HTM)
        | (go_at_call 32
           refine HVL.out.mono ?_
           rintro e wg ⟨rfl, qb⟩
           have BW := Lib.hid (BW.out.trans (qb.mono BW.out.size))
           have HPL := Lib.hid (none_plant (HNB.out _ BW.out) 4 ⟨#[]⟩ ⟨#[]⟩ none 0 0 none 0 0 1)
           clear qb HVL)
        | (go_at_call 21
           refine HPL.out.mono ?_
           rintro e wh ⟨rfl, qb⟩
           have BW := Lib.hid (BW.out.trans (qb.mono BW.out.size))
           have x1 := HX1.out _ BW.out
           clear qb HPL))
      have hdr : Below wh.heap.size wh wh.drew := (Below.refl _ _).drew
      have BW := Lib.hid (BW.out.trans (hdr.mono BW.out.size))
      have x1 := HX1.out _ BW.out
      have HCG := Lib.hid (none_changes (HNB.out _ BW.out))
      clear hdr
      go_region_held3 (fun w' => w'.cell? ⟨X, 1, none⟩ = some (.int .i64 id))
        (first
          | exact x1
          | exact u1
          | exact u2
          | exact u3
          | exact u4
          | exact u5
          | exact keep_cell x1 ((Below.refl _ _).alloc (Nat.le_refl _) _)
          | exact keep_cell u2 ((Below.refl _ _).alloc (Nat.le_refl _) _)
          | exact keep_cell u3 ((Below.refl _ _).alloc (Nat.le_refl _) _)
          | exact keep_cell u4 ((Below.refl _ _).alloc (Nat.le_refl _) _))
        (first
          | (go_at_call 22
             with_reducible refine HCG.out.mono ?_
             rintro e w1 ⟨rfl, hw1⟩
             subst hw1)
          | (go_at_call 22
             refine (none_changes (HNB.out _ (BW.out.alloc BW.out.size _))).mono ?_
             rintro e w1 ⟨rfl, hw1⟩
             have qb : Below w1.heap.size w1 w1 := Below.refl _ _
             have BW2 := BW.out.alloc BW.out.size (.cells #[.int .i64 1] 3)
             have HBX := Lib.hid (show w1.heap[wh.heap.size]? = some (.cells #[.int .i64 1] 3 (0, 0)) by rw [hw1]; exact World.alloc_heap_new wh _)
             have BW := Lib.hid (show Below wr.heap.size wr w1 by rw [hw1]; exact BW2)
             have u1 := HX1.out _ BW.out
             clear hw1 BW2 qb)
          | (go_at_call 33
             have C := (HNA.out _ BW.out).par
             with_reducible refine C.mono ?_
             clear C
             rintro e w2 ⟨v2, rfl, qa, qb⟩
             obtain ⟨oq2, jq2, rfl⟩ := qa.form
             have BW := Lib.hid (BW.out.trans (qb.mono BW.out.size))
             have u2 := HX1.out _ BW.out
             try (have HBX := Lib.hid (box_on HBX.out qb))
             clear qa qb)
          | (go_at_call 33
             have C := (HNA.out _ (BW.out.alloc BW.out.size (.cells #[.int .i64 1] 3))).par
             with_reducible refine C.mono ?_
             clear C
             rintro e w2 ⟨v2, rfl, qa, qb⟩
             obtain ⟨oq2, jq2, rfl⟩ := qa.form
             have HBX := Lib.hid (box_kept qb)
             have BW := Lib.hid (below_al BW.out BW.out.size qb)
             have u2 := HX1.out _ BW.out
             clear qa qb)
          | (go_at_call 33
             have BWD : Below wr.heap.size wr (wh.alloc (.cells #[.int .i64 1] 3)).drew := BW.out.alloc BW.out.size _
             have C := (HNA.out _ BWD).par
             with_reducible refine C.mono ?_
             clear C
             rintro e w2 ⟨v2, rfl, qa, qb⟩
             obtain ⟨oq2, jq2, rfl⟩ := qa.form
             have HBX := Lib.hid (show w2.heap[wh.heap.size]? = some (.cells #[.int .i64 1] 3 (0, 0)) from box_on (W := (wh.alloc (.cells #[.int .i64 1] 3)).drew) (World.alloc_heap_new wh _) qb)
             have BW := Lib.hid (BWD.trans (qb.mono BWD.size))
             have u2 := HX1.out _ BW.out
             clear qa qb BWD)
          | (go_at_call 34
             have C := (HNA.out _ BW.out).bel
             with_reducible refine C.mono ?_
             clear C
             rintro e w3 ⟨v3, rfl, qa, qb⟩
             obtain ⟨oq3, jq3, rfl⟩ := qa.form
             have BW := Lib.hid (BW.out.trans (qb.mono BW.out.size))
             have u3 := HX1.out _ BW.out
             try (have HBX := Lib.hid (box_on HBX.out qb))
             clear qa qb)
          | (go_at_call 34
             have C := (HNA.out _ (BW.out.alloc BW.out.size (.cells #[.int .i64 1] 3))).bel
             with_reducible refine C.mono ?_
             clear C
             rintro e w3 ⟨v3, rfl, qa, qb⟩
             obtain ⟨oq3, jq3, rfl⟩ := qa.form
             have HBX := Lib.hid (box_kept qb)
             have BW := Lib.hid (below_al BW.out BW.out.size qb)
             have u3 := HX1.out _ BW.out
             clear qa qb)
          | (go_at_call 15
             have C := (HNA.out _ BW.out).all
             with_reducible refine C.mono ?_
             clear C
             rintro e w4 ⟨v4, rfl, qa, qb⟩
             obtain ⟨oq4, jq4, rfl⟩ := qa.form
             have BW := Lib.hid (BW.out.trans (qb.mono BW.out.size))
             have u4 := HX1.out _ BW.out
             try (have HBX := Lib.hid (box_on HBX.out qb))
             clear qa qb)
          | (go_at_call 15
             have C := (HNA.out _ (BW.out.alloc BW.out.size (.cells #[.int .i64 1] 3))).all
             with_reducible refine C.mono ?_
             clear C
             rintro e w4 ⟨v4, rfl, qa, qb⟩
             obtain ⟨oq4, jq4, rfl⟩ := qa.form
             have HBX := Lib.hid (box_kept qb)
             have BW := Lib.hid (below_al BW.out BW.out.size qb)
             have u4 := HX1.out _ BW.out
             clear qa qb)
          | (go_at_call 17
             have C := nov_sort (HNB.out _ BW.out) HBX.out
             with_reducible refine C.mono ?_
             clear C
             rintro e w5 ⟨v5, rfl, qa, qb⟩
             obtain ⟨oq5, jq5, rfl⟩ := qa.form
             have BW := Lib.hid (BW.out.trans (qb.mono BW.out.size))
             have u5 := HX1.out _ BW.out
             clear qa qb)
          | (go_at_call 17
             have C := nov_sort (HNB.out _ (BW.out.alloc BW.out.size (.cells #[.int .i64 1] 3))) (World.alloc_heap_new _ _)
             with_reducible refine C.mono ?_
             clear C
             rintro e w5 ⟨v5, rfl, qa, qb⟩
             obtain ⟨oq5, jq5, rfl⟩ := qa.form
             have BW := Lib.hid (below_al BW.out BW.out.size qb)
             have u5 := HX1.out _ BW.out
             clear qa qb))
      all_goals
        have HR2 := Lib.hid (HR.out.trans (BW.out.mono HR.out.size))
        clear HR BW
        go_wp2_with fail
        exact ⟨⟨k + 1, by go_num, by have := HLT.out; omega, HR2⟩, by have := HLT.out; simp [RowKit.intOf]; omega⟩
    · obtain rfl : k = 2 := by omega
      have HNN := Lib.hid (newV_nil 5 wr)
      clear hlt hk
      go_wp2_with (first
        | (go_at_call 20
           refine HNN.out.mono ?_
           rintro e w1 ⟨rfl, hw1⟩
           subst hw1)
        | (go_at_call 11
           refine (HWK.out _).mono ?_
           rintro e ww ⟨rfl, qb⟩
           have HR2 := Lib.hid (HR.out.trans (qb.mono HR.out.size))
           clear qb))
      go_ret
      exact ⟨rfl, HB3.out.trans (HR2.out.mono HB3.out.size)⟩
end Go.Proofs.Ytkackejipgabfaa.Char
