/- MadeB BelowM BelowV BelowG Build -/
import Derived.Test.YtkackejipgabfaaPk13
import Derived.Test.YtkackejipgabfaaPk10
import Derived.Laws.EntriesVeiled
import Derived.Shelf.Strings.BuilderK
import Derived.RangeFuncOwn
import Derived.Test.YtkackejipgabfaaProg
/- The walk of the view's own made: views of stores in which a node was planted, and installed. -/
namespace Go.Proofs.Ytkackejipgabfaa.Char
open Go.RowKit Go.Lib

/-- what is behind made -/
def MadeP3 (T : TypeId) (w : World) (S : Sto) : Ending → World → Prop := fun e w' => ∃ p b sb b2 d Z Z1 Y Y1, e = .returned (.pointer (some ⟨p, 0, none⟩)) ∧ PairI T w.heap.size w w' p b sb b2 d 3 S [] Z Z1 Y Y1 ∧ ¬ (Z p ∨ Z1 p) ∧ ¬ (Y p ∨ Y1 p)
set_option maxRecDepth 100000 in
set_option maxHeartbeats 16000000 in
theorem madeB_any (t : Tr) (va vk : Value) (w : World) {F : Nat → Prop} (hc : cntT t ≤ 100000) (hn : NdOn w F t va vk) (hF : ∀ g, F g → g < w.heap.size) (ht : totP t ≤ 2000000) :
    Calls Try.prog 12 #[ndV t va vk] w (MadeP3 41 w (stoI t)) := by
  obtain ⟨oa, ja, ok, jk, rfl, rfl⟩ := hn.form
  obtain ⟨W0, hW0⟩ : ∃ W0, W0 = w.alloc (.cells #[.int .i64 t.kd, .string (bs t.nm), .string (bs t.tx), .slice oa t.ats.length ja, .slice ok t.ks.length jk] 25) := ⟨_, rfl⟩
  have hb0 : Below w.heap.size w W0 := by rw [hW0]; exact (Below.refl _ _).alloc (Nat.le_refl _) _
  have hs0 : W0.heap.size = w.heap.size + 1 := by rw [hW0]; simp
  have hk0 : W0.heap[w.heap.size]? = some (.cells #[.int .i64 t.kd, .string (bs t.nm), .string (bs t.tx), .slice oa t.ats.length ja, .slice ok t.ks.length jk] 25 (0, 0)) := by rw [hW0]; exact World.alloc_heap_new w _
  have HN1 := Lib.hid (ps_new w.heap.size W0 (by omega))
  have HN := Lib.hid hn
  have HF := Lib.hid hF
  have HW0 := Lib.hid hW0
  have HB0 := Lib.hid hb0
  have HK0 := Lib.hid hk0
  clear hn hF hb0 hW0 hk0
  unfold ndV
  go_enter Try.func12, Try.ntmps12
  go_upto_region 4 with (first
    | (go_at_call 19
       rw [← HW0.out]
       refine HN1.out.mono ?_
       rintro e w1 ⟨sb, rfl, p1, b1⟩
       have hs1 := b1.size
       have HP1 := Lib.hid p1
       have HR := Lib.hid (refNew_any w.heap.size w1 (by omega))
       have HB1 := Lib.hid (HB0.out.trans (b1.mono (by omega)))
       have HX1 := Lib.hid b1
       clear p1 b1)
    | (go_at_call 42
       refine HR.out.mono ?_
       rintro e w2 ⟨d, dv, rfl, r3, b2, o3⟩
       have hs2 := b2.size
       have HR3 := Lib.hid (RefG.start0 r3)
       have HO3 := Lib.hid o3
       have hv := vs_new (HP1.out.below b2) (by omega) 0
       have HV := Lib.hid hv
       have HZ1 := Lib.hid (fun g hg => (HP1.out.zB g hg).2)
       have HB2 := Lib.hid (HB1.out.trans (b2.mono (by omega)))
       have HX2 := Lib.hid b2
       clear r3 b2 o3 hv HR HP1)
    | (go_at_call 20
       refine HV.out.mono ?_
       rintro e w3 ⟨b, rfl, v3, b3⟩
       have hs3 := b3.size
       have HV3 := Lib.hid v3
       have HB3 := Lib.hid b3
       clear v3 b3 HV))
  obtain ⟨W4, hW4⟩ : ∃ W4, W4 = (w3.alloc (.cells #[.pointer (some ⟨d, 0, none⟩), .int .u64 0, .slice none 0 0] 94)).alloc (.cells #[.pointer (some ⟨b, 0, none⟩), .pointer (some ⟨w3.heap.size, 0, none⟩)] 41) := ⟨_, rfl⟩
  rw [← hW4]
  have hs4 : W4.heap.size = w3.heap.size + 2 := by rw [hW4]; simp
  have hb34 : Below w3.heap.size w3 W4 := by rw [hW4]; exact ((Below.refl _ _).alloc (Nat.le_refl _) _).alloc (by simp) _
  have hkv : W4.heap[w3.heap.size]? = some (.cells #[.pointer (some ⟨d, 0, none⟩), .int .u64 ((0 : Nat) : Int), .slice none 0 0] 94 (0, 0)) := by
    rw [hW4, Below.heap_alloc _ _ _ (by simp)]
    exact World.alloc_heap_new w3 _
  have hkp : W4.heap[w3.heap.size + 1]? = some (.cells #[.pointer (some ⟨b, 0, none⟩), .pointer (some ⟨w3.heap.size, 0, none⟩)] 41 (0, 0)) := by
    rw [hW4]
    have := World.alloc_heap_new (w3.alloc (.cells #[.pointer (some ⟨d, 0, none⟩), .int .u64 0, .slice none 0 0] 94)) (.cells #[.pointer (some ⟨b, 0, none⟩), .pointer (some ⟨w3.heap.size, 0, none⟩)] 41)
    simpa using this
  have htwo := two_newB HV3.out HR3.out HO3.out HB3.out (fun g hg => hg.elim (fun q => .inr q.1) (fun q => .inl (HZ1.out g q))) hb34 (Nat.le_refl _) hkv
  have hbel : Below w.heap.size w W4 := (HB2.out.trans (HB3.out.mono (by omega))).trans (hb34.mono (by omega))
  have hkn : W4.heap[w.heap.size]? = some (.cells #[.int .i64 t.kd, .string (bs t.nm), .string (bs t.tx), .slice oa t.ats.length ja, .slice ok t.ks.length jk] 25 (0, 0)) :=
    (hb34.block _ (by omega)).trans ((HB3.out.block _ (by omega)).trans ((HX2.out.block _ (by omega)).trans ((HX1.out.block _ (by omega)).trans HK0.out)))
  obtain ⟨p, hp⟩ : ∃ p, w3.heap.size + 1 = p := ⟨_, rfl⟩
  have H4 : HalfI (fun g => g = w.heap.size ∨ g = p) w.heap.size w W4 b sb w3.heap.size d 0 newS [] newS [] (fun g => w2.heap.size ≤ g ∧ g < w3.heap.size) (fun g => W0.heap.size ≤ g ∧ g < w1.heap.size) (fun g => (w1.heap.size ≤ g ∧ g < w2.heap.size) ∨ g = w3.heap.size) (fun _ => False) :=
    ⟨htwo, fun g hg => by
      refine ⟨?_, fun hz => ?_, fun hz => ?_⟩
      · omega
      · omega
      · rcases hz with (hz | hz) | hz
        · omega
        · omega
        · exact hz, hbel⟩
  rw [hp] at hkp ⊢
  obtain ⟨q, hq⟩ : ∃ q, w3.heap.size = q := ⟨_, rfl⟩
  rw [hq] at H4 hkp ⊢
  have hpB : w.heap.size ≤ p := by omega
  have HND := Lib.hid fun (W : World) (hb : Below w.heap.size w W) => (HN.out.move (F' := F) fun g hg hf => ⟨hf, hb.block g (HF.out g hf)⟩ : NdOn W F t _ _)
  have hdr : Below W4.heap.size W4 W4.drew := (Below.refl _ _).drew
  have hpv := half_plantV (H4.below hdr) t (.slice oa t.ats.length ja) (.slice ok t.ks.length jk) 1 hc (HND.out _ (H4.below hdr).bel) (fun g hg => ⟨by have := HF.out g hg; show g < W4.heap.size; omega, (H4.below hdr).zlow (HF.out g hg)⟩) (by show 1 + totP t ≤ 10000000; omega) (by show 0 + totP t ≤ 10000000; omega)
  have hknd : W4.drew.heap[w.heap.size]? = _ := hkn
  have hkpd : W4.drew.heap[p]? = _ := hkp
  have n0 : W4.drew.cell? ⟨w.heap.size, 0, none⟩ = some (.int .i64 t.kd) := by simp [World.cell?, hknd]
  have n1 : W4.drew.cell? ⟨w.heap.size, 1, none⟩ = some (.string (bs t.nm)) := by simp [World.cell?, hknd]
  have n2 : W4.drew.cell? ⟨w.heap.size, 2, none⟩ = some (.string (bs t.tx)) := by simp [World.cell?, hknd]
  have n3 : W4.drew.cell? ⟨w.heap.size, 3, none⟩ = some (.slice oa t.ats.length ja) := by simp [World.cell?, hknd]
  have n4 : W4.drew.cell? ⟨w.heap.size, 4, none⟩ = some (.slice ok t.ks.length jk) := by simp [World.cell?, hknd]
  have c0 : W4.drew.cell? ⟨p, 0, none⟩ = some (.pointer (some ⟨b, 0, none⟩)) := by simp [World.cell?, hkpd]
  obtain ⟨I, hI⟩ : ∃ I, (plantT t 1 1 []).1 = I := ⟨_, rfl⟩
  have e1 : newS.given = 1 := rfl
  rw [e1, hI] at hpv
  unfold ndV at hpv
  have HPV := Lib.hid hpv
  have HII := Lib.hid hI
  have HKN := Lib.hid hkn
  have HKP := Lib.hid hkp
  clear hpv hI hkn hkp hknd hkpd H4 htwo hbel hkv hb34 HV3 HR3 HO3 HZ1 HB2 HB3 HX1 HX2 HB1 HN1 hW4 hdr e1 HB0 HK0 hs0 hs1 hs2 hs3 hs4 hq hp
  go_still_tail 5, (by kernel_rfl)
  change wpList _ _ _ _ _ W4.drew
  go_wp2_with (first
    | (go_at_call 21
       refine HPV.out.mono ?_
       rintro e w5 ⟨rfl, ⟨Z5, h5⟩, b5, k5⟩
       have HKN5 := Lib.hid ((k5 _ (.inl rfl)).trans HKN.out)
       have HKP5 := Lib.hid ((k5 _ (.inr rfl)).trans HKP.out)
       have H5 := Lib.hid h5
       clear k5 h5 n0 n1 n2 n3 n4 c0))
  have hdr5 : Below w5.heap.size w5 w5.drew := (Below.refl _ _).drew
  have hpw := half_plantW (H5.out.below hdr5) t (.slice oa t.ats.length ja) (.slice ok t.ks.length jk) 1 hc (HND.out _ (H5.out.below hdr5).bel) (fun g hg => ⟨by have := HF.out g hg; have := (H5.out.below hdr5).bel.size; omega, .inl (HF.out g hg)⟩) (by show 1 + totP t ≤ 10000000; omega) (by show 0 + totP t ≤ 10000000; omega)
  have hknd : w5.drew.heap[w.heap.size]? = _ := HKN5.out
  have hkpd : w5.drew.heap[p]? = _ := HKP5.out
  have n0 : w5.drew.cell? ⟨w.heap.size, 0, none⟩ = some (.int .i64 t.kd) := by simp [World.cell?, hknd]
  have n1 : w5.drew.cell? ⟨w.heap.size, 1, none⟩ = some (.string (bs t.nm)) := by simp [World.cell?, hknd]
  have n2 : w5.drew.cell? ⟨w.heap.size, 2, none⟩ = some (.string (bs t.tx)) := by simp [World.cell?, hknd]
  have n3 : w5.drew.cell? ⟨w.heap.size, 3, none⟩ = some (.slice oa t.ats.length ja) := by simp [World.cell?, hknd]
  have n4 : w5.drew.cell? ⟨w.heap.size, 4, none⟩ = some (.slice ok t.ks.length jk) := by simp [World.cell?, hknd]
  have c1 : w5.drew.cell? ⟨p, 1, none⟩ = some (.pointer (some ⟨q, 0, none⟩)) := by simp [World.cell?, hkpd]
  have e1 : newS.given = 1 := rfl
  rw [e1] at hpw
  unfold ndV at hpw
  have HPW := Lib.hid hpw
  clear hpw hknd hkpd hdr5 e1
  go_still_tail 5, (by kernel_rfl)
  change wpList _ _ _ _ _ w5.drew
  go_upto_if 31 with (first
    | (go_at_call 43
       refine HPW.out.mono ?_
       rintro e w6 ⟨rfl, ⟨Y6, h6⟩, b6, k6⟩
       have HKP6 := Lib.hid ((k6 _ (.inr rfl)).trans HKP5.out)
       have hpl := (h6.np p (.inr rfl)).1
       have H6 := Lib.hid h6
       clear k6 h6 n0 n1 n2 n3 n4 c1 b6))
  obtain ⟨W7, hW7⟩ : ∃ W7, W7 = w6.alloc (.cells #[.int .i64 1, .string ⟨#[]⟩, .string ⟨#[]⟩, .int .i64 0, .slice none 0 0, .slice none 0 0, .bool false] 34) := ⟨_, rfl⟩
  rw [← hW7]
  have hb7 : Below w6.heap.size w6 W7 := by rw [hW7]; exact (Below.refl _ _).alloc (Nat.le_refl _) _
  have hs7 : W7.heap.size = w6.heap.size + 1 := by rw [hW7]; simp
  have hk7 : W7.heap[w6.heap.size]? = some (.cells #[.int .i64 1, .string ⟨#[]⟩, .string ⟨#[]⟩, .int .i64 0, .slice none 0 0, .slice none 0 0, .bool false] 34 (0, 0)) := by rw [hW7]; exact World.alloc_heap_new w6 _
  have f4 : W7.frozen? ⟨w6.heap.size, 4, none⟩ = false := by simp [World.frozen?, hk7]
  have x4 : W7.cell? ⟨w6.heap.size, 4, none⟩ = some (.slice none 0 0) := by simp [World.cell?, hk7]
  obtain ⟨X, hX⟩ : ∃ X, w6.heap.size = X := ⟨_, rfl⟩
  rw [hX] at hb7 hs7 hk7 f4 x4 ⊢
  have hXp : p < X := by omega
  have HB7 := Lib.hid hb7
  have HK7 := Lib.hid hk7
  have HX := Lib.hid hX
  clear hb7 hk7 hW7 hX HPV HKN5 HKP5 H5 HPW HKN HKP hpl
  obtain ⟨D, hD⟩ : ∃ D, decide (0 < I) = D := ⟨_, rfl⟩
  rw [hD]
  have HD := Lib.hid hD
  clear hD
  go_cut [] (fun wx => ∃ o2 j2 Q Zx Yx, Hid (wx.heap[X]? = some (rcB (rootO t, .slice o2 (rootO t).ks.length j2, .slice none 0 0)) ∧ HalfI Q w.heap.size w wx b sb q d 0 (stoA t) (plantT t 1 1 []).2.2 (stoA t) (plantT t 1 1 []).2.2 Zx (fun g => W0.heap.size ≤ g ∧ g < w1.heap.size) Yx (fun _ => False) ∧ Q p ∧ Q X ∧
    IntsOn wx (fun g => o2 = some ⟨g, 0, none⟩) (.slice o2 (rootO t).ks.length j2) (rootO t).ks ∧ (∀ g, o2 = some ⟨g, 0, none⟩ → Q g ∧ g ≠ p ∧ w.heap.size ≤ g) ∧ wx.heap[p]? = some (.cells #[.pointer (some ⟨b, 0, none⟩), .pointer (some ⟨q, 0, none⟩)] 41 (0, 0))))
  case first =>
    cases D with
    | false =>
      go_wp2_with fail
      go_meet
      have h0 : (plantT t 1 1 []).1 = 0 := by have := (plantT_spec t 1 1 []).2.2.1; have h2 := of_decide_eq_false HD.out; rw [HII.out] at this ⊢; omega
      have hr : rootO t = ⟨1, [], [], 0, [], [], false⟩ := by unfold rootO; rw [if_pos h0]
      obtain hb7 := HB7.out
      rw [← HX.out] at hb7
      refine ⟨none, 0, _, _, _, Lib.hid ⟨by rw [hr]; exact HK7.out, H6.out.more hb7, .inl (.inr rfl), .inr ⟨by rw [HX.out]; exact Nat.le_refl _, by omega⟩, by rw [hr]; exact IntsOn.nil _ _ _ _, fun g hg => (by cases hg), (hb7.block p (by rw [HX.out]; exact hXp)).trans HKP6.out⟩⟩
    | true =>
      go_wp2_with fail
      go_meet
      have h0 : (plantT t 1 1 []).1 ≠ 0 := by have h2 := of_decide_eq_true HD.out; rw [HII.out]; omega
      have hr : rootO t = ⟨1, [], [], 0, [I], [], false⟩ := by unfold rootO; rw [if_neg h0, HII.out]
      have hb7 := HB7.out
      rw [← HX.out] at hb7
      have hxx : w6.heap.size ≤ X := by rw [HX.out]; exact Nat.le_refl _
      have hs8 : (W7.setCell ⟨X, 4, none⟩ (.slice (some ⟨X + 1, 0, none⟩) 1 1)).heap.size = X + 1 := by rw [World.size_setCell]; exact hs7
      have hb8 : Below w6.heap.size w6 ((W7.setCell ⟨X, 4, none⟩ (.slice (some ⟨X + 1, 0, none⟩) 1 1)).alloc (.cells #[.int .i64 I] 3)) := (hb7.setCell (p := ⟨X, 4, none⟩) hxx _).alloc (by rw [hs8]; omega) _
      have hkx : ((W7.setCell ⟨X, 4, none⟩ (.slice (some ⟨X + 1, 0, none⟩) 1 1)).alloc (.cells #[.int .i64 I] 3)).heap[X]? = some (rcB (⟨1, [], [], 0, [I], [], false⟩, .slice (some ⟨X + 1, 0, none⟩) 1 1, .slice none 0 0)) := by
        rw [Below.heap_alloc _ _ _ (by rw [hs8]; omega)]
        have := heap_set_at (i := 4) (u := .slice (some ⟨X + 1, 0, none⟩) 1 1) HK7.out
        exact this
      have hky : ((W7.setCell ⟨X, 4, none⟩ (.slice (some ⟨X + 1, 0, none⟩) 1 1)).alloc (.cells #[.int .i64 I] 3)).heap[X + 1]? = some (.cells #[.int .i64 I] 3 (0, 0)) := by
        have := World.alloc_heap_new (W7.setCell ⟨X, 4, none⟩ (.slice (some ⟨X + 1, 0, none⟩) 1 1)) (.cells #[.int .i64 I] 3)
        rw [hs8] at this
        exact this
      have hsz : ((W7.setCell ⟨X, 4, none⟩ (.slice (some ⟨X + 1, 0, none⟩) 1 1)).alloc (.cells #[.int .i64 I] 3)).heap.size = X + 2 := by rw [World.size_alloc, hs8]
      refine ⟨some ⟨X + 1, 0, none⟩, 1, _, _, _, Lib.hid ⟨by rw [hr]; exact hkx, H6.out.more hb8, .inl (.inr rfl), .inr ⟨hxx, by rw [hsz]; omega⟩, ?_, fun g hg => ?_, (hb8.block p (by rw [HX.out]; exact hXp)).trans HKP6.out⟩⟩
      · rw [hr]
        refine ⟨_, _, _, rfl, rfl, .inr ⟨X + 1, 0, rfl, rfl, fun k hk => ?_⟩⟩
        obtain rfl : k = 0 := by simp at hk; exact hk
        simp [World.cell?, hky]
      · obtain rfl : X + 1 = g := by cases hg; rfl
        exact ⟨.inr ⟨by rw [HX.out]; omega, by rw [hsz]; omega⟩, by omega, by omega⟩
  case rest =>
    obtain ⟨o2, j2, Q, Zx, Yx, HQ⟩ := hcut
    have hol := ownA_len t
    have hro := putO_root t
    have hrs := rootO_sm t
    have hpl := (plantT_spec t 1 1 []).2.1
    simp only [List.length_nil] at hpl
    obtain ⟨own1, hown1⟩ : ∃ own1, (plantT t 1 1 []).2.2 = own1 := ⟨_, rfl⟩
    obtain ⟨RO, hRO⟩ : ∃ RO, rootO t = RO := ⟨_, rfl⟩
    rw [hown1, hRO] at HQ
    rw [hown1, hRO] at hro
    rw [hRO] at hrs
    rw [hown1] at hpl
    clear HK7 HB7 H6 HKP6 f4 x4 hs7 HX HD HII HND HN hXp
    obtain ⟨hkx, hh, hqp, hqx, hon, hog, hkp⟩ := HQ.out
    have hdr : Below wc.heap.size wc wc.drew := (Below.refl _ _).drew
    obtain ⟨⟨y0, y1, y2, y3, y4, y5, y6⟩, _⟩ := rc_blk (show wc.drew.heap[X]? = _ from hkx)
    dsimp only at y0 y1 y2 y3 y4 y5 y6
    have hkpd : wc.drew.heap[p]? = _ := hkp
    have c0 : wc.drew.cell? ⟨p, 0, none⟩ = some (.pointer (some ⟨b, 0, none⟩)) := by simp [World.cell?, hkpd]
    have hat : RO.ats = [] := by rw [← hRO]; rfl
    have hnl : ∀ (W : World) (F : Nat → Prop), IntsOn W F (.slice none 0 0) RO.ats := fun W F => by rw [hat]; exact IntsOn.nil _ _ _ _
    have hpv := half_putV (hh.below hdr) (by omega) 1 (by decide) (RO, .slice o2 RO.ks.length j2, .slice none 0 0) ⟨hon.move fun g _ hF => ⟨hF, rfl⟩, hnl _ _⟩ hrs
    unfold rcV at hpv
    dsimp only at hpv
    have HPV := Lib.hid hpv
    have HKX := Lib.hid hkx
    have HKP := Lib.hid hkp
    have HON := Lib.hid hon
    have HOG := Lib.hid hog
    have HNL := Lib.hid hnl
    have HRO := Lib.hid hro
    have HRS := Lib.hid hrs
    have HQP := Lib.hid hqp
    have HQX := Lib.hid hqx
    have HOW := Lib.hid hown1
    have HNQ := Lib.hid hh.np
    clear hpv hkx hkp hon hog hnl hro hrs hqp hqx hh HQ hkpd hdr hRO hown1 hat
    go_wp2_with fail
    go_still_tail 5, (by kernel_rfl)
    change wpList _ _ _ _ _ wc.drew
    go_wp2_with (first
      | (go_at_call 23
         refine HPV.out.mono ?_
         rintro e w9 ⟨rfl, ⟨Z9, h9⟩, b9, k9⟩
         have HK9 := Lib.hid k9
         have H9 := Lib.hid h9
         clear k9 h9 b9 c0 y0 y1 y2 y3 y4 y5 y6))
    have hkx9 : w9.heap[X]? = some (rcB (RO, .slice o2 RO.ks.length j2, .slice none 0 0)) := (HK9.out X HQX.out).trans HKX.out
    have hkp9 : w9.heap[p]? = some (.cells #[.pointer (some ⟨b, 0, none⟩), .pointer (some ⟨q, 0, none⟩)] 41 (0, 0)) := (HK9.out p HQP.out).trans HKP.out
    have hdr9 : Below w9.heap.size w9 w9.drew := (Below.refl _ _).drew
    obtain ⟨⟨y0, y1, y2, y3, y4, y5, y6⟩, _⟩ := rc_blk (show w9.drew.heap[X]? = _ from hkx9)
    dsimp only at y0 y1 y2 y3 y4 y5 y6
    have hkpd : w9.drew.heap[p]? = _ := hkp9
    have c1 : w9.drew.cell? ⟨p, 1, none⟩ = some (.pointer (some ⟨q, 0, none⟩)) := by simp [World.cell?, hkpd]
    have hon9 : IntsOn w9.drew (fun g => o2 = some ⟨g, 0, none⟩) (.slice o2 RO.ks.length j2) RO.ks := HON.out.move fun g hg hF => ⟨hF, (HK9.out g (HOG.out g hF).1 : w9.heap[g]? = wc.heap[g]?)⟩
    have hpw := half_putW (H9.out.below hdr9) (by omega) 1 (RO, .slice o2 RO.ks.length j2, .slice none 0 0) ⟨hon9, HNL.out _ _⟩ (fun g hg => by
      obtain ⟨q1, q2, q3⟩ := (H9.out.below hdr9).np g (HOG.out g hg).1
      exact ⟨q2, .inl fun hy => q3 (.inl hy), q1⟩) HRS.out
    rw [HRO.out] at hpw
    have h9 := H9.out
    unfold rcV at hpw
    dsimp only at hpw
    have HPW := Lib.hid hpw
    have HKP9 := Lib.hid hkp9
    clear hpw hon9 hkpd hkp9 hkx9 hdr9 HPV h9
    go_still_tail 5, (by kernel_rfl)
    change wpList _ _ _ _ _ w9.drew
    go_wp2_with (first
      | (go_at_call 44
         refine HPW.out.mono ?_
         rintro e w10 ⟨rfl, ⟨Y10, h10⟩, b10, k10⟩
         have HKP10 := Lib.hid ((k10 p HQP.out).trans HKP9.out)
         have hpq := fun hg => (HOG.out p hg).2.1 rfl
         have H10 := Lib.hid (h10.less (P' := fun g => g = p) fun g hg => by rw [hg]; exact ⟨HQP.out, hpq⟩)
         have d0 : w10.cell? ⟨p, 0, none⟩ = some (.pointer (some ⟨b, 0, none⟩)) := by simp [World.cell?, HKP10.out]
         have HCH := Lib.hid (H10.out.changes (by omega))
         clear k10 h10 b10 c1 hpq y0 y1 y2 y3 y4 y5 y6)
      | (go_at_call 22
         refine HCH.out.mono ?_
         rintro e w11 ⟨v, cs, rfl, g1, g2, g3, g4⟩
         obtain ⟨o, j, rfl⟩ := g2.form
         have h11 := H10.out.below g4
         have hp11 := (g4.block p (H10.out.np p rfl).1).trans HKP10.out
         have hi := half_instV h11 3 cs o j (F := fun g => w10.heap.size ≤ g) (fun g hg hz => by have := (H10.out.two.vs.zB g (.inr hz)).2; omega) (g2.on (fun g hg => (g2.blk hg).1) g3 (fun g hg => hg.1)) g1 h11.sm (by omega) (by have h1 := (plantT_spec t 1 1 []).1; show (plantT t 1 1 []).2.1 ≤ 10000000; omega) (by show 1 ≤ 10000000; decide)
         rw [inst_ok t h11.two.vs.up] at hi
         have HI : Hid (Calls Try.prog 26 #[.pointer (some ⟨sb, 0, none⟩), .int .u64 3, .slice o cs.length j] w11 fun e W' => e = .returned (.int .i64 0) ∧ (∃ Z1', HalfI (fun g => g = p) w.heap.size w W' b sb q d 0 (stoI t) (ownA t) (stoA t) (ownA t) Z9 Z1' Y10 (fun _ => False)) ∧ ∀ g, g = p → W'.heap[g]? = w11.heap[g]?) := Lib.hid hi
         have HP11 := Lib.hid hp11
         clear hi hp11 h11 g1 g2 g3 g4 d0 HCH)
      | (go_at_call 26
         refine HI.out.mono ?_
         rintro e w12 ⟨rfl, ⟨Z12, h12⟩, k12⟩
         have hp12 := (k12 p rfl).trans HP11.out
         have d1 : w12.cell? ⟨p, 1, none⟩ = some (.pointer (some ⟨q, 0, none⟩)) := by simp [World.cell?, hp12]
         obtain ⟨o2, j2, hov⟩ := h12.two.ws.ownV
         have hi := half_instW h12 3 o2 j2 hov h12.sm (by omega) (by have h1 := (plantT_spec t 1 1 []).1; show (plantT t 1 1 []).2.1 ≤ 10000000; omega) (by show 1 ≤ 10000000; decide)
         rw [inst_ok t h12.two.vs.up] at hi
         have HI2 : Hid (Calls Try.prog 45 #[.pointer (some ⟨d, 0, none⟩), .int .u64 3, .slice o2 (ownA t).length j2] w12 fun e W' => e = .returned (.int .i64 0) ∧ (∃ Y', HalfI (fun g => g = p) w.heap.size w W' b sb q d 0 (stoI t) (ownA t) (stoI t) (ownA t) Z9 Z12 Y' (fun _ => False)) ∧ ∀ g, g = p → W'.heap[g]? = w12.heap[g]?) := Lib.hid hi
         have HP12 := Lib.hid hp12
         clear hi hp12 h12 k12 HI HP11)
      | (go_at_call 45
         refine HI2.out.mono ?_
         rintro e w13 ⟨rfl, ⟨Y13, h13⟩, k13⟩
         have HVN : Hid (Calls Try.prog 20 #[.pointer (some ⟨sb, 0, none⟩), .int .u64 3] w13 fun e w' => ∃ b', e = .returned (.pointer (some ⟨b', 0, none⟩)) ∧ VS (fun g => w13.heap.size ≤ g ∧ g < w'.heap.size) Z12 w.heap.size w' b' sb 3 (stoI t) [] ∧ Below w13.heap.size w13 w') := Lib.hid (half_new h13 3)
         have H13 := Lib.hid h13
         clear h13 k13 d1 hov HI2)
      | (go_at_call 20
         refine HVN.out.mono ?_
         rintro e w14 ⟨b', rfl, v14, b14⟩
         have V14 := Lib.hid v14
         have B14 := Lib.hid b14
         clear v14 b14 HVN))
    obtain ⟨W15, hW15⟩ : ∃ W15, W15 = (w14.alloc (.cells #[.pointer (some ⟨d, 0, none⟩), .int .u64 3, .slice none 0 0] 94)).alloc (.cells #[.pointer (some ⟨b', 0, none⟩), .pointer (some ⟨w14.heap.size, 0, none⟩)] 41) := ⟨_, rfl⟩
    rw [← hW15]
    have hb15 : Below w14.heap.size w14 W15 := by rw [hW15]; exact ((Below.refl _ _).alloc (Nat.le_refl _) _).alloc (by simp) _
    have hkv : W15.heap[w14.heap.size]? = some (.cells #[.pointer (some ⟨d, 0, none⟩), .int .u64 ((3 : Nat) : Int), .slice none 0 0] 94 (0, 0)) := by
      rw [hW15, Below.heap_alloc _ _ _ (by simp)]
      exact World.alloc_heap_new w14 _
    have hkp : W15.heap[w14.heap.size + 1]? = some (.cells #[.pointer (some ⟨b', 0, none⟩), .pointer (some ⟨w14.heap.size, 0, none⟩)] 41 (0, 0)) := by
      rw [hW15]
      have := World.alloc_heap_new (w14.alloc (.cells #[.pointer (some ⟨d, 0, none⟩), .int .u64 3, .slice none 0 0] 94)) (.cells #[.pointer (some ⟨b', 0, none⟩), .pointer (some ⟨w14.heap.size, 0, none⟩)] 41)
      simpa using this
    have hlow := H13.out.two.vs.lowB
    have hfin := H13.out.again V14.out B14.out hb15 (Nat.le_refl _) hkv hkp (by have := B14.out.size; omega)
    have hs15 : W15.heap.size = w14.heap.size + 2 := by rw [hW15]; simp
    have hnz : ∀ g, Z12 g → g < w13.heap.size := fun g hg => (H13.out.two.vs.zB g (.inr hg)).2
    have hny : ∀ g, Y13 g → g < w13.heap.size := fun g hg => (H13.out.two.ws.zB g (.inl hg)).2
    have hs14 := B14.out.size
    clear hW15
    go_ret
    refine ⟨_, _, _, _, _, _, _, _, _, rfl, hfin, fun hz => ?_, fun hy => ?_⟩
    · rcases hz with hz | hz
      · omega
      · have := hnz _ hz; omega
    · rcases hy with (hy | hy) | hy
      · have := hny _ hy; omega
      · omega
      · exact hy
end Go.Proofs.Ytkackejipgabfaa.Char

/- What a view's below hands to a loop. -/
namespace Go.Proofs.Ytkackejipgabfaa.Char
open Go.RowKit Go.Lib Go.Shelf

/-- what is handed to a loop: a node, and its record -/
structure BlE where
  id : Int
  r : Rc
  ok : Option Addr
  jk : Nat
  oa : Option Addr
  ja : Nat
def BlE.key (m : BlE) : Int × Rc := (m.id, m.r)
def BlE.enc (m : BlE) : Array Value := #[.int .i64 m.id, .agg #[.int .i64 m.r.kd, .string (bs m.r.nm), .string (bs m.r.tx), .int .i64 m.r.pa, .slice m.ok m.r.ks.length m.jk, .slice m.oa m.r.ats.length m.ja, .bool m.r.gone]]
/-- what is in a node, of what is gone through -/
def blG (id : Int) (l : List Gn) : List (Int × Rc) := (l.filter fun x => decide (x.1 ≠ id) && !x.2.1).map fun x => (x.1, x.2.2)
theorem blG_pre {id : Int} {a b : List Gn} (h : a <+: b) : blG id a <+: blG id b := (h.filter _).map _
theorem blG_snoc (id : Int) (a : List Gn) (x : Gn) : blG id (a ++ [x]) = blG id a ++ (if (decide (x.1 ≠ id) && !x.2.1) = true then [(x.1, x.2.2)] else []) := by
  unfold blG
  rw [List.filter_append, List.map_append, List.filter_cons, List.filter_nil]
  split <;> rfl
/-- how the rounds leave the world -/
structure BlS (Z : Nat → Prop) (w0 : World) (vx ix : Nat) (W : World) : Prop where
  z : ∀ g, Z g ∨ g = vx ∨ g = ix → W.heap[g]? = w0.heap[g]?
  size : w0.heap.size ≤ W.heap.size
/-- the loop in it -/
structure BlI (J : (Nat → Prop) → List BlE → World → Prop) (id : Int) (W0 WL : World) (O : Nat → Prop) (pre : List Met) (W : World) : Prop where
  size : WL.heap.size ≤ W.heap.size
  low : ∀ k, O k → WL.heap.size ≤ k
  keep : ∀ k, W0.heap.size ≤ k → k < WL.heap.size → W.heap[k]? = WL.heap[k]?
  own : ∃ Oo xs, (∀ k, O k → Oo k) ∧ (∀ k, Oo k → k < W.heap.size) ∧ (∀ k, W0.heap.size ≤ k → k < WL.heap.size → Oo k) ∧ xs.map BlE.key = blG id (pre.map Met.key) ∧ J Oo xs W
theorem ItStep.wide {O O' Oo : Nat → Prop} {W W' : World} (hs : ItStep O W O' W') (ho : ∀ k, O k → Oo k) (hl : ∀ k, Oo k → k < W.heap.size) : ItStep Oo W (fun k => Oo k ∨ O' k) W' :=
  ⟨hs.low, fun _ h => .inl h, fun k h => h.elim .inl fun q => (hs.new k q).imp (ho k) (fun q => q), fun k hk hn => hs.keep k hk fun q => hn (ho k q), fun k h => h.elim (fun q => Nat.lt_of_lt_of_le (hl k q) hs.low.size) (hs.lt k)⟩
theorem BlI.step {J : (Nat → Prop) → List BlE → World → Prop} (hJ : ∀ O pre W1 O' W2, J O pre W1 → ItStep O W1 O' W2 → J O' pre W2) {id : Int} {W0 WL : World} {O O' : Nat → Prop} {pre : List Met} {W W' : World} (h : BlI J id W0 WL O pre W) (hs : ItStep O W O' W') : BlI J id W0 WL O' pre W' := by
  obtain ⟨Oo, xs, h1, h2, h3, h4, h5⟩ := h.own
  have hz := h.size
  refine ⟨Nat.le_trans hz hs.low.size, fun k hk => (hs.new k hk).elim (h.low k) (fun q => Nat.le_trans hz q), fun k k1 k2 => (hs.keep k (by omega) (fun q => by have := h.low k q; omega)).trans (h.keep k k1 k2), _, xs, fun _ q => .inr q, (hs.wide h1 h2).lt, fun k k1 k2 => .inl (h3 k k1 k2), h4, hJ _ _ _ _ _ h5 (hs.wide h1 h2)⟩
/-- the loop, left -/
def BlX (Jx : (Nat → Prop) → List BlE → World → Prop) (id : Int) (full : List Gn) (O : Nat → Prop) (W : World) : Prop := ∃ Oo xs, (∀ k, O k → Oo k) ∧ (∀ k, Oo k → k < W.heap.size) ∧ xs.map BlE.key <+: blG id full ∧ Jx Oo xs W
theorem BlX.step {Jx : (Nat → Prop) → List BlE → World → Prop} (hJ : ∀ O pre W1 O' W2, Jx O pre W1 → ItStep O W1 O' W2 → Jx O' pre W2) {id : Int} {full : List Gn} {O O' : Nat → Prop} {W W' : World} (h : BlX Jx id full O W) (hs : ItStep O W O' W') : BlX Jx id full O' W' := by
  obtain ⟨Oo, xs, h1, h2, h3, h4⟩ := h
  exact ⟨_, xs, fun _ q => .inr q, (hs.wide h1 h2).lt, h3, hJ _ _ _ _ _ h4 (hs.wide h1 h2)⟩
set_option maxRecDepth 100000 in
set_option maxHeartbeats 2000000 in
theorem below_any (vp : Option Addr) (id : Int) (w : World) :
    Calls Try.prog 61 #[.pointer vp, .int .i64 id] w fun e w' => e = .returned (.func (.func 90) #[] #[.pointer (some ⟨w.heap.size, 0, none⟩), .pointer (some ⟨w.heap.size + 1, 0, none⟩)]) ∧ w' = (w.alloc (.cells #[.pointer vp] 38)).alloc (.cells #[.int .i64 id] 3) := by
  have hmf : ∀ (fn : Fn) (first cap : Array Value) (w : World), (Instr.makeFunc fn first cap).run Try.prog w = .ok (.func fn first cap) w := fun _ _ _ _ => rfl
  go_enter Try.func61, Try.ntmps61
  go_wp2_with fail
  go_ret
  exact ⟨rfl, rfl⟩
end Go.Proofs.Ytkackejipgabfaa.Char

/- The walk of what a view's below hands to a loop. -/
namespace Go.Proofs.Ytkackejipgabfaa.Char
open Go.RowKit Go.Lib Go.Shelf
attribute [local go_sem] Oper.semAt_some

theorem al_some {w : World} {a : Addr} {v : Value} (ob : Obj) (h : w.cell? a = some v) : (w.alloc ob).cell? a = some v := (((Below.refl _ w).alloc (Nat.le_refl _) ob).cell (p := a) (cell_lt h)).trans h
set_option maxRecDepth 100000 in
set_option maxHeartbeats 8000000 in
theorem below_seq {Z : Nat → Prop} {w0 : World} {vp : Option Addr} {look : Int → Option Rc} {vx ix : Nat} (HH : ThH Z w0 vp look vx) (id : Int) (hid : (Lit.int .i64 id).wf = true) (f : Nat) (full : List Gn) (hg : goF look f id false [] = some full) (hfl : full.length ≤ 100000000)
    (hix : w0.heap[ix]? = some (.cells #[.int .i64 id] 3 (0, 0))) (w : World) :
    SeqOwn Try.prog 90 #[.pointer (some ⟨vx, 0, none⟩), .pointer (some ⟨ix, 0, none⟩)] BlE.enc BlE.key (BlS Z w0 vx ix) (blG id full) w := by
  intro l J Jx W _ hSt hJ hJx h0 hY
  have hst0 := hSt _ _ _ h0
  have hbx0 : W.heap[vx]? = some (.cells #[.pointer vp] 38 (0, 0)) := (hst0.z vx (.inr (.inl rfl))).trans HH.vb
  have hbi0 : W.heap[ix]? = some (.cells #[.int .i64 id] 3 (0, 0)) := (hst0.z ix (.inr (.inr rfl))).trans hix
  have cv0 : ∀ ob, (W.alloc ob).cell? ⟨vx, 0, none⟩ = some (.pointer vp) := fun ob => al_some ob (by simp [World.cell?, hbx0])
  have ci0 : ∀ ob, (W.alloc ob).cell? ⟨ix, 0, none⟩ = some (.int .i64 id) := fun ob => al_some ob (by simp [World.cell?, hbi0])
  have HT := fun (W : World) => Lib.hid ((callsIn_wide (n := 19)).2 (through_any vp id W))
  have H := Lib.hid HH
  have HY := Lib.hid hY
  have HJ := Lib.hid hJ
  have HJX := Lib.hid hJx
  have HST := Lib.hid hSt
  have HS0 := Lib.hid hst0
  have HJ0 := Lib.hid h0
  have HBI := Lib.hid hbi0
  have HIX := Lib.hid hix
  clear HH hY hJ hJx hSt hst0 h0 hbx0 hbi0 hix
  refine (callsIn_wide (n := 20)).1 ?_
  refine callsIn_of_wp_marks Try.func90 rfl trivial ?_ rfl
  simp only [Try.ntmps90, List.size_toArray, List.length_cons, List.length_nil, Nat.reduceAdd, Nat.reduceSub, Array.replicate_succ, Array.replicate_zero, List.push_toArray, List.append_toArray, List.nil_append, List.cons_append]
  gi_wp2_with (first
    | (refine ⟨trivial, ?_⟩; gi_at_call 46; refine (HT _).out.mono ?_; rintro e w' ⟨rfl, rfl⟩))
  obtain ⟨WL, hWL⟩ : ∃ WL, WL = ((W.alloc (.cells #[.func (.yield l) #[] #[]] 165)).alloc (.cells #[.pointer vp] 38)).alloc (.cells #[.int .i64 id] 3) := ⟨_, rfl⟩
  rw [← hWL]
  have hs0 : W.heap.size < WL.heap.size := by rw [hWL]; simp; omega
  have hsL : WL.heap.size = W.heap.size + 3 := by rw [hWL]; simp
  have hB0 : Below W.heap.size W WL := by rw [hWL]; exact (((Below.refl _ _).alloc (Nat.le_refl _) _).alloc (by simp) _).alloc (by simp; omega) _
  have hby : WL.heap[W.heap.size]? = some (.cells #[.func (.yield l) #[] #[]] 165 (0, 0)) := by
    rw [hWL, Below.heap_alloc _ _ _ (by simp; omega), Below.heap_alloc _ _ _ (by simp)]
    exact World.alloc_heap_new W _
  have hbv : WL.heap[W.heap.size + 1]? = some (.cells #[.pointer vp] 38 (0, 0)) := by
    rw [hWL, Below.heap_alloc _ _ _ (by simp)]
    have := World.alloc_heap_new (W.alloc (.cells #[.func (.yield l) #[] #[]] 165)) (.cells #[.pointer vp] 38)
    simpa using this
  have hbi : WL.heap[W.heap.size + 2]? = some (.cells #[.int .i64 id] 3 (0, 0)) := by
    rw [hWL]
    have := World.alloc_heap_new ((W.alloc (.cells #[.func (.yield l) #[] #[]] 165)).alloc (.cells #[.pointer vp] 38)) (.cells #[.int .i64 id] 3)
    simpa using this
  have hzz : ∀ g, Z g → g < W.heap.size := fun g hg => Nat.lt_of_lt_of_le (H.out.zB g hg) HS0.out.size
  have hixl := (Array.getElem?_eq_some_iff.1 HBI.out).1
  have hzL : ∀ g, Z g → WL.heap[g]? = w0.heap[g]? := fun g hg => (hB0.block g (hzz g hg)).trans (HS0.out.z g (.inl hg))
  have HTH : ThH Z WL vp look (W.heap.size + 1) := ⟨fun W' hz hs => H.out.tell W' (fun g hg => (hz g hg).trans (hzL g hg)) (Nat.le_trans HS0.out.size (Nat.le_trans hB0.size hs)), H.out.sm, hbv, fun g hg => Nat.lt_of_lt_of_le (hzz g hg) hB0.size, H.out.wf⟩
  refine wpIn_rangeFunc_set (n := 20) (gf := 78) (lb := #[.pointer (some ⟨W.heap.size + 1, 0, none⟩), .pointer (some ⟨W.heap.size + 2, 0, none⟩)]) rfl (enters_of Try.func78 (by kernel_rfl) rfl)
    (through_seq HTH id hid f full hg (by omega) WL hbi) (Below.refl _ _) (fun _ => rfl)
    (fun O pre W' => BlI J id W WL O pre W') (fun c O _ W' => c = .ret ∧ BlX Jx id full O W') (fun O pre W1 O' W2 h hs => h.step HJ.out hs) (fun c O pre W1 O' W2 h hs => ⟨h.1, h.2.step HJX.out hs⟩) ?st ?start
    (fun O x a' W' => ∃ mb, ¬ O mb ∧ mb < W'.heap.size ∧ W'.heap[mb]? = some (.cells #[.int .i64 x.r.kd, .string (bs x.r.nm), .string (bs x.r.tx), .int .i64 x.r.pa, .slice x.ok x.r.ks.length x.jk, .slice x.oa x.r.ats.length x.ja, .bool x.r.gone, .bool x.aside] 158 (0, 0)) ∧
      a' = { tmps := #[.func (.yield l) #[] #[], .pointer (some ⟨vx, 0, none⟩), .pointer (some ⟨ix, 0, none⟩), .pointer (some ⟨W.heap.size, 0, none⟩), .int .i64 x.id, .pointer (some ⟨mb, 0, none⟩), .pointer vp, .int .i64 id, .func (.func 78) #[] #[.pointer (some ⟨W.heap.size + 1, 0, none⟩), .pointer (some ⟨W.heap.size + 2, 0, none⟩)], .int .i64 x.id, .agg #[.int .i64 x.r.kd, .string (bs x.r.nm), .string (bs x.r.tx), .int .i64 x.r.pa, .slice x.ok x.r.ks.length x.jk, .slice x.oa x.r.ats.length x.ja, .bool x.r.gone, .bool x.aside], undef, undef, undef, undef, undef, undef, undef, undef, undef, undef, undef, undef, undef, undef, undef, undef], defers := [] })
    (fun O x a' W1 O' W2 h hs => ?ax) ?assign ?body ?done ?stop
  case st =>
    intro O pre W' hi
    obtain ⟨Oo, xs, h1, h2, h3, h4, h5⟩ := hi.own
    have hs := HST.out _ _ _ h5
    refine ⟨fun g hg => ?_, hi.size⟩
    rcases hg with hg | rfl
    · exact (hs.z g (.inl hg)).trans (hzL g hg).symm
    · exact hi.keep _ (by omega) (by omega)
  case start =>
    have hstep : ItStep (fun _ => False) W (fun k => W.heap.size ≤ k ∧ k < WL.heap.size) WL := ⟨hB0.mono (Nat.zero_le _), fun _ h => h.elim, fun _ h => .inr h.1, fun k hk _ => hB0.block k hk, fun _ h => h.2⟩
    exact ⟨Nat.le_refl _, fun _ h => h.elim, fun _ _ _ => rfl, _, [], fun _ h => h.elim, fun _ h => h.2, fun k k1 k2 => ⟨k1, k2⟩, rfl, HJ.out _ _ _ _ _ HJ0.out hstep⟩
  case ax =>
    obtain ⟨mb, h1, h2, h3, h4⟩ := h
    exact ⟨mb, fun ho => (hs.new mb ho).elim h1 (fun q => by omega), Nat.lt_of_lt_of_le h2 hs.low.size, (hs.keep mb h2 h1).trans h3, h4⟩
  case assign =>
    rintro l' m O pre x W' K hO hi hK
    simp only [Met.enc]
    gi_wp2
    refine hK _ _ ?_ ?_ (hi.step HJ.out (ItStep.pass hO ((Below.refl _ W').alloc (Nat.le_refl _) _))) ⟨W'.heap.size, fun ho => Nat.lt_irrefl _ (hO _ ho), ?_, ?_, rfl⟩
    · simp
    · intro k hk
      exact Below.heap_alloc _ _ _ (hO k hk)
    · simp
    · exact World.alloc_heap_new W' _
  case body =>
    rintro l' m O pre x a' W' hO hi ⟨mb, hm1, hm2, hm3, rfl⟩ hpx
    obtain ⟨Oo, xs, h1, h2, h3, h4, h5⟩ := hi.own
    have hst := HST.out _ _ _ h5
    have cy : W'.cell? ⟨W.heap.size, 0, none⟩ = some (.func (.yield l) #[] #[]) := by
      have := (hi.keep W.heap.size (Nat.le_refl _) hs0).trans hby
      simp [World.cell?, this]
    have ci : W'.cell? ⟨ix, 0, none⟩ = some (.int .i64 id) := by
      have := (hst.z ix (.inr (.inr rfl))).trans HIX.out
      simp [World.cell?, this]
    have m0 : W'.cell? ⟨mb, 0, none⟩ = some (.int .i64 x.r.kd) := by simp [World.cell?, hm3]
    have m1 : W'.cell? ⟨mb, 1, none⟩ = some (.string (bs x.r.nm)) := by simp [World.cell?, hm3]
    have m2 : W'.cell? ⟨mb, 2, none⟩ = some (.string (bs x.r.tx)) := by simp [World.cell?, hm3]
    have m3 : W'.cell? ⟨mb, 3, none⟩ = some (.int .i64 x.r.pa) := by simp [World.cell?, hm3]
    have m4 : W'.cell? ⟨mb, 4, none⟩ = some (.slice x.ok x.r.ks.length x.jk) := by simp [World.cell?, hm3]
    have m5 : W'.cell? ⟨mb, 5, none⟩ = some (.slice x.oa x.r.ats.length x.ja) := by simp [World.cell?, hm3]
    have m6 : W'.cell? ⟨mb, 6, none⟩ = some (.bool x.r.gone) := by simp [World.cell?, hm3]
    have m7 : W'.cell? ⟨mb, 7, none⟩ = some (.bool x.aside) := by simp [World.cell?, hm3]
    have hbp := blG_pre (id := id) hpx
    rw [List.map_append] at hbp
    have hsn := blG_snoc id (pre.map Met.key) (Met.key x)
    rw [show [Met.key x] = List.map Met.key [x] from rfl] at hsn
    have HI := Lib.hid hi
    have HOO := Lib.hid (show (∀ k, O k → Oo k) ∧ (∀ k, Oo k → k < W'.heap.size) ∧ (∀ k, W.heap.size ≤ k → k < WL.heap.size → Oo k) ∧ xs.map BlE.key = blG id (pre.map Met.key) ∧ J Oo xs W' from ⟨h1, h2, h3, h4, h5⟩)
    have HBP := Lib.hid hbp
    have HSN := Lib.hid hsn
    have HO := Lib.hid hO
    clear hi h1 h2 h3 h4 h5 hst hbp hsn hpx hO hm3
    have skip : blG id ((pre ++ [x]).map Met.key) = blG id (pre.map Met.key) → BlI J id W WL O (pre ++ [x]) W' := fun h => by
      obtain ⟨h1, h2, h3, h4, h5⟩ := HOO.out
      exact ⟨HI.out.size, HI.out.low, HI.out.keep, Oo, xs, h1, h2, h3, by rw [h]; exact h4, h5⟩
    have HSK := Lib.hid skip
    clear skip
    by_cases hid0 : x.id = id
    · have k1 : (x.id != id) = false := by simp [hid0]
      have hnone : blG id ((pre ++ [x]).map Met.key) = blG id (pre.map Met.key) := by
        rw [List.map_append, HSN.out]
        simp [Met.key, hid0]
      have HN := Lib.hid (HSK.out hnone)
      clear hnone hid0
      gi_wp2_with fail
      refine ⟨fun f hf => (by cases hf), ?_⟩
      gi_wp2_with fail
      exact ⟨Nat.le_refl _, fun _ _ => rfl, HN.out⟩
    · have k1 : (x.id != id) = true := by simp [hid0]
      cases hs : x.aside with
      | true =>
        rw [hs] at m7
        have hnone : blG id ((pre ++ [x]).map Met.key) = blG id (pre.map Met.key) := by
          rw [List.map_append, HSN.out]
          simp [Met.key, hs]
        have HN := Lib.hid (HSK.out hnone)
        clear hnone hid0 hs
        gi_wp2_with fail
        refine ⟨fun f hf => (by cases hf), ?_⟩
        gi_wp2_with fail
        exact ⟨Nat.le_refl _, fun _ _ => rfl, HN.out⟩
      | false =>
        rw [hs] at m7
        have hone : blG id ((pre ++ [x]).map Met.key) = blG id (pre.map Met.key) ++ [(x.id, x.r)] := by
          rw [List.map_append, HSN.out, if_pos (by simp [Met.key, hs, hid0])]
          rfl
        obtain ⟨h1, h2, h3, h4, h5⟩ := HOO.out
        have hmap : (xs ++ [(⟨x.id, x.r, x.ok, x.jk, x.oa, x.ja⟩ : BlE)]).map BlE.key = blG id ((pre ++ [x]).map Met.key) := by
          rw [hone, List.map_append, h4]
          rfl
        obtain ⟨fn, tmps, asg, bdy, hy, hRD⟩ := HY.out Oo xs ⟨x.id, x.r, x.ok, x.jk, x.oa, x.ja⟩ W' 0 h2 h5 (by rw [hmap, List.map_append]; exact HBP.out)
        unfold BlE.enc at hy
        dsimp only at hy
        have HRD := Lib.hid hRD
        have HMAP := Lib.hid hmap
        clear hid0 hs hone h1 h2 h3 h4 h5 hmap hRD
        gi_wp2_with fail
        refine ⟨fun h => (by cases h), ?_⟩
        refine RoundIn.mono (show RoundIn (Fence.wide.inRound l') (m - 1) Try.prog l fn tmps asg bdy W' _ from roundIn_wide (m' := m - 1) HRD.out) ?_
        rintro e W6 ⟨z6, h6, (⟨rfl, j6⟩ | ⟨rfl, x6⟩)⟩
        · have hn : BlI J id W WL O (pre ++ [x]) W6 := by
            obtain ⟨h1, h2, h3, h4, h5⟩ := HOO.out
            exact ⟨Nat.le_trans HI.out.size z6, HI.out.low, fun k k1 k2 => (h6 k (h3 k k1 k2)).trans (HI.out.keep k k1 k2), Oo, _, h1, fun k hk => Nat.lt_of_lt_of_le (h2 k hk) z6, h3, HMAP.out, j6⟩
          have HN := Lib.hid hn
          have H6 := Lib.hid h6
          clear hn h6 j6
          gi_wp2_with fail
          exact ⟨z6, fun k hk => H6.out k (HOO.out.1 k hk), HN.out⟩
        · have hn : BlX Jx id full O W6 := by
            obtain ⟨h1, h2, h3, h4, h5⟩ := HOO.out
            exact ⟨Oo, _, h1, fun k hk => Nat.lt_of_lt_of_le (h2 k hk) z6, by rw [HMAP.out, List.map_append]; exact HBP.out, x6⟩
          have HN := Lib.hid hn
          have H6 := Lib.hid h6
          clear hn h6 x6
          gi_wp2_with fail
          exact ⟨z6, fun k hk => H6.out k (HOO.out.1 k hk), rfl, HN.out⟩
  case done =>
    rintro O xs W' hO hD hxs hi hK
    have HI := Lib.hid hi
    clear hi
    gi_wp2
    refine ⟨by simp, .inl ⟨_, _, rfl, run_takeDeferred hK, ?_⟩⟩
    have hi2 := HI.out.step HJ.out (ItStep.put hO hD (.deferred none))
    obtain ⟨Oo, ys, h1, h2, h3, h4, h5⟩ := hi2.own
    rw [hxs] at h4
    exact ⟨.tuple #[], by simp [results, Try.results90], ⟨_, rfl⟩, Oo, h2, .inl ⟨ys, h4, h5⟩⟩
  case stop =>
    rintro O c pre W' hO hD hpx ⟨rfl, hx⟩ hK
    have HX := Lib.hid hx
    clear hx
    gi_wp2
    refine ⟨by simp, .inl ⟨_, _, rfl, run_takeDeferred hK, ?_⟩⟩
    obtain ⟨Oo, ys, h1, h2, h3, h4⟩ := HX.out.step HJX.out (ItStep.put hO hD (.deferred none))
    exact ⟨.tuple #[], by simp [results, Try.results90], ⟨_, rfl⟩, Oo, h2, .inr ⟨ys, h3, h4⟩⟩
end Go.Proofs.Ytkackejipgabfaa.Char

/- The walk of a view's Below. -/
namespace Go.Proofs.Ytkackejipgabfaa.Char
open Go.RowKit Go.Lib Go.Shelf
attribute [local go_sem] Oper.semAt_some

/-- the loop of Below -/
structure BelI (w WL : World) (vp : Option Addr) (O : Nat → Prop) (pre : List BlE) (W : World) : Prop where
  bel : Below w.heap.size w W
  size : WL.heap.size ≤ W.heap.size
  lowO : ∀ k, O k → WL.heap.size ≤ k
  box : Col w.heap.size WL.heap.size O (pre.map (·.id)) W
  vb : W.heap[w.heap.size + 1]? = some (.cells #[.pointer vp] 38 (0, 0))
  ib : W.heap[w.heap.size + 2]? = WL.heap[w.heap.size + 2]?
theorem BelI.step {w WL : World} {vp : Option Addr} {O O' : Nat → Prop} {pre : List BlE} {W W' : World} (hw : w.heap.size + 2 < WL.heap.size) (h : BelI w WL vp O pre W) (hs : ItStep O W O' W') : BelI w WL vp O' pre W' := by
  have h1 := h.size
  have keep : ∀ k, k < WL.heap.size → W'.heap[k]? = W.heap[k]? := fun k hk => hs.keep k (by omega) (fun ho => by have := h.lowO k ho; omega)
  refine ⟨ItStep.below h.bel (Nat.le_refl _) hs (fun k ho => by have := h.lowO k ho; omega), Nat.le_trans h1 hs.low.size, fun k ho => ?_, h.box.step hs (by omega) (fun ho => by have := h.lowO _ ho; omega), (keep _ (by omega)).trans h.vb, (keep _ (by omega)).trans h.ib⟩
  rcases hs.new k ho with q | q
  · exact h.lowO k q
  · omega
set_option maxRecDepth 100000 in
set_option maxHeartbeats 8000000 in
theorem below_gen {Z : Nat → Prop} {w : World} {vp : Option Addr} {look : Int → Option Rc} (h : VH Z w vp look) (id : Int) (hid : (Lit.int .i64 id).wf = true) (f : Nat) (full : List Gn) (hg : goF look f id false [] = some full) (hfl : full.length ≤ 10000000) :
    Calls Try.prog 34 #[.pointer vp, .int .i64 id] w fun e w' => ∃ u, e = .returned u ∧ OwnsInt w.heap.size w' u ((blG id full).map (·.1)) ∧ Below w.heap.size w w' := by
  have HT := fun (W : World) => Lib.hid ((callsIn_wide (n := 19)).2 (below_any vp id W))
  have H := Lib.hid h
  clear h
  refine (callsIn_wide (n := 20)).1 ?_
  refine callsIn_of_wp_marks Try.func34 rfl trivial ?_ rfl
  simp only [Try.ntmps34, List.size_toArray, List.length_cons, List.length_nil, Nat.reduceAdd, Nat.reduceSub, Array.replicate_succ, Array.replicate_zero, List.push_toArray, List.append_toArray, List.nil_append, List.cons_append]
  gi_wp2_with (first
    | (refine ⟨trivial, ?_⟩; gi_at_call 61; refine (HT _).out.mono ?_; rintro e w' ⟨rfl, rfl⟩))
  obtain ⟨WL, hWL⟩ : ∃ WL, WL = ((w.alloc (.cells #[.slice none 0 0] 27)).alloc (.cells #[.pointer vp] 38)).alloc (.cells #[.int .i64 id] 3) := ⟨_, rfl⟩
  rw [← hWL]
  have hB0 : Below w.heap.size w WL := by rw [hWL]; exact (((Below.refl _ _).alloc (Nat.le_refl _) _).alloc (by simp) _).alloc (by simp; omega) _
  have hsL : WL.heap.size = w.heap.size + 3 := by rw [hWL]; simp
  have hbx : WL.cell? ⟨w.heap.size, 0, none⟩ = some (.slice none 0 0) ∧ WL.frozen? ⟨w.heap.size, 0, none⟩ = false := by rw [hWL]; exact ⟨by go_simp, by go_simp⟩
  have hbv : WL.heap[w.heap.size + 1]? = some (.cells #[.pointer vp] 38 (0, 0)) := by
    rw [hWL, Below.heap_alloc _ _ _ (by simp)]
    have := World.alloc_heap_new (w.alloc (.cells #[.slice none 0 0] 27)) (.cells #[.pointer vp] 38)
    simpa using this
  have hbi : WL.heap[w.heap.size + 2]? = some (.cells #[.int .i64 id] 3 (0, 0)) := by
    rw [hWL]
    have := World.alloc_heap_new ((w.alloc (.cells #[.slice none 0 0] 27)).alloc (.cells #[.pointer vp] 38)) (.cells #[.int .i64 id] 3)
    simpa using this
  have HTH := (H.out.below hB0).th hbv
  refine wpIn_rangeFunc_set (n := 20) (gf := 90) (lb := #[.pointer (some ⟨w.heap.size + 1, 0, none⟩), .pointer (some ⟨w.heap.size + 2, 0, none⟩)]) rfl (enters_of Try.func90 (by kernel_rfl) rfl)
    (below_seq HTH id hid f full hg (by omega) hbi WL) (Below.refl _ _) (fun _ => rfl)
    (fun O pre W => BelI w WL vp O pre W) (fun _ _ _ _ => False) (fun O pre W O' W' h hs => h.step (by omega) hs) (fun _ _ _ _ _ _ h _ => h.elim) ?st ?start
    (fun _ x a' _ => a' = { tmps := #[.pointer vp, .int .i64 id, undef, undef, .slice none 0 0, .pointer (some ⟨w.heap.size, 0, none⟩), .int .i64 x.id, .pointer vp, .int .i64 id, .func (.func 90) #[] #[.pointer (some ⟨w.heap.size + 1, 0, none⟩), .pointer (some ⟨w.heap.size + 2, 0, none⟩)], .int .i64 x.id, .agg #[.int .i64 x.r.kd, .string (bs x.r.nm), .string (bs x.r.tx), .int .i64 x.r.pa, .slice x.ok x.r.ks.length x.jk, .slice x.oa x.r.ats.length x.ja, .bool x.r.gone], undef, undef, undef, undef, undef], defers := [] })
    (fun _ _ _ _ _ _ h _ => h) ?assign ?body ?done ?stop
  case st =>
    intro O pre W hi
    refine ⟨fun g hg => ?_, hi.size⟩
    rcases hg with hg | rfl | rfl
    · have := H.out.zB g hg
      exact (hi.bel.block g this).trans (hB0.block g this).symm
    · exact hi.vb.trans hbv.symm
    · exact hi.ib
  case start => exact ⟨hB0, Nat.le_refl _, fun _ h => h.elim, ⟨_, hbx.1, hbx.2, OwnsInt.nil _ _, fun g hg => (by cases hg)⟩, hbv, rfl⟩
  case assign =>
    rintro l m O pre x W K hO hi hK
    simp only [BlE.enc]
    gi_wp2
    exact hK _ _ (Nat.le_refl _) (fun _ _ => rfl) hi rfl
  case body =>
    rintro l m O pre x a' W hO hi rfl hpx
    have hle := hpx.length_le
    rw [List.length_map, List.length_append, List.length_singleton] at hle
    have hbl : (blG id full).length ≤ full.length := by unfold blG; rw [List.length_map]; exact List.length_filter_le _ _
    obtain ⟨v, k3, k4, k6, k7⟩ := hi.box
    obtain ⟨o, j, rfl⟩ := k6.form
    rw [List.length_map] at k3 k6 k7
    have HI := Lib.hid hi
    have HK6 := Lib.hid k6
    have HK7 := Lib.hid k7
    have HO := Lib.hid hO
    have hz := hi.size
    clear hpx hi k6 k7 hO
    gi_wp2_with (first
      | (refine wpListIn_pushInt WL.heap.size rfl (.tmp 12) (.tmp 14) rfl x.id HK6.out rfl rfl (by omega) (by rw [List.length_map]; omega) ?_
         intro v' w1 q1 q2 q3 q4 q5
         have c1 := (World.cell?_of_block (w := W) (w' := w1) (a := ⟨w.heap.size, 0, none⟩) (q3 _ (by show w.heap.size < _; omega) (fun e => by have := (HK6.out.blk e.symm).1; simp at this; omega))).trans k3
         have c2 := (World.frozen?_of_block (w := W) (w' := w1) (a := ⟨w.heap.size, 0, none⟩) (q3 _ (by show w.heap.size < _; omega) (fun e => by have := (HK6.out.blk e.symm).1; simp at this; omega))).trans k4
         obtain ⟨o2, j2, rfl⟩ := q1.form
         have Q1 := Lib.hid q1
         have Q2 := Lib.hid q2
         have Q3 := Lib.hid q3
         have Q4 := Lib.hid q4
         rw [show (List.map (fun x => x.id) pre ++ [x.id]).length = pre.length + 1 by simp]
         clear q1 q2 q3 q4)
      | fail)
    obtain ⟨p1, p2⟩ := Col.push (O := O) (zs := pre.map (·.id)) (W := W) (v := .slice o pre.length j) (z := x.id) (show w.heap.size < WL.heap.size by omega) HK7.out HO.out c1 c2 Q1.out Q3.out Q4.out
    rw [show (List.map (fun x => x.id) pre ++ [x.id]).length = pre.length + 1 by simp] at p1 p2
    have hne : ∀ k, O k → k ≠ w.heap.size := fun k hk => by have := HI.out.lowO k hk; omega
    refine ⟨by rw [World.size_setCell]; exact q5, fun k hk => p2 k (HO.out k hk) (hne k hk) (fun e => HK7.out k e hk), ?_, by rw [World.size_setCell]; omega, HI.out.lowO, ?_, (p2 (w.heap.size + 1) (by omega) (by omega) (fun e => by have := (HK6.out.blk e).1; omega)).trans HI.out.vb, (p2 (w.heap.size + 2) (by omega) (by omega) (fun e => by have := (HK6.out.blk e).1; omega)).trans HI.out.ib⟩
    · exact (HI.out.bel.trans (Q2.out.mono (by omega))).setCell (p := ⟨w.heap.size, 0, none⟩) (Nat.le_refl _) _
    · rw [List.map_append]
      exact p1
  case done =>
    rintro O xs W hO hD hxs hi hK
    obtain ⟨v, k3, k4, k6, k7⟩ := hi.box
    have hids : xs.map (·.id) = (blG id full).map (·.1) := by rw [← hxs, List.map_map]; rfl
    rw [hids] at k6
    obtain ⟨o, j, rfl⟩ := k6.form
    rw [List.length_map] at k3 k6 k7
    have HK6 := Lib.hid k6
    have HK7 := Lib.hid k7
    have HI := Lib.hid hi
    clear hi k6 k7
    gi_wp2
    refine ⟨by simp, .inl ⟨_, _, rfl, run_takeDeferred hK, ?_⟩⟩
    exact ⟨_, results_tmp rfl _ _ _, _, rfl, (HK6.out.keep fun g hg => World.putObj_heap_other (fun e => HK7.out g hg (by rw [e]; exact hD))).weak (B' := w.heap.size) (B := WL.heap.size) (by omega), below_putObj HI.out.bel (by show w.heap.size ≤ WL.heap.size; omega) _⟩
  case stop => rintro O c pre W _ _ _ h _; exact h.elim
end Go.Proofs.Ytkackejipgabfaa.Char

/- The library's contracts on strings.Builder, at this program's numbers. -/
namespace Go.Proofs.Ytkackejipgabfaa.Char
open Go.Shelf Go.RowKit

def layWriteRen : Go.Shelf.Ren := ⟨fun | 166 => 62 | 240 => 91 | 276 => 116 | n => n, fun | 0 => 0 | 3 => 3 | 4 => 4 | 5 => 5 | 9 => 9 | 20 => 20 | 37 => 126 | 70 => 125 | 72 => 128 | 75 => 133 | 80 => 136 | 164 => 174 | n => n, fun n => n⟩
theorem layWrite : Lays.n166 Try.prog layWriteRen := {
  mixed := by kernel_rfl
  f166 := Try.func62.trans (congrArg some (by kernel_rfl))
  f240 := Try.func91.trans (congrArg some (by kernel_rfl))
  f276 := Try.func116.trans (congrArg some (by kernel_rfl))
  t0 := Try.underlying0
  a0 := Try.isAgg0
  z0 := Try.sizeOf0
  v0 := Try.zeroValue0
  t3 := Try.underlying3
  a3 := Try.isAgg3
  z3 := Try.sizeOf3
  v3 := Try.zeroValue3
  t4 := Try.underlying4
  a4 := Try.isAgg4
  z4 := Try.sizeOf4
  v4 := Try.zeroValue4
  t9 := Try.underlying9
  a9 := Try.isAgg9
  z9 := Try.sizeOf9
  v9 := Try.zeroValue9
  t20 := Try.underlying20
  a20 := Try.isAgg20
  z20 := Try.sizeOf20
  v20 := Try.zeroValue20
  t37 := Try.underlying126
  a37 := Try.isAgg126
  z37 := Try.sizeOf126
  v37 := Try.zeroValue126
  t70 := Try.underlying125
  a70 := Try.isAgg125
  z70 := Try.sizeOf125
  v70 := Try.zeroValue125
  t72 := Try.underlying128
  a72 := Try.isAgg128
  z72 := Try.sizeOf128
  v72 := Try.zeroValue128
  t75 := Try.underlying133
  a75 := Try.isAgg133
  z75 := Try.sizeOf133
  v75 := Try.zeroValue133
  t164 := Try.underlying174
  a164 := Try.isAgg174
  z164 := Try.sizeOf174
  v164 := Try.zeroValue174 }
theorem layWriteX : Builder.Extra Try.prog layWriteRen := {
  sizeBuilder := by kernel_rfl
  liesBuilder := by kernel_rfl
  t5 := Try.underlying5
  a5 := Try.isAgg5
  z5 := Try.sizeOf5
  v5 := Try.zeroValue5
  infoByte := by kernel_rfl
  cellsByte := by kernel_rfl
  sizeByte := by kernel_rfl
  neB5 := by decide }
def layStringRen : Go.Shelf.Ren := ⟨fun | 169 => 63 | n => n, fun | 0 => 0 | 3 => 3 | 5 => 5 | 9 => 9 | 37 => 126 | 70 => 125 | 72 => 128 | 127 => 166 | n => n, fun n => n⟩
theorem layString : Lays.n169 Try.prog layStringRen := {
  mixed := by kernel_rfl
  f169 := Try.func63.trans (congrArg some (by kernel_rfl))
  t0 := Try.underlying0
  a0 := Try.isAgg0
  z0 := Try.sizeOf0
  v0 := Try.zeroValue0
  t3 := Try.underlying3
  a3 := Try.isAgg3
  z3 := Try.sizeOf3
  v3 := Try.zeroValue3
  t9 := Try.underlying9
  a9 := Try.isAgg9
  z9 := Try.sizeOf9
  v9 := Try.zeroValue9
  t37 := Try.underlying126
  a37 := Try.isAgg126
  z37 := Try.sizeOf126
  v37 := Try.zeroValue126
  t70 := Try.underlying125
  a70 := Try.isAgg125
  z70 := Try.sizeOf125
  v70 := Try.zeroValue125
  t72 := Try.underlying128
  a72 := Try.isAgg128
  z72 := Try.sizeOf128
  v72 := Try.zeroValue128
  t127 := Try.underlying166
  a127 := Try.isAgg166
  z127 := Try.sizeOf166
  v127 := Try.zeroValue166 }
theorem layStringX : Builder.Extra Try.prog layStringRen := {
  sizeBuilder := by kernel_rfl
  liesBuilder := by kernel_rfl
  t5 := Try.underlying5
  a5 := Try.isAgg5
  z5 := Try.sizeOf5
  v5 := Try.zeroValue5
  infoByte := by kernel_rfl
  cellsByte := by kernel_rfl
  sizeByte := by kernel_rfl
  neB5 := by decide }
/-- WriteString -/
theorem write_any (B b : Nat) (l : List UInt8) (s : ByteArray) (w : World) (h : Lib.IsBuilderF 128 5 B b (Lib.byteCells l) w) (hlen : l.length + s.size ≤ 140737488355328) (hBw : B ≤ w.heap.size) :
    Calls Try.prog 62 #[.pointer (some ⟨b, 0, none⟩), .string s] w fun e w' => e = .returned (.tuple #[.int .i64 s.size, .nilIface]) ∧
      Lib.IsBuilderF 128 5 B b (Lib.byteCells (l ++ s.data.toList)) w' ∧ Below B w w' ∧ Lib.OthersKept 5 (some b) w w' := by
  refine (Any.Builder_WriteString_k layWrite layWriteX B b _ s w h (by rw [Lib.byteCells_length]; exact hlen) hBw).mono ?_
  rintro e w' ⟨he, h1, h2, h3⟩
  refine ⟨he, ?_, h2, h3⟩
  rw [Lib.byteCells_append, ← Lib.strCells_eq]
  exact Or.inr h1
/-- String -/
theorem string_any (B b : Nat) (l : List UInt8) (w : World) (h : Lib.IsBuilderF 128 5 B b (Lib.byteCells l) w) (hBw : B ≤ w.heap.size) :
    Calls Try.prog 63 #[.pointer (some ⟨b, 0, none⟩)] w fun e w' => e = .returned (.string ⟨l.toArray⟩) ∧
      Lib.IsBuilderF 128 5 B b (Lib.byteCells l) w' ∧ Below B w w' ∧ Lib.OthersKept 5 (some b) w w' :=
  Any.Builder_String_any_k layString layStringX B b l w h hBw
/-- a builder abides what turns blocks that hold no cells -/
theorem builder_kept {T e : TypeId} {B b : Nat} {bs : List Value} {w w' : World} {row : Option Nat} (h : Lib.IsBuilderF T e B b bs w) (hg : w.grownBy w' row)
    (hr : ∀ r, row = some r → ∃ o : Obj, w.heap[r]? = some o ∧ o.isCells = false) : Lib.IsBuilderF T e B b bs w' := by
  have one : ∀ p, Lib.BuilderAtF T e B b p bs w → Lib.BuilderAtF T e B b p bs w' := by
    rintro p ⟨hB, v, hb, hown, hne⟩
    refine ⟨hB, v, ?_, hown.kept hg ?_, hne⟩
    · refine (hg.block b (Array.getElem?_eq_some_iff.1 hb).1 (fun e1 => ?_)).trans hb
      obtain ⟨o, ho, hc⟩ := hr b e1.symm
      rw [hb] at ho; cases ho; cases hc
    · rcases hown.2 with ⟨rfl, _⟩ | ⟨g, cap, cur, fz, rfl, _, hgg, _⟩
      · exact .inl rfl
      · refine .inr (fun e1 => ?_)
        obtain ⟨o, ho, hc⟩ := hr g e1.symm
        rw [hgg] at ho; cases ho; cases hc
  exact h.elim (fun x => .inl (one _ x)) (fun x => .inr (one _ x))
theorem builder_block {T e : TypeId} {B b : Nat} {bs : List Value} {w : World} (h : Lib.IsBuilderF T e B b bs w) : ∃ cs, w.heap[b]? = some (.cells cs T (0, 0)) := by
  rcases h with ⟨_, v, hb, _⟩ | ⟨_, v, hb, _⟩ <;> exact ⟨_, hb⟩
/-- what a builder's call keeps, as the loop's law wants it -/
theorem others_keep {T e : TypeId} {B b : Nat} {bs : List Value} {w w' : World} (h : Lib.IsBuilderF T e B b bs w) (hk : Lib.OthersKept e (some b) w w') (hs : w.heap.size ≤ w'.heap.size) : KeepsOthers w w' := by
  obtain ⟨cs, hb⟩ := builder_block h
  refine ⟨hs, fun k o ho hc => hk k o ho (fun e1 => ?_) (fun c fz e1 => ?_)⟩
  · cases e1; rw [hb] at ho; cases ho; cases hc
  · subst e1; cases hc
/-- a block of cells that stand as they are -/
theorem cells_own {W W' : World} {b : Nat} {cs : Array Value} {t : TypeId} {fz : Nat × Nat} {row : Option Nat} (h : W.heap[b]? = some (.cells cs t fz)) (hg : W.grownBy W' row)
    (hr : ∀ r, row = some r → ∃ o : Obj, W.heap[r]? = some o ∧ o.isCells = false) : W'.heap[b]? = some (.cells cs t fz) := by
  refine (hg.block b (Array.getElem?_eq_some_iff.1 h).1 (fun e1 => ?_)).trans h
  obtain ⟨o, ho, hc⟩ := hr b e1.symm
  rw [h] at ho; cases ho; cases hc
end Go.Proofs.Ytkackejipgabfaa.Char
