/- MadeA OnceM OnceX SpotX -/
import Derived.Test.YtbbfcjaggdpfbaaPk12
import Derived.Test.YtbbfcjaggdpfbaaPk04
import Derived.Test.YtbbfcjaggdpfbaaPk05
import Derived.Test.YtbbfcjaggdpfbaaPk11
import Derived.Shelf.Abstract
import Derived.Laws.EntriesVeiled
/- The walk of Made: views in which a node was planted, and some records were put. -/
namespace Go.Proofs.Ytbbfcjaggdpfbaa.Char
open Go.RowKit Go.Lib

/-- the root's record behind the planting -/
def rootO (t : Tr) : Rc := ⟨1, [], [], 0, if (plantT t 1 1 []).1 = 0 then [] else [(plantT t 1 1 []).1], [], false⟩
def ownA (t : Tr) : Own := layO (plantT t 1 1 []).2.2 1 (rootO t)
def stoA (t : Tr) : Sto := { newS with given := (plantT t 1 1 []).2.1 }
def putsO (own : Own) (cs : List (Int × Rc)) : Own := cs.foldl (fun o c => putO o c.1 c.2) own
theorem putsO_snoc (own : Own) (cs : List (Int × Rc)) (c : Int × Rc) : putsO own (cs ++ [c]) = putO (putsO own cs) c.1 c.2 := by simp [putsO]
theorem putO_len (own : Own) (id : Int) (r : Rc) : (putO own id r).length ≤ own.length + 1 := by
  unfold putO
  split
  · omega
  · exact layO_len own id r
theorem putsO_len (own : Own) (cs : List (Int × Rc)) : (putsO own cs).length ≤ own.length + cs.length := by
  induction cs generalizing own with
  | nil => exact Nat.le_refl _
  | cons c cs ih =>
    have h1 := ih (putO own c.1 c.2)
    have h2 := putO_len own c.1 c.2
    have e : putsO own (c :: cs) = putsO (putO own c.1 c.2) cs := rfl
    rw [e, List.length_cons]
    omega
theorem ownA_len (t : Tr) : (ownA t).length ≤ totP t + 1 := by
  have h1 := (plantT_spec t 1 1 []).2.1
  have h2 := layO_len (plantT t 1 1 []).2.2 1 (rootO t)
  unfold ownA
  simp only [List.length_nil] at h1
  omega
theorem rootO_right (t : Tr) : rightR (rootO t) = true := by
  unfold rootO rightR
  have h := (plantT_spec t 1 1 []).2.2.1
  by_cases h0 : (plantT t 1 1 []).1 = 0
  · rw [if_pos h0]; rfl
  · rw [if_neg h0]
    simp
    omega
theorem putO_root (t : Tr) : putO (plantT t 1 1 []).2.2 1 (rootO t) = ownA t := (put_ok (by decide) (rootO_right t)).2
theorem rootO_sm (t : Tr) : RcSm (rootO t) := by
  unfold rootO RcSm
  dsimp only
  constructor
  · split <;> simp
  · simp
/-- what is behind Made -/
def MadeP (T : TypeId) (w : World) (S : Sto) (own : Own) : Ending → World → Prop := fun e w' => ∃ p b sb b2 d Z Z1 Y Y1, e = .returned (.pointer (some ⟨p, 0, none⟩)) ∧ PairI T w.heap.size w w' p b sb b2 d 0 S own Z Z1 Y Y1
set_option maxRecDepth 100000 in
set_option maxHeartbeats 16000000 in
theorem madeA_any (t : Tr) (va vk : Value) (o : Option Addr) (j : Nat) (cs : List ChV) (w : World) {F G : Nat → Prop} (hc : cntT t ≤ 100000) (hn : NdOn w F t va vk) (hF : ∀ g, F g → g < w.heap.size) (ht : totP t ≤ 2000000)
    (hcs : ChsOn w G (.slice o cs.length j) cs) (hG : ∀ g, G g → g < w.heap.size) (hsm : ∀ x, x ∈ cs → RcSm x.2.1 ∧ (Lit.int .i64 x.1).wf = true) (hcl : cs.length ≤ 2 ^ 62) :
    Calls Try.prog 39 #[ndV t va vk, .slice o cs.length j] w (MadeP 79 w (stoA t) (putsO (ownA t) ((cs.take 12).map toCh))) := by
  obtain ⟨oa, ja, ok, jk, rfl, rfl⟩ := hn.form
  obtain ⟨W0, hW0⟩ : ∃ W0, W0 = w.alloc (.cells #[.int .i64 t.kd, .string (bs t.nm), .string (bs t.tx), .slice oa t.ats.length ja, .slice ok t.ks.length jk] 25) := ⟨_, rfl⟩
  have hb0 : Below w.heap.size w W0 := by rw [hW0]; exact (Below.refl _ _).alloc (Nat.le_refl _) _
  have hs0 : W0.heap.size = w.heap.size + 1 := by rw [hW0]; simp
  have hk0 : W0.heap[w.heap.size]? = some (.cells #[.int .i64 t.kd, .string (bs t.nm), .string (bs t.tx), .slice oa t.ats.length ja, .slice ok t.ks.length jk] 25 (0, 0)) := by rw [hW0]; exact World.alloc_heap_new w _
  have HN1 := Lib.hid (ps_new w.heap.size W0 (by omega))
  have HN := Lib.hid hn
  have HCS := Lib.hid hcs
  have HSM := Lib.hid hsm
  have HF := Lib.hid hF
  have HG := Lib.hid hG
  have HW0 := Lib.hid hW0
  have HB0 := Lib.hid hb0
  have HK0 := Lib.hid hk0
  clear hn hcs hsm hF hG hb0 hW0 hk0
  unfold ndV
  go_enter Try.func39, Try.ntmps39
  go_upto_region 2 with (first
    | (go_at_call 21
       rw [← HW0.out]
       refine HN1.out.mono ?_
       rintro e w1 ⟨sb, rfl, p1, b1⟩
       have hs1 := b1.size
       have HV := Lib.hid (vs_new p1 (by omega) 0)
       have HB1 := Lib.hid (HB0.out.trans (b1.mono (by omega)))
       have HX1 := Lib.hid b1
       clear p1 b1)
    | (go_at_call 22
       refine HV.out.mono ?_
       rintro e w2 ⟨b, rfl, v2, b2⟩
       have hs2 := b2.size
       have HR := Lib.hid (refNew_any w.heap.size w2 (by omega))
       have HV2 := Lib.hid v2
       have HB2 := Lib.hid (HB1.out.trans (b2.mono (by omega)))
       have HX2 := Lib.hid b2
       clear v2 b2 HV)
    | (go_at_call 51
       refine HR.out.mono ?_
       rintro e w3 ⟨d, dv, rfl, r3, b3, o3⟩
       have hs3 := b3.size
       have HR3 := Lib.hid (RefG.start0 r3)
       have HO3 := Lib.hid o3
       have HB3 := Lib.hid b3
       clear r3 b3 o3 HR))
  obtain ⟨W4, hW4⟩ : ∃ W4, W4 = (w3.alloc (.cells #[.pointer (some ⟨d, 0, none⟩), .int .u64 0, .slice none 0 0] 104)).alloc (.cells #[.pointer (some ⟨b, 0, none⟩), .pointer (some ⟨w3.heap.size, 0, none⟩)] 79) := ⟨_, rfl⟩
  rw [← hW4]
  have hs4 : W4.heap.size = w3.heap.size + 2 := by rw [hW4]; simp
  have hb34 : Below w3.heap.size w3 W4 := by rw [hW4]; exact ((Below.refl _ _).alloc (Nat.le_refl _) _).alloc (by simp) _
  have hkv : W4.heap[w3.heap.size]? = some (.cells #[.pointer (some ⟨d, 0, none⟩), .int .u64 ((0 : Nat) : Int), .slice none 0 0] 104 (0, 0)) := by
    rw [hW4, Below.heap_alloc _ _ _ (by simp)]
    exact World.alloc_heap_new w3 _
  have hkp : W4.heap[w3.heap.size + 1]? = some (.cells #[.pointer (some ⟨b, 0, none⟩), .pointer (some ⟨w3.heap.size, 0, none⟩)] 79 (0, 0)) := by
    rw [hW4]
    have := World.alloc_heap_new (w3.alloc (.cells #[.pointer (some ⟨d, 0, none⟩), .int .u64 0, .slice none 0 0] 104)) (.cells #[.pointer (some ⟨b, 0, none⟩), .pointer (some ⟨w3.heap.size, 0, none⟩)] 79)
    simpa using this
  have htwo := two_new HV2.out HB3.out HR3.out HO3.out hb34 (Nat.le_refl _) hkv
  have hbel : Below w.heap.size w W4 := (HB2.out.trans (HB3.out.mono (by omega))).trans (hb34.mono (by omega))
  have hkn : W4.heap[w.heap.size]? = some (.cells #[.int .i64 t.kd, .string (bs t.nm), .string (bs t.tx), .slice oa t.ats.length ja, .slice ok t.ks.length jk] 25 (0, 0)) :=
    (hb34.block _ (by omega)).trans ((HB3.out.block _ (by omega)).trans ((HX2.out.block _ (by omega)).trans ((HX1.out.block _ (by omega)).trans HK0.out)))
  obtain ⟨p, hp⟩ : ∃ p, w3.heap.size + 1 = p := ⟨_, rfl⟩
  have H4 : HalfI (fun g => g = w.heap.size ∨ g = p) w.heap.size w W4 b sb w3.heap.size d 0 newS [] newS [] (fun g => w1.heap.size ≤ g ∧ g < w2.heap.size) (fun g => W0.heap.size ≤ g ∧ g < w1.heap.size) (fun g => (w2.heap.size ≤ g ∧ g < w3.heap.size) ∨ g = w3.heap.size) (fun _ => False) :=
    ⟨htwo, fun g hg => by
      refine ⟨?_, fun hz => ?_, fun hz => ?_⟩
      · omega
      · omega
      · rcases hz with (hz | hz) | hz
        · omega
        · omega
        · exact hz, hbel⟩
  rw [hp] at hkp ⊢
  obtain ⟨q, hq⟩ : ∃ q, w3.heap.size = q := ⟨_, rfl⟩
  rw [hq] at H4 hkp ⊢
  have hpB : w.heap.size ≤ p := by omega
  have HND := Lib.hid fun (W : World) (hb : Below w.heap.size w W) => (HN.out.move (F' := F) fun g hg hf => ⟨hf, hb.block g (HF.out g hf)⟩ : NdOn W F t _ _)
  have hdr : Below W4.heap.size W4 W4.drew := (Below.refl _ _).drew
  have hpv := half_plantV (H4.below hdr) t (.slice oa t.ats.length ja) (.slice ok t.ks.length jk) 1 hc (HND.out _ (H4.below hdr).bel) (fun g hg => ⟨by have := HF.out g hg; show g < W4.heap.size; omega, (H4.below hdr).zlow (HF.out g hg)⟩) (by show 1 + totP t ≤ 10000000; omega) (by show 0 + totP t ≤ 10000000; omega)
  have hknd : W4.drew.heap[w.heap.size]? = _ := hkn
  have hkpd : W4.drew.heap[p]? = _ := hkp
  have n0 : W4.drew.cell? ⟨w.heap.size, 0, none⟩ = some (.int .i64 t.kd) := by simp [World.cell?, hknd]
  have n1 : W4.drew.cell? ⟨w.heap.size, 1, none⟩ = some (.string (bs t.nm)) := by simp [World.cell?, hknd]
  have n2 : W4.drew.cell? ⟨w.heap.size, 2, none⟩ = some (.string (bs t.tx)) := by simp [World.cell?, hknd]
  have n3 : W4.drew.cell? ⟨w.heap.size, 3, none⟩ = some (.slice oa t.ats.length ja) := by simp [World.cell?, hknd]
  have n4 : W4.drew.cell? ⟨w.heap.size, 4, none⟩ = some (.slice ok t.ks.length jk) := by simp [World.cell?, hknd]
  have c0 : W4.drew.cell? ⟨p, 0, none⟩ = some (.pointer (some ⟨b, 0, none⟩)) := by simp [World.cell?, hkpd]
  obtain ⟨I, hI⟩ : ∃ I, (plantT t 1 1 []).1 = I := ⟨_, rfl⟩
  have e1 : newS.given = 1 := rfl
  rw [e1, hI] at hpv
  unfold ndV at hpv
  have HPV := Lib.hid hpv
  have HII := Lib.hid hI
  have HKN := Lib.hid hkn
  have HKP := Lib.hid hkp
  clear hpv hI hkn hkp hknd hkpd H4 htwo hbel hkv hb34 HV2 HR3 HO3 HB2 HB3 HX1 HX2 HB1 HN1 hW4 hdr e1 HB0 HK0 hs0 hs1 hs2 hs3 hs4 hq hp
  go_still_tail 5, (by kernel_rfl)
  change wpList _ _ _ _ _ W4.drew
  go_wp2_with (first
    | (go_at_call 23
       refine HPV.out.mono ?_
       rintro e w5 ⟨rfl, ⟨Z5, h5⟩, b5, k5⟩
       have HKN5 := Lib.hid ((k5 _ (.inl rfl)).trans HKN.out)
       have HKP5 := Lib.hid ((k5 _ (.inr rfl)).trans HKP.out)
       have H5 := Lib.hid h5
       clear k5 h5 n0 n1 n2 n3 n4 c0))
  have hdr5 : Below w5.heap.size w5 w5.drew := (Below.refl _ _).drew
  have hpw := half_plantW (H5.out.below hdr5) t (.slice oa t.ats.length ja) (.slice ok t.ks.length jk) 1 hc (HND.out _ (H5.out.below hdr5).bel) (fun g hg => ⟨by have := HF.out g hg; have := (H5.out.below hdr5).bel.size; omega, .inl (HF.out g hg)⟩) (by show 1 + totP t ≤ 10000000; omega) (by show 0 + totP t ≤ 10000000; omega)
  have hknd : w5.drew.heap[w.heap.size]? = _ := HKN5.out
  have hkpd : w5.drew.heap[p]? = _ := HKP5.out
  have n0 : w5.drew.cell? ⟨w.heap.size, 0, none⟩ = some (.int .i64 t.kd) := by simp [World.cell?, hknd]
  have n1 : w5.drew.cell? ⟨w.heap.size, 1, none⟩ = some (.string (bs t.nm)) := by simp [World.cell?, hknd]
  have n2 : w5.drew.cell? ⟨w.heap.size, 2, none⟩ = some (.string (bs t.tx)) := by simp [World.cell?, hknd]
  have n3 : w5.drew.cell? ⟨w.heap.size, 3, none⟩ = some (.slice oa t.ats.length ja) := by simp [World.cell?, hknd]
  have n4 : w5.drew.cell? ⟨w.heap.size, 4, none⟩ = some (.slice ok t.ks.length jk) := by simp [World.cell?, hknd]
  have c1 : w5.drew.cell? ⟨p, 1, none⟩ = some (.pointer (some ⟨q, 0, none⟩)) := by simp [World.cell?, hkpd]
  have e1 : newS.given = 1 := rfl
  rw [e1] at hpw
  unfold ndV at hpw
  have HPW := Lib.hid hpw
  clear hpw hknd hkpd hdr5 e1
  go_still_tail 5, (by kernel_rfl)
  change wpList _ _ _ _ _ w5.drew
  go_upto_if 30 with (first
    | (go_at_call 52
       refine HPW.out.mono ?_
       rintro e w6 ⟨rfl, ⟨Y6, h6⟩, b6, k6⟩
       have HKP6 := Lib.hid ((k6 _ (.inr rfl)).trans HKP5.out)
       have hpl := (h6.np p (.inr rfl)).1
       have H6 := Lib.hid h6
       clear k6 h6 n0 n1 n2 n3 n4 c1 b6))
  obtain ⟨W7, hW7⟩ : ∃ W7, W7 = w6.alloc (.cells #[.int .i64 1, .string ⟨#[]⟩, .string ⟨#[]⟩, .int .i64 0, .slice none 0 0, .slice none 0 0, .bool false] 34) := ⟨_, rfl⟩
  rw [← hW7]
  have hb7 : Below w6.heap.size w6 W7 := by rw [hW7]; exact (Below.refl _ _).alloc (Nat.le_refl _) _
  have hs7 : W7.heap.size = w6.heap.size + 1 := by rw [hW7]; simp
  have hk7 : W7.heap[w6.heap.size]? = some (.cells #[.int .i64 1, .string ⟨#[]⟩, .string ⟨#[]⟩, .int .i64 0, .slice none 0 0, .slice none 0 0, .bool false] 34 (0, 0)) := by rw [hW7]; exact World.alloc_heap_new w6 _
  have f4 : W7.frozen? ⟨w6.heap.size, 4, none⟩ = false := by simp [World.frozen?, hk7]
  have x4 : W7.cell? ⟨w6.heap.size, 4, none⟩ = some (.slice none 0 0) := by simp [World.cell?, hk7]
  obtain ⟨X, hX⟩ : ∃ X, w6.heap.size = X := ⟨_, rfl⟩
  rw [hX] at hb7 hs7 hk7 f4 x4 ⊢
  have hXp : p < X := by omega
  have HB7 := Lib.hid hb7
  have HK7 := Lib.hid hk7
  have HX := Lib.hid hX
  clear hb7 hk7 hW7 hX HPV HKN5 HKP5 H5 HPW HKN HKP hpl
  obtain ⟨D, hD⟩ : ∃ D, decide (0 < I) = D := ⟨_, rfl⟩
  rw [hD]
  have HD := Lib.hid hD
  clear hD
  go_cut [] (fun wx => ∃ o2 j2 Q Zx Yx, Hid (wx.heap[X]? = some (rcB (rootO t, .slice o2 (rootO t).ks.length j2, .slice none 0 0)) ∧ HalfI Q w.heap.size w wx b sb q d 0 (stoA t) (plantT t 1 1 []).2.2 (stoA t) (plantT t 1 1 []).2.2 Zx (fun g => W0.heap.size ≤ g ∧ g < w1.heap.size) Yx (fun _ => False) ∧ Q p ∧ Q X ∧
    IntsOn wx (fun g => o2 = some ⟨g, 0, none⟩) (.slice o2 (rootO t).ks.length j2) (rootO t).ks ∧ (∀ g, o2 = some ⟨g, 0, none⟩ → Q g ∧ g ≠ p ∧ w.heap.size ≤ g) ∧ wx.heap[p]? = some (.cells #[.pointer (some ⟨b, 0, none⟩), .pointer (some ⟨q, 0, none⟩)] 79 (0, 0))))
  case first =>
    cases D with
    | false =>
      go_wp2_with fail
      go_meet
      have h0 : (plantT t 1 1 []).1 = 0 := by have := (plantT_spec t 1 1 []).2.2.1; have h2 := of_decide_eq_false HD.out; rw [HII.out] at this ⊢; omega
      have hr : rootO t = ⟨1, [], [], 0, [], [], false⟩ := by unfold rootO; rw [if_pos h0]
      obtain hb7 := HB7.out
      rw [← HX.out] at hb7
      refine ⟨none, 0, _, _, _, Lib.hid ⟨by rw [hr]; exact HK7.out, H6.out.more hb7, .inl (.inr rfl), .inr ⟨by rw [HX.out]; exact Nat.le_refl _, by omega⟩, by rw [hr]; exact IntsOn.nil _ _ _ _, fun g hg => (by cases hg), (hb7.block p (by rw [HX.out]; exact hXp)).trans HKP6.out⟩⟩
    | true =>
      go_wp2_with fail
      go_meet
      have h0 : (plantT t 1 1 []).1 ≠ 0 := by have h2 := of_decide_eq_true HD.out; rw [HII.out]; omega
      have hr : rootO t = ⟨1, [], [], 0, [I], [], false⟩ := by unfold rootO; rw [if_neg h0, HII.out]
      have hb7 := HB7.out
      rw [← HX.out] at hb7
      have hxx : w6.heap.size ≤ X := by rw [HX.out]; exact Nat.le_refl _
      have hs8 : (W7.setCell ⟨X, 4, none⟩ (.slice (some ⟨X + 1, 0, none⟩) 1 1)).heap.size = X + 1 := by rw [World.size_setCell]; exact hs7
      have hb8 : Below w6.heap.size w6 ((W7.setCell ⟨X, 4, none⟩ (.slice (some ⟨X + 1, 0, none⟩) 1 1)).alloc (.cells #[.int .i64 I] 3)) := (hb7.setCell (p := ⟨X, 4, none⟩) hxx _).alloc (by rw [hs8]; omega) _
      have hkx : ((W7.setCell ⟨X, 4, none⟩ (.slice (some ⟨X + 1, 0, none⟩) 1 1)).alloc (.cells #[.int .i64 I] 3)).heap[X]? = some (rcB (⟨1, [], [], 0, [I], [], false⟩, .slice (some ⟨X + 1, 0, none⟩) 1 1, .slice none 0 0)) := by
        rw [Below.heap_alloc _ _ _ (by rw [hs8]; omega)]
        have := heap_set_at (i := 4) (u := .slice (some ⟨X + 1, 0, none⟩) 1 1) HK7.out
        exact this
      have hky : ((W7.setCell ⟨X, 4, none⟩ (.slice (some ⟨X + 1, 0, none⟩) 1 1)).alloc (.cells #[.int .i64 I] 3)).heap[X + 1]? = some (.cells #[.int .i64 I] 3 (0, 0)) := by
        have := World.alloc_heap_new (W7.setCell ⟨X, 4, none⟩ (.slice (some ⟨X + 1, 0, none⟩) 1 1)) (.cells #[.int .i64 I] 3)
        rw [hs8] at this
        exact this
      have hsz : ((W7.setCell ⟨X, 4, none⟩ (.slice (some ⟨X + 1, 0, none⟩) 1 1)).alloc (.cells #[.int .i64 I] 3)).heap.size = X + 2 := by rw [World.size_alloc, hs8]
      refine ⟨some ⟨X + 1, 0, none⟩, 1, _, _, _, Lib.hid ⟨by rw [hr]; exact hkx, H6.out.more hb8, .inl (.inr rfl), .inr ⟨hxx, by rw [hsz]; omega⟩, ?_, fun g hg => ?_, (hb8.block p (by rw [HX.out]; exact hXp)).trans HKP6.out⟩⟩
      · rw [hr]
        refine ⟨_, _, _, rfl, rfl, .inr ⟨X + 1, 0, rfl, rfl, fun k hk => ?_⟩⟩
        obtain rfl : k = 0 := by simp at hk; exact hk
        simp [World.cell?, hky]
      · obtain rfl : X + 1 = g := by cases hg; rfl
        exact ⟨.inr ⟨by rw [HX.out]; omega, by rw [hsz]; omega⟩, by omega, by omega⟩
  case rest =>
    obtain ⟨o2, j2, Q, Zx, Yx, HQ⟩ := hcut
    have hol := ownA_len t
    have hro := putO_root t
    have hrs := rootO_sm t
    have hpl := (plantT_spec t 1 1 []).2.1
    simp only [List.length_nil] at hpl
    obtain ⟨own1, hown1⟩ : ∃ own1, (plantT t 1 1 []).2.2 = own1 := ⟨_, rfl⟩
    obtain ⟨RO, hRO⟩ : ∃ RO, rootO t = RO := ⟨_, rfl⟩
    rw [hown1, hRO] at HQ
    rw [hown1, hRO] at hro
    rw [hRO] at hrs
    rw [hown1] at hpl
    clear HK7 HB7 H6 HKP6 f4 x4 hs7 HX HD HII HND HN hXp
    obtain ⟨hkx, hh, hqp, hqx, hon, hog, hkp⟩ := HQ.out
    have hdr : Below wc.heap.size wc wc.drew := (Below.refl _ _).drew
    obtain ⟨⟨y0, y1, y2, y3, y4, y5, y6⟩, _⟩ := rc_blk (show wc.drew.heap[X]? = _ from hkx)
    dsimp only at y0 y1 y2 y3 y4 y5 y6
    have hkpd : wc.drew.heap[p]? = _ := hkp
    have c0 : wc.drew.cell? ⟨p, 0, none⟩ = some (.pointer (some ⟨b, 0, none⟩)) := by simp [World.cell?, hkpd]
    have hat : RO.ats = [] := by rw [← hRO]; rfl
    have hnl : ∀ (W : World) (F : Nat → Prop), IntsOn W F (.slice none 0 0) RO.ats := fun W F => by rw [hat]; exact IntsOn.nil _ _ _ _
    have hpv := half_putV (hh.below hdr) (by omega) 1 (by decide) (RO, .slice o2 RO.ks.length j2, .slice none 0 0) ⟨hon.move fun g _ hF => ⟨hF, rfl⟩, hnl _ _⟩ hrs
    unfold rcV at hpv
    dsimp only at hpv
    have HPV := Lib.hid hpv
    have HKX := Lib.hid hkx
    have HKP := Lib.hid hkp
    have HON := Lib.hid hon
    have HOG := Lib.hid hog
    have HNL := Lib.hid hnl
    have HRO := Lib.hid hro
    have HRS := Lib.hid hrs
    have HQP := Lib.hid hqp
    have HQX := Lib.hid hqx
    have HOW := Lib.hid hown1
    have HNQ := Lib.hid hh.np
    clear hpv hkx hkp hon hog hnl hro hrs hqp hqx hh HQ hkpd hdr hRO hown1 hat
    go_wp2_with fail
    go_still_tail 5, (by kernel_rfl)
    change wpList _ _ _ _ _ wc.drew
    go_wp2_with (first
      | (go_at_call 25
         refine HPV.out.mono ?_
         rintro e w9 ⟨rfl, ⟨Z9, h9⟩, b9, k9⟩
         have HK9 := Lib.hid k9
         have H9 := Lib.hid h9
         clear k9 h9 b9 c0 y0 y1 y2 y3 y4 y5 y6))
    have hkx9 : w9.heap[X]? = some (rcB (RO, .slice o2 RO.ks.length j2, .slice none 0 0)) := (HK9.out X HQX.out).trans HKX.out
    have hkp9 : w9.heap[p]? = some (.cells #[.pointer (some ⟨b, 0, none⟩), .pointer (some ⟨q, 0, none⟩)] 79 (0, 0)) := (HK9.out p HQP.out).trans HKP.out
    have hdr9 : Below w9.heap.size w9 w9.drew := (Below.refl _ _).drew
    obtain ⟨⟨y0, y1, y2, y3, y4, y5, y6⟩, _⟩ := rc_blk (show w9.drew.heap[X]? = _ from hkx9)
    dsimp only at y0 y1 y2 y3 y4 y5 y6
    have hkpd : w9.drew.heap[p]? = _ := hkp9
    have c1 : w9.drew.cell? ⟨p, 1, none⟩ = some (.pointer (some ⟨q, 0, none⟩)) := by simp [World.cell?, hkpd]
    have hon9 : IntsOn w9.drew (fun g => o2 = some ⟨g, 0, none⟩) (.slice o2 RO.ks.length j2) RO.ks := HON.out.move fun g hg hF => ⟨hF, (HK9.out g (HOG.out g hF).1 : w9.heap[g]? = wc.heap[g]?)⟩
    have hpw := half_putW (H9.out.below hdr9) (by omega) 1 (RO, .slice o2 RO.ks.length j2, .slice none 0 0) ⟨hon9, HNL.out _ _⟩ (fun g hg => by
      obtain ⟨q1, q2, q3⟩ := (H9.out.below hdr9).np g (HOG.out g hg).1
      exact ⟨q2, .inl fun hy => q3 (.inl hy), q1⟩) HRS.out
    rw [HRO.out] at hpw
    have h9 := H9.out
    unfold rcV at hpw
    dsimp only at hpw
    have HPW := Lib.hid hpw
    have HKP9 := Lib.hid hkp9
    clear hpw hon9 hkpd hkp9 hkx9 hdr9 HPV h9
    go_still_tail 5, (by kernel_rfl)
    change wpList _ _ _ _ _ w9.drew
    go_wp2_with (first
      | (go_at_call 53
         refine HPW.out.mono ?_
         rintro e w10 ⟨rfl, ⟨Y10, h10⟩, b10, k10⟩
         have HKP10 := Lib.hid ((k10 p HQP.out).trans HKP9.out)
         have hpq := fun hg => (HOG.out p hg).2.1 rfl
         have H10 := Lib.hid (h10.less (P' := fun g => g = p) fun g hg => by rw [hg]; exact ⟨HQP.out, hpq⟩)
         clear k10 h10 b10 c1 hpq y0 y1 y2 y3 y4 y5 y6))
    clear HPW HKX HKP HON HOG HNL HRO HRS HQP HQX HOW HNQ HK9 H9 HKP9
    go_loopw [8] (fun v wr => ∃ (k : Nat) (Zk Yk : Nat → Prop), v = .int .i64 (k : Int) ∧ k ≤ cs.length ∧ k ≤ 12 ∧ Hid (HalfI (fun g => g = p) w.heap.size w wr b sb q d 0 (stoA t) (putsO (ownA t) ((cs.take k).map toCh)) (stoA t) (putsO (ownA t) ((cs.take k).map toCh)) Zk (fun g => W0.heap.size ≤ g ∧ g < w1.heap.size) Yk (fun _ => False) ∧ wr.heap[p]? = some (.cells #[.pointer (some ⟨b, 0, none⟩), .pointer (some ⟨q, 0, none⟩)] 79 (0, 0)))) (fun v _ => 12 - (RowKit.intOf v).toNat)
    case atStart => exact ⟨0, _, _, rfl, Nat.zero_le _, Nat.zero_le _, Lib.hid ⟨by rw [List.take_zero]; exact H10.out, HKP10.out⟩⟩
    case round =>
      obtain ⟨k, Zk, Yk, rfl, hk, hk12, HK⟩ := hrel
      have hlen := putsO_len (ownA t) ((cs.take k).map toCh)
      rw [List.length_map, List.length_take] at hlen
      by_cases hin : k < cs.length ∧ k < 12
      · obtain ⟨hlt, hl12⟩ := hin
        obtain ⟨hh, hkp⟩ := HK.out
        obtain ⟨g, off, rfl, hgG, hat, hrc⟩ := (HCS.out.move (F' := G) (w' := wr) fun g hg hF => ⟨hF, hh.bel.block g (HG.out g hF)⟩).reads k hlt
        obtain ⟨hs1, hs2⟩ := HSM.out cs[k] (List.getElem_mem hlt)
        have htk : (cs.take (k + 1)).map toCh = (cs.take k).map toCh ++ [toCh cs[k]] := by rw [List.take_succ_eq_append_getElem hlt, List.map_append]; rfl
        have hps := putsO_snoc (ownA t) ((cs.take k).map toCh) (toCh cs[k])
        rw [← htk] at hps
        obtain ⟨y, hy⟩ : ∃ y, cs[k] = y := ⟨_, rfl⟩
        rw [hy] at hat hrc hs1 hs2 hps
        obtain ⟨yi, yr, yv1, yv2⟩ := y
        obtain ⟨ok', jk', oa', ja', e1, e2⟩ := hrc.form
        dsimp only at e1 e2 hs1 hs2 hrc
        subst e1 e2
        replace hps : putsO (ownA t) ((cs.take (k + 1)).map toCh) = putO (putsO (ownA t) ((cs.take k).map toCh)) yi yr := hps
        have hdr : Below wr.heap.size wr wr.drew := (Below.refl _ _).drew
        have hkpd : wr.drew.heap[p]? = _ := hkp
        have d0 : wr.drew.cell? ⟨p, 0, none⟩ = some (.pointer (some ⟨b, 0, none⟩)) := by simp [World.cell?, hkpd]
        have hatd : ChAt wr.drew g (off + k * 8) (yi, yr, .slice ok' yr.ks.length jk', .slice oa' yr.ats.length ja') := hat
        obtain ⟨a0, a1, a2, a3, a4, a5, a6, a7⟩ := hatd.cells
        dsimp only at a0 a1 a2 a3 a4 a5 a6 a7
        have hpv := half_putV (hh.below hdr) (by omega) yi hs2 (yr, .slice ok' yr.ks.length jk', .slice oa' yr.ats.length ja') (F := G) (hrc.move fun g _ hF => ⟨hF, rfl⟩) hs1
        unfold rcV at hpv
        dsimp only at hpv
        have HPV := Lib.hid hpv
        have HPS := Lib.hid hps
        have HRC := Lib.hid hrc
        have HAT := Lib.hid hat
        have HS1 := Lib.hid hs1
        have HGB := Lib.hid (hh.bel.size)
        have HBEL := Lib.hid hh.bel
        have HKP := Lib.hid hkp
        have HLT := Lib.hid hlt
        have HL12 := Lib.hid hl12
        have hz0 : (0 : Int) ≤ (k : Int) := by omega
        have hz1 : (k : Int) < (cs.length : Int) := by omega
        have k1 : decide ((k : Int) < (cs.length : Int)) = true := decide_eq_true hz1
        have k2 : decide ((k : Int) < 12) = true := decide_eq_true (by omega)
        clear hpv hps hrc hat hatd hh hkp hkpd htk hy hs1 hs2 hdr HK hlt hl12
        go_wp2_with fail
        go_still_tail 14, (by kernel_rfl)
        change wpList _ _ _ _ _ wr.drew
        go_wp2_with (first
          | (go_at_call 25
             refine HPV.out.mono ?_
             rintro e w9 ⟨rfl, ⟨Z9, h9⟩, b9, k9⟩
             have HKP9 := Lib.hid ((k9 p rfl).trans HKP.out)
             have H9 := Lib.hid h9
             have HB9 := Lib.hid b9
             clear k9 h9 b9 d0 a0 a1 a2 a3 a4 a5 a6 a7))
        have hdr9 : Below w9.heap.size w9 w9.drew := (Below.refl _ _).drew
        have hkpd : w9.drew.heap[p]? = _ := HKP9.out
        have d1 : w9.drew.cell? ⟨p, 1, none⟩ = some (.pointer (some ⟨q, 0, none⟩)) := by simp [World.cell?, hkpd]
        have hgl := HG.out g hgG
        have hatd : ChAt w9.drew g (off + k * 8) (yi, yr, .slice ok' yr.ks.length jk', .slice oa' yr.ats.length ja') := HAT.out.move (HB9.out.block g hgl)
        obtain ⟨a0, a1, a2, a3, a4, a5, a6, a7⟩ := hatd.cells
        dsimp only at a0 a1 a2 a3 a4 a5 a6 a7
        have hpw := half_putW (H9.out.below hdr9) (by omega) yi (yr, .slice ok' yr.ks.length jk', .slice oa' yr.ats.length ja') (G := G) (HRC.out.move fun g hg hF => ⟨hF, HB9.out.block g (HG.out g hF)⟩) (fun g hg => ⟨(H9.out.below hdr9).zlow (HG.out g hg), .inr (HG.out g hg), Nat.lt_of_lt_of_le (HG.out g hg) (H9.out.below hdr9).bel.size⟩) HS1.out
        rw [← HPS.out] at hpw
        unfold rcV at hpw
        dsimp only at hpw
        have HPW := Lib.hid hpw
        clear hpw hatd hkpd hdr9 HPV hgl
        go_still_tail 14, (by kernel_rfl)
        change wpList _ _ _ _ _ w9.drew
        go_wp2_with (first
          | (go_at_call 53
             refine HPW.out.mono ?_
             rintro e w10 ⟨rfl, ⟨Y10, h10⟩, b10, k10⟩
             have HKP10 := Lib.hid ((k10 p rfl).trans HKP9.out)
             have H10 := Lib.hid (h10.less (P' := fun g => g = p) fun g hg => by rw [hg]; exact ⟨rfl, fun q => by have := HG.out p q; omega⟩)
             clear k10 h10 b10 d1 a0 a1 a2 a3 a4 a5 a6 a7))
        exact ⟨⟨k + 1, Z9, Y10, by go_num, by have := HLT.out; omega, by have := HL12.out; omega, Lib.hid ⟨H10.out, HKP10.out⟩⟩, by have := HL12.out; simp [RowKit.intOf]; omega⟩
      · have hend : (cs.take 12) = cs.take k := by
          by_cases h12 : k < 12
          · rw [List.take_of_length_le (by omega), List.take_of_length_le (by omega)]
          · have : k = 12 := by omega
            rw [this]
        have HFIN : Hid (MadeP 79 w (stoA t) (putsO (ownA t) ((cs.take 12).map toCh)) (.returned (.pointer (some ⟨p, 0, none⟩))) wr) := Lib.hid (by
          rw [hend]
          exact ⟨p, b, sb, q, d, _, _, _, _, rfl, HK.out.1.full HK.out.2 hpB⟩)
        clear hend hlen HK
        by_cases hlt : k < cs.length
        · have k1 : decide (k < cs.length) = true := decide_eq_true hlt
          have k2 : decide ((k : Int) < 12) = false := decide_eq_false (by omega)
          clear hin hlt
          go_wp2_with fail
          all_goals (go_ret; exact HFIN.out)
        · have k1 : decide (k < cs.length) = false := decide_eq_false hlt
          clear hin hlt
          go_wp2_with fail
          all_goals (go_ret; exact HFIN.out)
end Go.Proofs.Ytbbfcjaggdpfbaa.Char

/- Mathematics without a program: those of a list that are wanted, each where it stands first. -/
namespace Go.Proofs.Ytbbfcjaggdpfbaa.Char

/-- what has been met, and what has been taken -/
def onceS (p : Int → Bool) (s : List Int × List Int) (z : Int) : List Int × List Int := if z ∈ s.1 then s else (s.1 ++ [z], if p z = true then s.2 ++ [z] else s.2)
def onceF (p : Int → Bool) (zs : List Int) : List Int × List Int := zs.foldl (onceS p) ([], [])
/-- those of a list that are wanted, each where it stands first -/
def onceL (p : Int → Bool) (zs : List Int) : List Int := (onceF p zs).2
theorem onceF_snoc (p : Int → Bool) (zs : List Int) (z : Int) : onceF p (zs ++ [z]) = onceS p (onceF p zs) z := by simp [onceF]
theorem onceS_old {p : Int → Bool} {s : List Int × List Int} {z : Int} (h : z ∈ s.1) : onceS p s z = s := by unfold onceS; rw [if_pos h]
theorem onceS_no {p : Int → Bool} {s : List Int × List Int} {z : Int} (h : z ∉ s.1) (hp : p z = false) : onceS p s z = (s.1 ++ [z], s.2) := by unfold onceS; rw [if_neg h, if_neg (by rw [hp]; simp)]
theorem onceS_yes {p : Int → Bool} {s : List Int × List Int} {z : Int} (h : z ∉ s.1) (hp : p z = true) : onceS p s z = (s.1 ++ [z], s.2 ++ [z]) := by unfold onceS; rw [if_neg h, if_pos hp]
theorem rev_ind {P : List Int → Prop} (h0 : P []) (h1 : ∀ l z, P l → P (l ++ [z])) (l : List Int) : P l := by
  have key : ∀ m : List Int, P m.reverse := by
    intro m
    induction m with
    | nil => exact h0
    | cons z m ih => rw [List.reverse_cons]; exact h1 _ _ ih
  have := key l.reverse
  rwa [List.reverse_reverse] at this
theorem onceF_spec (p : Int → Bool) (zs : List Int) : (onceF p zs).2 = (onceF p zs).1.filter p ∧ (onceF p zs).1.Nodup ∧ (∀ x, x ∈ (onceF p zs).1 ↔ x ∈ zs) ∧ (onceF p zs).1.length ≤ zs.length := by
  refine rev_ind (P := fun zs => (onceF p zs).2 = (onceF p zs).1.filter p ∧ (onceF p zs).1.Nodup ∧ (∀ x, x ∈ (onceF p zs).1 ↔ x ∈ zs) ∧ (onceF p zs).1.length ≤ zs.length) ⟨rfl, List.nodup_nil, fun _ => Iff.rfl, Nat.le_refl _⟩ (fun l z ih => ?_) zs
  obtain ⟨h1, h2, h3, h4⟩ := ih
  rw [onceF_snoc]
  by_cases hz : z ∈ (onceF p l).1
  · rw [onceS_old hz]
    refine ⟨h1, h2, fun x => ?_, by rw [List.length_append]; omega⟩
    rw [h3, List.mem_append, List.mem_singleton]
    exact ⟨.inl, fun h => h.elim id (fun e => by rw [e]; exact (h3 z).1 hz)⟩
  · have hmem : ∀ x, x ∈ (onceF p l).1 ++ [z] ↔ x ∈ l ++ [z] := fun x => by rw [List.mem_append, List.mem_append, h3]
    have hnd : ((onceF p l).1 ++ [z]).Nodup := List.nodup_append.2 ⟨h2, by simp, fun a ha b hb => by rw [List.mem_singleton] at hb; subst hb; exact fun e => hz (e ▸ ha)⟩
    cases hp : p z with
    | false =>
      rw [onceS_no hz hp]
      exact ⟨by rw [List.filter_append, h1]; simp [hp], hnd, hmem, by simp; omega⟩
    | true =>
      rw [onceS_yes hz hp]
      exact ⟨by rw [List.filter_append, h1]; simp [hp], hnd, hmem, by simp; omega⟩
theorem onceL_len (p : Int → Bool) (zs : List Int) : (onceL p zs).length ≤ zs.length := by
  obtain ⟨h1, _, _, h4⟩ := onceF_spec p zs
  unfold onceL
  rw [h1]
  exact Nat.le_trans (List.length_filter_le _ _) h4
theorem onceL_mem (p : Int → Bool) (zs : List Int) (x : Int) : x ∈ onceL p zs ↔ x ∈ zs ∧ p x = true := by
  obtain ⟨h1, _, h3, _⟩ := onceF_spec p zs
  unfold onceL
  rw [h1, List.mem_filter, h3]
theorem onceL_nodup (p : Int → Bool) (zs : List Int) : (onceL p zs).Nodup := by
  obtain ⟨h1, h2, _, _⟩ := onceF_spec p zs
  unfold onceL
  rw [h1]
  exact h2.filter _
/-- of a list in which each stands once -/
theorem onceF_nd (p : Int → Bool) (zs : List Int) (h : zs.Nodup) : (onceF p zs).1 = zs := by
  revert h
  refine rev_ind (P := fun zs => zs.Nodup → (onceF p zs).1 = zs) (fun _ => rfl) (fun l z ih => ?_) zs
  intro h
  obtain ⟨h1, _, h3⟩ := List.nodup_append.1 h
  have e := ih h1
  rw [onceF_snoc]
  have hz : z ∉ (onceF p l).1 := by rw [e]; exact fun hm => h3 z hm z (List.mem_singleton.2 rfl) rfl
  cases hp : p z with
  | false => rw [onceS_no hz hp, e]
  | true => rw [onceS_yes hz hp, e]
theorem onceL_nd (p : Int → Bool) (zs : List Int) (h : zs.Nodup) : onceL p zs = zs.filter p := by
  unfold onceL
  rw [(onceF_spec p zs).1, onceF_nd p zs h]
/-- the document's: each that is wanted, if it has not been taken -/
def thereS (p : Int → Bool) (m : List Int) (z : Int) : List Int := if p z && !(m.any fun y => y == z) then m ++ [z] else m
def thereL (p : Int → Bool) (zs : List Int) : List Int := zs.foldl (thereS p) []
theorem thereL_snoc (p : Int → Bool) (zs : List Int) (z : Int) : thereL p (zs ++ [z]) = thereS p (thereL p zs) z := by simp [thereL]
theorem thereL_eq (p : Int → Bool) (zs : List Int) : thereL p zs = onceL p zs := by
  refine rev_ind (P := fun zs => thereL p zs = onceL p zs) rfl (fun l z ih => ?_) zs
  obtain ⟨h1, _, h3, _⟩ := onceF_spec p l
  rw [thereL_snoc, ih]
  unfold onceL
  rw [onceF_snoc]
  have hany : ((onceF p l).2.any fun y => y == z) = decide (z ∈ (onceF p l).1 ∧ p z = true) := by
    rw [h1, Bool.eq_iff_iff, List.any_eq_true, decide_eq_true_eq]
    constructor
    · rintro ⟨y, hy, e⟩
      have e : y = z := by simpa using e
      rw [e, List.mem_filter] at hy
      exact hy
    · exact fun hz => ⟨z, List.mem_filter.2 hz, by simp⟩
  unfold thereS
  rw [hany]
  by_cases hz : z ∈ (onceF p l).1
  · rw [onceS_old hz]
    cases hp : p z <;> simp [hz]
  · cases hp : p z with
    | false => rw [onceS_no hz hp]; simp
    | true => rw [onceS_yes hz hp]; simp [hz]
end Go.Proofs.Ytbbfcjaggdpfbaa.Char

/- The walk of once: those of a list that are wanted, each where it stands first. -/
namespace Go.Proofs.Ytbbfcjaggdpfbaa.Char
open Go.RowKit Go.Lib Go.Shelf

/-- what is behind once -/
def OncP (w : World) (l : List Int) : Ending → World → Prop := fun e w' => ∃ u, e = .returned u ∧ OwnsInt w.heap.size w' u l ∧ Below w.heap.size w w'
set_option maxRecDepth 100000 in
set_option maxHeartbeats 4000000 in
theorem once_m {g : FuncId} (hE : Enters Try.prog g) (sv : Value) (p : Int → Bool) {w : World} {K : Nat → Prop} (oz : Option Addr) (jz : Nat) (zs : List Int) (hz : IntsOn w K (.slice oz zs.length jz) zs) (hK : ∀ g, K g → g < w.heap.size) (hzl : zs.length ≤ 100000000) (hzw : ∀ z, z ∈ zs → (Lit.int .i64 z).wf = true)
    (hW : ∀ W, Below w.heap.size w W → ∀ z, z ∈ zs → Calls Try.prog g #[sv, .int .i64 z] W fun e W' => e = .returned (.bool (p z)) ∧ Below W.heap.size W W') :
    Calls Try.prog 123 #[.slice oz zs.length jz, .func (.func g) #[sv] #[]] w (OncP w (onceL p zs)) := by
  have hE2 : ∀ (args : Array Value) (w : World), (callFunc g args).run Try.prog w = .ok (.enter g args) w := hE
  have HZ := Lib.hid hz
  have HK' := Lib.hid hK
  have HZW := Lib.hid hzw
  have HW := Lib.hid hW
  have hmk : ∀ w, (Instr.makeMap 114 none).run Try.prog w = .ok (.map (some w.heap.size)) (w.alloc (.map #[] 0)) := fun w => run_makeMap _ w
  obtain ⟨R, hR⟩ : ∃ R, OncP w (onceL p zs) = R := ⟨_, rfl⟩
  rw [hR]
  have HR := Lib.hid hR
  clear hz hK hzw hW hR
  go_enter Try.func123, Try.ntmps123
  go_wp2_with fail
  obtain ⟨W1, hW1⟩ : ∃ W1, W1 = w.alloc (.map #[] 0) := ⟨_, rfl⟩
  rw [← hW1]
  have HS1 : Hid (Below w.heap.size w W1 ∧ w.heap.size < W1.heap.size ∧ MetI W1 w.heap.size [] (.map [])) := Lib.hid (by
    rw [hW1]
    exact ⟨(Below.refl _ _).alloc (Nat.le_refl _) _, by simp, MetI.start w⟩)
  clear hW1
  go_loopw [6, 14] (fun v6 v14 wr => ∃ (k n : Nat) (o : Option Addr) (j : Nat) (D : DataW Value), v14 = .int .i64 (k : Int) ∧ k ≤ zs.length ∧ v6 = .slice o n j ∧ Hid (n = (onceF p (zs.take k)).2.length ∧ Below w.heap.size w wr ∧ w.heap.size < wr.heap.size ∧ MetI wr w.heap.size (onceF p (zs.take k)).1 D ∧ OwnsInt (w.heap.size + 1) wr v6 (onceF p (zs.take k)).2)) (fun _ v14 _ => zs.length - (RowKit.intOf v14).toNat)
  case atStart => exact ⟨0, 0, none, 0, .map [], rfl, Nat.zero_le _, rfl, Lib.hid ⟨rfl, HS1.out.1, HS1.out.2.1, HS1.out.2.2, OwnsInt.nil _ _⟩⟩
  case round =>
    obtain ⟨k, n, o, j, D, rfl, hk, rfl, HQ⟩ := hrel
    have hspec := onceF_spec p (zs.take k)
    have hb2 := hspec.2.2.2
    have hb3 := onceL_len p (zs.take k)
    unfold onceL at hb3
    by_cases hlt : k < zs.length
    · obtain ⟨o1, i1, j1, e1, e2, e3⟩ := HZ.out.move (F' := K) (w' := wr) (fun g hg hF => ⟨hF, HQ.out.2.1.block g hg⟩)
      simp only [Value.slice.injEq] at e1
      obtain ⟨rfl, rfl, rfl⟩ := e1
      rcases e3 with h0 | ⟨g', off, rfl, hgF, hc⟩
      · rw [h0] at hlt; cases hlt
      have c0 := hc k hlt
      rw [show zs.getD k 0 = zs[k] by simp [hlt]] at c0
      have htk := List.take_succ_eq_append_getElem hlt
      have hmem := List.getElem_mem hlt
      have hwf := HZW.out zs[k] hmem
      obtain ⟨z, hzk⟩ : ∃ z, zs[k] = z := ⟨_, rfl⟩
      rw [hzk] at c0 htk hwf hmem
      have hsn := onceF_snoc p (zs.take k) z
      rw [← htk] at hsn
      obtain ⟨W2, hW2⟩ : ∃ W2, W2 = wr.alloc (.cells #[] 115) := ⟨_, rfl⟩
      have hb12 : Below wr.heap.size wr W2 := by rw [hW2]; exact (Below.refl _ _).alloc (Nat.le_refl _) _
      have hs2 : W2.heap.size = wr.heap.size + 1 := by rw [hW2]; simp
      have hlk := HQ.out.2.2.2.1.look hwf
      have hzl2 : (zs.take k).length = k := by rw [List.length_take]; omega
      have hm2 := HQ.out.2.2.2.1.move (hb12.block w.heap.size HQ.out.2.2.1)
      have hbw2 : Below w.heap.size w W2 := HQ.out.2.1.trans (hb12.mono (by have := HQ.out.2.1.size; omega))
      have HLT := Lib.hid hlt
      have hz0 : (0 : Int) ≤ (k : Int) := by omega
      have hz1 : (k : Int) < (zs.length : Int) := by omega
      by_cases hin : z ∈ (onceF p (zs.take k)).1
      · rw [decide_eq_true hin] at hlk
        have HN : Hid (n = (onceF p (zs.take (k + 1))).2.length ∧ Below w.heap.size w W2 ∧ w.heap.size < W2.heap.size ∧ MetI W2 w.heap.size (onceF p (zs.take (k + 1))).1 D ∧ OwnsInt (w.heap.size + 1) W2 (.slice o n j) (onceF p (zs.take (k + 1))).2) := Lib.hid (by
          rw [hsn, onceS_old hin]
          exact ⟨HQ.out.1, hbw2, by have := HQ.out.2.2.1; omega, hm2, HQ.out.2.2.2.2.below hb12⟩)
        rw [hW2] at HN
        clear hc e2 hzk hgF hin hsn htk hmem hwf hspec hb2 hb3 hW2 hb12 hs2 hm2 hbw2 hzl2 hlt
        go_wp2_with fail
        go_roundw
        case rel => exact ⟨k + 1, n, o, j, D, by go_num, by have := HLT.out; omega, rfl, HN⟩
        case measure => have := HLT.out; simp [RowKit.intOf]; omega
      · rw [decide_eq_false hin] at hlk
        obtain ⟨W5, hrun, how, hturn⟩ := hm2.own.store law_int Try.underlying114 (by unfold maxLen; omega) (key_int hwf) unitElem_mk
        have hg5 := hturn.grown
        have s5 := hg5.size
        have keep5 : ∀ g, g < W2.heap.size → g ≠ w.heap.size → W5.heap[g]? = W2.heap[g]? := fun g h1 h2 => hg5.block g h1 (fun e => h2 (by cases e; rfl))
        have hm5 := hm2.snoc how
        have hb5 : Below w.heap.size w W5 := hbw2.grown hg5 (by have := hbw2.size; omega) (fun k hk => by cases hk; exact Nat.le_refl _)
        have ho5 : OwnsInt (w.heap.size + 1) W5 (.slice o n j) (onceF p (zs.take k)).2 := (HQ.out.2.2.2.2.below hb12).keep fun g hg => keep5 g (by have := (HQ.out.2.2.2.2.blk hg).2; omega) (by have := (HQ.out.2.2.2.2.blk hg).1; omega)
        have hC := HW.out W5 hb5 z hmem
        rw [hW2] at hrun
        have hsz5 : w.heap.size < W5.heap.size := by have := HQ.out.2.2.1; omega
        have HC := Lib.hid hC
        have HM5 := Lib.hid hm5
        have HB5 := Lib.hid hb5
        have HO5 := Lib.hid ho5
        have HN0 := Lib.hid HQ.out.1
        have hnb : n ≤ 100000000 := by have := HQ.out.1; omega
        cases hp : p z with
        | false =>
          rw [hp] at HC
          rw [onceS_no hin hp] at hsn
          have HSN := Lib.hid hsn
          clear hc e2 hzk hgF hin hsn htk hmem hwf hspec hb2 hb3 hW2 hb12 hs2 hm2 hbw2 hzl2 hlt how hturn hg5 s5 keep5 hm5 hb5 ho5 hC hp HQ
          go_wp2_with (first
            | (go_at_fn g
               refine HC.out.mono ?_
               rintro e w6 ⟨rfl, q6⟩
               have HQ6 := Lib.hid q6
               clear q6))
          go_roundw
          case rel => exact ⟨k + 1, n, o, j, _, by go_num, by have := HLT.out; omega, rfl, Lib.hid ⟨by rw [HSN.out]; exact HN0.out, HB5.out.trans (HQ6.out.mono (by omega)), Nat.lt_of_lt_of_le hsz5 HQ6.out.size, by rw [HSN.out]; exact HM5.out.move (HQ6.out.block _ hsz5), by rw [HSN.out]; exact HO5.out.below HQ6.out⟩⟩
          case measure => have := HLT.out; simp [RowKit.intOf]; omega
        | true =>
          rw [hp] at HC
          rw [onceS_yes hin hp] at hsn
          have HSN := Lib.hid hsn
          clear hc e2 hzk hgF hin hsn htk hmem hwf hspec hb2 hb3 hW2 hb12 hs2 hm2 hbw2 hzl2 hlt how hturn hg5 s5 keep5 hm5 hb5 ho5 hC hp HQ
          go_wp2_with (first
            | (go_at_fn g
               refine HC.out.mono ?_
               rintro e w6 ⟨rfl, q6⟩
               have HQ6 := Lib.hid q6
               have HO6 := Lib.hid (HO5.out.below q6)
               have hs6 := q6.size
               clear q6)
            | (at_builtin
               refine wpList_pushInt rfl (.tmp 31) (.tmp 33) rfl z HO6.out rfl (by simp [Act.eval]) (by omega) (by rw [← HN0.out]; exact hnb) ?_
               intro u7 w7 q1 q2 q3 q4
               obtain ⟨o7, j7, rfl⟩ := q1.form
               have Q1 := Lib.hid q1
               have Q2 := Lib.hid q2
               have Q3 := Lib.hid q3
               have hs7 := q2.size
               rw [List.length_append, List.length_singleton, ← HN0.out]
               clear q1 q2 q3 q4))
          go_roundw
          case rel =>
            have q1 := Q1.out
            rw [List.length_append, List.length_singleton, ← HN0.out] at q1
            refine ⟨k + 1, n + 1, o7, j7, D.put (kI z) (.agg []), by go_num, by have := HLT.out; omega, rfl, Lib.hid ⟨by rw [HSN.out, List.length_append, List.length_singleton, ← HN0.out], (HB5.out.trans (HQ6.out.mono (by omega))).trans (Q2.out.mono (by omega)), by omega, ?_, by rw [HSN.out]; exact q1⟩⟩
            rw [HSN.out]
            exact (HM5.out.move (HQ6.out.block _ hsz5)).move (Q3.out _ (by omega) (fun e => by have := (HO6.out.blk e.symm).1; omega))
          case measure => have := HLT.out; simp [RowKit.intOf]; omega
    · have ek : k = zs.length := by omega
      subst ek
      rw [List.take_length] at HQ
      clear hspec hb2 hb3 hk
      go_wp2_with fail
      rw [← HR.out]
      exact ⟨_, rfl, HQ.out.2.2.2.2.weak (by omega), HQ.out.2.1⟩
set_option maxRecDepth 100000 in
set_option maxHeartbeats 4000000 in
theorem once_c {g : FuncId} (hE : Enters Try.prog g) (c1 c2 : Value) (p : Int → Bool) {w : World} {K : Nat → Prop} (oz : Option Addr) (jz : Nat) (zs : List Int) (hz : IntsOn w K (.slice oz zs.length jz) zs) (hK : ∀ g, K g → g < w.heap.size) (hzl : zs.length ≤ 100000000) (hzw : ∀ z, z ∈ zs → (Lit.int .i64 z).wf = true)
    (hW : ∀ W, Below w.heap.size w W → ∀ z, z ∈ zs → Calls Try.prog g #[.int .i64 z, c1, c2] W fun e W' => e = .returned (.bool (p z)) ∧ Below W.heap.size W W') :
    Calls Try.prog 123 #[.slice oz zs.length jz, .func (.func g) #[] #[c1, c2]] w (OncP w (onceL p zs)) := by
  have hE2 : ∀ (args : Array Value) (w : World), (callFunc g args).run Try.prog w = .ok (.enter g args) w := hE
  have HZ := Lib.hid hz
  have HK' := Lib.hid hK
  have HZW := Lib.hid hzw
  have HW := Lib.hid hW
  have hmk : ∀ w, (Instr.makeMap 114 none).run Try.prog w = .ok (.map (some w.heap.size)) (w.alloc (.map #[] 0)) := fun w => run_makeMap _ w
  obtain ⟨R, hR⟩ : ∃ R, OncP w (onceL p zs) = R := ⟨_, rfl⟩
  rw [hR]
  have HR := Lib.hid hR
  clear hz hK hzw hW hR
  go_enter Try.func123, Try.ntmps123
  go_wp2_with fail
  obtain ⟨W1, hW1⟩ : ∃ W1, W1 = w.alloc (.map #[] 0) := ⟨_, rfl⟩
  rw [← hW1]
  have HS1 : Hid (Below w.heap.size w W1 ∧ w.heap.size < W1.heap.size ∧ MetI W1 w.heap.size [] (.map [])) := Lib.hid (by
    rw [hW1]
    exact ⟨(Below.refl _ _).alloc (Nat.le_refl _) _, by simp, MetI.start w⟩)
  clear hW1
  go_loopw [6, 14] (fun v6 v14 wr => ∃ (k n : Nat) (o : Option Addr) (j : Nat) (D : DataW Value), v14 = .int .i64 (k : Int) ∧ k ≤ zs.length ∧ v6 = .slice o n j ∧ Hid (n = (onceF p (zs.take k)).2.length ∧ Below w.heap.size w wr ∧ w.heap.size < wr.heap.size ∧ MetI wr w.heap.size (onceF p (zs.take k)).1 D ∧ OwnsInt (w.heap.size + 1) wr v6 (onceF p (zs.take k)).2)) (fun _ v14 _ => zs.length - (RowKit.intOf v14).toNat)
  case atStart => exact ⟨0, 0, none, 0, .map [], rfl, Nat.zero_le _, rfl, Lib.hid ⟨rfl, HS1.out.1, HS1.out.2.1, HS1.out.2.2, OwnsInt.nil _ _⟩⟩
  case round =>
    obtain ⟨k, n, o, j, D, rfl, hk, rfl, HQ⟩ := hrel
    have hspec := onceF_spec p (zs.take k)
    have hb2 := hspec.2.2.2
    have hb3 := onceL_len p (zs.take k)
    unfold onceL at hb3
    by_cases hlt : k < zs.length
    · obtain ⟨o1, i1, j1, e1, e2, e3⟩ := HZ.out.move (F' := K) (w' := wr) (fun g hg hF => ⟨hF, HQ.out.2.1.block g hg⟩)
      simp only [Value.slice.injEq] at e1
      obtain ⟨rfl, rfl, rfl⟩ := e1
      rcases e3 with h0 | ⟨g', off, rfl, hgF, hc⟩
      · rw [h0] at hlt; cases hlt
      have c0 := hc k hlt
      rw [show zs.getD k 0 = zs[k] by simp [hlt]] at c0
      have htk := List.take_succ_eq_append_getElem hlt
      have hmem := List.getElem_mem hlt
      have hwf := HZW.out zs[k] hmem
      obtain ⟨z, hzk⟩ : ∃ z, zs[k] = z := ⟨_, rfl⟩
      rw [hzk] at c0 htk hwf hmem
      have hsn := onceF_snoc p (zs.take k) z
      rw [← htk] at hsn
      obtain ⟨W2, hW2⟩ : ∃ W2, W2 = wr.alloc (.cells #[] 115) := ⟨_, rfl⟩
      have hb12 : Below wr.heap.size wr W2 := by rw [hW2]; exact (Below.refl _ _).alloc (Nat.le_refl _) _
      have hs2 : W2.heap.size = wr.heap.size + 1 := by rw [hW2]; simp
      have hlk := HQ.out.2.2.2.1.look hwf
      have hzl2 : (zs.take k).length = k := by rw [List.length_take]; omega
      have hm2 := HQ.out.2.2.2.1.move (hb12.block w.heap.size HQ.out.2.2.1)
      have hbw2 : Below w.heap.size w W2 := HQ.out.2.1.trans (hb12.mono (by have := HQ.out.2.1.size; omega))
      have HLT := Lib.hid hlt
      have hz0 : (0 : Int) ≤ (k : Int) := by omega
      have hz1 : (k : Int) < (zs.length : Int) := by omega
      by_cases hin : z ∈ (onceF p (zs.take k)).1
      · rw [decide_eq_true hin] at hlk
        have HN : Hid (n = (onceF p (zs.take (k + 1))).2.length ∧ Below w.heap.size w W2 ∧ w.heap.size < W2.heap.size ∧ MetI W2 w.heap.size (onceF p (zs.take (k + 1))).1 D ∧ OwnsInt (w.heap.size + 1) W2 (.slice o n j) (onceF p (zs.take (k + 1))).2) := Lib.hid (by
          rw [hsn, onceS_old hin]
          exact ⟨HQ.out.1, hbw2, by have := HQ.out.2.2.1; omega, hm2, HQ.out.2.2.2.2.below hb12⟩)
        rw [hW2] at HN
        clear hc e2 hzk hgF hin hsn htk hmem hwf hspec hb2 hb3 hW2 hb12 hs2 hm2 hbw2 hzl2 hlt
        go_wp2_with fail
        go_roundw
        case rel => exact ⟨k + 1, n, o, j, D, by go_num, by have := HLT.out; omega, rfl, HN⟩
        case measure => have := HLT.out; simp [RowKit.intOf]; omega
      · rw [decide_eq_false hin] at hlk
        obtain ⟨W5, hrun, how, hturn⟩ := hm2.own.store law_int Try.underlying114 (by unfold maxLen; omega) (key_int hwf) unitElem_mk
        have hg5 := hturn.grown
        have s5 := hg5.size
        have keep5 : ∀ g, g < W2.heap.size → g ≠ w.heap.size → W5.heap[g]? = W2.heap[g]? := fun g h1 h2 => hg5.block g h1 (fun e => h2 (by cases e; rfl))
        have hm5 := hm2.snoc how
        have hb5 : Below w.heap.size w W5 := hbw2.grown hg5 (by have := hbw2.size; omega) (fun k hk => by cases hk; exact Nat.le_refl _)
        have ho5 : OwnsInt (w.heap.size + 1) W5 (.slice o n j) (onceF p (zs.take k)).2 := (HQ.out.2.2.2.2.below hb12).keep fun g hg => keep5 g (by have := (HQ.out.2.2.2.2.blk hg).2; omega) (by have := (HQ.out.2.2.2.2.blk hg).1; omega)
        have hC := HW.out W5 hb5 z hmem
        rw [hW2] at hrun
        have hsz5 : w.heap.size < W5.heap.size := by have := HQ.out.2.2.1; omega
        have HC := Lib.hid hC
        have HM5 := Lib.hid hm5
        have HB5 := Lib.hid hb5
        have HO5 := Lib.hid ho5
        have HN0 := Lib.hid HQ.out.1
        have hnb : n ≤ 100000000 := by have := HQ.out.1; omega
        cases hp : p z with
        | false =>
          rw [hp] at HC
          rw [onceS_no hin hp] at hsn
          have HSN := Lib.hid hsn
          clear hc e2 hzk hgF hin hsn htk hmem hwf hspec hb2 hb3 hW2 hb12 hs2 hm2 hbw2 hzl2 hlt how hturn hg5 s5 keep5 hm5 hb5 ho5 hC hp HQ
          go_wp2_with (first
            | (go_at_fn g
               refine HC.out.mono ?_
               rintro e w6 ⟨rfl, q6⟩
               have HQ6 := Lib.hid q6
               clear q6))
          go_roundw
          case rel => exact ⟨k + 1, n, o, j, _, by go_num, by have := HLT.out; omega, rfl, Lib.hid ⟨by rw [HSN.out]; exact HN0.out, HB5.out.trans (HQ6.out.mono (by omega)), Nat.lt_of_lt_of_le hsz5 HQ6.out.size, by rw [HSN.out]; exact HM5.out.move (HQ6.out.block _ hsz5), by rw [HSN.out]; exact HO5.out.below HQ6.out⟩⟩
          case measure => have := HLT.out; simp [RowKit.intOf]; omega
        | true =>
          rw [hp] at HC
          rw [onceS_yes hin hp] at hsn
          have HSN := Lib.hid hsn
          clear hc e2 hzk hgF hin hsn htk hmem hwf hspec hb2 hb3 hW2 hb12 hs2 hm2 hbw2 hzl2 hlt how hturn hg5 s5 keep5 hm5 hb5 ho5 hC hp HQ
          go_wp2_with (first
            | (go_at_fn g
               refine HC.out.mono ?_
               rintro e w6 ⟨rfl, q6⟩
               have HQ6 := Lib.hid q6
               have HO6 := Lib.hid (HO5.out.below q6)
               have hs6 := q6.size
               clear q6)
            | (at_builtin
               refine wpList_pushInt rfl (.tmp 31) (.tmp 33) rfl z HO6.out rfl (by simp [Act.eval]) (by omega) (by rw [← HN0.out]; exact hnb) ?_
               intro u7 w7 q1 q2 q3 q4
               obtain ⟨o7, j7, rfl⟩ := q1.form
               have Q1 := Lib.hid q1
               have Q2 := Lib.hid q2
               have Q3 := Lib.hid q3
               have hs7 := q2.size
               rw [List.length_append, List.length_singleton, ← HN0.out]
               clear q1 q2 q3 q4))
          go_roundw
          case rel =>
            have q1 := Q1.out
            rw [List.length_append, List.length_singleton, ← HN0.out] at q1
            refine ⟨k + 1, n + 1, o7, j7, D.put (kI z) (.agg []), by go_num, by have := HLT.out; omega, rfl, Lib.hid ⟨by rw [HSN.out, List.length_append, List.length_singleton, ← HN0.out], (HB5.out.trans (HQ6.out.mono (by omega))).trans (Q2.out.mono (by omega)), by omega, ?_, by rw [HSN.out]; exact q1⟩⟩
            rw [HSN.out]
            exact (HM5.out.move (HQ6.out.block _ hsz5)).move (Q3.out _ (by omega) (fun e => by have := (HO6.out.blk e.symm).1; omega))
          case measure => have := HLT.out; simp [RowKit.intOf]; omega
    · have ek : k = zs.length := by omega
      subst ek
      rw [List.take_length] at HQ
      clear hspec hb2 hb3 hk
      go_wp2_with fail
      rw [← HR.out]
      exact ⟨_, rfl, HQ.out.2.2.2.2.weak (by omega), HQ.out.2.1⟩

end Go.Proofs.Ytbbfcjaggdpfbaa.Char

/- The walks of a node in its view: is another one there; its children, its attributes, itself. -/
namespace Go.Proofs.Ytbbfcjaggdpfbaa.Char
open Go.RowKit Go.Lib Go.Shelf

/-- a node in its view, with its record -/
def spV (vp : Option Addr) (id : Int) (r : Rc) (ok : Option Addr) (jk : Nat) (oa : Option Addr) (ja : Nat) : Value :=
  .agg #[.pointer vp, .int .i64 id, .int .i64 r.kd, .string (bs r.nm), .string (bs r.tx), .int .i64 r.pa, .slice ok r.ks.length jk, .slice oa r.ats.length ja, .bool r.gone]
section
variable {Z : Nat → Prop} {w : World} {vp : Option Addr} {look : Int → Option Rc}
theorem VH.one (h : VH Z w vp look) (ob : Obj) : VH Z (w.alloc ob) vp look := h.below ((Below.refl _ w).alloc (Nat.le_refl _) ob)
set_option maxRecDepth 100000 in
set_option maxHeartbeats 2000000 in
theorem there_any (h : VH Z w vp look) (id : Int) (r : Rc) (ok : Option Addr) (jk : Nat) (oa : Option Addr) (ja : Nat) (z : Int) (hz : (Lit.int .i64 z).wf = true) :
    Calls Try.prog 124 #[spV vp id r ok jk oa ja, .int .i64 z] w fun e w' => e = .returned (.bool (look z).isSome) ∧ Below w.heap.size w w' := by
  have HG := Lib.hid fun ob => getV_gen (h.one ob) z hz
  have HB := Lib.hid fun ob => (Below.refl _ w).alloc (Nat.le_refl _) ob
  clear h hz
  unfold spV
  go_enter Try.func124, Try.ntmps124
  go_wp2_with (first
    | (go_at_call 29
       refine (HG.out _).mono ?_
       rintro e w2 ⟨⟨r2, va, vb⟩, rfl, q1, q2, q3⟩
       obtain ⟨ok2, jk2, oa2, ja2, e1, e2⟩ := q2.form
       dsimp only at e1 e2
       subst e1 e2
       have HQ3 := Lib.hid q3
       clear q1 q2 q3
       unfold rcV
       dsimp only))
  go_ret
  refine ⟨rfl, ((HB.out _).trans (HQ3.out.mono ?_)).alloc ?_ _⟩
  · simp
  · have := HQ3.out.size; simp at this; omega
/-- a list of the record's, each that is there -/
theorem once_there (h : VH Z w vp look) (id : Int) (r : Rc) (ok : Option Addr) (jk : Nat) (oa : Option Addr) (ja : Nat) {K : Nat → Prop} (oz : Option Addr) (jz : Nat) (zs : List Int) (hz : IntsOn w K (.slice oz zs.length jz) zs) (hK : ∀ g, K g → g < w.heap.size) (hzl : zs.length ≤ 100000000) (hzw : ∀ z, z ∈ zs → (Lit.int .i64 z).wf = true) :
    Calls Try.prog 123 #[.slice oz zs.length jz, .func (.func 124) #[spV vp id r ok jk oa ja] #[]] w (OncP w (onceL (fun z => (look z).isSome) zs)) :=
  once_m (enters_of Try.func124 (by kernel_rfl) rfl) _ _ oz jz zs hz hK hzl hzw fun W hW z hzm => there_any (h.below hW) id r ok jk oa ja z (hzw z hzm)
theorem OncP.grow {w w1 : World} {l : List Int} (hb : Below w.heap.size w w1) {e : Ending} {w' : World} (h : OncP w1 l e w') : OncP w l e w' := by
  obtain ⟨u, h1, h2, h3⟩ := h
  exact ⟨u, h1, h2.weak hb.size, hb.trans (h3.mono hb.size)⟩
theorem IntsOn.below {K : Nat → Prop} {w w' : World} {v : Value} {zs : List Int} (h : IntsOn w K v zs) (hb : Below w.heap.size w w') : IntsOn w' K v zs := h.move fun g hg hF => ⟨hF, hb.block g hg⟩
set_option maxRecDepth 100000 in
set_option maxHeartbeats 2000000 in
theorem children_any (h : VH Z w vp look) (id : Int) (r : Rc) (ok : Option Addr) (jk : Nat) (oa : Option Addr) (ja : Nat) {K : Nat → Prop} (hz : IntsOn w K (.slice ok r.ks.length jk) r.ks) (hK : ∀ g, K g → g < w.heap.size) (hzl : r.ks.length ≤ 100000000) (hzw : ∀ z, z ∈ r.ks → (Lit.int .i64 z).wf = true) :
    Calls Try.prog 100 #[spV vp id r ok jk oa ja] w (OncP w (onceL (fun z => (look z).isSome) r.ks)) := by
  have HB := Lib.hid fun ob => (Below.refl _ w).alloc (Nat.le_refl _) ob
  have HO := Lib.hid fun ob => once_there (h.one ob) id r ok jk oa ja (K := K) ok jk r.ks (hz.below ((Below.refl _ w).alloc (Nat.le_refl _) ob)) (fun g hg => by have := hK g hg; simp; omega) hzl hzw
  have hmf : ∀ (fn : Fn) (first cap : Array Value) (w : World), (Instr.makeFunc fn first cap).run Try.prog w = .ok (.func fn first cap) w := fun _ _ _ _ => rfl
  clear h hz hK hzl hzw
  unfold spV at *
  obtain ⟨P, hP⟩ : ∃ P, OncP w (onceL (fun z => (look z).isSome) r.ks) = P := ⟨_, rfl⟩
  rw [hP]
  have HP := Lib.hid hP
  clear hP
  go_enter Try.func100, Try.ntmps100
  go_wp2_with (first
    | (go_at_call 123
       refine (HO.out _).mono ?_
       intro e w2 hq
       have hq2 := OncP.grow (HB.out _) hq
       rw [HP.out] at hq2
       obtain ⟨u, rfl, _⟩ := hq
       have HQ := Lib.hid hq2
       clear hq2))
  exact HQ.out
set_option maxRecDepth 100000 in
set_option maxHeartbeats 2000000 in
theorem attributes_any (h : VH Z w vp look) (id : Int) (r : Rc) (ok : Option Addr) (jk : Nat) (oa : Option Addr) (ja : Nat) {K : Nat → Prop} (hz : IntsOn w K (.slice oa r.ats.length ja) r.ats) (hK : ∀ g, K g → g < w.heap.size) (hzl : r.ats.length ≤ 100000000) (hzw : ∀ z, z ∈ r.ats → (Lit.int .i64 z).wf = true) :
    Calls Try.prog 108 #[spV vp id r ok jk oa ja] w (OncP w (onceL (fun z => (look z).isSome) r.ats)) := by
  have HB := Lib.hid fun ob => (Below.refl _ w).alloc (Nat.le_refl _) ob
  have HO := Lib.hid fun ob => once_there (h.one ob) id r ok jk oa ja (K := K) oa ja r.ats (hz.below ((Below.refl _ w).alloc (Nat.le_refl _) ob)) (fun g hg => by have := hK g hg; simp; omega) hzl hzw
  have hmf : ∀ (fn : Fn) (first cap : Array Value) (w : World), (Instr.makeFunc fn first cap).run Try.prog w = .ok (.func fn first cap) w := fun _ _ _ _ => rfl
  clear h hz hK hzl hzw
  unfold spV at *
  obtain ⟨P, hP⟩ : ∃ P, OncP w (onceL (fun z => (look z).isSome) r.ats) = P := ⟨_, rfl⟩
  rw [hP]
  have HP := Lib.hid hP
  clear hP
  go_enter Try.func108, Try.ntmps108
  go_wp2_with (first
    | (go_at_call 123
       refine (HO.out _).mono ?_
       intro e w2 hq
       have hq2 := OncP.grow (HB.out _) hq
       rw [HP.out] at hq2
       obtain ⟨u, rfl, _⟩ := hq
       have HQ := Lib.hid hq2
       clear hq2))
  exact HQ.out
end
end Go.Proofs.Ytbbfcjaggdpfbaa.Char
