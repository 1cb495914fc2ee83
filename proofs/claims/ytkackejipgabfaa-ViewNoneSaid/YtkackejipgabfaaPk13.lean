/- MadeA LayV KeysV ChangesV InstM -/
import Derived.Test.YtkackejipgabfaaPk12
import Derived.Shelf.SlIterI.Nil
import Derived.Shelf.SortM.Plain
import Derived.Shelf.SlGeneric
import Derived.Test.YtkackejipgabfaaProg
import Derived.Test.YtkackejipgabfaaPk05
import Derived.Test.YtkackejipgabfaaPk01
import Derived.Test.YtkackejipgabfaaPk07
/- The walk of Made: views in which a node was planted, and some records were put. -/
namespace Go.Proofs.Ytkackejipgabfaa.Char
open Go.RowKit Go.Lib

/-- the root's record behind the planting -/
def rootO (t : Tr) : Rc := ⟨1, [], [], 0, if (plantT t 1 1 []).1 = 0 then [] else [(plantT t 1 1 []).1], [], false⟩
def ownA (t : Tr) : Own := layO (plantT t 1 1 []).2.2 1 (rootO t)
def stoA (t : Tr) : Sto := { newS with given := (plantT t 1 1 []).2.1 }
def putsO (own : Own) (cs : List (Int × Rc)) : Own := cs.foldl (fun o c => putO o c.1 c.2) own
theorem putsO_snoc (own : Own) (cs : List (Int × Rc)) (c : Int × Rc) : putsO own (cs ++ [c]) = putO (putsO own cs) c.1 c.2 := by simp [putsO]
theorem putO_len (own : Own) (id : Int) (r : Rc) : (putO own id r).length ≤ own.length + 1 := by
  unfold putO
  split
  · omega
  · exact layO_len own id r
theorem putsO_len (own : Own) (cs : List (Int × Rc)) : (putsO own cs).length ≤ own.length + cs.length := by
  induction cs generalizing own with
  | nil => exact Nat.le_refl _
  | cons c cs ih =>
    have h1 := ih (putO own c.1 c.2)
    have h2 := putO_len own c.1 c.2
    have e : putsO own (c :: cs) = putsO (putO own c.1 c.2) cs := rfl
    rw [e, List.length_cons]
    omega
theorem ownA_len (t : Tr) : (ownA t).length ≤ totP t + 1 := by
  have h1 := (plantT_spec t 1 1 []).2.1
  have h2 := layO_len (plantT t 1 1 []).2.2 1 (rootO t)
  unfold ownA
  simp only [List.length_nil] at h1
  omega
theorem rootO_right (t : Tr) : rightR (rootO t) = true := by
  unfold rootO rightR
  have h := (plantT_spec t 1 1 []).2.2.1
  by_cases h0 : (plantT t 1 1 []).1 = 0
  · rw [if_pos h0]; rfl
  · rw [if_neg h0]
    simp
    omega
theorem putO_root (t : Tr) : putO (plantT t 1 1 []).2.2 1 (rootO t) = ownA t := (put_ok (by decide) (rootO_right t)).2
theorem rootO_sm (t : Tr) : RcSm (rootO t) := by
  unfold rootO RcSm
  dsimp only
  constructor
  · split <;> simp
  · simp
/-- what is behind Made -/
def MadeP (T : TypeId) (w : World) (S : Sto) (own : Own) : Ending → World → Prop := fun e w' => ∃ p b sb b2 d Z Z1 Y Y1, e = .returned (.pointer (some ⟨p, 0, none⟩)) ∧ PairI T w.heap.size w w' p b sb b2 d 0 S own Z Z1 Y Y1
set_option maxRecDepth 100000 in
set_option maxHeartbeats 16000000 in
theorem madeA_any (t : Tr) (va vk : Value) (o : Option Addr) (j : Nat) (cs : List ChV) (w : World) {F G : Nat → Prop} (hc : cntT t ≤ 100000) (hn : NdOn w F t va vk) (hF : ∀ g, F g → g < w.heap.size) (ht : totP t ≤ 2000000)
    (hcs : ChsOn w G (.slice o cs.length j) cs) (hG : ∀ g, G g → g < w.heap.size) (hsm : ∀ x, x ∈ cs → RcSm x.2.1 ∧ (Lit.int .i64 x.1).wf = true) (hcl : cs.length ≤ 2 ^ 62) :
    Calls Try.prog 37 #[ndV t va vk, .slice o cs.length j] w (MadeP 79 w (stoA t) (putsO (ownA t) ((cs.take 12).map toCh))) := by
  obtain ⟨oa, ja, ok, jk, rfl, rfl⟩ := hn.form
  obtain ⟨W0, hW0⟩ : ∃ W0, W0 = w.alloc (.cells #[.int .i64 t.kd, .string (bs t.nm), .string (bs t.tx), .slice oa t.ats.length ja, .slice ok t.ks.length jk] 25) := ⟨_, rfl⟩
  have hb0 : Below w.heap.size w W0 := by rw [hW0]; exact (Below.refl _ _).alloc (Nat.le_refl _) _
  have hs0 : W0.heap.size = w.heap.size + 1 := by rw [hW0]; simp
  have hk0 : W0.heap[w.heap.size]? = some (.cells #[.int .i64 t.kd, .string (bs t.nm), .string (bs t.tx), .slice oa t.ats.length ja, .slice ok t.ks.length jk] 25 (0, 0)) := by rw [hW0]; exact World.alloc_heap_new w _
  have HN1 := Lib.hid (ps_new w.heap.size W0 (by omega))
  have HN := Lib.hid hn
  have HCS := Lib.hid hcs
  have HSM := Lib.hid hsm
  have HF := Lib.hid hF
  have HG := Lib.hid hG
  have HW0 := Lib.hid hW0
  have HB0 := Lib.hid hb0
  have HK0 := Lib.hid hk0
  clear hn hcs hsm hF hG hb0 hW0 hk0
  unfold ndV
  go_enter Try.func37, Try.ntmps37
  go_upto_region 2 with (first
    | (go_at_call 19
       rw [← HW0.out]
       refine HN1.out.mono ?_
       rintro e w1 ⟨sb, rfl, p1, b1⟩
       have hs1 := b1.size
       have HV := Lib.hid (vs_new p1 (by omega) 0)
       have HB1 := Lib.hid (HB0.out.trans (b1.mono (by omega)))
       have HX1 := Lib.hid b1
       clear p1 b1)
    | (go_at_call 20
       refine HV.out.mono ?_
       rintro e w2 ⟨b, rfl, v2, b2⟩
       have hs2 := b2.size
       have HR := Lib.hid (refNew_any w.heap.size w2 (by omega))
       have HV2 := Lib.hid v2
       have HB2 := Lib.hid (HB1.out.trans (b2.mono (by omega)))
       have HX2 := Lib.hid b2
       clear v2 b2 HV)
    | (go_at_call 42
       refine HR.out.mono ?_
       rintro e w3 ⟨d, dv, rfl, r3, b3, o3⟩
       have hs3 := b3.size
       have HR3 := Lib.hid (RefG.start0 r3)
       have HO3 := Lib.hid o3
       have HB3 := Lib.hid b3
       clear r3 b3 o3 HR))
  obtain ⟨W4, hW4⟩ : ∃ W4, W4 = (w3.alloc (.cells #[.pointer (some ⟨d, 0, none⟩), .int .u64 0, .slice none 0 0] 94)).alloc (.cells #[.pointer (some ⟨b, 0, none⟩), .pointer (some ⟨w3.heap.size, 0, none⟩)] 79) := ⟨_, rfl⟩
  rw [← hW4]
  have hs4 : W4.heap.size = w3.heap.size + 2 := by rw [hW4]; simp
  have hb34 : Below w3.heap.size w3 W4 := by rw [hW4]; exact ((Below.refl _ _).alloc (Nat.le_refl _) _).alloc (by simp) _
  have hkv : W4.heap[w3.heap.size]? = some (.cells #[.pointer (some ⟨d, 0, none⟩), .int .u64 ((0 : Nat) : Int), .slice none 0 0] 94 (0, 0)) := by
    rw [hW4, Below.heap_alloc _ _ _ (by simp)]
    exact World.alloc_heap_new w3 _
  have hkp : W4.heap[w3.heap.size + 1]? = some (.cells #[.pointer (some ⟨b, 0, none⟩), .pointer (some ⟨w3.heap.size, 0, none⟩)] 79 (0, 0)) := by
    rw [hW4]
    have := World.alloc_heap_new (w3.alloc (.cells #[.pointer (some ⟨d, 0, none⟩), .int .u64 0, .slice none 0 0] 94)) (.cells #[.pointer (some ⟨b, 0, none⟩), .pointer (some ⟨w3.heap.size, 0, none⟩)] 79)
    simpa using this
  have htwo := two_new HV2.out HB3.out HR3.out HO3.out hb34 (Nat.le_refl _) hkv
  have hbel : Below w.heap.size w W4 := (HB2.out.trans (HB3.out.mono (by omega))).trans (hb34.mono (by omega))
  have hkn : W4.heap[w.heap.size]? = some (.cells #[.int .i64 t.kd, .string (bs t.nm), .string (bs t.tx), .slice oa t.ats.length ja, .slice ok t.ks.length jk] 25 (0, 0)) :=
    (hb34.block _ (by omega)).trans ((HB3.out.block _ (by omega)).trans ((HX2.out.block _ (by omega)).trans ((HX1.out.block _ (by omega)).trans HK0.out)))
  obtain ⟨p, hp⟩ : ∃ p, w3.heap.size + 1 = p := ⟨_, rfl⟩
  have H4 : HalfI (fun g => g = w.heap.size ∨ g = p) w.heap.size w W4 b sb w3.heap.size d 0 newS [] newS [] (fun g => w1.heap.size ≤ g ∧ g < w2.heap.size) (fun g => W0.heap.size ≤ g ∧ g < w1.heap.size) (fun g => (w2.heap.size ≤ g ∧ g < w3.heap.size) ∨ g = w3.heap.size) (fun _ => False) :=
    ⟨htwo, fun g hg => by
      refine ⟨?_, fun hz => ?_, fun hz => ?_⟩
      · omega
      · omega
      · rcases hz with (hz | hz) | hz
        · omega
        · omega
        · exact hz, hbel⟩
  rw [hp] at hkp ⊢
  obtain ⟨q, hq⟩ : ∃ q, w3.heap.size = q := ⟨_, rfl⟩
  rw [hq] at H4 hkp ⊢
  have hpB : w.heap.size ≤ p := by omega
  have HND := Lib.hid fun (W : World) (hb : Below w.heap.size w W) => (HN.out.move (F' := F) fun g hg hf => ⟨hf, hb.block g (HF.out g hf)⟩ : NdOn W F t _ _)
  have hdr : Below W4.heap.size W4 W4.drew := (Below.refl _ _).drew
  have hpv := half_plantV (H4.below hdr) t (.slice oa t.ats.length ja) (.slice ok t.ks.length jk) 1 hc (HND.out _ (H4.below hdr).bel) (fun g hg => ⟨by have := HF.out g hg; show g < W4.heap.size; omega, (H4.below hdr).zlow (HF.out g hg)⟩) (by show 1 + totP t ≤ 10000000; omega) (by show 0 + totP t ≤ 10000000; omega)
  have hknd : W4.drew.heap[w.heap.size]? = _ := hkn
  have hkpd : W4.drew.heap[p]? = _ := hkp
  have n0 : W4.drew.cell? ⟨w.heap.size, 0, none⟩ = some (.int .i64 t.kd) := by simp [World.cell?, hknd]
  have n1 : W4.drew.cell? ⟨w.heap.size, 1, none⟩ = some (.string (bs t.nm)) := by simp [World.cell?, hknd]
  have n2 : W4.drew.cell? ⟨w.heap.size, 2, none⟩ = some (.string (bs t.tx)) := by simp [World.cell?, hknd]
  have n3 : W4.drew.cell? ⟨w.heap.size, 3, none⟩ = some (.slice oa t.ats.length ja) := by simp [World.cell?, hknd]
  have n4 : W4.drew.cell? ⟨w.heap.size, 4, none⟩ = some (.slice ok t.ks.length jk) := by simp [World.cell?, hknd]
  have c0 : W4.drew.cell? ⟨p, 0, none⟩ = some (.pointer (some ⟨b, 0, none⟩)) := by simp [World.cell?, hkpd]
  obtain ⟨I, hI⟩ : ∃ I, (plantT t 1 1 []).1 = I := ⟨_, rfl⟩
  have e1 : newS.given = 1 := rfl
  rw [e1, hI] at hpv
  unfold ndV at hpv
  have HPV := Lib.hid hpv
  have HII := Lib.hid hI
  have HKN := Lib.hid hkn
  have HKP := Lib.hid hkp
  clear hpv hI hkn hkp hknd hkpd H4 htwo hbel hkv hb34 HV2 HR3 HO3 HB2 HB3 HX1 HX2 HB1 HN1 hW4 hdr e1 HB0 HK0 hs0 hs1 hs2 hs3 hs4 hq hp
  go_still_tail 5, (by kernel_rfl)
  change wpList _ _ _ _ _ W4.drew
  go_wp2_with (first
    | (go_at_call 21
       refine HPV.out.mono ?_
       rintro e w5 ⟨rfl, ⟨Z5, h5⟩, b5, k5⟩
       have HKN5 := Lib.hid ((k5 _ (.inl rfl)).trans HKN.out)
       have HKP5 := Lib.hid ((k5 _ (.inr rfl)).trans HKP.out)
       have H5 := Lib.hid h5
       clear k5 h5 n0 n1 n2 n3 n4 c0))
  have hdr5 : Below w5.heap.size w5 w5.drew := (Below.refl _ _).drew
  have hpw := half_plantW (H5.out.below hdr5) t (.slice oa t.ats.length ja) (.slice ok t.ks.length jk) 1 hc (HND.out _ (H5.out.below hdr5).bel) (fun g hg => ⟨by have := HF.out g hg; have := (H5.out.below hdr5).bel.size; omega, .inl (HF.out g hg)⟩) (by show 1 + totP t ≤ 10000000; omega) (by show 0 + totP t ≤ 10000000; omega)
  have hknd : w5.drew.heap[w.heap.size]? = _ := HKN5.out
  have hkpd : w5.drew.heap[p]? = _ := HKP5.out
  have n0 : w5.drew.cell? ⟨w.heap.size, 0, none⟩ = some (.int .i64 t.kd) := by simp [World.cell?, hknd]
  have n1 : w5.drew.cell? ⟨w.heap.size, 1, none⟩ = some (.string (bs t.nm)) := by simp [World.cell?, hknd]
  have n2 : w5.drew.cell? ⟨w.heap.size, 2, none⟩ = some (.string (bs t.tx)) := by simp [World.cell?, hknd]
  have n3 : w5.drew.cell? ⟨w.heap.size, 3, none⟩ = some (.slice oa t.ats.length ja) := by simp [World.cell?, hknd]
  have n4 : w5.drew.cell? ⟨w.heap.size, 4, none⟩ = some (.slice ok t.ks.length jk) := by simp [World.cell?, hknd]
  have c1 : w5.drew.cell? ⟨p, 1, none⟩ = some (.pointer (some ⟨q, 0, none⟩)) := by simp [World.cell?, hkpd]
  have e1 : newS.given = 1 := rfl
  rw [e1] at hpw
  unfold ndV at hpw
  have HPW := Lib.hid hpw
  clear hpw hknd hkpd hdr5 e1
  go_still_tail 5, (by kernel_rfl)
  change wpList _ _ _ _ _ w5.drew
  go_upto_if 30 with (first
    | (go_at_call 43
       refine HPW.out.mono ?_
       rintro e w6 ⟨rfl, ⟨Y6, h6⟩, b6, k6⟩
       have HKP6 := Lib.hid ((k6 _ (.inr rfl)).trans HKP5.out)
       have hpl := (h6.np p (.inr rfl)).1
       have H6 := Lib.hid h6
       clear k6 h6 n0 n1 n2 n3 n4 c1 b6))
  obtain ⟨W7, hW7⟩ : ∃ W7, W7 = w6.alloc (.cells #[.int .i64 1, .string ⟨#[]⟩, .string ⟨#[]⟩, .int .i64 0, .slice none 0 0, .slice none 0 0, .bool false] 34) := ⟨_, rfl⟩
  rw [← hW7]
  have hb7 : Below w6.heap.size w6 W7 := by rw [hW7]; exact (Below.refl _ _).alloc (Nat.le_refl _) _
  have hs7 : W7.heap.size = w6.heap.size + 1 := by rw [hW7]; simp
  have hk7 : W7.heap[w6.heap.size]? = some (.cells #[.int .i64 1, .string ⟨#[]⟩, .string ⟨#[]⟩, .int .i64 0, .slice none 0 0, .slice none 0 0, .bool false] 34 (0, 0)) := by rw [hW7]; exact World.alloc_heap_new w6 _
  have f4 : W7.frozen? ⟨w6.heap.size, 4, none⟩ = false := by simp [World.frozen?, hk7]
  have x4 : W7.cell? ⟨w6.heap.size, 4, none⟩ = some (.slice none 0 0) := by simp [World.cell?, hk7]
  obtain ⟨X, hX⟩ : ∃ X, w6.heap.size = X := ⟨_, rfl⟩
  rw [hX] at hb7 hs7 hk7 f4 x4 ⊢
  have hXp : p < X := by omega
  have HB7 := Lib.hid hb7
  have HK7 := Lib.hid hk7
  have HX := Lib.hid hX
  clear hb7 hk7 hW7 hX HPV HKN5 HKP5 H5 HPW HKN HKP hpl
  obtain ⟨D, hD⟩ : ∃ D, decide (0 < I) = D := ⟨_, rfl⟩
  rw [hD]
  have HD := Lib.hid hD
  clear hD
  go_cut [] (fun wx => ∃ o2 j2 Q Zx Yx, Hid (wx.heap[X]? = some (rcB (rootO t, .slice o2 (rootO t).ks.length j2, .slice none 0 0)) ∧ HalfI Q w.heap.size w wx b sb q d 0 (stoA t) (plantT t 1 1 []).2.2 (stoA t) (plantT t 1 1 []).2.2 Zx (fun g => W0.heap.size ≤ g ∧ g < w1.heap.size) Yx (fun _ => False) ∧ Q p ∧ Q X ∧
    IntsOn wx (fun g => o2 = some ⟨g, 0, none⟩) (.slice o2 (rootO t).ks.length j2) (rootO t).ks ∧ (∀ g, o2 = some ⟨g, 0, none⟩ → Q g ∧ g ≠ p ∧ w.heap.size ≤ g) ∧ wx.heap[p]? = some (.cells #[.pointer (some ⟨b, 0, none⟩), .pointer (some ⟨q, 0, none⟩)] 79 (0, 0))))
  case first =>
    cases D with
    | false =>
      go_wp2_with fail
      go_meet
      have h0 : (plantT t 1 1 []).1 = 0 := by have := (plantT_spec t 1 1 []).2.2.1; have h2 := of_decide_eq_false HD.out; rw [HII.out] at this ⊢; omega
      have hr : rootO t = ⟨1, [], [], 0, [], [], false⟩ := by unfold rootO; rw [if_pos h0]
      obtain hb7 := HB7.out
      rw [← HX.out] at hb7
      refine ⟨none, 0, _, _, _, Lib.hid ⟨by rw [hr]; exact HK7.out, H6.out.more hb7, .inl (.inr rfl), .inr ⟨by rw [HX.out]; exact Nat.le_refl _, by omega⟩, by rw [hr]; exact IntsOn.nil _ _ _ _, fun g hg => (by cases hg), (hb7.block p (by rw [HX.out]; exact hXp)).trans HKP6.out⟩⟩
    | true =>
      go_wp2_with fail
      go_meet
      have h0 : (plantT t 1 1 []).1 ≠ 0 := by have h2 := of_decide_eq_true HD.out; rw [HII.out]; omega
      have hr : rootO t = ⟨1, [], [], 0, [I], [], false⟩ := by unfold rootO; rw [if_neg h0, HII.out]
      have hb7 := HB7.out
      rw [← HX.out] at hb7
      have hxx : w6.heap.size ≤ X := by rw [HX.out]; exact Nat.le_refl _
      have hs8 : (W7.setCell ⟨X, 4, none⟩ (.slice (some ⟨X + 1, 0, none⟩) 1 1)).heap.size = X + 1 := by rw [World.size_setCell]; exact hs7
      have hb8 : Below w6.heap.size w6 ((W7.setCell ⟨X, 4, none⟩ (.slice (some ⟨X + 1, 0, none⟩) 1 1)).alloc (.cells #[.int .i64 I] 3)) := (hb7.setCell (p := ⟨X, 4, none⟩) hxx _).alloc (by rw [hs8]; omega) _
      have hkx : ((W7.setCell ⟨X, 4, none⟩ (.slice (some ⟨X + 1, 0, none⟩) 1 1)).alloc (.cells #[.int .i64 I] 3)).heap[X]? = some (rcB (⟨1, [], [], 0, [I], [], false⟩, .slice (some ⟨X + 1, 0, none⟩) 1 1, .slice none 0 0)) := by
        rw [Below.heap_alloc _ _ _ (by rw [hs8]; omega)]
        have := heap_set_at (i := 4) (u := .slice (some ⟨X + 1, 0, none⟩) 1 1) HK7.out
        exact this
      have hky : ((W7.setCell ⟨X, 4, none⟩ (.slice (some ⟨X + 1, 0, none⟩) 1 1)).alloc (.cells #[.int .i64 I] 3)).heap[X + 1]? = some (.cells #[.int .i64 I] 3 (0, 0)) := by
        have := World.alloc_heap_new (W7.setCell ⟨X, 4, none⟩ (.slice (some ⟨X + 1, 0, none⟩) 1 1)) (.cells #[.int .i64 I] 3)
        rw [hs8] at this
        exact this
      have hsz : ((W7.setCell ⟨X, 4, none⟩ (.slice (some ⟨X + 1, 0, none⟩) 1 1)).alloc (.cells #[.int .i64 I] 3)).heap.size = X + 2 := by rw [World.size_alloc, hs8]
      refine ⟨some ⟨X + 1, 0, none⟩, 1, _, _, _, Lib.hid ⟨by rw [hr]; exact hkx, H6.out.more hb8, .inl (.inr rfl), .inr ⟨hxx, by rw [hsz]; omega⟩, ?_, fun g hg => ?_, (hb8.block p (by rw [HX.out]; exact hXp)).trans HKP6.out⟩⟩
      · rw [hr]
        refine ⟨_, _, _, rfl, rfl, .inr ⟨X + 1, 0, rfl, rfl, fun k hk => ?_⟩⟩
        obtain rfl : k = 0 := by simp at hk; exact hk
        simp [World.cell?, hky]
      · obtain rfl : X + 1 = g := by cases hg; rfl
        exact ⟨.inr ⟨by rw [HX.out]; omega, by rw [hsz]; omega⟩, by omega, by omega⟩
  case rest =>
    obtain ⟨o2, j2, Q, Zx, Yx, HQ⟩ := hcut
    have hol := ownA_len t
    have hro := putO_root t
    have hrs := rootO_sm t
    have hpl := (plantT_spec t 1 1 []).2.1
    simp only [List.length_nil] at hpl
    obtain ⟨own1, hown1⟩ : ∃ own1, (plantT t 1 1 []).2.2 = own1 := ⟨_, rfl⟩
    obtain ⟨RO, hRO⟩ : ∃ RO, rootO t = RO := ⟨_, rfl⟩
    rw [hown1, hRO] at HQ
    rw [hown1, hRO] at hro
    rw [hRO] at hrs
    rw [hown1] at hpl
    clear HK7 HB7 H6 HKP6 f4 x4 hs7 HX HD HII HND HN hXp
    obtain ⟨hkx, hh, hqp, hqx, hon, hog, hkp⟩ := HQ.out
    have hdr : Below wc.heap.size wc wc.drew := (Below.refl _ _).drew
    obtain ⟨⟨y0, y1, y2, y3, y4, y5, y6⟩, _⟩ := rc_blk (show wc.drew.heap[X]? = _ from hkx)
    dsimp only at y0 y1 y2 y3 y4 y5 y6
    have hkpd : wc.drew.heap[p]? = _ := hkp
    have c0 : wc.drew.cell? ⟨p, 0, none⟩ = some (.pointer (some ⟨b, 0, none⟩)) := by simp [World.cell?, hkpd]
    have hat : RO.ats = [] := by rw [← hRO]; rfl
    have hnl : ∀ (W : World) (F : Nat → Prop), IntsOn W F (.slice none 0 0) RO.ats := fun W F => by rw [hat]; exact IntsOn.nil _ _ _ _
    have hpv := half_putV (hh.below hdr) (by omega) 1 (by decide) (RO, .slice o2 RO.ks.length j2, .slice none 0 0) ⟨hon.move fun g _ hF => ⟨hF, rfl⟩, hnl _ _⟩ hrs
    unfold rcV at hpv
    dsimp only at hpv
    have HPV := Lib.hid hpv
    have HKX := Lib.hid hkx
    have HKP := Lib.hid hkp
    have HON := Lib.hid hon
    have HOG := Lib.hid hog
    have HNL := Lib.hid hnl
    have HRO := Lib.hid hro
    have HRS := Lib.hid hrs
    have HQP := Lib.hid hqp
    have HQX := Lib.hid hqx
    have HOW := Lib.hid hown1
    have HNQ := Lib.hid hh.np
    clear hpv hkx hkp hon hog hnl hro hrs hqp hqx hh HQ hkpd hdr hRO hown1 hat
    go_wp2_with fail
    go_still_tail 5, (by kernel_rfl)
    change wpList _ _ _ _ _ wc.drew
    go_wp2_with (first
      | (go_at_call 23
         refine HPV.out.mono ?_
         rintro e w9 ⟨rfl, ⟨Z9, h9⟩, b9, k9⟩
         have HK9 := Lib.hid k9
         have H9 := Lib.hid h9
         clear k9 h9 b9 c0 y0 y1 y2 y3 y4 y5 y6))
    have hkx9 : w9.heap[X]? = some (rcB (RO, .slice o2 RO.ks.length j2, .slice none 0 0)) := (HK9.out X HQX.out).trans HKX.out
    have hkp9 : w9.heap[p]? = some (.cells #[.pointer (some ⟨b, 0, none⟩), .pointer (some ⟨q, 0, none⟩)] 79 (0, 0)) := (HK9.out p HQP.out).trans HKP.out
    have hdr9 : Below w9.heap.size w9 w9.drew := (Below.refl _ _).drew
    obtain ⟨⟨y0, y1, y2, y3, y4, y5, y6⟩, _⟩ := rc_blk (show w9.drew.heap[X]? = _ from hkx9)
    dsimp only at y0 y1 y2 y3 y4 y5 y6
    have hkpd : w9.drew.heap[p]? = _ := hkp9
    have c1 : w9.drew.cell? ⟨p, 1, none⟩ = some (.pointer (some ⟨q, 0, none⟩)) := by simp [World.cell?, hkpd]
    have hon9 : IntsOn w9.drew (fun g => o2 = some ⟨g, 0, none⟩) (.slice o2 RO.ks.length j2) RO.ks := HON.out.move fun g hg hF => ⟨hF, (HK9.out g (HOG.out g hF).1 : w9.heap[g]? = wc.heap[g]?)⟩
    have hpw := half_putW (H9.out.below hdr9) (by omega) 1 (RO, .slice o2 RO.ks.length j2, .slice none 0 0) ⟨hon9, HNL.out _ _⟩ (fun g hg => by
      obtain ⟨q1, q2, q3⟩ := (H9.out.below hdr9).np g (HOG.out g hg).1
      exact ⟨q2, .inl fun hy => q3 (.inl hy), q1⟩) HRS.out
    rw [HRO.out] at hpw
    have h9 := H9.out
    unfold rcV at hpw
    dsimp only at hpw
    have HPW := Lib.hid hpw
    have HKP9 := Lib.hid hkp9
    clear hpw hon9 hkpd hkp9 hkx9 hdr9 HPV h9
    go_still_tail 5, (by kernel_rfl)
    change wpList _ _ _ _ _ w9.drew
    go_wp2_with (first
      | (go_at_call 44
         refine HPW.out.mono ?_
         rintro e w10 ⟨rfl, ⟨Y10, h10⟩, b10, k10⟩
         have HKP10 := Lib.hid ((k10 p HQP.out).trans HKP9.out)
         have hpq := fun hg => (HOG.out p hg).2.1 rfl
         have H10 := Lib.hid (h10.less (P' := fun g => g = p) fun g hg => by rw [hg]; exact ⟨HQP.out, hpq⟩)
         clear k10 h10 b10 c1 hpq y0 y1 y2 y3 y4 y5 y6))
    clear HPW HKX HKP HON HOG HNL HRO HRS HQP HQX HOW HNQ HK9 H9 HKP9
    go_loopw [8] (fun v wr => ∃ (k : Nat) (Zk Yk : Nat → Prop), v = .int .i64 (k : Int) ∧ k ≤ cs.length ∧ k ≤ 12 ∧ Hid (HalfI (fun g => g = p) w.heap.size w wr b sb q d 0 (stoA t) (putsO (ownA t) ((cs.take k).map toCh)) (stoA t) (putsO (ownA t) ((cs.take k).map toCh)) Zk (fun g => W0.heap.size ≤ g ∧ g < w1.heap.size) Yk (fun _ => False) ∧ wr.heap[p]? = some (.cells #[.pointer (some ⟨b, 0, none⟩), .pointer (some ⟨q, 0, none⟩)] 79 (0, 0)))) (fun v _ => 12 - (RowKit.intOf v).toNat)
    case atStart => exact ⟨0, _, _, rfl, Nat.zero_le _, Nat.zero_le _, Lib.hid ⟨by rw [List.take_zero]; exact H10.out, HKP10.out⟩⟩
    case round =>
      obtain ⟨k, Zk, Yk, rfl, hk, hk12, HK⟩ := hrel
      have hlen := putsO_len (ownA t) ((cs.take k).map toCh)
      rw [List.length_map, List.length_take] at hlen
      by_cases hin : k < cs.length ∧ k < 12
      · obtain ⟨hlt, hl12⟩ := hin
        obtain ⟨hh, hkp⟩ := HK.out
        obtain ⟨g, off, rfl, hgG, hat, hrc⟩ := (HCS.out.move (F' := G) (w' := wr) fun g hg hF => ⟨hF, hh.bel.block g (HG.out g hF)⟩).reads k hlt
        obtain ⟨hs1, hs2⟩ := HSM.out cs[k] (List.getElem_mem hlt)
        have htk : (cs.take (k + 1)).map toCh = (cs.take k).map toCh ++ [toCh cs[k]] := by rw [List.take_succ_eq_append_getElem hlt, List.map_append]; rfl
        have hps := putsO_snoc (ownA t) ((cs.take k).map toCh) (toCh cs[k])
        rw [← htk] at hps
        obtain ⟨y, hy⟩ : ∃ y, cs[k] = y := ⟨_, rfl⟩
        rw [hy] at hat hrc hs1 hs2 hps
        obtain ⟨yi, yr, yv1, yv2⟩ := y
        obtain ⟨ok', jk', oa', ja', e1, e2⟩ := hrc.form
        dsimp only at e1 e2 hs1 hs2 hrc
        subst e1 e2
        replace hps : putsO (ownA t) ((cs.take (k + 1)).map toCh) = putO (putsO (ownA t) ((cs.take k).map toCh)) yi yr := hps
        have hdr : Below wr.heap.size wr wr.drew := (Below.refl _ _).drew
        have hkpd : wr.drew.heap[p]? = _ := hkp
        have d0 : wr.drew.cell? ⟨p, 0, none⟩ = some (.pointer (some ⟨b, 0, none⟩)) := by simp [World.cell?, hkpd]
        have hatd : ChAt wr.drew g (off + k * 8) (yi, yr, .slice ok' yr.ks.length jk', .slice oa' yr.ats.length ja') := hat
        obtain ⟨a0, a1, a2, a3, a4, a5, a6, a7⟩ := hatd.cells
        dsimp only at a0 a1 a2 a3 a4 a5 a6 a7
        have hpv := half_putV (hh.below hdr) (by omega) yi hs2 (yr, .slice ok' yr.ks.length jk', .slice oa' yr.ats.length ja') (F := G) (hrc.move fun g _ hF => ⟨hF, rfl⟩) hs1
        unfold rcV at hpv
        dsimp only at hpv
        have HPV := Lib.hid hpv
        have HPS := Lib.hid hps
        have HRC := Lib.hid hrc
        have HAT := Lib.hid hat
        have HS1 := Lib.hid hs1
        have HGB := Lib.hid (hh.bel.size)
        have HBEL := Lib.hid hh.bel
        have HKP := Lib.hid hkp
        have HLT := Lib.hid hlt
        have HL12 := Lib.hid hl12
        have hz0 : (0 : Int) ≤ (k : Int) := by omega
        have hz1 : (k : Int) < (cs.length : Int) := by omega
        have k1 : decide ((k : Int) < (cs.length : Int)) = true := decide_eq_true hz1
        have k2 : decide ((k : Int) < 12) = true := decide_eq_true (by omega)
        clear hpv hps hrc hat hatd hh hkp hkpd htk hy hs1 hs2 hdr HK hlt hl12
        go_wp2_with fail
        go_still_tail 14, (by kernel_rfl)
        change wpList _ _ _ _ _ wr.drew
        go_wp2_with (first
          | (go_at_call 23
             refine HPV.out.mono ?_
             rintro e w9 ⟨rfl, ⟨Z9, h9⟩, b9, k9⟩
             have HKP9 := Lib.hid ((k9 p rfl).trans HKP.out)
             have H9 := Lib.hid h9
             have HB9 := Lib.hid b9
             clear k9 h9 b9 d0 a0 a1 a2 a3 a4 a5 a6 a7))
        have hdr9 : Below w9.heap.size w9 w9.drew := (Below.refl _ _).drew
        have hkpd : w9.drew.heap[p]? = _ := HKP9.out
        have d1 : w9.drew.cell? ⟨p, 1, none⟩ = some (.pointer (some ⟨q, 0, none⟩)) := by simp [World.cell?, hkpd]
        have hgl := HG.out g hgG
        have hatd : ChAt w9.drew g (off + k * 8) (yi, yr, .slice ok' yr.ks.length jk', .slice oa' yr.ats.length ja') := HAT.out.move (HB9.out.block g hgl)
        obtain ⟨a0, a1, a2, a3, a4, a5, a6, a7⟩ := hatd.cells
        dsimp only at a0 a1 a2 a3 a4 a5 a6 a7
        have hpw := half_putW (H9.out.below hdr9) (by omega) yi (yr, .slice ok' yr.ks.length jk', .slice oa' yr.ats.length ja') (G := G) (HRC.out.move fun g hg hF => ⟨hF, HB9.out.block g (HG.out g hF)⟩) (fun g hg => ⟨(H9.out.below hdr9).zlow (HG.out g hg), .inr (HG.out g hg), Nat.lt_of_lt_of_le (HG.out g hg) (H9.out.below hdr9).bel.size⟩) HS1.out
        rw [← HPS.out] at hpw
        unfold rcV at hpw
        dsimp only at hpw
        have HPW := Lib.hid hpw
        clear hpw hatd hkpd hdr9 HPV hgl
        go_still_tail 14, (by kernel_rfl)
        change wpList _ _ _ _ _ w9.drew
        go_wp2_with (first
          | (go_at_call 44
             refine HPW.out.mono ?_
             rintro e w10 ⟨rfl, ⟨Y10, h10⟩, b10, k10⟩
             have HKP10 := Lib.hid ((k10 p rfl).trans HKP9.out)
             have H10 := Lib.hid (h10.less (P' := fun g => g = p) fun g hg => by rw [hg]; exact ⟨rfl, fun q => by have := HG.out p q; omega⟩)
             clear k10 h10 b10 d1 a0 a1 a2 a3 a4 a5 a6 a7))
        exact ⟨⟨k + 1, Z9, Y10, by go_num, by have := HLT.out; omega, by have := HL12.out; omega, Lib.hid ⟨H10.out, HKP10.out⟩⟩, by have := HL12.out; simp [RowKit.intOf]; omega⟩
      · have hend : (cs.take 12) = cs.take k := by
          by_cases h12 : k < 12
          · rw [List.take_of_length_le (by omega), List.take_of_length_le (by omega)]
          · have : k = 12 := by omega
            rw [this]
        have HFIN : Hid (MadeP 79 w (stoA t) (putsO (ownA t) ((cs.take 12).map toCh)) (.returned (.pointer (some ⟨p, 0, none⟩))) wr) := Lib.hid (by
          rw [hend]
          exact ⟨p, b, sb, q, d, _, _, _, _, rfl, HK.out.1.full HK.out.2 hpB⟩)
        clear hend hlen HK
        by_cases hlt : k < cs.length
        · have k1 : decide (k < cs.length) = true := decide_eq_true hlt
          have k2 : decide ((k : Int) < 12) = false := decide_eq_false (by omega)
          clear hin hlt
          go_wp2_with fail
          all_goals (go_ret; exact HFIN.out)
        · have k1 : decide (k < cs.length) = false := decide_eq_false hlt
          clear hin hlt
          go_wp2_with fail
          all_goals (go_ret; exact HFIN.out)
end Go.Proofs.Ytkackejipgabfaa.Char

/- The library's maps.Keys at a view's own. -/
namespace Go.Proofs.Ytkackejipgabfaa.Char
open Go.Shelf Go.RowKit
def keysV_ren : Go.Shelf.Ren := ⟨fun | 7 => 51 | 10 => 85 | n => n, fun | 23 => 61 | 26 => 3 | 3 => 34 | 28 => 115 | 0 => 0 | 27 => 114 | 33 => 83 | 4 => 4 | n => n, fun | n => n⟩
theorem keysV : Go.Proofs.SlLaysZI.n7 Try.prog keysV_ren := {
  mixed := by kernel_rfl
  f7 := ⟨Try.f51.name, by decide, Try.func51.trans (congrArg some (by kernel_rfl))⟩
  f10 := ⟨Try.f85.name, by decide, Try.func85.trans (congrArg some (by kernel_rfl))⟩
  t0 := Try.underlying0
  a0 := Try.isAgg0
  z0 := Try.sizeOf0
  v0 := Try.zeroValue0
  t4 := Try.underlying4
  a4 := Try.isAgg4
  z4 := Try.sizeOf4
  v4 := Try.zeroValue4
  t23 := Try.underlying61
  a23 := Try.isAgg61
  z23 := Try.sizeOf61
  v23 := Try.zeroValue61
  t26 := Try.underlying3
  a26 := Try.isAgg3
  z26 := Try.sizeOf3
  v26 := Try.zeroValue3
  t27 := Try.underlying114
  a27 := Try.isAgg114
  z27 := Try.sizeOf114
  v27 := Try.zeroValue114
  t28 := Try.underlying115
  a28 := Try.isAgg115
  z28 := Try.sizeOf115
  v28 := Try.zeroValue115
  t33 := Try.underlying83
  a33 := Try.isAgg83
  z33 := Try.sizeOf83
  v33 := Try.zeroValue83 }
end Go.Proofs.Ytkackejipgabfaa.Char

/- The numbers of a view's own, in order. -/
namespace Go.Proofs.Ytkackejipgabfaa.Char
open Go.RowKit Go.Lib Go.Sort Go.Maps

section
variable {Z : Nat → Prop} {B : Nat} {w : World} {b sb mb t : Nat} {D : DataW Value} {own : Own}
theorem PV.keys (h : PV Z B w b sb mb t D own) {ss : List Int} (hp : ss.Perm (intKeys D)) : ss.mergeSort leI = own.map (·.1) := by
  have hup : (own.map (·.1)).Pairwise fun a b => a < b := List.pairwise_map.2 h.up
  obtain ⟨es, hD, hpw, _⟩ := h.mown.entries law_int
  obtain ⟨es', hD', hko⟩ := h.mown.keysOf
  obtain rfl : es = es' := by rw [hD] at hD'; simpa using hD'
  have h1 : (own.map (·.1)).Perm (intKeys D) := by
    subst hD
    refine perm_intKeys hpw (fun p hp => by obtain ⟨v, hv⟩ := hko p hp; obtain ⟨x, _, hx, _⟩ := Maps.keyOf_i64 Try.underlying3 hv; exact ⟨x, hx⟩) (hup.imp fun h => Int.ne_of_lt h) fun x => ?_
    rw [show (Lit.int .i64 x) = kI x from rfl, h.has x]
    constructor
    · intro hx
      obtain ⟨c, hc, rfl⟩ := List.mem_map.1 hx
      rw [(ownAt_mem h.up (id := c.1) (r := c.2)).2 hc]
      rfl
    · intro hx
      obtain ⟨r, hr⟩ := Option.isSome_iff_exists.1 hx
      exact List.mem_map.2 ⟨(x, r), (ownAt_mem h.up).1 hr, rfl⟩
  rw [mergeSort_of_perm_i (hp.trans h1.symm)]
  exact List.mergeSort_of_pairwise (hup.imp fun h => decide_eq_true (Int.le_of_lt h))
theorem keysV_any (mb : Option Nat) (W : World) : Calls Try.prog 51 #[.map mb] W fun e w' => e = .returned (.func (.func 85) #[] #[.pointer (some ⟨W.heap.size, 0, none⟩)]) ∧ w' = W.alloc (.cells #[.map mb] 61) :=
  (callsIn_wide (n := 20)).1 (AnyZI.keys_in keysV Fence.wide 20 trivial rfl mb W)
theorem sortedV_any (h : PV Z B w b sb mb t D own) (hl : own.length ≤ 10000000) :
    Calls Try.prog 50 #[.func (.func 85) #[] #[.pointer (some ⟨w.heap.size, 0, none⟩)]] (w.alloc (.cells #[.map (some mb)] 61)) fun e w' =>
      ∃ o j, e = .returned (.slice o own.length j) ∧ IntsOn w' (fun g => w.heap.size ≤ g) (.slice o own.length j) (own.map (·.1)) ∧ Below w.heap.size w w' := by
  have hbl : mb < w.heap.size := (h.zB mb h.zm).2
  have hsz := h.siz
  have hseq : SeqGives Fence.wide (20 - 1 - 1 - 1) Try.prog 85 #[.pointer (some ⟨w.heap.size, 0, none⟩)] encZ (fun ss => ss.Perm (intKeys D)) (Maps.size D) (w.alloc (.cells #[.map (some mb)] 61)) :=
    AnyZI.keys_gives (ρ := keysV_ren) { keysV with } Fence.wide _ trivial rfl (by omega) w.heap.size mb own.length D _ (by simp) (by simp) (by
      obtain ⟨es, clock, hb, Ft, hs, hD⟩ := h.mown
      exact ⟨es, clock, (Below.heap_alloc _ _ mb hbl).trans hb, Ft, hs, hD⟩)
  have cS := AnyZI.sorted_in sortedA Fence.wide 20 trivial trivial trivial trivial rfl (by omega) (sortsA9 _) (enters_of Try.func84 (by kernel_rfl) rfl) 85 #[.pointer (some ⟨w.heap.size, 0, none⟩)] trivial (enters_of Try.func85 (by kernel_rfl) rfl) _ _ (by unfold maxLen; omega) (by omega) _ hseq
  change CallsIn _ _ Try.prog 50 _ _ _ at cS
  refine ((callsIn_wide (n := 20)).1 cS).mono ?_
  rintro e w1 ⟨v, ss, rfl, hS, hrow, hnil, hb⟩
  obtain ⟨o, j, rfl, hon⟩ := row_ints hrow
  have hks := h.keys hS
  have hlen : ss.length = own.length := by
    have := congrArg List.length hks
    rwa [List.length_mergeSort, List.length_map] at this
  have hon' : IntsOn w1 (fun g => (w.alloc (.cells #[.map (some mb)] 61)).heap.size ≤ g) (.slice o ss.length j) (ss.mergeSort leI) := hon
  rw [hks, hlen] at hon'
  exact ⟨o, j, by rw [hlen], hon'.move fun g _ hF => ⟨by simp at hF; omega, rfl⟩, ((Below.refl _ w).alloc (Nat.le_refl _) _).trans (hb.mono (by simp))⟩
end
end Go.Proofs.Ytkackejipgabfaa.Char

/- The walk of a view's Changes. -/
namespace Go.Proofs.Ytkackejipgabfaa.Char
open Go.RowKit Go.Lib

/-- what Changes hands back: a copy of what is the view's own -/
def ChgP (w : World) (own : Own) : Ending → World → Prop := fun e w' => ∃ v cs, e = .returned v ∧ cs.map toCh = own ∧ OwnsCh w.heap.size w' v cs ∧ (∀ x, x ∈ cs → RcOn w' (fun g => w.heap.size ≤ g ∧ v.ownBlock ≠ some g) x.2) ∧ Below w.heap.size w w'
section
variable {Z : Nat → Prop} {B : Nat} {w : World} {b sb mb t : Nat} {D : DataW Value} {own : Own}
set_option maxRecDepth 100000 in
set_option maxHeartbeats 2000000 in
theorem changes_any (h : PV Z B w b sb mb t D own) (hl : own.length ≤ 10000000) :
    Calls Try.prog 22 #[.pointer (some ⟨b, 0, none⟩)] w (ChgP w own) := by
  obtain ⟨c0, c1, c2, c3, _⟩ := h.cells
  have HM := Lib.hid (vmade_yes b w c0)
  have HKY := Lib.hid (keysV_any (some mb) w)
  have HSR := Lib.hid (sortedV_any h hl)
  have H := Lib.hid h
  clear h c0 c1 c2
  go_enter Try.func22, Try.ntmps22
  go_wp2_with (first
    | (go_at_call 48; refine HM.out.mono ?_; rintro e w' ⟨rfl, hw⟩; have hw := hw.symm; subst hw)
    | (go_at_call 51; refine HKY.out.mono ?_; rintro e w' ⟨rfl, rfl⟩)
    | (go_at_call 50; refine HSR.out.mono ?_; rintro e w1 ⟨o, j, rfl, hon, hb1⟩))
  have HON := Lib.hid hon
  have HB1 := Lib.hid hb1
  have hsw := hb1.size
  clear hon hb1 c3
  go_loopw [3, 16] (fun v3 v16 wr => ∃ (k : Nat) (cs : List ChV), v16 = .int .i64 (k : Int) ∧ k ≤ own.length ∧ (∃ p q r, v3 = .slice p q r) ∧ Hid (cs.map toCh = own.take k ∧ OwnsCh w1.heap.size wr v3 cs ∧ (∀ x, x ∈ cs → RcOn wr (fun g => w1.heap.size ≤ g ∧ v3.ownBlock ≠ some g) x.2) ∧ Below w1.heap.size w1 wr)) (fun _ v _ => own.length - (RowKit.intOf v).toNat)
  case atStart => exact ⟨0, [], rfl, Nat.zero_le _, ⟨_, _, _, rfl⟩, Lib.hid ⟨rfl, OwnsCh.nil _ _, fun x hx => (by cases hx), Below.refl _ _⟩⟩
  case round =>
    obtain ⟨k, cs, rfl, hk, ⟨p, q, s, rfl⟩, HQ⟩ := hrel
    have hwr := HQ.out.2.2.2.size
    by_cases hlt : k < own.length
    · have hbr : Below w.heap.size w wr := HB1.out.trans (HQ.out.2.2.2.mono hsw)
      have hpv := H.out.below hbr
      have c3 := hpv.cells.2.2.2.1
      obtain ⟨o1, i1, j1, e1, e2, e3⟩ := HON.out.move (F' := fun _ => True) (w' := wr) (fun g hg _ => ⟨trivial, HQ.out.2.2.2.block g hg⟩)
      simp only [Value.slice.injEq] at e1
      obtain ⟨rfl, rfl, rfl⟩ := e1
      rcases e3 with h0 | ⟨g, off, rfl, hgF, hc⟩
      · have := congrArg List.length h0; rw [List.length_map] at this; rw [this] at hlt; cases hlt
      have k0 := hc k (by rw [List.length_map]; exact hlt)
      rw [show (own.map (·.1)).getD k 0 = own[k].1 by simp [hlt]] at k0
      have htk := List.take_succ_eq_append_getElem hlt
      have hmem := List.getElem_mem hlt
      obtain ⟨y, hy⟩ : ∃ y, own[k] = y := ⟨_, rfl⟩
      rw [hy] at k0 htk hmem
      obtain ⟨id, r⟩ := y
      have hid := (hpv.ids _ hmem).2
      have hat := (ownAt_mem hpv.up (id := id) (r := r)).2 hmem
      obtain ⟨⟨r', va, vb⟩, _, hlk, hx1, hx2⟩ := hpv.look hid
      rw [hat] at hx1
      dsimp only [Option.getD] at hx1
      subst hx1
      obtain ⟨ok, jk, oa, ja, f1, f2⟩ := hx2.form
      dsimp only at f1 f2
      subst f1 f2
      have hcp := copiedV_any (r', .slice ok r'.ks.length jk, .slice oa r'.ats.length ja) _ wr hx2 (hpv.sm _ hmem)
      unfold rcV at hlk hcp
      dsimp only at hlk hcp
      have hcl : cs.length = k := by have := congrArg List.length HQ.out.1; rw [List.length_map, List.length_take] at this; omega
      have HCP := Lib.hid hcp
      have HTK := Lib.hid htk
      have HLT := Lib.hid hlt
      have HCL := Lib.hid hcl
      have hz0 : (0 : Int) ≤ (k : Int) := by omega
      have hz1 : (k : Int) < (own.length : Int) := by omega
      clear hc e2 htk hmem hy hat hx2 hcp hpv hbr hcl hid
      go_wp2_with (first
        | (go_at_call 52
           refine HCP.out.mono ?_
           rintro e w5 ⟨⟨r5, va5, vb5⟩, h5, rfl, q2, q3⟩
           dsimp only at h5
           subst h5
           obtain ⟨ok5, jk5, oa5, ja5, f1, f2⟩ := q2.form
           dsimp only at f1 f2
           subst f1 f2
           unfold rcV
           dsimp only
           have hs5 := q3.size
           have Q2 := Lib.hid q2
           have Q3 := Lib.hid q3
           clear q2 q3)
        | (at_builtin
           refine wpList_pushCh rfl (.tmp 20) (.tmp 30) rfl id r5 ok5 _ jk5 oa5 _ ja5 (HQ.out.2.1.keep fun g hg => Q3.out.block g (HQ.out.2.1.blk hg).2) rfl (by simp [Act.eval]) (by omega) (by have := HCL.out; omega) ?_
           intro u1 w6 p1 p2 p3 p4
           obtain ⟨o1, j1, rfl⟩ := p1.form
           rw [List.length_append, List.length_singleton] at p1
           have P1 := Lib.hid p1
           have P2 := Lib.hid p2
           have P3 := Lib.hid p3
           have P4 := Lib.hid p4
           clear p1 p2 p3 p4)
        | go_in)
      have p4 := P4.out
      rw [List.length_append, List.length_singleton] at p4
      have hbk := fun g (hg : (Value.slice p q s).ownBlock = some g) => HQ.out.2.1.blk hg
      refine ⟨⟨k + 1, cs ++ [(id, r5, .slice ok5 r5.ks.length jk5, .slice oa5 r5.ats.length ja5)], by go_num, HLT.out, ⟨_, _, _, rfl⟩, Lib.hid ⟨?_, P1.out, fun x hx => ?_, HQ.out.2.2.2.trans ((Q3.out.mono hwr).trans P2.out)⟩⟩, by have := HLT.out; simp [RowKit.intOf]; omega⟩
      · rw [List.map_append, HQ.out.1, HTK.out]; rfl
      · rcases List.mem_append.1 hx with hx | hx
        · refine (HQ.out.2.2.1 x hx).move fun g hg hF => ⟨⟨hF.1, fun e => ?_⟩, (P3.out g (by omega) (fun e => hF.2 e.symm)).trans (Q3.out.block g hg)⟩
          rcases p4 g e with q | q
          · exact hF.2 q
          · omega
        · rw [List.mem_singleton] at hx
          subst hx
          refine Q2.out.move fun g hg hF => ?_
          have hF' : wr.heap.size ≤ g := hF
          refine ⟨⟨by omega, fun e => ?_⟩, P3.out g hg (fun e => by have := hbk g e.symm; omega)⟩
          rcases p4 g e with q | q
          · have := hbk g q; omega
          · omega
    · have ek : k = own.length := by omega
      subst ek
      rw [List.take_length] at HQ
      go_wp2_with fail
      go_ret
      exact ⟨_, cs, rfl, HQ.out.1, HQ.out.2.1.weak hsw, fun x hx => (HQ.out.2.2.1 x hx).move fun g _ hF => ⟨⟨by omega, hF.2⟩, rfl⟩, HB1.out.trans (HQ.out.2.2.2.mono hsw)⟩
end
end Go.Proofs.Ytkackejipgabfaa.Char

/- What was planted may be installed; a view of it anew. -/
namespace Go.Proofs.Ytkackejipgabfaa.Char
open Go.RowKit Go.Lib

/-- what is kept may be laid: numbers given, records that are right -/
def okO (G : Nat) (own : Own) : Prop := ∀ c, c ∈ own → 1 ≤ c.1 ∧ c.1 ≤ (G : Int) ∧ rightR c.2 = true
theorem okO_lay {G G' : Nat} {own : Own} (h : okO G own) (hg : G ≤ G') {id : Int} {r : Rc} (h1 : 1 ≤ id ∧ id ≤ (G' : Int)) (hr : rightR r = true) : okO G' (layO own id r) := fun c hc => by
  rcases layO_mem hc with rfl | ⟨hc, _⟩
  · exact ⟨h1.1, h1.2, hr⟩
  · obtain ⟨q1, q2, q3⟩ := h c hc
    exact ⟨q1, by omega, q3⟩
theorem right_at3 {id : Int} (a : At2) (h : 0 ≤ id) : rightR (atR3 id a) = true := by
  unfold rightR atR3
  simp [h]
theorem okO_plantA {id : Int} (hid : 0 ≤ id) : ∀ (as1 : List At2) (g : Nat) (own : Own), okO g own → okO (g + as1.length) (plantA id as1 g own)
  | [], _, _, h => h
  | a :: r, g, own, h => by
    have := okO_plantA hid r (g + 1) _ (okO_lay (G' := g + 1) h (Nat.le_succ g) (id := ((g + 1 : Nat) : Int)) (r := atR3 id a) (by omega) (right_at3 a hid))
    rw [List.length_cons, plantA]
    rw [show g + (r.length + 1) = g + 1 + r.length by omega]
    exact this
theorem right_plant {kd : Int} {nm tx : List UInt8} {par : Int} {ks ats : List Int} (hk : aloneK kd = true) (h1 : ∀ z, z ∈ ks → 1 ≤ z) (h2 : ∀ z, z ∈ ats → 1 ≤ z) : rightR ⟨kd, nm, tx, max par 0, ks, ats, false⟩ = true := by
  unfold rightR
  have k1 : decide (1 ≤ kd) = true ∧ decide (kd ≤ 6) = true := by
    unfold aloneK at hk
    simp at hk
    exact ⟨decide_eq_true (by omega), decide_eq_true (by omega)⟩
  have k2 : (ks.any fun k => decide (k < 1)) = false := List.any_eq_false.2 fun z hz => by have := h1 z hz; simp; omega
  have k3 : (ats.any fun k => decide (k < 1)) = false := List.any_eq_false.2 fun z hz => by have := h2 z hz; simp; omega
  dsimp only
  rw [if_neg (by simp), k1.1, k1.2, k2, k3, decide_eq_true (by omega : 0 ≤ max par 0)]
  rfl
mutual
theorem okO_plantT : ∀ (t : Tr) (par : Int) (g : Nat) (own : Own), okO g own → okO (plantT t par g own).2.1 (plantT t par g own).2.2
  | .mk kd nm tx ats ks, par, g, own, h => by
    cases hk : aloneK kd with
    | false => rw [plantT_no (by exact hk)]; exact h
    | true =>
      rw [plantT, if_pos hk]
      dsimp only
      obtain ⟨s1, s2, s3, s4⟩ := plantK_spec ks ((g + 1 : Nat) : Int) (g + 1 + ats.length) (plantA ((g + 1 : Nat) : Int) ats (g + 1) own)
      have hA := okO_plantA (id := ((g + 1 : Nat) : Int)) (by omega) ats (g + 1) own (fun c hc => by obtain ⟨q1, q2, q3⟩ := h c hc; exact ⟨q1, by omega, q3⟩)
      exact okO_lay (okO_plantK ks _ (g + 1 + ats.length) _ hA) (Nat.le_refl _) (by rw [s1]; omega) (right_plant hk (fun z hz => (s4 z hz).1) (fun z hz => (atIds_mem hz).1))
theorem okO_plantK : ∀ (ks : List Tr) (par : Int) (g : Nat) (own : Own), okO g own → okO (plantK ks par g own).2.1 (plantK ks par g own).2.2
  | [], par, g, own, h => by rw [plantK]; exact h
  | k :: ks, par, g, own, h => by
    rw [plantK]
    dsimp only
    exact okO_plantK ks par _ _ (okO_plantT k par g own h)
end
theorem badC_no (given : Nat) : ∀ (cs : List (Int × Rc)) (seen : List Int), okO given cs → upO cs → (∀ c, c ∈ cs → ∀ z, z ∈ seen → z < c.1) → badC given seen cs = false
  | [], _, _, _, _ => rfl
  | c :: r, seen, h, hu, hs => by
    obtain ⟨h1, h2, h3⟩ := h c List.mem_cons_self
    obtain ⟨u1, u2⟩ := List.pairwise_cons.1 hu
    have hc : seen.contains c.1 = false := by
      cases hx : seen.contains c.1 with
      | false => rfl
      | true =>
        have := hs c List.mem_cons_self c.1 (by simpa using hx)
        omega
    have ih := badC_no given r (seen ++ [c.1]) (fun x hx => h x (List.mem_cons_of_mem _ hx)) u2 fun x hx z hz => by
      rcases List.mem_append.1 hz with hz | hz
      · exact hs x (List.mem_cons_of_mem _ hx) z hz
      · rw [List.mem_singleton] at hz
        have := u1 x hx
        omega
    rw [badC, ih, hc, h3, decide_eq_false (by omega), decide_eq_false (by omega)]
    rfl
theorem okO_ownA (t : Tr) : okO (stoA t).given (ownA t) := by
  have h := okO_plantT t 1 1 [] (fun c hc => by cases hc)
  have h1 := (plantT_spec t 1 1 []).1
  exact okO_lay h (Nat.le_refl _) (id := 1) (by rw [h1]; omega) (rootO_right t)
theorem inst_ok (t : Tr) (hu : upO (ownA t)) : instE (stoA t) 3 (ownA t) = 0 := by
  unfold instE
  rw [badC_no _ _ [] (okO_ownA t) hu (fun _ _ _ hz => by cases hz)]
  rfl
/-- the store behind the planting -/
def stoI (t : Tr) : Sto := instS (stoA t) 3 (ownA t)
section
variable {P : Nat → Prop} {B : Nat} {w0 W : World} {b sb b2 d t : Nat} {S S2 : Sto} {own own2 : Own} {Z Z1 Y Y1 : Nat → Prop}
theorem HalfI.changes (h : HalfI P B w0 W b sb b2 d t S own S2 own2 Z Z1 Y Y1) (hl : own.length ≤ 10000000) : Calls Try.prog 22 #[.pointer (some ⟨b, 0, none⟩)] W (ChgP W own) := by
  obtain ⟨mb, D, h1, h2, h3⟩ := h.two.vs
  exact changes_any h1 hl
theorem HalfI.sm (h : HalfI P B w0 W b sb b2 d t S own S2 own2 Z Z1 Y Y1) : ∀ c, c ∈ own → RcSm c.2 := by
  obtain ⟨mb, D, h1, h2, h3⟩ := h.two.vs
  exact h1.sm
/-- a view of a new store, made behind the document's -/
theorem two_newB {w1 w2 w3 W : World} {v : Value} (hv : VS Z Z1 B w3 b sb 0 newS []) (hr : RefG (fun _ => False) B w2 d v [(1, 0, rootV)] 1 0) (ho : ∀ k, ownB d v k → w1.heap.size ≤ k) (hb : Below w2.heap.size w2 w3) (hz : ∀ g, Z g ∨ Z1 g → g < w1.heap.size ∨ w2.heap.size ≤ g) (hb3 : Below w3.heap.size w3 W) (h2 : w3.heap.size ≤ b2)
    (hc : W.heap[b2]? = some (.cells #[.pointer (some ⟨d, 0, none⟩), .int .u64 ((0 : Nat) : Int), .slice none 0 0] 94 (0, 0))) : Two Z Z1 (fun g => (w1.heap.size ≤ g ∧ g < w2.heap.size) ∨ g = b2) (fun _ => False) B B W b sb 0 b2 d 0 newS [] newS [] := by
  have hs := hb.size
  have hbl := (Array.getElem?_eq_some_iff.1 hc).1
  have hl := hv.lowB
  have hlb := hr.low'
  refine ⟨hv.below hb3, ?_, fun g hg hy => ?_⟩
  · refine ws_of (hr.below (hb.trans (hb3.mono hs))) hc (by omega) (fun g hg => ?_) (fun g hg => ?_) (fun g hg => ?_)
    · rcases hg with hg | hg
      · have := (hr.own hg).2; omega
      · exact hg.elim
    · rcases hg with hg | hg | hg
      · exact .inl ⟨ho g hg, (hr.own hg).2⟩
      · exact .inr hg
      · exact hg.elim
    · have := hb3.size
      rcases hg with (hg | hg) | hg
      · omega
      · omega
      · exact hg.elim
  · have h1 := hz g hg
    have h3 := (hv.zB g hg).2
    rcases hy with (hy | hy) | hy
    · omega
    · omega
    · exact hy
/-- the program's store turned -/
theorem HalfI.inst (h : HalfI P B w0 W b sb b2 d t S own S2 own2 Z Z1 Y Y1) {W' : World} {Z1' : Nat → Prop} {S' : Sto} (ho : Only B Z1 W W') (hv : VS Z Z1' B W' b sb t S' own) (hn : ∀ g, Z1' g → Z1 g ∨ W.heap.size ≤ g) :
    HalfI P B w0 W' b sb b2 d t S' own S2 own2 Z Z1' Y Y1 ∧ ∀ g, P g → W'.heap[g]? = W.heap[g]? :=
  ⟨⟨⟨hv, h.two.ws.move (fun g hg => ho.2 g (h.two.ws.zB g hg).2 (fun hz => h.two.ap g (.inr hz) hg)) ho.1.size, fun g hg hy => by
    have hl := (h.two.ws.zB g hy).2
    rcases hg with hg | hg
    · exact h.two.ap g (.inl hg) hy
    · rcases hn g hg with q | q
      · exact h.two.ap g (.inr q) hy
      · omega⟩, fun g hg => by
    obtain ⟨h1, h2, h3⟩ := h.np g hg
    refine ⟨Nat.lt_of_lt_of_le h1 ho.1.size, fun hz => ?_, h3⟩
    rcases hz with hz | hz
    · exact h2 (.inl hz)
    · rcases hn g hz with q | q
      · exact h2 (.inr q)
      · omega, h.bel.trans ho.1⟩, fun g hg => ho.2 g (h.np g hg).1 (fun hz => (h.np g hg).2.1 (.inr hz))⟩
theorem half_instV (h : HalfI P B w0 W b sb b2 d t S own S2 own2 Z Z1 Y Y1) (time : Nat) (cs : List ChV) (o : Option Addr) (j : Nat) {F : Nat → Prop} (hF : ∀ g, F g → ¬ Z1 g) (hc : ChsOn W F (.slice o cs.length j) cs) (hcs : cs.map toCh = own) (hsm : ∀ c, c ∈ own → RcSm c.2) (hcl : own.length ≤ 10000000) (hg : S.given ≤ 10000000) (hl : S.L.length ≤ 10000000) :
    Calls Try.prog 26 #[.pointer (some ⟨sb, 0, none⟩), .int .u64 (time : Int), .slice o cs.length j] W fun e W' => e = .returned (.int .i64 (instE S time own : Int)) ∧ (∃ Z1', HalfI P B w0 W' b sb b2 d t (instS S time own) own S2 own2 Z Z1' Y Y1) ∧ ∀ g, P g → W'.heap[g]? = W.heap[g]? := by
  have hlen : cs.length = own.length := by rw [← hcs, List.length_map]
  have := vs_inst h.two.vs time cs o j hF hc (fun x hx => hsm (toCh x) (by rw [← hcs]; exact List.mem_map.2 ⟨x, hx, rfl⟩)) (by omega) hg hl
  rw [hcs] at this
  refine this.mono ?_
  rintro e W' ⟨q1, q2, Z1', q3, q4, q5⟩
  obtain ⟨r1, r2⟩ := h.inst q2 q3 q5
  exact ⟨q1, ⟨Z1', r1⟩, r2⟩
theorem half_instW (h : HalfI P B w0 W b sb b2 d t S own S2 own2 Z Z1 Y Y1) (time : Nat) (o : Option Addr) (j : Nat) (ho : W.cell? ⟨b2, 2, none⟩ = some (.slice o own2.length j)) (hsm : ∀ c, c ∈ own2 → RcSm c.2) (hcl : own2.length ≤ 10000000) (hg : S2.given ≤ 10000000) (hl : S2.L.length ≤ 10000000) :
    Calls Try.prog 45 #[.pointer (some ⟨d, 0, none⟩), .int .u64 (time : Int), .slice o own2.length j] W fun e W' => e = .returned (.int .i64 (instE S2 time own2 : Int)) ∧ (∃ Y', HalfI P B w0 W' b sb b2 d t S own (instS S2 time own2) own2 Z Z1 Y' Y1) ∧ ∀ g, P g → W'.heap[g]? = W.heap[g]? := by
  refine (ws_inst h.two.ws time o j ho hsm hcl hl hg).mono ?_
  rintro e W' ⟨q1, q2, Y', q3, q4, q5⟩
  have hon : Only B (fun g => Y g ∨ Y1 g) W W' := q2.weak fun _ _ q => .inl q
  have htwo := h.two.right (G := fun _ => False) hon q3 (fun _ q => q.elim) (fun g hg => (q5 g hg).elim .inl (fun q => .inr (.inr q)))
  have q6 := h.right (G := fun _ => False) hon htwo (fun g hg => (q5 g hg).elim .inl (fun q => .inr (.inr q)))
  exact ⟨q1, ⟨Y', q6.1.less fun g hg => ⟨hg, fun q => q⟩⟩, q6.2⟩
/-- views anew -/
theorem half_new (h : HalfI P B w0 W b sb b2 d t S own S2 own2 Z Z1 Y Y1) (t' : Nat) :
    Calls Try.prog 20 #[.pointer (some ⟨sb, 0, none⟩), .int .u64 (t' : Int)] W fun e w' => ∃ b', e = .returned (.pointer (some ⟨b', 0, none⟩)) ∧ VS (fun g => W.heap.size ≤ g ∧ g < w'.heap.size) Z1 B w' b' sb t' S [] ∧ Below W.heap.size W w' := by
  have hB := h.two.vs.lowB
  obtain ⟨mb, D, h1, h2, h3⟩ := h.two.vs
  exact vs_new h2 hB t'
theorem HalfI.again {T : TypeId} {p b' b2' t' : Nat} {w1 W2 : World} (h : HalfI P B w0 W b sb b2 d t S own S own2 Z Z1 Y Y1) (hv : VS (fun g => W.heap.size ≤ g ∧ g < w1.heap.size) Z1 B w1 b' sb t' S []) (hb1 : Below W.heap.size W w1) (hb2 : Below w1.heap.size w1 W2) (hn : w1.heap.size ≤ b2')
    (hc : W2.heap[b2']? = some (.cells #[.pointer (some ⟨d, 0, none⟩), .int .u64 (t' : Int), .slice none 0 0] 94 (0, 0))) (hcp : W2.heap[p]? = some (.cells #[.pointer (some ⟨b', 0, none⟩), .pointer (some ⟨b2', 0, none⟩)] T (0, 0))) (hp : B ≤ p) :
    PairI T B w0 W2 p b' sb b2' d t' S [] (fun g => W.heap.size ≤ g ∧ g < w1.heap.size) Z1 (fun g => Y g ∨ g = b2') Y1 := by
  have hs1 := hb1.size
  have hb : Below W.heap.size W W2 := hb1.trans (hb2.mono hs1)
  refine ⟨⟨hv.below hb2, h.two.ws.again hb (by omega) hc, fun g hg hy => ?_⟩, hcp, hp, h.bel.trans (hb.mono h.two.vs.lowB)⟩
  rcases hg with hg | hg
  · rcases hy with (hy | hy) | hy
    · have := (h.two.ws.zB g (.inl hy)).2; omega
    · omega
    · have := (h.two.ws.zB g (.inr hy)).2; omega
  · have hgl := (h.two.vs.zB g (.inr hg)).2
    rcases hy with (hy | hy) | hy
    · exact h.two.ap g (.inr hg) (.inl hy)
    · omega
    · exact h.two.ap g (.inr hg) (.inr hy)
end
end Go.Proofs.Ytkackejipgabfaa.Char
