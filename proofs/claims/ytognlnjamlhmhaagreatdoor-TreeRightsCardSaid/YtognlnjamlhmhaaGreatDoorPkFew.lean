/- FewW Few -/
import Derived.Test.YtognlnjamlhmhaaGreatDoorPkSize
/- The walks of the statements' own few and Few. -/
namespace Go.Proofs.YtognlnjamlhmhaaGreatDoor.Char
open Go.RowKit Go.Lib

mutual
/-- how many more nodes there may be behind this one; none: there are too many, or they are too deep -/
def fewT : Tr → Nat → Nat → Option Nat
  | .mk _ _ _ _ ks, d, m => if d = 0 ∨ m = 0 then none else fewK ks (d - 1) (m - 1)
def fewK : List Tr → Nat → Nat → Option Nat
  | [], _, m => some m
  | k :: ks, d, m => (fewT k d m).bind (fewK ks d)
end
theorem fewT_no {t : Tr} {d m : Nat} (h : d = 0 ∨ m = 0) : fewT t d m = none := by
  obtain ⟨kd, nm, tx, ats, ks⟩ := t
  rw [fewT, if_pos h]
theorem fewT_go {t : Tr} {d m : Nat} (h : ¬(d = 0 ∨ m = 0)) : fewT t d m = fewK t.ks (d - 1) (m - 1) := by
  obtain ⟨kd, nm, tx, ats, ks⟩ := t
  rw [fewT, if_neg h]
  rfl
mutual
theorem fewT_cnt : ∀ (t : Tr) (d m m' : Nat), fewT t d m = some m' → m' + cntT t = m
  | .mk kd nm tx ats ks, d, m, m', h => by
    rw [fewT] at h
    split at h
    · cases h
    · have := fewK_cnt ks _ _ _ h
      rw [cntT]
      omega
theorem fewK_cnt : ∀ (ks : List Tr) (d m m' : Nat), fewK ks d m = some m' → m' + cntK ks = m
  | [], d, m, m', h => by
    rw [fewK] at h
    cases h
    rw [cntK]; rfl
  | k :: ks, d, m, m', h => by
    rw [fewK] at h
    obtain ⟨x, hx, hy⟩ := Option.bind_eq_some_iff.1 h
    have h1 := fewT_cnt k _ _ _ hx
    have h2 := fewK_cnt ks _ _ _ hy
    rw [cntK]
    omega
end

set_option maxRecDepth 100000 in
set_option maxHeartbeats 4000000 in
theorem few_any (w0 : World) (n₀ L : Nat) (hL : n₀ ≤ L) : ∀ (d : Nat) (t : Tr) (va vk : Value) (w : World) (m : Nat), NdOn w0 (fun b => b < n₀) t va vk → Below n₀ w0 w → w.cell? ⟨L, 0, none⟩ = some (.int .i64 (m : Int)) → w.frozen? ⟨L, 0, none⟩ = false → m ≤ 2000 → d ≤ 30 →
    Calls Tryz.prog 28 #[ndV t va vk, .int .i64 (d : Int), .pointer (some ⟨L, 0, none⟩)] w fun e w' => e = .returned (.bool (fewT t d m).isSome) ∧ KpN n₀ L w w' ∧
      (∀ m', fewT t d m = some m' → w'.cell? ⟨L, 0, none⟩ = some (.int .i64 (m' : Int)) ∧ w'.frozen? ⟨L, 0, none⟩ = false) := by
  intro d
  induction d with
  | zero =>
    intro t va vk w m hn hb hc hf hm hd
    obtain ⟨oa, ja, ok, jk, rfl, rfl⟩ := hn.form
    have hLl : L < w.heap.size := cell_lt hc
    rw [fewT_no (.inl rfl)]
    clear hn
    unfold ndV
    go_enter Tryz.func28, Tryz.ntmps28
    go_wp2_with fail
    go_ret
    exact ⟨rfl, kpN_t (kpN_setCell hL _ _ _) (kpN_grow (by simp; omega) ((Below.refl _ _).alloc (Nat.le_refl _) _)), fun m' h => by cases h⟩
  | succ d ih =>
    intro t va vk w m hn hb hc hf hm hd
    obtain ⟨oa, ja, ok, jk, rfl, rfl⟩ := hn.form
    have hLl : L < w.heap.size := cell_lt hc
    have HN := Lib.hid hn
    have HIH := Lib.hid ih
    clear hn ih
    unfold ndV
    by_cases h0 : m = 0
    · subst h0
      rw [fewT_no (.inr rfl)]
      go_enter Tryz.func28, Tryz.ntmps28
      go_wp2_with fail
      go_ret
      exact ⟨rfl, kpN_t (kpN_setCell hL _ _ _) (kpN_grow (by simp; omega) ((Below.refl _ _).alloc (Nat.le_refl _) _)), fun m' h => by cases h⟩
    · rw [fewT_go (by omega), Nat.add_sub_cancel]
      have k1 : ((d : Int) + 1 == 0) = false := by rw [beq_eq_false_iff_ne]; omega
      have k2 : decide (((m - 1 : Nat) : Int) < 0) = false := by simp
      obtain ⟨w1, hw1⟩ : ∃ w1, w1 = (w.setCell ⟨L, 0, none⟩ (.int .i64 ((m - 1 : Nat) : Int))).alloc (.cells #[.int .i64 t.kd, .string (bs t.nm), .string (bs t.tx), .slice oa t.ats.length ja, .slice ok t.ks.length jk] 26) := ⟨_, rfl⟩
      have hk1 : KpN n₀ L w w1 := by rw [hw1]; exact kpN_t (kpN_setCell hL _ _ _) (kpN_grow (by simp; omega) ((Below.refl _ _).alloc (Nat.le_refl _) _))
      have s1 : w1.heap.size = w.heap.size + 1 := by rw [hw1]; simp
      have hbk : w1.heap[w.heap.size]? = some (.cells #[.int .i64 t.kd, .string (bs t.nm), .string (bs t.tx), .slice oa t.ats.length ja, .slice ok t.ks.length jk] 26 (0, 0)) := by
        rw [hw1]
        have := World.alloc_heap_new (w.setCell ⟨L, 0, none⟩ (.int .i64 ((m - 1 : Nat) : Int))) (.cells #[.int .i64 t.kd, .string (bs t.nm), .string (bs t.tx), .slice oa t.ats.length ja, .slice ok t.ks.length jk] 26)
        simpa using this
      have hc1 : w1.cell? ⟨L, 0, none⟩ = some (.int .i64 ((m - 1 : Nat) : Int)) ∧ w1.frozen? ⟨L, 0, none⟩ = false := by
        rw [hw1]
        refine ⟨?_, ?_⟩
        · rw [World.cell?_alloc_past _ _ _ (by simp; omega)]; exact World.cell?_setCell_same' _ _ _ (by rw [hc]; rfl)
        · rw [World.frozen?_alloc_past _ _ _ (by simp; omega), World.frozen?_setCell]; exact hf
      have hcl : ∀ W, KpN n₀ L w1 W → W.cell? ⟨w.heap.size, 4, none⟩ = some (.slice ok t.ks.length jk) := fun W hW => by
        have h := hW.2 w.heap.size _ hbk rfl (by omega)
        simp [World.cell?, h]
      have HCL := Lib.hid hcl
      have HK1 := Lib.hid hk1
      have HB := Lib.hid hb
      have HW1 := Lib.hid hw1
      clear hcl hk1 hbk hb
      have e1 : (m : Int) - 1 = ((m - 1 : Nat) : Int) := by omega
      go_enter Tryz.func28, Tryz.ntmps28
      go_wp2_with fail
      rw [← HW1.out]
      clear HW1 hw1
      go_loopw [7] (fun v wr => ∃ j m' : Nat, v = .int .i64 (j : Int) ∧ j ≤ t.ks.length ∧ j + m' ≤ 2000 ∧ wr.cell? ⟨L, 0, none⟩ = some (.int .i64 (m' : Int)) ∧ wr.frozen? ⟨L, 0, none⟩ = false ∧ KpN n₀ L w1 wr ∧ fewK (t.ks.drop j) d m' = fewK t.ks d (m - 1)) (fun v _ => t.ks.length - (RowKit.intOf v).toNat)
      case atStart => exact ⟨0, m - 1, rfl, Nat.zero_le _, by omega, hc1.1, hc1.2, kpN_refl _ _ _, rfl⟩
      case round =>
        obtain ⟨j, m1, rfl, hj, hjm, hcr, hfr, hkr, heq⟩ := hrel
        have hq4 := HCL.out _ hkr
        by_cases hlt : j < t.ks.length
        · obtain ⟨o9, i9, j9, hv9, hi9, hkids⟩ := HN.out.kids
          simp only [Value.slice.injEq] at hv9
          obtain ⟨rfl, rfl, rfl⟩ := hv9
          rcases hkids with h0 | ⟨g, off, rfl, hg, hK⟩
          · rw [h0] at hlt; cases hlt
          obtain ⟨va, vk, hat, hon⟩ := hK.at j hlt
          have hb0 : Below n₀ w0 wr := (HB.out.trans HK1.out.1).trans hkr.1
          obtain ⟨a0, a1, a2, a3, a4⟩ := hat.move (hb0.block g hg)
          have hc2 := HIH.out t.ks[j] va vk wr m1 hon hb0 hcr hfr (by omega) (by omega)
          rw [List.drop_eq_getElem_cons hlt, fewK] at heq
          have hcnt := fewT_cnt t.ks[j] d m1
          have hcp := cntT_pos t.ks[j]
          generalize t.ks[j] = kid at *
          obtain ⟨oa', ja', ok', jk', rfl, rfl⟩ := hon.form
          unfold ndV at hc2
          have HC2 := Lib.hid hc2
          have HKR := Lib.hid hkr
          have HEQ := Lib.hid heq
          have HCN := Lib.hid hcnt
          clear hc2 hon hat hK hkr heq hcnt
          cases hr : fewT kid d m1 with
          | none =>
            have HR := Lib.hid hr
            clear hr
            go_wp2_with fail
            refine HC2.out.mono ?_
            rintro e w2 ⟨rfl, hk2, _⟩
            rw [HR.out]
            go_wp2_with fail
            go_ret
            have heq := HEQ.out
            rw [HR.out] at heq
            rw [← heq]
            exact ⟨rfl, kpN_t HK1.out (kpN_t HKR.out hk2), fun m' h => by cases h⟩
          | some m2 =>
            have HR := Lib.hid hr
            have hm2 := HCN.out m2 hr
            clear hr
            go_wp2_with fail
            refine HC2.out.mono ?_
            rintro e w2 ⟨rfl, hk2, hm⟩
            obtain ⟨hc3, hf3⟩ := hm m2 HR.out
            rw [HR.out]
            go_wp2_with fail
            go_roundw
            case rel => exact ⟨_, _, _, _, _, _, _, _, _, _, _, _, _, _, _, _, _, _, _, ⟨j + 1, m2, by go_num, by omega, by omega, hc3, hf3, kpN_t HKR.out hk2, by have heq := HEQ.out; rw [HR.out] at heq; exact heq⟩, rfl⟩
            case measure => simp [RowKit.intOf]; omega
        · have e : j = t.ks.length := by omega
          subst e
          rw [List.drop_length, fewK] at heq
          go_wp2_with fail
          go_ret
          rw [← heq]
          exact ⟨rfl, kpN_t HK1.out hkr, fun m' h => by cases h; exact ⟨hcr, hfr⟩⟩
end Go.Proofs.YtognlnjamlhmhaaGreatDoor.Char

/- The walk of the statements' own Few. -/
namespace Go.Proofs.YtognlnjamlhmhaaGreatDoor.Char
open Go.RowKit Go.Lib

def fewB (t : Tr) : Bool := (fewT t 30 2000).isSome
theorem fewB_cnt {t : Tr} (h : fewB t = true) : cntT t ≤ 2000 := by
  obtain ⟨m, hm⟩ := Option.isSome_iff_exists.1 h
  have := fewT_cnt t _ _ _ hm
  omega
set_option maxRecDepth 100000 in
set_option maxHeartbeats 4000000 in
theorem fewF_any (t : Tr) (va vk : Value) (w : World) (hn : NdOn w (fun b => b < w.heap.size) t va vk) :
    Calls Tryz.prog 13 #[ndV t va vk] w fun e w' => e = .returned (.bool (fewB t)) ∧ Below w.heap.size w w' := by
  obtain ⟨oa, ja, ok, jk, rfl, rfl⟩ := hn.form
  obtain ⟨w1, hw1⟩ : ∃ w1, w1 = (w.alloc (.cells #[.int .i64 t.kd, .string (bs t.nm), .string (bs t.tx), .slice oa t.ats.length ja, .slice ok t.ks.length jk] 26)).alloc (.cells #[.int .i64 2000] 3) := ⟨_, rfl⟩
  have hb1 : Below w.heap.size w w1 := by rw [hw1]; exact ((Below.refl _ _).alloc (Nat.le_refl _) _).alloc (by simp) _
  have hc1 : w1.cell? ⟨w.heap.size + 1, 0, none⟩ = some (.int .i64 ((2000 : Nat) : Int)) ∧ w1.frozen? ⟨w.heap.size + 1, 0, none⟩ = false := by rw [hw1]; exact ⟨by go_simp, by go_simp⟩
  have h := few_any w w.heap.size (w.heap.size + 1) (by omega) 30 t _ _ w1 2000 hn hb1 hc1.1 hc1.2 (by omega) (by omega)
  unfold ndV at h
  have H := Lib.hid h
  have HB := Lib.hid hb1
  have HW := Lib.hid hw1
  clear h hn hb1 hc1
  unfold ndV fewB
  go_enter Tryz.func13, Tryz.ntmps13
  go_wp2_with fail
  rw [← HW.out]
  refine H.out.mono ?_
  rintro e w2 ⟨rfl, hk2, _⟩
  clear H HW hw1
  go_wp2_with fail
  go_ret
  exact ⟨rfl, HB.out.trans hk2.1⟩
end Go.Proofs.YtognlnjamlhmhaaGreatDoor.Char
