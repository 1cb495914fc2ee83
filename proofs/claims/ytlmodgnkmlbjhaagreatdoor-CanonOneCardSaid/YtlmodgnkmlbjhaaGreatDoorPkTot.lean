import Derived.Test.YtlmodgnkmlbjhaaGreatDoorPkSm
import Derived.Test.YtlmodgnkmlbjhaaGreatDoorPkRtM
import Derived.Test.YtlmodgnkmlbjhaaGreatDoorPkFew
import Derived.Test.YtlmodgnkmlbjhaaGreatDoorPkLay
import Derived.Test.YtlmodgnkmlbjhaaGreatDoorPkRd
import Derived.Test.YtlmodgnkmlbjhaaGreatDoorMarkupW
import Derived.Test.YtlmodgnkmlbjhaaGreatDoorPkRefE
namespace Go.Proofs.YtlmodgnkmlbjhaaGreatDoor
namespace Char
open Go.RowKit Go.Lib
def tA : List At2 → Nat → Nat
 | [], t => t
 | a :: r, t => if t ≤ 5000 then tA r (t + a.1.length + a.2.length) else t
mutual
def tT : Tr → Nat
 | .mk _ nm tx ats ks => tK ks (tA ats (nm.length + tx.length))
def tK : List Tr → Nat → Nat
 | [], t => t
 | k :: r, t => if t ≤ 5000 then tK r (t + tT k) else t
end
theorem tA_over {l : List At2} {t : Nat} (h : 5000 < t) : tA l t = t := by
 cases l with
 | nil => rfl
 | cons a r => exact if_neg (by omega)
theorem tK_over {l : List Tr} {t : Nat} (h : 5000 < t) : tK l t = t := by
 cases l with
 | nil => rw [tK]
 | cons a r => rw [tK, if_neg (by omega)]
theorem tA_ge : ∀ (l : List At2) (t : Nat), t ≤ tA l t
 | [], t => Nat.le_refl _
 | a :: r, t => by
  have := tA_ge r (t + a.1.length + a.2.length)
  unfold tA
  split <;> omega
theorem tK_ge : ∀ (l : List Tr) (t : Nat), t ≤ tK l t
 | [], t => by rw [tK]; exact Nat.le_refl _
 | a :: r, t => by
  have := tK_ge r (t + tT a)
  rw [tK]
  split <;> omega
theorem tA_le {N : Nat} : ∀ (l : List At2) (t : Nat), (∀ a, a ∈ l → a.1.length ≤ N ∧ a.2.length ≤ N) → t ≤ 5000 + 2 * N → tA l t ≤ 5000 + 2 * N
 | [], t, _, h => h
 | a :: r, t, ha, h => by
  have h1 := ha a List.mem_cons_self
  unfold tA
  split
  ·exact tA_le r _ (fun x hx => ha x (List.mem_cons_of_mem _ hx)) (by omega)
  ·exact h
mutual
theorem tT_le {N : Nat} : ∀ t : Tr, smT N t → tT t ≤ 5000 * cntT t + 2 * N
 | .mk kd nm tx ats ks, h => by
  obtain ⟨e1, e2, e3, e4, e5, e6⟩ := smT_def.1 h
  have e1' : nm.length ≤ N := e1
  have e2' : tx.length ≤ N := e2
  have h1 := tA_le (N := N) ats (nm.length + tx.length) e4 (by omega)
  have h2 := tK_le ks (tA ats (nm.length + tx.length)) e6
  rw [tT, cntT]
  omega
theorem tK_le {N : Nat} : ∀ (ks : List Tr) (t : Nat), smK N ks → tK ks t ≤ max t (5000 + 5000 * cntK ks + 2 * N)
 | [], t, _ => by rw [tK]; omega
 | k :: r, t, h => by
  rw [smK] at h
  have h1 := tT_le k h.1
  have h2 := tK_le r (t + tT k) h.2
  have h3 := cntT_pos k
  rw [tK, cntK]
  split <;> omega
end
theorem tA_short : ∀ (l : List At2) (t : Nat), tA l t ≤ 5000 → t ≤ 5000 ∧ ∀ a, a ∈ l → a.1.length ≤ 5000 ∧ a.2.length ≤ 5000
 | [], t, h => ⟨h, fun a ha => by cases ha⟩
 | a :: r, t, h => by
  unfold tA at h
  split at h
  ·obtain ⟨h1, h2⟩ := tA_short r _ h
   refine ⟨by omega, fun x hx => ?_⟩
   rcases List.mem_cons.1 hx with rfl | hx
   ·omega
   ·exact h2 x hx
  ·omega
mutual
theorem tT_short {N : Nat} : ∀ t : Tr, smT N t → cntT t ≤ 2000 → tT t ≤ 5000 → smT 16000 t
 | .mk kd nm tx ats ks, h, hc, ht => by
  obtain ⟨_, _, e3, _, _, e6⟩ := smT_def.1 h
  rw [cntT] at hc
  rw [tT] at ht
  have h1 := tK_ge ks (tA ats (nm.length + tx.length))
  obtain ⟨h2, h3⟩ := tA_short ats (nm.length + tx.length) (by omega)
  have h4 := tK_short ks _ e6 (by omega) ht
  have h5 := cntK_len ks
  exact smT_def.2 ⟨by show nm.length ≤ _; omega, by show tx.length ≤ _; omega, e3, fun a ha => by have := h3 a ha; omega, by show ks.length ≤ _; omega, h4⟩
theorem tK_short {N : Nat} : ∀ (ks : List Tr) (t : Nat), smK N ks → cntK ks ≤ 2000 → tK ks t ≤ 5000 → smK 16000 ks
 | [], _, _, _, _ => by rw [smK]; trivial
 | k :: r, t, h, hc, ht => by
  rw [smK] at h ⊢
  rw [cntK] at hc
  rw [tK] at ht
  split at ht
  ·have h1 := tK_ge r (t + tT k)
   exact ⟨tT_short k h.1 (by omega) (by omega), tK_short r _ h.2 (by omega) ht⟩
  ·omega
end
theorem tot_i {t : Nat} (h : t ≤ 5000) : (t : Int) ≤ 5000 := by omega
theorem tot_n {t : Nat} (h : ¬ t ≤ 5000) : ¬ (t : Int) ≤ 5000 := by omega
theorem tot_b {t k c : Nat} (h5 : t ≤ 5000) (hk : k ≤ 5000 * c + 2 * 2 ^ 47) (hc : c ≤ 2000) : t + k ≤ 2 ^ 51 := by omega
theorem tot_w {t k : Nat} (h : t + k ≤ 2 ^ 51) : wrap64 ((t : Int) + (k : Int)) = ((t + k : Nat) : Int) := by
 rw [IntWalk.wrap64_in _ (by omega)]
 omega
mutual
theorem sz_cnt8 : ∀ t : Tr, smT 16000 t → szT t ≤ cntT t * (2 ^ 43 + 1)
 | .mk kd nm tx ats ks, h => by
  have hd := smT_def.1 h
  have ih := sz_cnt8K ks hd.2.2.2.2.2
  have ha : ats.length ≤ 2 ^ 43 := hd.2.2.1
  rw [szT, cntT, Nat.add_mul]
  split <;> omega
theorem sz_cnt8K : ∀ ks : List Tr, smK 16000 ks → szK ks ≤ cntK ks * (2 ^ 43 + 1)
 | [], _ => by rw [szK]; omega
 | k :: r, h => by
  rw [smK] at h
  have h1 := sz_cnt8 k h.1
  have h2 := sz_cnt8K r h.2
  rw [szK, cntK, Nat.add_mul]
  omega
end
set_option maxRecDepth 100000 in
set_option maxHeartbeats 8000000 in
theorem total_any : ∀ (c : Nat) (t : Tr) (va vk : Value) (w : World) (F : Nat → Prop), cntT t ≤ c → NdOn w F t va vk → smT (2 ^ 47) t → c ≤ 2000 →
  Calls Tryz.prog 8 #[ndV t va vk, .int .i64 5000] w fun e w' => e = .returned (.int .i64 (tT t : Int)) ∧ Below w.heap.size w w' := by
 intro c
 induction c with
 | zero => intro t va vk w F hc; have := cntT_pos t; omega
 | succ c ih =>
  intro t va vk w F hc hn hs hcm
  obtain ⟨oa, ja, ok, jk, rfl, rfl⟩ := hn.form
  have hsa := smT_def.1 hs
  obtain ⟨kd, nm, tx, ats, ks⟩ := t
  simp only [Tr.nm, Tr.tx, Tr.ats, Tr.ks] at hsa hn ⊢
  obtain ⟨B, hB⟩ : ∃ B, B = w.heap.size := ⟨_, rfl⟩
  obtain ⟨W1, hW1⟩ : ∃ W1, W1 = w.alloc (.cells #[.int .i64 kd, .string (bs nm), .string (bs tx), .slice oa ats.length ja, .slice ok ks.length jk] 25) := ⟨_, rfl⟩
  have b1 : Below w.heap.size w W1 := by rw [hW1]; exact (Below.refl _ _).alloc (Nat.le_refl _) _
  have hbk : W1.heap[B]? = some (.cells #[.int .i64 kd, .string (bs nm), .string (bs tx), .slice oa ats.length ja, .slice ok ks.length jk] 25 (0, 0)) := by rw [hW1, hB]; exact World.alloc_heap_new w _
  have hBl : B < W1.heap.size := by rw [hW1, hB]; simp
  have hbq : ∀ q : KeptT W1, q.at.heap[B]? = some (.cells #[.int .i64 kd, .string (bs nm), .string (bs tx), .slice oa ats.length ja, .slice ok ks.length jk] 25 (0, 0)) := fun q => (q.ok.block B hBl).trans hbk
  have z1 : ∀ q : KeptT W1, q.at.cell? ⟨B, 1, none⟩ = some (.string (bs nm)) := fun q => cell_row (hbq q) rfl
  have z2 : ∀ q : KeptT W1, q.at.cell? ⟨B, 2, none⟩ = some (.string (bs tx)) := fun q => cell_row (hbq q) rfl
  have z3 : ∀ q : KeptT W1, q.at.cell? ⟨B, 3, none⟩ = some (.slice oa ats.length ja) := fun q => cell_row (hbq q) rfl
  have z4 : ∀ q : KeptT W1, q.at.cell? ⟨B, 4, none⟩ = some (.slice ok ks.length jk) := fun q => cell_row (hbq q) rfl
  have hup : ∀ q : KeptT W1, Below w.heap.size w q.at := fun q => b1.trans (q.ok.mono b1.size)
  have hnq : ∀ q : KeptT W1, NdOn q.at F (.mk kd nm tx ats ks) (.slice oa ats.length ja) (.slice ok ks.length jk) := fun q => hn.below (hup q)
  obtain ⟨q0, hq0⟩ : ∃ q0 : KeptT W1, W1 = q0.at := ⟨⟨W1, Below.refl _ _⟩, rfl⟩
  have hREC : ∀ (k : Tr) (ua uk : Value) (q : KeptT W1), NdOn q.at F k ua uk → cntT k ≤ c → smT (2 ^ 47) k → Calls Tryz.prog 8 #[ndV k ua uk, .int .i64 5000] q.at fun e w' => e = .returned (.int .i64 (tT k : Int)) ∧ ∃ q' : KeptT W1, w' = q'.at := fun k ua uk q h1 h2 h3 => (ih k ua uk q.at F h2 h1 h3 (by omega)).mono fun e w' h => ⟨h.1, q.on h.2⟩
  unfold ndV
  simp only [Tr.kd, Tr.nm, Tr.tx]
  have HW1 := Lib.hid (hW1.symm.trans hq0)
  have hqq : ∀ (q : KeptT W1) (b : Nat), b < q0.at.heap.size → q.at.heap[b]? = q0.at.heap[b]? := fun q b hb => by
   have hb' : b < W1.heap.size := by
    have e : W1.heap.size = q0.at.heap.size := congrArg (fun x => x.heap.size) hq0
    omega
   exact (q.ok.block b hb').trans (q0.ok.block b hb').symm
  have HQQ := Lib.hid hqq
  have HB := Lib.hid hB
  have HUP := Lib.hid hup
  have HNQ := Lib.hid hnq
  have HREC := Lib.hid hREC
  have hcq : cntT (.mk kd nm tx ats ks) = 1 + cntK ks := cnt_eq (.mk kd nm tx ats ks)
  have hcl := cntK_len ks
  have HSA := Lib.hid hsa
  have hsn := bs_size nm
  have hsx := bs_size tx
  have hca := hsa.2.2.1
  have hn1 := hsa.1
  have hn2 := hsa.2.1
  have hT : tT (.mk kd nm tx ats ks) = tK ks (tA ats (nm.length + tx.length)) := by rw [tT]
  have HT := Lib.hid hT
  clear hW1 b1 hbk hBl hbq hup hnq hq0 hqq hB hn hREC hs ih hsa hT
  rw [HT.out]
  go_enter Tryz.func8, Tryz.ntmps8
  go_wp2_with fail
  rw [← HB.out, HW1.out]
  go_loopw [5, 6] (fun s v wr => ∃ (k t : Nat) (q : KeptT W1), v = .int .i64 (k : Int) ∧ k ≤ ats.length ∧ s = .int .i64 (t : Int) ∧ t ≤ 2 ^ 50 ∧ Hid (tA (ats.drop k) t = tA ats (nm.length + tx.length)) ∧ wr = q.at) (fun _ v _ => ats.length - (RowKit.intOf v).toNat)
  case atStart => exact ⟨0, nm.length + tx.length, q0, rfl, Nat.zero_le _, by rw [Int.natCast_add], by omega, Lib.hid rfl, rfl⟩
  case round =>
   obtain ⟨k, t, q, rfl, hk, rfl, ht, hA, rfl⟩ := hrel
   by_cases hlt : k < ats.length
   ·by_cases h5 : t ≤ 5000
    ·have hrd := fun q : KeptT W1 => AtsOn.reads (HNQ.out q).ats k hlt
     obtain ⟨g, off, rfl, hg, _⟩ := hrd q
     have r0 : ∀ q : KeptT W1, q.at.cell? ⟨g, off + k * 2, none⟩ = some (.string (bs ats[k].1)) := fun q => by
      obtain ⟨g', off', e, _, r, _⟩ := hrd q
      simp only [Option.some.injEq, Addr.mk.injEq] at e
      obtain ⟨rfl, rfl, _⟩ := e
      exact r
     have r1 : ∀ q : KeptT W1, q.at.cell? ⟨g, off + k * 2 + 1, none⟩ = some (.string (bs ats[k].2)) := fun q => by
      obtain ⟨g', off', e, _, _, r⟩ := hrd q
      simp only [Option.some.injEq, Addr.mk.injEq] at e
      obtain ⟨rfl, rfl, _⟩ := e
      exact r
     have hpa := HSA.out.2.2.2.1 ats[k] (List.getElem_mem hlt)
     have hA2 : tA (ats.drop (k + 1)) (t + ats[k].1.length + ats[k].2.length) = tA ats (nm.length + tx.length) := by
      have := hA.out
      rw [List.drop_eq_getElem_cons hlt] at this
      unfold tA at this
      rw [if_pos h5] at this
      rw [this]
      cases ats <;> rfl
     clear hrd hA
     have HA2 := Lib.hid hA2
     clear hA2
     generalize ats[k] = a at *
     have e1 := bs_size a.1
     have e2 := bs_size a.2
     have h6 := tot_i h5
     have hw1 : IntKind.i64.wrap ((t : Int) + (a.1.length : Int)) = ((t + a.1.length : Nat) : Int) := by rw [IntWalk.i64_in _ (by omega)]; omega
     have hw2 : IntKind.i64.wrap (((t + a.1.length : Nat) : Int) + (a.2.length : Int)) = ((t + a.1.length + a.2.length : Nat) : Int) := by rw [IntWalk.i64_in _ (by omega)]; omega
     have hT2 : t + a.1.length + a.2.length ≤ 2 ^ 50 := by omega
     generalize t + a.1.length + a.2.length = t2 at *
     generalize t + a.1.length = t1 at *
     clear hpa hn1 hn2
     go_wp2_with fail
     refine wp_region_kept (KeptT W1) KeptT.at (by kernel_rfl) (by kernel_rfl) (q.on (Below.refl _ _).drew) ?_
     repeat (go_big_quiet_step (first
      | fail))
     refine wpQuiet_nil ?_
     rintro w' ⟨q', rfl⟩
     go_wp2_with fail
     go_roundw
     case rel => exact ⟨k + 1, t2, q', by go_num, by omega, rfl, hT2, HA2, rfl⟩
     case measure => simp [RowKit.intOf]; omega
    ·have HT0 : Hid (tA ats (nm.length + tx.length) = t) := Lib.hid (by rw [← hA.out, tA_over (by omega)])
     have h6 := tot_n h5
     clear hA h5
     go_wp2_with fail
     go_loopw [5, 7] (fun s v wr => ∃ (k t : Nat) (q : KeptT W1), v = .int .i64 (k : Int) ∧ k ≤ ks.length ∧ s = .int .i64 (t : Int) ∧ t ≤ 2 ^ 51 ∧ Hid (tK (ks.drop k) t = tK ks (tA ats (nm.length + tx.length))) ∧ wr = q.at) (fun _ v _ => ks.length - (RowKit.intOf v).toNat)
     case atStart => exact ⟨0, t, q, rfl, Nat.zero_le _, rfl, by omega, Lib.hid (by rw [List.drop_zero, HT0.out]), rfl⟩
     case round =>
      clear HT0 ht h6 hlt q
      obtain ⟨k, t, q, rfl, hk, rfl, ht, hA, rfl⟩ := hrel
      by_cases hlt : k < ks.length
      ·by_cases h5 : t ≤ 5000
       ·obtain ⟨o9, i9, j9, hv9, hi9, hkids⟩ := (HNQ.out q0).kids
        clear hi9
        simp only [Value.slice.injEq] at hv9
        obtain ⟨e9, e8, e7⟩ := hv9
        subst e9
        clear e8 e7
        rcases hkids with h0 | ⟨g, off, rfl, hg, hK⟩
        ·have h0' : ks = [] := h0
         rw [h0'] at hlt; cases hlt
        obtain ⟨ua, uk, hat, hon⟩ := KsOn.at (ks := ks) hK k hlt
        have hgl := cell_lt hat.1
        have hatq : ∀ q : KeptT W1, NdAt q.at g (off + k * 5) ks[k] ua uk := fun q => hat.move (HQQ.out q g hgl)
        have honq : ∀ q : KeptT W1, NdOn q.at F ks[k] ua uk := fun q => hon.move (fun b hb hF => ⟨hF, HQQ.out q b hb⟩)
        have hsk := smK_at HSA.out.2.2.2.2.2 k hlt
        have hc3 := cntK_at ks k hlt
        have htk := tT_le ks[k] hsk
        have hA2 : tK (ks.drop (k + 1)) (t + tT ks[k]) = tK ks (tA ats (nm.length + tx.length)) := by
         have := hA.out
         rw [List.drop_eq_getElem_cons hlt, tK, if_pos h5] at this
         exact this
        have HA2 := Lib.hid hA2
        clear hat hon hA hA2
        generalize ks[k] = kid at *
        obtain ⟨oa', ja', ok', jk', rfl, rfl⟩ := (honq q).form
        have hcall := fun q => HREC.out kid _ _ q (honq q) (by omega) hsk
        unfold ndV at hcall
        have HC := Lib.hid hcall
        have y0 := fun q => (hatq q).1
        have y1 := fun q => (hatq q).2.1
        have y2 := fun q => (hatq q).2.2.1
        have y3 := fun q => (hatq q).2.2.2.1
        have y4 := fun q => (hatq q).2.2.2.2
        have hT2 := tot_b (c := cntT kid) h5 htk (by omega)
        have hw1 := tot_w hT2
        have h6 := tot_i h5
        clear hatq honq hsk hc3 htk hcall hgl hK hg HREC HSA HNQ
        generalize t + tT kid = t2 at *
        generalize (tT kid : Int) = tk at *
        go_wp2_with fail
        refine (HC.out q).mono ?_
        rintro e _ ⟨rfl, q', rfl⟩
        go_wp2_with fail
        go_roundw
        case rel => exact ⟨k + 1, t2, q', by go_num, by omega, by rw [hw1], hT2, HA2, rfl⟩
        case measure => simp [RowKit.intOf]; omega
       ·have HT1 : Hid (tK ks (tA ats (nm.length + tx.length)) = t) := Lib.hid (by rw [← hA.out, tK_over (by omega)])
        have h6 := tot_n h5
        clear hA HREC HSA
        go_wp2_with fail
        go_ret
        exact ⟨by rw [HT1.out]; rfl, HUP.out _⟩
      ·have HT1 : Hid (tK ks (tA ats (nm.length + tx.length)) = t) := Lib.hid (by rw [← hA.out, List.drop_of_length_le (by omega), tK])
       have e : k = ks.length := by omega
       subst e
       clear hA HREC HSA
       go_wp2_with fail
       go_ret
       exact ⟨by rw [HT1.out]; rfl, HUP.out _⟩
   ·have HT0 : Hid (tA ats (nm.length + tx.length) = t) := Lib.hid (by rw [← hA.out, List.drop_of_length_le (by omega), tA])
    have e : k = ats.length := by omega
    subst e
    have h6 := hlt
    clear hA
    go_wp2_with fail
    go_loopw [5, 7] (fun s v wr => ∃ (k t : Nat) (q : KeptT W1), v = .int .i64 (k : Int) ∧ k ≤ ks.length ∧ s = .int .i64 (t : Int) ∧ t ≤ 2 ^ 51 ∧ Hid (tK (ks.drop k) t = tK ks (tA ats (nm.length + tx.length))) ∧ wr = q.at) (fun _ v _ => ks.length - (RowKit.intOf v).toNat)
    case atStart => exact ⟨0, t, q, rfl, Nat.zero_le _, rfl, by omega, Lib.hid (by rw [List.drop_zero, HT0.out]), rfl⟩
    case round =>
     clear HT0 ht h6 hlt q
     obtain ⟨k, t, q, rfl, hk, rfl, ht, hA, rfl⟩ := hrel
     by_cases hlt : k < ks.length
     ·by_cases h5 : t ≤ 5000
      ·obtain ⟨o9, i9, j9, hv9, hi9, hkids⟩ := (HNQ.out q0).kids
       clear hi9
       simp only [Value.slice.injEq] at hv9
       obtain ⟨e9, e8, e7⟩ := hv9
       subst e9
       clear e8 e7
       rcases hkids with h0 | ⟨g, off, rfl, hg, hK⟩
       ·have h0' : ks = [] := h0
        rw [h0'] at hlt; cases hlt
       obtain ⟨ua, uk, hat, hon⟩ := KsOn.at (ks := ks) hK k hlt
       have hgl := cell_lt hat.1
       have hatq : ∀ q : KeptT W1, NdAt q.at g (off + k * 5) ks[k] ua uk := fun q => hat.move (HQQ.out q g hgl)
       have honq : ∀ q : KeptT W1, NdOn q.at F ks[k] ua uk := fun q => hon.move (fun b hb hF => ⟨hF, HQQ.out q b hb⟩)
       have hsk := smK_at HSA.out.2.2.2.2.2 k hlt
       have hc3 := cntK_at ks k hlt
       have htk := tT_le ks[k] hsk
       have hA2 : tK (ks.drop (k + 1)) (t + tT ks[k]) = tK ks (tA ats (nm.length + tx.length)) := by
        have := hA.out
        rw [List.drop_eq_getElem_cons hlt, tK, if_pos h5] at this
        exact this
       have HA2 := Lib.hid hA2
       clear hat hon hA hA2
       generalize ks[k] = kid at *
       obtain ⟨oa', ja', ok', jk', rfl, rfl⟩ := (honq q).form
       have hcall := fun q => HREC.out kid _ _ q (honq q) (by omega) hsk
       unfold ndV at hcall
       have HC := Lib.hid hcall
       have y0 := fun q => (hatq q).1
       have y1 := fun q => (hatq q).2.1
       have y2 := fun q => (hatq q).2.2.1
       have y3 := fun q => (hatq q).2.2.2.1
       have y4 := fun q => (hatq q).2.2.2.2
       have hT2 := tot_b (c := cntT kid) h5 htk (by omega)
       have hw1 := tot_w hT2
       have h6 := tot_i h5
       clear hatq honq hsk hc3 htk hcall hgl hK hg HREC HSA HNQ
       generalize t + tT kid = t2 at *
       generalize (tT kid : Int) = tk at *
       go_wp2_with fail
       refine (HC.out q).mono ?_
       rintro e _ ⟨rfl, q', rfl⟩
       go_wp2_with fail
       go_roundw
       case rel => exact ⟨k + 1, t2, q', by go_num, by omega, by rw [hw1], hT2, HA2, rfl⟩
       case measure => simp [RowKit.intOf]; omega
      ·have HT1 : Hid (tK ks (tA ats (nm.length + tx.length)) = t) := Lib.hid (by rw [← hA.out, tK_over (by omega)])
       have h6 := tot_n h5
       clear hA HREC HSA
       go_wp2_with fail
       go_ret
       exact ⟨by rw [HT1.out]; rfl, HUP.out _⟩
     ·have HT1 : Hid (tK ks (tA ats (nm.length + tx.length)) = t) := Lib.hid (by rw [← hA.out, List.drop_of_length_le (by omega), tK])
      have e : k = ks.length := by omega
      subst e
      clear hA HREC HSA
      go_wp2_with fail
      go_ret
      exact ⟨by rw [HT1.out]; rfl, HUP.out _⟩
end Char
namespace Char
open Go.RowKit Go.Lib Go.Shelf
theorem gate_ok {t : Tr} (hf : fewB t = true) (ht : tT t ≤ 5000) (hs : smT (2 ^ 47) t) : cntT t ≤ 2000 ∧ smT 16000 t ∧ szT t < 2 ^ 63 := by
 have hc := fewB_cnt hf
 have h1 := tT_short t hs hc ht
 have h2 := sz_cnt8 t h1
 have h3 : cntT t * (2 ^ 43 + 1) ≤ 2000 * (2 ^ 43 + 1) := Nat.mul_le_mul_right _ hc
 exact ⟨hc, h1, by omega⟩
set_option maxRecDepth 100000 in
set_option maxHeartbeats 8000000 in
theorem writes_law (t : Tr) (va vk : Value) (w : World) (hn : NdOn w (fun b => b < w.heap.size) t va vk) (hs : smT (2 ^ 47) t) (hG : Gl6 w) :
  Calls Tryz.prog 3 #[ndV t va vk] w fun e w' => e = .returned (.bool true) ∧ Below w.heap.size w w' := by
 obtain ⟨oa, ja, ok, jk, rfl, rfl⟩ := hn.form
 obtain ⟨B, hB⟩ : ∃ B, B = w.heap.size := ⟨_, rfl⟩
 obtain ⟨W1, hW1⟩ : ∃ W1, W1 = w.alloc (.cells #[.int .i64 t.kd, .string (bs t.nm), .string (bs t.tx), .slice oa t.ats.length ja, .slice ok t.ks.length jk] 25) := ⟨_, rfl⟩
 have hb1 : Below w.heap.size w W1 := by rw [hW1]; exact (Below.refl _ _).alloc (Nat.le_refl _) _
 have hbk1 : W1.heap[B]? = some (.cells #[.int .i64 t.kd, .string (bs t.nm), .string (bs t.tx), .slice oa t.ats.length ja, .slice ok t.ks.length jk] 25 (0, 0)) := by rw [hW1, hB]; exact World.alloc_heap_new w _
 have hBl := block_of_heap hbk1
 have hbq : ∀ q : KeptT W1, q.at.heap[B]? = some (.cells #[.int .i64 t.kd, .string (bs t.nm), .string (bs t.tx), .slice oa t.ats.length ja, .slice ok t.ks.length jk] 25 (0, 0)) := fun q => (q.ok.block B hBl).trans hbk1
 have z0 : ∀ q : KeptT W1, q.at.cell? ⟨B, 0, none⟩ = some (.int .i64 t.kd) := fun q => cell_row (hbq q) rfl
 have z1 : ∀ q : KeptT W1, q.at.cell? ⟨B, 1, none⟩ = some (.string (bs t.nm)) := fun q => cell_row (hbq q) rfl
 have z2 : ∀ q : KeptT W1, q.at.cell? ⟨B, 2, none⟩ = some (.string (bs t.tx)) := fun q => cell_row (hbq q) rfl
 have z3 : ∀ q : KeptT W1, q.at.cell? ⟨B, 3, none⟩ = some (.slice oa t.ats.length ja) := fun q => cell_row (hbq q) rfl
 have z4 : ∀ q : KeptT W1, q.at.cell? ⟨B, 4, none⟩ = some (.slice ok t.ks.length jk) := fun q => cell_row (hbq q) rfl
 have hup : ∀ q : KeptT W1, Below w.heap.size w q.at := fun q => hb1.trans (q.ok.mono hb1.size)
 obtain ⟨q0, hq0⟩ : ∃ q0 : KeptT W1, W1 = q0.at := ⟨⟨W1, Below.refl _ _⟩, rfl⟩
 have hon : ∀ q : KeptT W1, NdOn q.at (fun b => b < q.at.heap.size) t (.slice oa t.ats.length ja) (.slice ok t.ks.length jk) := fun q => hn.move (fun b hb _ => ⟨Nat.lt_of_lt_of_le hb (hup q).size, (hup q).block b hb⟩)
 have hFW : ∀ q : KeptT W1, Calls Tryz.prog 7 #[.agg #[.int .i64 t.kd, .string (bs t.nm), .string (bs t.tx), .slice oa t.ats.length ja, .slice ok t.ks.length jk]] q.at fun e w' => e = .returned (.bool (fewB t)) ∧ ∃ q' : KeptT W1, w' = q'.at := fun q => (fewF_any t _ _ q.at (hon q)).mono fun e w' h => ⟨h.1, q.on h.2⟩
 have hWK : ∀ q : KeptT W1, Calls Tryz.prog 9 #[] q.at fun e w' => e = .returned (.bool true) ∧ ∃ q' : KeptT W1, w' = q'.at := fun q => (works8_any q.at (hG.below (hup q))).mono fun e w' h => ⟨h.1, q.on h.2⟩
 have HW1 := Lib.hid (hW1.symm.trans hq0)
 have HB := Lib.hid hB
 have HUP := Lib.hid hup
 have HFW := Lib.hid hFW
 have HWK := Lib.hid hWK
 have HON := Lib.hid hon
 have HSM := Lib.hid hs
 have HG := Lib.hid hG
 clear hW1 hb1 hbk1 hBl hbq hq0 hB hn hs hup hon hFW hWK hG
 unfold ndV
 cases hfew : fewB t with
 | false =>
  rw [hfew] at HFW
  clear hfew
  go_enter Tryz.func3, Tryz.ntmps3
  go_wp2_with fail
  rw [← HB.out, HW1.out]
  go_wp2_with (first | (go_at_call 7; (with_reducible refine (HFW.out _).mono ?_); rintro e _ ⟨rfl, q, rfl⟩) | (go_at_call 9; (with_reducible refine (HWK.out _).mono ?_); rintro e _ ⟨rfl, q, rfl⟩))
  go_ret
  exact ⟨rfl, by first | exact HUP.out _ | (rw [HB.out]; exact HUP.out _)⟩
 | true =>
  rw [hfew] at HFW
  have hTO : ∀ q : KeptT W1, Calls Tryz.prog 8 #[.agg #[.int .i64 t.kd, .string (bs t.nm), .string (bs t.tx), .slice oa t.ats.length ja, .slice ok t.ks.length jk], .int .i64 5000] q.at fun e w' => e = .returned (.int .i64 (tT t : Int)) ∧ ∃ q' : KeptT W1, w' = q'.at := fun q => (total_any 2000 t _ _ q.at _ (fewB_cnt hfew) (HON.out q) HSM.out (Nat.le_refl _)).mono fun e w' h => ⟨h.1, q.on h.2⟩
  have HTO := Lib.hid hTO
  by_cases h5 : tT t ≤ 5000
  ·obtain ⟨hc, hsm, hz⟩ := gate_ok hfew h5 HSM.out
   have h6 : decide ((5000 : Int) < (tT t : Int)) = false := decide_eq_false (by have := tot_i h5; omega)
   have hWR : ∀ q : KeptT W1, Calls Tryz.prog 10 #[.agg #[.int .i64 t.kd, .string (bs t.nm), .string (bs t.tx), .slice oa t.ats.length ja, .slice ok t.ks.length jk]] q.at fun e w' => e = .returned (.string (bs (wrL t))) ∧ ∃ q' : KeptT W1, w' = q'.at := fun q => (writeC_any t _ _ q.at (HON.out q) (by omega) hsm (HG.out.below (HUP.out q))).mono fun e w' h => ⟨h.1, q.on h.2⟩
   have hR : ∀ q : KeptT W1, Calls Tryz.prog 11 #[.agg #[.int .i64 t.kd, .string (bs t.nm), .string (bs t.tx), .slice oa t.ats.length ja, .slice ok t.ks.length jk]] q.at fun e w' => e = .returned (.bool (rightD t)) ∧ ∃ q' : KeptT W1, w' = q'.at := fun q => (refRights_any t _ _ q.at hc hz (HON.out q) (smT_le (by omega) t hsm)).mono fun e w' h => ⟨h.1, q.on h.2⟩
   have HWR := Lib.hid hWR
   have HR := Lib.hid hR
   cases hr : rightD t with
   | false =>
    rw [hr] at HR
    have hwl : wrL t = [] := if_neg (by rw [hr]; simp)
    rw [hwl, show bs [] = ⟨#[]⟩ from rfl] at HWR
    clear hr hwl hTO hWR hR hfew h5 hc hsm hz
    generalize (tT t : Int) = tt at *
    go_enter Tryz.func3, Tryz.ntmps3
    go_wp2_with fail
    rw [← HB.out, HW1.out]
    go_wp2_with (first
     | (go_at_call 7; (with_reducible refine (HFW.out _).mono ?_); rintro e _ ⟨rfl, q, rfl⟩)
     | (go_at_call 8; (with_reducible refine (HTO.out _).mono ?_); rintro e _ ⟨rfl, q, rfl⟩)
     | (go_at_call 10; (with_reducible refine (HWR.out _).mono ?_); rintro e _ ⟨rfl, q, rfl⟩)
     | (go_at_call 11; (with_reducible refine (HR.out _).mono ?_); rintro e _ ⟨rfl, q, rfl⟩)
     | (go_at_call 9; (with_reducible refine (HWK.out _).mono ?_); rintro e _ ⟨rfl, q, rfl⟩))
    go_ret
    exact ⟨rfl, by first | exact HUP.out _ | (rw [HB.out]; exact HUP.out _)⟩
   | true =>
    rw [hr] at HR
    rw [wrL_right hr] at HWR
    obtain ⟨hok, hml⟩ := right_ok hr hsm
    have hMU : ∀ q : KeptT W1, Calls Tryz.prog 12 #[.agg #[.int .i64 t.kd, .string (bs t.nm), .string (bs t.tx), .slice oa t.ats.length ja, .slice ok t.ks.length jk]] q.at fun e w' => e = .returned (.string (bs (mkT t))) ∧ ∃ q' : KeptT W1, w' = q'.at := fun q => (markup_any 2000 t _ _ q.at _ hc (HON.out q) hok (by omega)).mono fun e w' h => ⟨h.1, q.on h.2⟩
    have HMU := Lib.hid hMU
    clear hr hTO hWR hR hfew h5 hc hsm hz hMU hok hml
    generalize (tT t : Int) = tt at *
    generalize mkT t = M at *
    go_enter Tryz.func3, Tryz.ntmps3
    go_wp2_with fail
    rw [← HB.out, HW1.out]
    go_wp2_with (first
     | (go_at_call 7; (with_reducible refine (HFW.out _).mono ?_); rintro e _ ⟨rfl, q, rfl⟩)
     | (go_at_call 8; (with_reducible refine (HTO.out _).mono ?_); rintro e _ ⟨rfl, q, rfl⟩)
     | (go_at_call 10; (with_reducible refine (HWR.out _).mono ?_); rintro e _ ⟨rfl, q, rfl⟩)
     | (go_at_call 11; (with_reducible refine (HR.out _).mono ?_); rintro e _ ⟨rfl, q, rfl⟩)
     | (go_at_call 12; (with_reducible refine (HMU.out _).mono ?_); rintro e _ ⟨rfl, q, rfl⟩)
     | (go_at_call 9; (with_reducible refine (HWK.out _).mono ?_); rintro e _ ⟨rfl, q, rfl⟩))
    go_ret
    exact ⟨rfl, by first | exact HUP.out _ | (rw [HB.out]; exact HUP.out _)⟩
  ·have h6 : decide ((5000 : Int) < (tT t : Int)) = true := decide_eq_true (by have := tot_n h5; omega)
   clear hTO hfew h5
   generalize (tT t : Int) = tt at *
   go_enter Tryz.func3, Tryz.ntmps3
   go_wp2_with fail
   rw [← HB.out, HW1.out]
   go_wp2_with (first
    | (go_at_call 7; (with_reducible refine (HFW.out _).mono ?_); rintro e _ ⟨rfl, q, rfl⟩)
    | (go_at_call 8; (with_reducible refine (HTO.out _).mono ?_); rintro e _ ⟨rfl, q, rfl⟩)
    | (go_at_call 9; (with_reducible refine (HWK.out _).mono ?_); rintro e _ ⟨rfl, q, rfl⟩))
   go_ret
   exact ⟨rfl, by first | exact HUP.out _ | (rw [HB.out]; exact HUP.out _)⟩
end Char
end Go.Proofs.YtlmodgnkmlbjhaaGreatDoor
