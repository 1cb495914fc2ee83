import Derived.Test.YtlmodgnkmlbjhaaGreatDoorPkWr
import Derived.Test.YtlmodgnkmlbjhaaGreatDoorPkRtM
import Derived.Laws.Concat
namespace Go.Proofs.YtlmodgnkmlbjhaaGreatDoor
namespace Char
open Go.RowKit Go.Lib Go.Shelf
theorem add_bs8 (a b : List UInt8) (ha : a.length ≤ 100000000) (hb : b.length ≤ 100000000) (wx : World) : (Op.stringOp .add (bs a) (bs b)).run Tryz.prog wx = .ok (.string (bs (a ++ b))) wx := by
 have h1 := bs_size a
 have h2 := bs_size b
 rw [run_string_add_sum wx (bs a) (bs b) (by omega), bs_add]
theorem attr_flat (D n P : List UInt8) : ((((D ++ [32]) ++ n) ++ [61, 34]) ++ P) ++ [34] = D ++ (32 :: (n ++ 61 :: 34 :: (P ++ [34]))) := by simp
set_option maxRecDepth 100000 in
set_option maxHeartbeats 4000000 in
theorem markup_any : ∀ (c : Nat) (t : Tr) (va vk : Value) (w : World) (F : Nat → Prop), cntT t ≤ c → NdOn w F t va vk → okT t → (mkT t).length ≤ 90000000 →
  Calls Tryz.prog 12 #[ndV t va vk] w fun e w' => e = .returned (.string (bs (mkT t))) ∧ Below w.heap.size w w' := by
 intro c
 induction c with
 | zero => intro t va vk w F hc; have := cntT_pos t; omega
 | succ c ih =>
  intro t va vk w F hc hn ho hl
  obtain ⟨oa, ja, ok, jk, rfl, rfl⟩ := hn.form
  have hoa := okT_def.1 ho
  obtain ⟨kd, nm, tx, ats, ks⟩ := t
  simp only [Tr.kd, Tr.nm, Tr.tx, Tr.ats, Tr.ks] at hoa hn ⊢
  obtain ⟨B, hB⟩ : ∃ B, B = w.heap.size := ⟨_, rfl⟩
  obtain ⟨W1, hW1⟩ : ∃ W1, W1 = w.alloc (.cells #[.int .i64 kd, .string (bs nm), .string (bs tx), .slice oa ats.length ja, .slice ok ks.length jk] 25) := ⟨_, rfl⟩
  have b1 : Below w.heap.size w W1 := by rw [hW1]; exact (Below.refl _ _).alloc (Nat.le_refl _) _
  have hbk : W1.heap[B]? = some (.cells #[.int .i64 kd, .string (bs nm), .string (bs tx), .slice oa ats.length ja, .slice ok ks.length jk] 25 (0, 0)) := by rw [hW1, hB]; exact World.alloc_heap_new w _
  have hBl : B < W1.heap.size := by rw [hW1, hB]; simp
  have hbq : ∀ q : KeptT W1, q.at.heap[B]? = some (.cells #[.int .i64 kd, .string (bs nm), .string (bs tx), .slice oa ats.length ja, .slice ok ks.length jk] 25 (0, 0)) := fun q => (q.ok.block B hBl).trans hbk
  have z0 : ∀ q : KeptT W1, q.at.cell? ⟨B, 0, none⟩ = some (.int .i64 kd) := fun q => cell_row (hbq q) rfl
  have z1 : ∀ q : KeptT W1, q.at.cell? ⟨B, 1, none⟩ = some (.string (bs nm)) := fun q => cell_row (hbq q) rfl
  have z2 : ∀ q : KeptT W1, q.at.cell? ⟨B, 2, none⟩ = some (.string (bs tx)) := fun q => cell_row (hbq q) rfl
  have z3 : ∀ q : KeptT W1, q.at.cell? ⟨B, 3, none⟩ = some (.slice oa ats.length ja) := fun q => cell_row (hbq q) rfl
  have z4 : ∀ q : KeptT W1, q.at.cell? ⟨B, 4, none⟩ = some (.slice ok ks.length jk) := fun q => cell_row (hbq q) rfl
  have hup : ∀ q : KeptT W1, Below w.heap.size w q.at := fun q => b1.trans (q.ok.mono b1.size)
  have hnq : ∀ q : KeptT W1, NdOn q.at F (.mk kd nm tx ats ks) (.slice oa ats.length ja) (.slice ok ks.length jk) := fun q => hn.below (hup q)
  obtain ⟨q0, hq0⟩ : ∃ q0 : KeptT W1, W1 = q0.at := ⟨⟨W1, Below.refl _ _⟩, rfl⟩
  have hPut : ∀ (attr : Bool) (l : List UInt8) (q : KeptT W1), l.length ≤ 20000 → Calls Tryz.prog 22 #[.string (bs l), .bool attr] q.at fun e w' => e = .returned (.string (bs (putL attr l))) ∧ ∃ q' : KeptT W1, w' = q'.at := fun attr l q hl => (refPut_any l attr q.at (by omega)).mono fun e w' h => ⟨h.1, q, h.2.symm⟩
  have hREC : ∀ (k : Tr) (ua uk : Value) (q : KeptT W1), NdOn q.at F k ua uk → cntT k ≤ c → okT k → (mkT k).length ≤ 90000000 → Calls Tryz.prog 12 #[ndV k ua uk] q.at fun e w' => e = .returned (.string (bs (mkT k))) ∧ ∃ q' : KeptT W1, w' = q'.at := fun k ua uk q h1 h2 h3 h4 => (ih k ua uk q.at F h2 h1 h3 h4).mono fun e w' h => ⟨h.1, q.on h.2⟩
  unfold ndV
  simp only [Tr.kd, Tr.nm, Tr.tx]
  have HW1 := Lib.hid (hW1.symm.trans hq0)
  have HB := Lib.hid hB
  have HUP := Lib.hid hup
  have HNQ := Lib.hid hnq
  have HPUT := Lib.hid hPut
  have HREC := Lib.hid hREC
  have hqq : ∀ (q : KeptT W1) (b : Nat), b < q0.at.heap.size → q.at.heap[b]? = q0.at.heap[b]? := fun q b hb => by
   have hb' : b < W1.heap.size := by
    have e : W1.heap.size = q0.at.heap.size := congrArg (fun x => x.heap.size) hq0
    omega
   exact (q.ok.block b hb').trans (q0.ok.block b hb').symm
  have HQQ := Lib.hid hqq
  have HO := Lib.hid ho
  have hcq := cnt_eq (.mk kd nm tx ats ks)
  have hcl := cntK_len ks
  clear hW1 b1 hbk hBl hbq hup hnq hq0 hqq hB hn hPut hREC ho ih
  rcases hoa.1 with rfl | rfl | rfl | rfl
  ·rw [mkT_el] at hl ⊢
   simp only [List.length_cons, List.length_append, List.length_nil] at hl
   have A1 : ∀ wx, (Op.stringOp .add ⟨#[60]⟩ (bs nm)).run Tryz.prog wx = .ok (.string (bs (60 :: nm))) wx := add_bs8 [60] nm (by simp) (by omega)
   have hca := hoa.2.2.2.1
   have hck := hoa.2.2.2.2.2.1
   have HOA := Lib.hid hoa
   have hsz0 : cntK ks ≤ c := by have h1 : cntT (.mk 2 nm tx ats ks) = 1 + cntK ks := hcq; omega
   clear hoa hc hcq
   go_enter Tryz.func12, Tryz.ntmps12
   go_wp2_with fail
   rw [← HB.out, HW1.out]
   go_loopw [3, 4] (fun s v wr => ∃ (k : Nat) (q : KeptT W1), v = .int .i64 (k : Int) ∧ k ≤ ats.length ∧ s = .string (bs (60 :: (nm ++ atsL (ats.take k)))) ∧ wr = q.at) (fun _ v _ => ats.length - (RowKit.intOf v).toNat)
   case atStart => exact ⟨0, q0, rfl, Nat.zero_le _, by simp [atsL], rfl⟩
   case round =>
    obtain ⟨k, q, rfl, hk, rfl, rfl⟩ := hrel
    by_cases hlt : k < ats.length
    ·have hrd := fun q : KeptT W1 => AtsOn.reads (HNQ.out q).ats k hlt
     obtain ⟨g, off, rfl, hg, _⟩ := hrd q
     have r0 : ∀ q : KeptT W1, q.at.cell? ⟨g, off + k * 2, none⟩ = some (.string (bs ats[k].1)) := fun q => by
      obtain ⟨g', off', e, _, r, _⟩ := hrd q
      simp only [Option.some.injEq, Addr.mk.injEq] at e
      obtain ⟨rfl, rfl, _⟩ := e
      exact r
     have r1 : ∀ q : KeptT W1, q.at.cell? ⟨g, off + k * 2 + 1, none⟩ = some (.string (bs ats[k].2)) := fun q => by
      obtain ⟨g', off', e, _, _, r⟩ := hrd q
      simp only [Option.some.injEq, Addr.mk.injEq] at e
      obtain ⟨rfl, rfl, _⟩ := e
      exact r
     have hpa := HOA.out.2.2.2.2.1 ats[k] (List.getElem_mem hlt)
     have hle := atsL_le ats (k + 1)
     rw [atsL_take ats k hlt] at hle
     have hnx : 60 :: (nm ++ atsL (ats.take k)) ++ (32 :: (ats[k].1 ++ 61 :: 34 :: (putL true ats[k].2 ++ [34]))) = 60 :: (nm ++ atsL (ats.take (k + 1))) := by rw [atsL_take ats k hlt]; simp
     have HNX := Lib.hid hnx
     clear hrd hnx
     generalize ats[k] = a at *
     have HP := Lib.hid (fun q => HPUT.out true a.2 q hpa.2)
     simp only [List.length_cons, List.length_append, List.length_nil] at hle
     have hD : (60 :: (nm ++ atsL (ats.take k))).length + (a.1.length + (putL true a.2).length + 4) ≤ 90000000 := by
      simp only [List.length_cons, List.length_append]
      omega
     generalize 60 :: (nm ++ atsL (ats.take k)) = D at *
     generalize putL true a.2 = P at *
     have A2 : ∀ wx, (Op.stringOp .add (bs D) ⟨#[32]⟩).run Tryz.prog wx = .ok (.string (bs (D ++ [32]))) wx := add_bs8 D [32] (by omega) (by simp)
     have A3 : ∀ wx, (Op.stringOp .add (bs (D ++ [32])) (bs a.1)).run Tryz.prog wx = .ok (.string (bs ((D ++ [32]) ++ a.1))) wx := add_bs8 (D ++ [32]) a.1 (by simp; omega) (by omega)
     have A4 : ∀ wx, (Op.stringOp .add (bs ((D ++ [32]) ++ a.1)) ⟨#[61, 34]⟩).run Tryz.prog wx = .ok (.string (bs (((D ++ [32]) ++ a.1) ++ [61, 34]))) wx := add_bs8 ((D ++ [32]) ++ a.1) [61, 34] (by simp; omega) (by simp)
     have A5 : ∀ wx, (Op.stringOp .add (bs (((D ++ [32]) ++ a.1) ++ [61, 34])) (bs P)).run Tryz.prog wx = .ok (.string (bs ((((D ++ [32]) ++ a.1) ++ [61, 34]) ++ P))) wx := add_bs8 (((D ++ [32]) ++ a.1) ++ [61, 34]) P (by simp; omega) (by omega)
     have A6 : ∀ wx, (Op.stringOp .add (bs ((((D ++ [32]) ++ a.1) ++ [61, 34]) ++ P)) ⟨#[34]⟩).run Tryz.prog wx = .ok (.string (bs (60 :: (nm ++ atsL (ats.take (k + 1)))))) wx := fun wx => by
      rw [← HNX.out, ← attr_flat]
      exact add_bs8 ((((D ++ [32]) ++ a.1) ++ [61, 34]) ++ P) [34] (by simp; omega) (by simp) wx
     generalize (((D ++ [32]) ++ a.1) ++ [61, 34]) ++ P = D5 at *
     generalize ((D ++ [32]) ++ a.1) ++ [61, 34] = D4 at *
     generalize (D ++ [32]) ++ a.1 = D3 at *
     generalize D ++ [32] = D2 at *
     clear hle hD hpa HPUT HREC HOA HO
     go_wp2_with fail
     refine wp_region_kept (KeptT W1) KeptT.at (by kernel_rfl) (by kernel_rfl) (q.on (Below.refl _ _).drew) ?_
     repeat (go_big_quiet_step (first
      | (go_at_call 22; rename_i q; exact HP.out q)))
     refine wpQuiet_nil ?_
     rintro w' ⟨q', rfl⟩
     go_wp2_with fail
     go_roundw
     case rel => exact ⟨k + 1, q', by go_num, by omega, rfl, rfl⟩
     case measure => simp [RowKit.intOf]; omega
    ·have e : k = ats.length := by omega
     subst e
     rw [List.take_length]
     have A2 : ∀ wx, (Op.stringOp .add (bs (60 :: (nm ++ atsL ats))) ⟨#[62]⟩).run Tryz.prog wx = .ok (.string (bs (60 :: (nm ++ (atsL ats ++ [62]))))) wx := fun wx => by
      have := add_bs8 (60 :: (nm ++ atsL ats)) [62] (by simp; omega) (by simp) wx
      rwa [show 60 :: (nm ++ atsL ats) ++ [62] = 60 :: (nm ++ (atsL ats ++ [62])) by simp] at this
     generalize 60 :: (nm ++ atsL ats) = D at *
     clear HPUT
     go_wp2_with fail
     go_loopw [3, 5] (fun s v wr => ∃ (k : Nat) (q : KeptT W1), v = .int .i64 (k : Int) ∧ k ≤ ks.length ∧ s = .string (bs (60 :: (nm ++ (atsL ats ++ 62 :: mkK (ks.take k))))) ∧ wr = q.at) (fun _ v _ => ks.length - (RowKit.intOf v).toNat)
     case atStart => exact ⟨0, q, rfl, Nat.zero_le _, by rw [List.take_zero, show mkK [] = [] by rw [mkK]], rfl⟩
     case round =>
      clear A2 q
      obtain ⟨k, q, rfl, hk, rfl, rfl⟩ := hrel
      by_cases hlt : k < ks.length
      ·obtain ⟨o9, i9, j9, hv9, hi9, hkids⟩ := (HNQ.out q0).kids
       clear hi9
       simp only [Value.slice.injEq] at hv9
       obtain ⟨e9, e8, e7⟩ := hv9
       subst e9
       clear e8 e7
       rcases hkids with h0 | ⟨g, off, rfl, hg, hK⟩
       ·have h0' : ks = [] := h0
        rw [h0'] at hlt; cases hlt
       obtain ⟨ua, uk, hat, hon⟩ := KsOn.at (ks := ks) hK k hlt
       have hgl := cell_lt hat.1
       have hatq : ∀ q : KeptT W1, NdAt q.at g (off + k * 5) ks[k] ua uk := fun q => hat.move (HQQ.out q g hgl)
       have honq : ∀ q : KeptT W1, NdOn q.at F ks[k] ua uk := fun q => hon.move (fun b hb hF => ⟨hF, HQQ.out q b hb⟩)
       have hok := okK_at HOA.out.2.2.2.2.2.2 k hlt
       have hle := mkK_le ks (k + 1)
       rw [mkK_take ks k hlt, List.length_append] at hle
       have hc3 := cntK_at ks k hlt
       have hnx : 60 :: (nm ++ (atsL ats ++ 62 :: mkK (ks.take k))) ++ mkT ks[k] = 60 :: (nm ++ (atsL ats ++ 62 :: mkK (ks.take (k + 1)))) := by rw [mkK_take ks k hlt]; simp
       have HNX := Lib.hid hnx
       clear hat hon hnx
       generalize ks[k] = kid at *
       obtain ⟨oa', ja', ok', jk', rfl, rfl⟩ := (honq q).form
       have hcall := fun q => HREC.out kid _ _ q (honq q) (by omega) hok (by omega)
       unfold ndV at hcall
       have HC := Lib.hid hcall
       have y0 := fun q => (hatq q).1
       have y1 := fun q => (hatq q).2.1
       have y2 := fun q => (hatq q).2.2.1
       have y3 := fun q => (hatq q).2.2.2.1
       have y4 := fun q => (hatq q).2.2.2.2
       have A2 : ∀ wx, (Op.stringOp .add (bs (60 :: (nm ++ (atsL ats ++ 62 :: mkK (ks.take k))))) (bs (mkT kid))).run Tryz.prog wx = .ok (.string (bs (60 :: (nm ++ (atsL ats ++ 62 :: mkK (ks.take (k + 1))))))) wx := fun wx => by
        rw [← HNX.out]
        exact add_bs8 _ (mkT kid) (by simp only [List.length_cons, List.length_append]; omega) (by omega) wx
       clear hatq honq hok hle hc3 hcall hgl hK hg HREC HOA HNQ
       generalize mkT kid = M at *
       generalize 60 :: (nm ++ (atsL ats ++ 62 :: mkK (ks.take k))) = D at *
       go_wp2_with fail
       refine (HC.out q).mono ?_
       rintro e _ ⟨rfl, q', rfl⟩
       go_wp2_with fail
       go_roundw
       case rel => exact ⟨k + 1, q', by go_num, by omega, rfl, rfl⟩
       case measure => simp [RowKit.intOf]; omega
      ·have e : k = ks.length := by omega
       subst e
       rw [List.take_length]
       have A2 : ∀ wx, (Op.stringOp .add (bs (60 :: (nm ++ (atsL ats ++ 62 :: mkK ks)))) ⟨#[60, 47]⟩).run Tryz.prog wx = .ok (.string (bs (60 :: (nm ++ (atsL ats ++ 62 :: mkK ks)) ++ [60, 47]))) wx := add_bs8 _ [60, 47] (by simp only [List.length_cons, List.length_append]; omega) (by simp)
       have A3 : ∀ wx, (Op.stringOp .add (bs (60 :: (nm ++ (atsL ats ++ 62 :: mkK ks)) ++ [60, 47])) (bs nm)).run Tryz.prog wx = .ok (.string (bs ((60 :: (nm ++ (atsL ats ++ 62 :: mkK ks)) ++ [60, 47]) ++ nm))) wx := add_bs8 _ nm (by simp only [List.length_cons, List.length_append, List.length_nil]; omega) (by omega)
       have A4 : ∀ wx, (Op.stringOp .add (bs ((60 :: (nm ++ (atsL ats ++ 62 :: mkK ks)) ++ [60, 47]) ++ nm)) ⟨#[62]⟩).run Tryz.prog wx = .ok (.string (bs (60 :: (nm ++ (atsL ats ++ 62 :: (mkK ks ++ 60 :: 47 :: (nm ++ [62]))))))) wx := fun wx => by
        have := add_bs8 ((60 :: (nm ++ (atsL ats ++ 62 :: mkK ks)) ++ [60, 47]) ++ nm) [62] (by simp only [List.length_cons, List.length_append, List.length_nil]; omega) (by simp) wx
        rwa [show ((60 :: (nm ++ (atsL ats ++ 62 :: mkK ks)) ++ [60, 47]) ++ nm) ++ [62] = 60 :: (nm ++ (atsL ats ++ 62 :: (mkK ks ++ 60 :: 47 :: (nm ++ [62])))) by simp] at this
       generalize (60 :: (nm ++ (atsL ats ++ 62 :: mkK ks)) ++ [60, 47]) ++ nm = D3 at *
       generalize 60 :: (nm ++ (atsL ats ++ 62 :: mkK ks)) ++ [60, 47] = D2 at *
       generalize 60 :: (nm ++ (atsL ats ++ 62 :: mkK ks)) = D at *
       obtain ⟨D4, hD4⟩ : ∃ D4, 60 :: (nm ++ (atsL ats ++ 62 :: (mkK ks ++ 60 :: 47 :: (nm ++ [62])))) = D4 := ⟨_, rfl⟩
       rw [hD4] at A4
       have HD4 := Lib.hid hD4
       clear hD4
       go_wp2_with fail
       go_ret
       exact ⟨by rw [HD4.out]; rfl, HUP.out _⟩
  ·rw [mkT_tx] at hl ⊢
   have HP := Lib.hid (fun q => HPUT.out false tx q hoa.2.2.1)
   clear HPUT HREC HNQ HO hoa hcq hcl hc
   generalize putL false tx = X at *
   go_enter Tryz.func12, Tryz.ntmps12
   go_wp2_with fail
   rw [← HB.out, HW1.out]
   go_wp2_with (go_at_call 22; (with_reducible refine (HP.out _).mono ?_); rintro e _ ⟨rfl, q, rfl⟩)
   go_ret
   exact ⟨rfl, HUP.out _⟩
  ·rw [mkT_co] at hl ⊢
   simp only [List.length_cons, List.length_append] at hl
   have A1 : ∀ wx, (Op.stringOp .add ⟨#[60, 33, 45, 45]⟩ (bs tx)).run Tryz.prog wx = .ok (.string (bs (60 :: 33 :: 45 :: 45 :: tx))) wx := add_bs8 [60, 33, 45, 45] tx (by simp) (by omega)
   have A2 : ∀ wx, (Op.stringOp .add (bs (60 :: 33 :: 45 :: 45 :: tx)) ⟨#[45, 45, 62]⟩).run Tryz.prog wx = .ok (.string (bs (60 :: 33 :: 45 :: 45 :: (tx ++ [45, 45, 62])))) wx := add_bs8 (60 :: 33 :: 45 :: 45 :: tx) [45, 45, 62] (by simp; omega) (by simp)
   clear HPUT HREC HNQ HO hoa hcq hcl hc hl
   go_enter Tryz.func12, Tryz.ntmps12
   go_wp2_with fail
   go_ret
   exact ⟨rfl, by rw [HW1.out]; exact HUP.out _⟩
  ·rw [mkT_in] at hl ⊢
   by_cases he : tx = []
   ·rw [if_pos he] at hl ⊢
    simp only [List.length_cons, List.length_append] at hl
    have he2 : (bs tx).toList.isEmpty = true := by rw [bs_tl, he]; rfl
    have he3 : (bs tx).toList = [] := by rw [bs_tl, he]
    have A1 : ∀ wx, (Op.stringOp .add ⟨#[60, 63]⟩ (bs nm)).run Tryz.prog wx = .ok (.string (bs (60 :: 63 :: nm))) wx := add_bs8 [60, 63] nm (by simp) (by omega)
    have A2 : ∀ wx, (Op.stringOp .add (bs (60 :: 63 :: nm)) ⟨#[63, 62]⟩).run Tryz.prog wx = .ok (.string (bs (60 :: 63 :: (nm ++ [63, 62])))) wx := add_bs8 (60 :: 63 :: nm) [63, 62] (by simp; omega) (by simp)
    clear HPUT HREC HNQ HO hoa hcq hcl hc hl he
    go_enter Tryz.func12, Tryz.ntmps12
    go_wp2_with fail
    go_ret
    exact ⟨rfl, by rw [HW1.out]; exact HUP.out _⟩
   ·rw [if_neg he] at hl ⊢
    simp only [List.length_cons, List.length_append] at hl
    have he2 : (bs tx).toList.isEmpty = false := by rw [bs_tl]; simpa using he
    have he3 : ¬ (bs tx).toList = [] := by rw [bs_tl]; exact he
    have A1 : ∀ wx, (Op.stringOp .add ⟨#[60, 63]⟩ (bs nm)).run Tryz.prog wx = .ok (.string (bs (60 :: 63 :: nm))) wx := add_bs8 [60, 63] nm (by simp) (by omega)
    have A2 : ∀ wx, (Op.stringOp .add (bs (60 :: 63 :: nm)) ⟨#[32]⟩).run Tryz.prog wx = .ok (.string (bs (60 :: 63 :: (nm ++ [32])))) wx := add_bs8 (60 :: 63 :: nm) [32] (by simp; omega) (by simp)
    have A3 : ∀ wx, (Op.stringOp .add (bs (60 :: 63 :: (nm ++ [32]))) (bs tx)).run Tryz.prog wx = .ok (.string (bs (60 :: 63 :: ((nm ++ [32]) ++ tx)))) wx := add_bs8 (60 :: 63 :: (nm ++ [32])) tx (by simp; omega) (by omega)
    have A4 : ∀ wx, (Op.stringOp .add (bs (60 :: 63 :: ((nm ++ [32]) ++ tx))) ⟨#[63, 62]⟩).run Tryz.prog wx = .ok (.string (bs (60 :: 63 :: (nm ++ 32 :: (tx ++ [63, 62]))))) wx := fun wx => by
     have := add_bs8 (60 :: 63 :: ((nm ++ [32]) ++ tx)) [63, 62] (by simp; omega) (by simp) wx
     rwa [show 60 :: 63 :: ((nm ++ [32]) ++ tx) ++ [63, 62] = 60 :: 63 :: (nm ++ 32 :: (tx ++ [63, 62])) by simp] at this
    generalize 60 :: 63 :: ((nm ++ [32]) ++ tx) = X3 at *
    generalize 60 :: 63 :: (nm ++ [32]) = X2 at *
    generalize 60 :: 63 :: (nm ++ 32 :: (tx ++ [63, 62])) = X4 at *
    clear HPUT HREC HNQ HO hoa hcq hcl hc hl he
    go_enter Tryz.func12, Tryz.ntmps12
    go_wp2_with fail
    go_ret
    exact ⟨rfl, by rw [HW1.out]; exact HUP.out _⟩
end Char
end Go.Proofs.YtlmodgnkmlbjhaaGreatDoor
