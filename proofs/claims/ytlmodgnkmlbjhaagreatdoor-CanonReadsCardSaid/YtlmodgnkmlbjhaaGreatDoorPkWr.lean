import Derived.Test.YtlmodgnkmlbjhaaGreatDoorPkLay
import Derived.Test.YtlmodgnkmlbjhaaGreatDoorGrP
import Derived.Test.YtlmodgnkmlbjhaaGreatDoorPkFew
import Derived.Deep.RegionHeld3
import Derived.Test.YtlmodgnkmlbjhaaGreatDoorPkPut
import Derived.Test.YtlmodgnkmlbjhaaGreatDoorRightW
import Derived.Test.YtlmodgnkmlbjhaaGreatDoorPkFit
import Derived.Test.YtlmodgnkmlbjhaaGreatDoorPkSm
namespace Go.Proofs.YtlmodgnkmlbjhaaGreatDoor
set_option maxHeartbeats 4000000
set_option maxRecDepth 100000
namespace Char
open Go.RowKit Go.Lib Go.Shelf
theorem BlC.below {B b : Nat} {l : List UInt8} {w w' : World} (h : BlC B b l w) (hb : Below w.heap.size w w') : BlC B b l w' := by
 have one : ∀ p, Lib.BuilderAtF 48 5 B b p (Lib.byteCells l) w → Lib.BuilderAtF 48 5 B b p (Lib.byteCells l) w' := by
  intro p h1
  have hlt := h1.lt
  obtain ⟨hB, v, hbk, hown, hne⟩ := h1
  refine ⟨hB, v, (hb.block b hlt).trans hbk, ⟨hown.1, ?_⟩, hne⟩
  rcases hown.2 with h2 | ⟨g, cap, cur, fz, e1, e2, hg, e3⟩
  ·exact .inl h2
  ·exact .inr ⟨g, cap, cur, fz, e1, e2, (hb.block g (Array.getElem?_eq_some_iff.1 hg).1).trans hg, e3⟩
 exact h.elim (fun x => .inl (one _ x)) (fun x => .inr (one _ x))
theorem others_below {b : Option Nat} {e : TypeId} {w w' : World} (hb : Below w.heap.size w w') : Lib.OthersKept e b w w' := fun k _ hk _ _ => (hb.block k (Array.getElem?_eq_some_iff.1 hk).1).trans hk
theorem BlPost.of_below {B b : Nat} {l : List UInt8} {w w' : World} (h : BlC B b l w) (hBw : B ≤ w.heap.size) (hb : Below w.heap.size w w') : BlPost B b l w w' := ⟨h.below hb, hb.mono hBw, others_below hb⟩
theorem BlPost.call {B b : Nat} {l : List UInt8} {W w1 : World} (d : Nat) (h : BlC B b l W) (hBw : B ≤ W.heap.size) (hb : Below (W.drewN d).heap.size (W.drewN d) w1) : BlPost B b l W w1 := by
 have h1 : Below W.heap.size W (W.drewN d) := ⟨rfl, rfl, rfl, Nat.le_refl _, fun _ _ => rfl⟩
 exact .of_below h hBw (h1.trans hb)
theorem BlPost.ge {B b : Nat} {l : List UInt8} {w w1 : World} (h : BlPost B b l w w1) (hBw : B ≤ w.heap.size) : B ≤ w1.heap.size := Nat.le_trans hBw h.2.1.size
theorem textC_any (B b : Nat) (acc : List UInt8) (kd : Int) (nm tx : List UInt8) (va vk : Value) (w : World) (h : BlC B b acc w) (hBw : B ≤ w.heap.size) (ht : tx.length ≤ 20000) (hl : acc.length + (putL false tx).length ≤ 90000000) :
  Calls Tryz.prog 47 #[.pointer (some ⟨b, 0, none⟩), .agg #[.int .i64 kd, .string (bs nm), .string (bs tx), va, vk]] w fun e w' => e = .returned (.tuple #[]) ∧ BlPost B b (acc ++ putL false tx) w w' := by
 have hsW : B ≤ (w.alloc (.cells #[.int .i64 kd, .string (bs nm), .string (bs tx), va, vk] 25)).heap.size := by simp; omega
 have HP := hid (fun W => Put_any tx W (by omega))
 have HK := hid (fun w1 (hb : Below _ _ w1) => BlPost.call 1 (h.alloc (.cells #[.int .i64 kd, .string (bs nm), .string (bs tx), va, vk] 25)) hsW hb)
 obtain ⟨X, hX⟩ : ∃ X, putL false tx = X := ⟨_, rfl⟩
 rw [hX] at HP hl ⊢
 clear hX h
 go_enter Tryz.func47, Tryz.ntmps47
 go_wp2_with fail
 go_region_with (first | (go_at_call 80; refine (HP.out _).mono ?_; rintro e w1 ⟨rfl, hb1⟩) | (go_at_call 78; refine (lay_at0 [X] (HK.out w1 hb1).1 (out := acc ++ X) (by simp) (by simp; omega) (by simp) ((HK.out w1 hb1).ge hsW) rfl rfl rfl 0).mono ?_; rintro e w2 ⟨rfl, hp⟩))
 exact ⟨rfl, .tuple #[], by simp [results, go_sem], rfl, ((HK.out w1 hb1).trans hp).alloc _ hBw⟩
theorem cell_keep {w : World} {g k : Nat} {v : Value} (o : Obj) (h : w.cell? ⟨g, k, none⟩ = some v) : (w.alloc o).cell? ⟨g, k, none⟩ = some v := by
 have h1 := cell_lt h
 rw [World.cell?_alloc_past _ _ _ h1]
 exact h
def AttC (B b : Nat) (w : World) (acc : List UInt8) (t : Tr) (k : Nat) (wr : World) : Prop := k ≤ t.ats.length ∧ BlPost B b (acc ++ 60 :: (t.nm ++ atsL (t.ats.take k))) w wr
theorem AttC.step {B b : Nat} {w wr w2 : World} {acc : List UInt8} {t : Tr} {k : Nat} (h : AttC B b w acc t k wr) (hk : k < t.ats.length) (hp : BlPost B b (acc ++ 60 :: (t.nm ++ atsL (t.ats.take k)) ++ (32 :: (t.ats[k].1 ++ 61 :: 34 :: (putL true t.ats[k].2 ++ [34])))) wr w2) : AttC B b w acc t (k + 1) w2 := by
 refine ⟨hk, ?_⟩
 rw [atsL_take t.ats k hk]
 have := h.2.trans hp
 simpa using this
def KidC (B b : Nat) (w : World) (acc : List UInt8) (t : Tr) (k : Nat) (wr : World) : Prop := k ≤ t.ks.length ∧ BlPost B b (acc ++ 60 :: (t.nm ++ (atsL t.ats ++ 62 :: mkK (t.ks.take k)))) w wr
theorem KidC.step {B b : Nat} {w wr w2 : World} {acc : List UInt8} {t : Tr} {k : Nat} (h : KidC B b w acc t k wr) (hk : k < t.ks.length) (hp : BlPost B b (acc ++ 60 :: (t.nm ++ (atsL t.ats ++ 62 :: mkK (t.ks.take k))) ++ mkT t.ks[k]) wr w2) : KidC B b w acc t (k + 1) w2 := by
 refine ⟨hk, ?_⟩
 rw [mkK_take t.ks k hk]
 have := h.2.trans hp
 simpa using this
def NodeC (c B b : Nat) : Prop := ∀ (acc : List UInt8) (t : Tr) (va vk : Value) (w : World), cntT t ≤ c → BlC B b acc w → B ≤ w.heap.size → NdOn w (fun g => g < B) t va vk → okT t → acc.length + (mkT t).length ≤ 90000000 →
  Calls Tryz.prog 18 #[.pointer (some ⟨b, 0, none⟩), ndV t va vk] w fun e w' => e = .returned (.tuple #[]) ∧ BlPost B b (acc ++ mkT t) w w'
theorem element_any (c B b : Nat) (ih : NodeC c B b) (acc : List UInt8) (t : Tr) (va vk : Value) (w : World) (hcnt : cntT t ≤ c + 1) (h : BlC B b acc w) (hBw : B ≤ w.heap.size) (hn : NdOn w (fun g => g < B) t va vk) (hk : t.kd = 2) (ho : okT t) (hl : acc.length + (mkT t).length ≤ 90000000) :
  Calls Tryz.prog 46 #[.pointer (some ⟨b, 0, none⟩), ndV t va vk] w fun e w' => e = .returned (.tuple #[]) ∧ BlPost B b (acc ++ mkT t) w w' := by
 obtain ⟨oa, ja, ok, jk, rfl, rfl⟩ := hn.form
 have hl2 : acc.length + (1 + (t.nm.length + ((atsL t.ats).length + (1 + ((mkK t.ks).length + (t.nm.length + 3)))))) ≤ 90000000 := by
  obtain ⟨kd, nm, tx, ats, ks⟩ := t
  obtain rfl : kd = 2 := hk
  rw [mkT_el] at hl
  simp only [List.length_cons, List.length_append, List.length_nil] at hl
  show acc.length + (1 + (nm.length + ((atsL ats).length + (1 + ((mkK ks).length + (nm.length + 3)))))) ≤ 90000000
  omega
 have hout : mkT t = 60 :: (t.nm ++ (atsL t.ats ++ 62 :: (mkK t.ks ++ 60 :: 47 :: (t.nm ++ [62])))) := by
  obtain ⟨kd, nm, tx, ats, ks⟩ := t
  obtain rfl : kd = 2 := hk
  exact mkT_el
 unfold ndV
 obtain ⟨X, hX⟩ : ∃ X, X = Obj.cells #[.int .i64 t.kd, .string (bs t.nm), .string (bs t.tx), .slice oa t.ats.length ja, .slice ok t.ks.length jk] 25 := ⟨_, rfl⟩
 have hb0 := h.lt
 have hsX : B ≤ (w.alloc X).heap.size := by simp; omega
 have HL := hid (lay_at0 (B := B) (b := b) (acc := acc) [[60], t.nm] (W := w.alloc X) (g := w.heap.size + 1) (out := acc ++ 60 :: t.nm) (n := 2) (h.alloc _) (by simp) (by simp; omega) (by simp) hsX (by simp) rfl rfl 1)
 have hbx : ∀ W2, Lib.OthersKept 5 (some b) (w.alloc X) W2 → W2.heap[w.heap.size]? = some X := fun W2 hW => hW _ _ (World.alloc_heap_new w X) (fun e => by injection e with e; omega) (fun c f e => by rw [hX] at e; injection e with _ e2 _; exact absurd e2 (by decide))
 have HBX := hid hbx
 have hnd : ∀ W2, Below B (w.alloc X) W2 → NdOn W2 (fun g => g < B) t (.slice oa t.ats.length ja) (.slice ok t.ks.length jk) := fun W2 hW => hn.move (fun g hg hgB => ⟨hgB, (((Below.refl B w).alloc hBw X).trans hW).block g hgB⟩)
 have HND := hid hnd
 have HKD := hid hk
 have HO := hid ho
 have HOUT := hid hout
 have hoa := okT_def.1 ho
 have hca := hoa.2.2.2.1
 have hck := hoa.2.2.2.2.2.1
 clear hk ho hl hbx hnd hn hout hoa h
 subst hX
 go_enter Tryz.func46, Tryz.ntmps46
 go_wp2_with fail
 go_region_with (go_at_call 78; refine HL.out.mono ?_; rintro e w2 ⟨rfl, hp⟩)
 have hc3 : w2.cell? ⟨w.heap.size, 3, none⟩ = some (.slice oa t.ats.length ja) := by rw [Lib.cell_of_heap (HBX.out w2 hp.2.2)]; rfl
 have hs2 := hp.ge hsX
 have HP := hid hp
 clear hp
 go_wp2_with fail
 go_loopw [18] (fun v wr => ∃ k : Nat, v = .int .i64 (k : Int) ∧ AttC B b w2 acc t k wr) (fun v _ => t.ats.length - (RowKit.intOf v).toNat)
 case atStart => exact ⟨0, rfl, Nat.zero_le _, by rw [List.take_zero, show atsL [] = [] from rfl, List.append_nil]; exact ⟨HP.out.1, Below.refl _ _, Lib.OthersKept.refl _ _ _⟩⟩
 case round =>
  obtain ⟨k, rfl, hk⟩ := hrel
  by_cases hlt : k < t.ats.length
  ·obtain ⟨g, off, rfl, hg, r0, r1⟩ := AtsOn.reads (HND.out wr (HP.out.2.1.trans hk.2.2.1)).ats k hlt
   have hpa := (okT_def.1 HO.out).2.2.2.2.1 t.ats[k] (List.getElem_mem hlt)
   have hle := atsL_le t.ats (k + 1)
   rw [atsL_take t.ats k hlt] at hle
   have HK := hid hk
   have hbk := hk.2.1
   have hsr := hk.2.ge hs2
   have hst := fun w3 => AttC.step (w2 := w3) hk hlt
   clear hk
   generalize t.ats[k] = a at *
   have HPA := hid (fun W => PutAttr_any a.2 W (by omega))
   have HST := hid hst
   have HBK := hid hbk
   obtain ⟨W2, hW2⟩ : ∃ W2, W2 = wr.alloc (.cells #[.string (bs a.1), .string (bs a.2)] 40) := ⟨_, rfl⟩
   have hsA : B ≤ W2.heap.size := by rw [hW2]; simp; omega
   have hbA : BlC B b (acc ++ 60 :: (t.nm ++ atsL (t.ats.take k))) W2 := by rw [hW2]; exact hbk.alloc _
   have aft : ∀ W3, Lib.OthersKept 5 (some b) W2 W3 → W3.cell? ⟨wr.heap.size, 0, none⟩ = some (.string (bs a.1)) ∧ W3.cell? ⟨wr.heap.size, 1, none⟩ = some (.string (bs a.2)) := fun W3 h3 => by
    have hb := hbk.lt
    have h4 := kept_row (g := wr.heap.size) (by rw [hW2]; exact World.alloc_heap_new wr _) (by decide) (by omega) h3
    exact ⟨cell_row h4 rfl, cell_row h4 rfl⟩
   have a01 := aft W2 (Lib.OthersKept.refl _ _ _)
   have a0 := a01.1
   have a1 := a01.2
   have HAFT := hid aft
   have HKA := hid (fun w3 (hb : Below _ _ w3) => BlPost.call 1 hbA hsA hb)
   have HUP := hid (fun D' w4 (h4 : BlPost B b D' W2 w4) => (show BlPost B b D' wr w4 by rw [hW2] at h4; exact h4.alloc _ hsr))
   obtain ⟨P, hP⟩ : ∃ P, putL true a.2 = P := ⟨_, rfl⟩
   rw [hP] at HPA HST hle
   have hlen : (acc ++ 60 :: (t.nm ++ atsL (t.ats.take k))).length + (a.1.length + P.length + 4) ≤ 90000000 := by
    simp only [List.length_append, List.length_cons, List.length_nil] at hle ⊢
    omega
   generalize acc ++ 60 :: (t.nm ++ atsL (t.ats.take k)) = D at *
   have HW2 := hid hW2
   clear hst hbk hP hle hpa hbA aft a01 hW2
   go_wp2_with fail
   rw [← HW2.out]
   go_region_held3 (fun w' => w'.cell? ⟨wr.heap.size, 0, none⟩ = some (.string (bs a.1)) ∧ w'.cell? ⟨wr.heap.size, 1, none⟩ = some (.string (bs a.2)))
    (first | exact ⟨a0, a1⟩ | exact ⟨c0, c1⟩ | exact ⟨e0, e1⟩ | exact ⟨cell_keep _ c0, cell_keep _ c1⟩)
    (first
     | (go_at_call 79; refine (HPA.out _).mono ?_; rintro e w3 ⟨rfl, hb3⟩; obtain ⟨c0, c1⟩ := HAFT.out w3 (HKA.out w3 hb3).2.2)
     | (go_at_call 78; refine (lay_at0 [[32], a.1, [61, 34], P, [34]] (HKA.out w3 hb3).1 (out := D ++ 32 :: (a.1 ++ 61 :: 34 :: (P ++ [34]))) (by simp) (by simp; omega) (by simp) ((HKA.out w3 hb3).ge hsA) rfl rfl rfl 0).mono ?_; rintro e w4 ⟨rfl, hp4⟩; obtain ⟨e0, e1⟩ := HAFT.out w4 ((HKA.out w3 hb3).2.2.trans hp4.2.2)))
   have HN := hid (HST.out w4 (HUP.out _ w4 ((HKA.out w3 hb3).trans hp4)))
   clear hp4 hb3
   go_wp2_with fail
   go_roundw
   case rel => exact ⟨k + 1, by go_num, HN.out⟩
   case measure => simp [RowKit.intOf]; omega
  ·have e : k = t.ats.length := by have := hk.1; omega
   subst e
   have hk2 := hk.2
   rw [List.take_length] at hk2
   have hs3 := hk2.ge hs2
   have HK := hid hk2
   clear hk hk2
   go_wp2_with fail
   refine (lay_at0 [[62]] HK.out.1 (out := acc ++ 60 :: (t.nm ++ (atsL t.ats ++ [62]))) (by simp) (by simp; omega) (by simp) hs3 rfl rfl rfl 0).mono ?_
   rintro e w5 ⟨rfl, hp5⟩
   have hp6 := HP.out.trans (HK.out.trans hp5)
   have hbx6 := HBX.out w5 hp6.2.2
   have c4 : w5.cell? ⟨w.heap.size, 4, none⟩ = some (.slice ok t.ks.length jk) := cell_row hbx6 rfl
   have hs5 := hp6.ge hsX
   have HP6 := hid hp6
   clear hp5 hp6 hbx6 HK HP
   go_wp2_with fail
   go_loopw [41] (fun v wr => ∃ k : Nat, v = .int .i64 (k : Int) ∧ KidC B b w5 acc t k wr) (fun v _ => t.ks.length - (RowKit.intOf v).toNat)
   case atStart => exact ⟨0, rfl, Nat.zero_le _, by rw [List.take_zero, show mkK [] = [] from by rw [mkK]]; exact ⟨HP6.out.1, Below.refl _ _, Lib.OthersKept.refl _ _ _⟩⟩
   case round =>
    obtain ⟨k, rfl, hk⟩ := hrel
    by_cases hlt : k < t.ks.length
    ·have hb0 := HP6.out.2.1.trans hk.2.2.1
     obtain ⟨o9, i9, j9, hv9, hi9, hkids⟩ := (HND.out wr hb0).kids
     simp only [Value.slice.injEq] at hv9
     obtain ⟨rfl, rfl, rfl⟩ := hv9
     rcases hkids with h0 | ⟨g, off, rfl, hg, hK⟩
     ·rw [h0] at hlt; cases hlt
     obtain ⟨va', vk', hat, hon⟩ := hK.at k hlt
     have hok := okK_at (okT_def.1 HO.out).2.2.2.2.2.2 k hlt
     have hle := mkK_le t.ks (k + 1)
     rw [mkK_take t.ks k hlt] at hle
     have hc3 := cntK_at t.ks k hlt
     have hcq := cnt_eq t
     have hsr := hk.2.ge hs5
     have hbk := hk.2.1
     have HST := hid (fun w3 => KidC.step (w2 := w3) hk hlt)
     have HKK := hid hk
     clear hk
     generalize t.ks[k] = kid at *
     obtain ⟨a0, a1, a2, a3, a4⟩ := hat
     obtain ⟨oa', ja', ok', jk', rfl, rfl⟩ := hon.form
     have hlen : (acc ++ 60 :: (t.nm ++ (atsL t.ats ++ 62 :: mkK (t.ks.take k)))).length + (mkT kid).length ≤ 90000000 := by
      simp only [List.length_append, List.length_cons] at hle ⊢
      omega
     have hsK : B ≤ (wr.alloc (.cells #[.int .i64 kid.kd, .string (bs kid.nm), .string (bs kid.tx), .slice oa' kid.ats.length ja', .slice ok' kid.ks.length jk'] 25)).heap.size := by simp; omega
     have hcall := ih _ kid _ _ _ (by omega) (hbk.alloc (.cells #[.int .i64 kid.kd, .string (bs kid.nm), .string (bs kid.tx), .slice oa' kid.ats.length ja', .slice ok' kid.ks.length jk'] 25)) hsK (hon.move (fun g _ hgB => ⟨hgB, ((Below.refl B wr).alloc hsr _).block g hgB⟩)) hok hlen
     unfold ndV at hcall
     have HC := hid hcall
     clear hcall hok hle hc3 hcq hbk hlen hsK hon hb0 hK hg
     generalize mkT kid = M at *
     generalize acc ++ 60 :: (t.nm ++ (atsL t.ats ++ 62 :: mkK (t.ks.take k))) = D at *
     go_wp2_with fail
     refine HC.out.mono ?_
     rintro e w6 ⟨rfl, hp6⟩
     have HN := hid (HST.out w6 (hp6.alloc _ hsr))
     clear hp6
     go_wp2_with fail
     go_roundw
     case rel => exact ⟨k + 1, by go_num, HN.out⟩
     case measure => simp [RowKit.intOf]; omega
    ·have e : k = t.ks.length := by have := hk.1; omega
     subst e
     have hk2 := hk.2
     rw [List.take_length] at hk2
     have hp7 := HP6.out.trans hk2
     have c1 : wr.cell? ⟨w.heap.size, 1, none⟩ = some (.string (bs t.nm)) := cell_row (HBX.out wr hp7.2.2) rfl
     have hs7 := hp7.ge hsX
     have HP7 := hid hp7
     clear hk hk2 hp7
     go_wp2_with fail
     go_region_with (go_at_call 78; refine (lay_at0 [[60, 47], t.nm, [62]] HP7.out.1 (out := acc ++ mkT t) (by rw [HOUT.out]; simp) (by rw [HOUT.out]; simp; omega) (by simp) hs7 rfl rfl rfl 1).mono ?_; rintro e w8 ⟨rfl, hp8⟩)
     exact ⟨rfl, .tuple #[], by simp [results, go_sem], rfl, (HP7.out.trans hp8).alloc _ hBw⟩
end Char
namespace Char
open Go.RowKit Go.Lib Go.Shelf
theorem layer_is (k n : Nat) (h : (if k = 2 then 46 else if k = 4 then 47 else if k = 5 then 48 else 49) = n) (hk : k = 2 ∨ k = 4 ∨ k = 5 ∨ k = 6) (w : World) : Calls Tryz.prog 28 #[.int .i64 (k : Int)] w fun e w' => e = .returned (.func (.func n) #[] #[]) ∧ w' = w := by
 subst h
 exact layerC_any k w hk
theorem nodeC_any (B b : Nat) : ∀ c, NodeC c B b := by
 intro c
 induction c with
 | zero => intro acc t va vk w hc; have := cntT_pos t; omega
 | succ c ih =>
  intro acc t va vk w hc h hBw hn ho hl
  have hoa := okT_def.1 ho
  obtain ⟨oa, ja, ok, jk, rfl, rfl⟩ := hn.form
  obtain ⟨kd, nm, tx, ats, ks⟩ := t
  simp only [Tr.kd, Tr.nm, Tr.tx, Tr.ats, Tr.ks] at hoa hn ⊢
  have hx : ∀ d : Nat, Below B w ((w.alloc (.cells #[.int .i64 kd, .string (bs nm), .string (bs tx), .slice oa ats.length ja, .slice ok ks.length jk] 25)).drewN d) := fun d => ((Below.refl B w).alloc hBw _).trans ⟨rfl, rfl, rfl, Nat.le_refl _, fun _ _ => rfl⟩
  have hW : ∀ d, BlPost B b acc w ((w.alloc (.cells #[.int .i64 kd, .string (bs nm), .string (bs tx), .slice oa ats.length ja, .slice ok ks.length jk] 25)).drewN d) := fun d => ⟨h.alloc _, hx d, (Lib.OthersKept.refl _ _ w).alloc _⟩
  have hnW : ∀ d, NdOn ((w.alloc (.cells #[.int .i64 kd, .string (bs nm), .string (bs tx), .slice oa ats.length ja, .slice ok ks.length jk] 25)).drewN d) (fun g => g < B) (.mk kd nm tx ats ks) (.slice oa ats.length ja) (.slice ok ks.length jk) := fun d => hn.move (fun g _ hgB => ⟨hgB, (hx d).block g hgB⟩)
  unfold ndV
  simp only [Tr.kd, Tr.nm, Tr.tx]
  rcases hoa.1 with rfl | rfl | rfl | rfl
  ·have key : ∀ d : Nat, Calls Tryz.prog 46 #[.pointer (some ⟨b, 0, none⟩), .agg #[.int .i64 (2 : Nat), .string (bs nm), .string (bs tx), .slice oa ats.length ja, .slice ok ks.length jk]] ((w.alloc (.cells #[.int .i64 (2 : Nat), .string (bs nm), .string (bs tx), .slice oa ats.length ja, .slice ok ks.length jk] 25)).drewN d) fun e w' => e = .returned (.tuple #[]) ∧ BlPost B b (acc ++ mkT (.mk 2 nm tx ats ks)) w w' := fun d =>
    (element_any c B b ih acc (.mk 2 nm tx ats ks) _ _ _ hc (hW d).1 ((hW d).ge hBw) (hnW d) rfl ho hl).mono (by rintro e w' ⟨he, hp⟩; exact ⟨he, (hW d).trans hp⟩)
   have HKEY := hid key
   have e46 : ∀ args w, (callFunc 46 args).run Tryz.prog w = .ok (.enter 46 args) w := enters_of Tryz.func46 (by kernel_rfl) rfl
   have HLY := hid (layer_is 2 _ rfl (by omega))
   generalize mkT (.mk 2 nm tx ats ks) = M at *
   clear key hW hnW hx ho hoa hn ih h
   go_enter Tryz.func18, Tryz.ntmps18
   go_wp2_with fail
   go_region_with (first | (go_at_call 28; refine (HLY.out _).mono ?_; rintro e _ ⟨rfl, rfl⟩) | (go_at_call 46; refine (HKEY.out 1).mono ?_; rintro e w2 ⟨rfl, hp⟩))
   all_goals exact ⟨rfl, .tuple #[], by simp [results, go_sem], rfl, hp⟩
  ·have key : ∀ d : Nat, Calls Tryz.prog 47 #[.pointer (some ⟨b, 0, none⟩), .agg #[.int .i64 (4 : Nat), .string (bs nm), .string (bs tx), .slice oa ats.length ja, .slice ok ks.length jk]] ((w.alloc (.cells #[.int .i64 (4 : Nat), .string (bs nm), .string (bs tx), .slice oa ats.length ja, .slice ok ks.length jk] 25)).drewN d) fun e w' => e = .returned (.tuple #[]) ∧ BlPost B b (acc ++ mkT (.mk 4 nm tx ats ks)) w w' := fun d =>
    by
    rw [mkT_tx] at hl ⊢
    exact (textC_any B b acc _ nm tx _ _ _ (hW d).1 ((hW d).ge hBw) hoa.2.2.1 hl).mono (by rintro e w' ⟨he, hp⟩; exact ⟨he, (hW d).trans hp⟩)
   have HKEY := hid key
   have e46 : ∀ args w, (callFunc 47 args).run Tryz.prog w = .ok (.enter 47 args) w := enters_of Tryz.func47 (by kernel_rfl) rfl
   have HLY := hid (layer_is 4 _ rfl (by omega))
   generalize mkT (.mk 4 nm tx ats ks) = M at *
   clear key hW hnW hx ho hoa hn ih h
   go_enter Tryz.func18, Tryz.ntmps18
   go_wp2_with fail
   go_region_with (first | (go_at_call 28; refine (HLY.out _).mono ?_; rintro e _ ⟨rfl, rfl⟩) | (go_at_call 47; refine (HKEY.out 1).mono ?_; rintro e w2 ⟨rfl, hp⟩))
   all_goals exact ⟨rfl, .tuple #[], by simp [results, go_sem], rfl, hp⟩
  ·have key : ∀ d : Nat, Calls Tryz.prog 48 #[.pointer (some ⟨b, 0, none⟩), .agg #[.int .i64 (5 : Nat), .string (bs nm), .string (bs tx), .slice oa ats.length ja, .slice ok ks.length jk]] ((w.alloc (.cells #[.int .i64 (5 : Nat), .string (bs nm), .string (bs tx), .slice oa ats.length ja, .slice ok ks.length jk] 25)).drewN d) fun e w' => e = .returned (.tuple #[]) ∧ BlPost B b (acc ++ mkT (.mk 5 nm tx ats ks)) w w' := fun d =>
    by
    rw [mkT_co] at hl ⊢
    exact (commentC_any B b acc _ nm tx _ _ _ (hW d).1 ((hW d).ge hBw) (by simp only [List.length_cons, List.length_append] at hl; omega)).mono (by rintro e w' ⟨he, hp⟩; exact ⟨he, (hW d).trans hp⟩)
   have HKEY := hid key
   have e46 : ∀ args w, (callFunc 48 args).run Tryz.prog w = .ok (.enter 48 args) w := enters_of Tryz.func48 (by kernel_rfl) rfl
   have HLY := hid (layer_is 5 _ rfl (by omega))
   generalize mkT (.mk 5 nm tx ats ks) = M at *
   clear key hW hnW hx ho hoa hn ih h
   go_enter Tryz.func18, Tryz.ntmps18
   go_wp2_with fail
   go_region_with (first | (go_at_call 28; refine (HLY.out _).mono ?_; rintro e _ ⟨rfl, rfl⟩) | (go_at_call 48; refine (HKEY.out 1).mono ?_; rintro e w2 ⟨rfl, hp⟩))
   all_goals exact ⟨rfl, .tuple #[], by simp [results, go_sem], rfl, hp⟩
  ·have key : ∀ d : Nat, Calls Tryz.prog 49 #[.pointer (some ⟨b, 0, none⟩), .agg #[.int .i64 (6 : Nat), .string (bs nm), .string (bs tx), .slice oa ats.length ja, .slice ok ks.length jk]] ((w.alloc (.cells #[.int .i64 (6 : Nat), .string (bs nm), .string (bs tx), .slice oa ats.length ja, .slice ok ks.length jk] 25)).drewN d) fun e w' => e = .returned (.tuple #[]) ∧ BlPost B b (acc ++ mkT (.mk 6 nm tx ats ks)) w w' := fun d =>
    by
    rw [mkT_in] at hl ⊢
    exact (instrC_any B b acc _ nm tx _ _ _ (hW d).1 ((hW d).ge hBw) (by
     by_cases he : tx = []
     ·rw [if_pos he] at hl
      subst he
      simp only [List.length_cons, List.length_append, List.length_nil] at hl ⊢
      omega
     ·rw [if_neg he] at hl
      simp only [List.length_cons, List.length_append] at hl
      omega)).mono (by rintro e w' ⟨he, hp⟩; exact ⟨he, (hW d).trans hp⟩)
   have HKEY := hid key
   have e46 : ∀ args w, (callFunc 49 args).run Tryz.prog w = .ok (.enter 49 args) w := enters_of Tryz.func49 (by kernel_rfl) rfl
   have HLY := hid (layer_is 6 _ rfl (by omega))
   generalize mkT (.mk 6 nm tx ats ks) = M at *
   clear key hW hnW hx ho hoa hn ih h
   go_enter Tryz.func18, Tryz.ntmps18
   go_wp2_with fail
   go_region_with (first | (go_at_call 28; refine (HLY.out _).mono ?_; rintro e _ ⟨rfl, rfl⟩) | (go_at_call 49; refine (HKEY.out 1).mono ?_; rintro e w2 ⟨rfl, hp⟩))
   all_goals exact ⟨rfl, .tuple #[], by simp [results, go_sem], rfl, hp⟩
end Char
namespace Char
open Go.RowKit Go.Lib Go.Shelf
def wrL (t : Tr) : List UInt8 := if rightD t = true then mkT t else []
theorem mkT_ne {t : Tr} (h : t.kd = 2) : mkT t ≠ [] := by
 obtain ⟨kd, nm, tx, ats, ks⟩ := t
 obtain rfl : kd = 2 := h
 rw [mkT_el]
 simp
theorem putL_len (attr : Bool) : ∀ l : List UInt8, (putL attr l).length ≤ 6 * l.length
 | [] => by simp [putL_nil]
 | b :: r => by
  have h1 := stdL_le attr b
  have h2 := putL_len attr r
  rw [putL_cons, List.length_append, List.length_cons]
  omega
theorem atsL_len {N : Nat} : ∀ l : List At2, (∀ a, a ∈ l → a.1.length ≤ N ∧ a.2.length ≤ N) → (atsL l).length ≤ l.length * (7 * N + 4)
 | [], _ => by simp [atsL]
 | a :: r, h => by
  obtain ⟨h1, h2⟩ := h a List.mem_cons_self
  have h3 := atsL_len r (fun x hx => h x (List.mem_cons_of_mem _ hx))
  have h4 := putL_len true a.2
  simp only [atsL, List.length_cons, List.length_append, Nat.add_mul]
  omega
theorem fit_kd {t : Tr} (h : Fit t) : t.kd = 2 ∨ t.kd = 4 ∨ t.kd = 5 ∨ t.kd = 6 := by
 cases h <;> simp [Tr.kd]
mutual
theorem mkT_len {N : Nat} : ∀ (t : Tr) (d : Nat), rightT t d = true → smT N t → (mkT t).length ≤ szT t * (8 * N + 12)
 | .mk kd nm tx ats ks, d, h, hs => by
  have h0 := h
  rw [rightT, Bool.and_eq_true, Bool.and_eq_true] at h
  obtain ⟨⟨_, h1⟩, hks⟩ := h
  have hd := smT_def.1 hs
  have e1 : nm.length ≤ N := hd.1
  have e2 : tx.length ≤ N := hd.2.1
  have e3 : ∀ a, a ∈ ats → a.1.length ≤ N ∧ a.2.length ≤ N := hd.2.2.2.1
  have hf := fit_of h1
  cases hf with
  | el hn hl ha hu =>
   have h4 := mkK_len ks (d + 1) hks hd.2.2.2.2.2
   have h5 := atsL_len ats e3
   have h6 : ats.length * (7 * N + 4) ≤ ats.length * (8 * N + 12) := Nat.mul_le_mul_left _ (by omega)
   rw [szT, if_pos rfl, mkT_el, Nat.add_mul, Nat.add_mul]
   simp only [List.length_cons, List.length_append, List.length_nil]
   omega
  | tx ht hne =>
   have := putL_len false tx
   rw [szT_leaf (by simp [Tr.kd]), mkT_tx]
   omega
  | co ht hr hc hl =>
   rw [szT_leaf (by simp [Tr.kd]), mkT_co]
   simp only [List.length_cons, List.length_append, List.length_nil]
   omega
  | ins ht hr hn hc hsp hx =>
   rw [szT_leaf (by simp [Tr.kd]), mkT_in]
   split <;> (simp only [List.length_cons, List.length_append, List.length_nil]; omega)
theorem mkK_len {N : Nat} : ∀ (ks : List Tr) (d : Nat), rightK ks d = true → smK N ks → (mkK ks).length ≤ szK ks * (8 * N + 12)
 | [], _, _, _ => by rw [mkK, szK]; simp
 | k :: r, d, h, hs => by
  rw [rightK, Bool.and_eq_true, Bool.and_eq_true] at h
  rw [smK] at hs
  have h1 := mkT_len k d h.1.1 hs.1
  have h2 := mkK_len r d h.2 hs.2
  rw [mkK, szK, Nat.add_mul, List.length_append]
  omega
end
mutual
theorem ok_of : ∀ (t : Tr) (d : Nat), rightT t d = true → smT 16000 t → okT t
 | .mk kd nm tx ats ks, d, h, hs => by
  rw [rightT, Bool.and_eq_true, Bool.and_eq_true] at h
  obtain ⟨⟨_, h1⟩, hks⟩ := h
  have hd := smT_def.1 hs
  have e1 : nm.length ≤ 16000 := hd.1
  have e2 : tx.length ≤ 16000 := hd.2.1
  have e4 : ks.length ≤ 16000 := hd.2.2.2.2.1
  have e3 : ∀ a, a ∈ ats → a.1.length ≤ 16000 ∧ a.2.length ≤ 16000 := hd.2.2.2.1
  have hf := fit_of h1
  have e5 : ats.length ≤ 1000 := by
   cases hf with
   | el hn hl ha hu => omega
   | tx ht hne => simp
   | co ht hr hc hl => simp
   | ins ht hr hn hc hsp hx => simp
  exact okT_def.2 ⟨fit_kd hf, by show nm.length ≤ _; omega, by show tx.length ≤ _; omega, e5, fun a ha => by have := e3 a ha; omega, by show ks.length ≤ _; omega, ok_ofK ks (d + 1) hks hd.2.2.2.2.2⟩
theorem ok_ofK : ∀ (ks : List Tr) (d : Nat), rightK ks d = true → smK 16000 ks → okK ks
 | [], _, _, _ => by rw [okK]; trivial
 | k :: r, d, h, hs => by
  rw [rightK, Bool.and_eq_true, Bool.and_eq_true] at h
  rw [smK] at hs
  rw [okK]
  exact ⟨ok_of k d h.1.1 hs.1, ok_ofK r d h.2 hs.2⟩
end
theorem right_ok {t : Tr} (h : rightD t = true) (hs : smT 16000 t) : okT t ∧ (mkT t).length ≤ 16000000 := by
 unfold rightD at h
 rw [Bool.and_eq_true, Bool.and_eq_true, decide_eq_true_eq, decide_eq_true_eq] at h
 have h1 := mkT_len t 0 h.1.2 hs
 have h2 : szT t * (8 * 16000 + 12) ≤ 120 * (8 * 16000 + 12) := Nat.mul_le_mul_right _ h.2
 exact ⟨ok_of t 0 h.1.2 hs, by omega⟩
theorem writeC_any (t : Tr) (va vk : Value) (w : World) (hn : NdOn w (fun b => b < w.heap.size) t va vk) (hc : cntT t ≤ 1000000) (hs : smT 16000 t) (hG : Gl6 w) :
  Calls Tryz.prog 10 #[ndV t va vk] w fun e w' => e = .returned (.string (bs (wrL t))) ∧ Below w.heap.size w w' := by
 obtain ⟨oa, ja, ok, jk, rfl, rfl⟩ := hn.form
 obtain ⟨W1, hW1⟩ : ∃ W1, W1 = w.alloc (.cells #[.int .i64 t.kd, .string (bs t.nm), .string (bs t.tx), .slice oa t.ats.length ja, .slice ok t.ks.length jk] 25) := ⟨_, rfl⟩
 have b1 : Below w.heap.size w W1 := by rw [hW1]; exact (Below.refl _ _).alloc (Nat.le_refl _) _
 have s1 : W1.heap.size = w.heap.size + 1 := by rw [hW1]; simp
 have hbk : W1.heap[w.heap.size]? = some (.cells #[.int .i64 t.kd, .string (bs t.nm), .string (bs t.tx), .slice oa t.ats.length ja, .slice ok t.ks.length jk] 25 (0, 0)) := by rw [hW1]; exact World.alloc_heap_new w _
 have hR := right_any t _ _ W1 (hn.move (fun b hb _ => ⟨Nat.lt_of_lt_of_le hb b1.size, b1.block b hb⟩)) hc (fun x hx => (sm_seq t 0 (smT_le (by omega) t hs) x hx).fit) (hG.below b1)
 rw [right_same] at hR
 have HKR : Hid (rightD t = true → okT t ∧ (mkT t).length ≤ 16000000 ∧ mkT t ≠ []) := hid (fun h => by
  have h1 := right_ok h hs
  unfold rightD at h
  rw [Bool.and_eq_true, Bool.and_eq_true, decide_eq_true_eq] at h
  exact ⟨h1.1, h1.2, mkT_ne h.1.1⟩)
 unfold ndV at hR ⊢
 unfold wrL
 have HB1 := hid b1
 have HS1 := hid s1
 have HBK := hid hbk
 have HN := hid hn
 have HW1 := hid hW1
 clear hs hG hbk hn b1 s1 hW1
 cases hr : rightD t with
 | false =>
  rw [hr] at hR
  rw [if_neg (by simp)]
  have HR := hid hR
  clear hR hr
  go_enter Tryz.func10, Tryz.ntmps10
  go_wp2_with fail
  rw [← HW1.out]
  refine HR.out.mono ?_
  rintro e w2 ⟨rfl, hb2⟩
  go_wp2_with fail
  go_ret
  exact ⟨rfl, HB1.out.trans (hb2.mono HB1.out.size)⟩
 | true =>
  rw [hr] at hR
  rw [if_pos rfl]
  have HR := hid hR
  obtain ⟨ho, hml, hne⟩ := HKR.out hr
  have HO := hid ho
  have HNE := hid hne
  clear hR hr ho hne
  go_enter Tryz.func10, Tryz.ntmps10
  go_wp2_with fail
  rw [← HW1.out]
  refine HR.out.mono ?_
  rintro e w2 ⟨rfl, hb2⟩
  have h4 := (hb2.block w.heap.size (by rw [HS1.out]; omega)).trans HBK.out
  have c0 : (w2.alloc (.cells #[.pointer none, .slice none 0 0] 48)).cell? ⟨w.heap.size, 0, none⟩ = some (.int .i64 t.kd) := cell_keep _ (cell_row h4 rfl)
  have c1 : (w2.alloc (.cells #[.pointer none, .slice none 0 0] 48)).cell? ⟨w.heap.size, 1, none⟩ = some (.string (bs t.nm)) := cell_keep _ (cell_row h4 rfl)
  have c2 : (w2.alloc (.cells #[.pointer none, .slice none 0 0] 48)).cell? ⟨w.heap.size, 2, none⟩ = some (.string (bs t.tx)) := cell_keep _ (cell_row h4 rfl)
  have c3 : (w2.alloc (.cells #[.pointer none, .slice none 0 0] 48)).cell? ⟨w.heap.size, 3, none⟩ = some (.slice oa t.ats.length ja) := cell_keep _ (cell_row h4 rfl)
  have c4 : (w2.alloc (.cells #[.pointer none, .slice none 0 0] 48)).cell? ⟨w.heap.size, 4, none⟩ = some (.slice ok t.ks.length jk) := cell_keep _ (cell_row h4 rfl)
  have hb02 : Below w.heap.size w w2 := HB1.out.trans (hb2.mono HB1.out.size)
  have hB3 : Below w2.heap.size w2 (w2.alloc (.cells #[.pointer none, .slice none 0 0] 48)) := (Below.refl _ _).alloc (Nat.le_refl _) _
  have hN := nodeC_any w2.heap.size w2.heap.size (cntT t) [] t _ _ (w2.alloc (.cells #[.pointer none, .slice none 0 0] 48)) (Nat.le_refl _) (blC_new w2) (by simp) (HN.out.move (fun g hg _ => ⟨Nat.lt_of_lt_of_le hg hb02.size, ((hb02.trans (hB3.mono hb02.size)).block g hg)⟩)) HO.out (by simp; omega)
  unfold ndV at hN
  rw [List.nil_append] at hN
  have HNN := hid hN
  have HB3 := hid (hb02.trans (hB3.mono hb02.size))
  have HZ := hid hb02.size
  clear hN hB3 hb02 h4 hb2
  go_wp2_with fail
  refine HNN.out.mono ?_
  rintro e w3 ⟨rfl, hp⟩
  have HOUT := hid (outC_any w2.heap.size w2.heap.size (mkT t) w3 hp.1 HNE.out)
  have HP := hid hp.2.1
  clear hp
  go_wp2_with fail
  refine HOUT.out.mono ?_
  rintro e w4 ⟨rfl, hb4⟩
  go_wp2_with fail
  go_ret
  exact ⟨rfl, HB3.out.trans ((HP.out.trans hb4).mono HZ.out)⟩
end Char
namespace Char
open Go.Lib
theorem parse_sm16 {s : List UInt8} {t : Tr} (h : parseL s = .inr t) : smT 16000 t := by
 have hc := (parse_cnt h).1
 unfold parseL at h
 cases hs : scanL s with
 | inl e => rw [hs] at h; cases h
 | inr ts =>
  rw [hs] at h
  obtain ⟨h1, h2⟩ := scanL_short hs
  obtain ⟨h3, h4⟩ := run_sm ts [grd0] 0 t h1 (fun u hu => by
   rw [List.mem_singleton] at hu
   subst hu
   exact smA_def.2 ⟨Nat.zero_le _, Nat.zero_le _, (fun a ha => by cases ha), by show smAK 16000 []; rw [smAK]; trivial⟩) (by
   have : txSt [grd0] = 0 := by rw [txSt, txSt, txT_def]; show 0 + txK [] + 0 = 0; rw [txK]
   omega) h
  exact sm_of (by omega) t h3 h4 (by omega)
def rdC (s : List UInt8) : Nat ⊕ Tr := match parseL s with
 | .inl e => .inl e
 | .inr t => if 4000 < (mkT t).length then .inl 3 else .inr t
theorem run_errne : ∀ (ts : List Tk) (os : List Tr) (sz e : Nat), runT ts os sz = .inl e → e ≠ 0
 | [], os, sz, e, h => by
  rw [runT] at h
  unfold finT at h
  split at h
  ·cases h; omega
  ·split at h
   ·cases h; omega
   ·cases h
 | p :: r, os, sz, e, h => by
  cases hl : leftT p os with
  | true =>
   rw [run_left hl] at h
   exact run_errne r os sz e h
  | false =>
   by_cases hf : faultT p os (sz + moreT p (topT os)) = 0
   ·rw [run_next hl hf] at h
    exact run_errne r _ _ e h
   ·rw [run_fault hl hf] at h
    cases h
    exact hf
theorem parse_errne {s : List UInt8} {e : Nat} (h : parseL s = .inl e) : e ≠ 0 := by
 unfold parseL at h
 cases hs : scanL s with
 | inl x =>
  rw [hs] at h
  cases h
  unfold scanL at hs
  split at hs
  ·cases hs; decide
  ·split at hs
   ·cases hs; decide
   ·exact scanF_errne hs
 | inr ts =>
  rw [hs] at h
  exact run_errne _ _ _ _ h
theorem rd_errne {s : List UInt8} {e : Nat} (h : rdC s = .inl e) : e ≠ 0 := by
 unfold rdC at h
 cases hp : parseL s with
 | inl x =>
  rw [hp] at h
  cases h
  exact parse_errne hp
 | inr t =>
  rw [hp] at h
  dsimp only at h
  split at h
  ·cases h; decide
  ·cases h
theorem rd_ok {s : List UInt8} {t : Tr} (h : rdC s = .inr t) : parseL s = .inr t ∧ (mkT t).length ≤ 4000 := by
 unfold rdC at h
 cases hp : parseL s with
 | inl x => rw [hp] at h; cases h
 | inr u =>
  rw [hp] at h
  dsimp only at h
  split at h
  ·cases h
  ·cases h
   exact ⟨rfl, by omega⟩
theorem wrL_right {t : Tr} (h : rightD t = true) : wrL t = mkT t := if_pos h
end Char
end Go.Proofs.YtlmodgnkmlbjhaaGreatDoor
