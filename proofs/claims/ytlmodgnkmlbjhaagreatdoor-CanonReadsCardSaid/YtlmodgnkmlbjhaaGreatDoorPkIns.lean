import Derived.Test.YtlmodgnkmlbjhaaGreatDoorPkScanS
import Derived.Test.YtlmodgnkmlbjhaaGreatDoorPkGet
import Derived.Shelf.Unicode.Decode
import Derived.WalkMore
import Derived.ScopeJumps
import Derived.Test.YtlmodgnkmlbjhaaGreatDoorPkScanP
namespace Go.Proofs.YtlmodgnkmlbjhaaGreatDoor
namespace Char
open Go.RowKit Go.Lib Go.Shelf
set_option maxRecDepth 100000 in
set_option maxHeartbeats 4000000 in
theorem fold_at (n v : Nat) (w : World) (hn : n < 128) (hv : v < 128) (hc : w.cell? ⟨2, n, none⟩ = some (.int .u16 (v : Int))) :
  Calls Tryz.prog 75 #[.int .i32 (n : Int)] w fun e w' => e = .returned (.int .i32 (v : Int)) ∧ w' = w := by
 go_enter Tryz.func75, Tryz.ntmps75
 go_wp2_with fail
 go_ret
 exact ⟨rfl, rfl⟩
def FoJ (s : List UInt8) (a : Act) : Prop := a.tmps.size = 123 ∧ (∃ i : Nat, (i < 3 ∧ i < s.length ∧ 128 ≤ (s.getD i 0).toNat) ∧ a.tmps.getD 5 undef = .int .i64 (i : Int)) ∧ (a.tmps.getD 0 undef = .string (bs s) ∧ a.tmps.getD 1 undef = .string ⟨#[120, 109, 108]⟩ ∧ a.tmps.getD 2 undef = undef ∧ a.tmps.getD 3 undef = undef) ∧ a.defers = []
theorem list_map (l : List Value) : l = (List.range l.length).map (fun k => l.getD k undef) := by
 apply List.ext_getElem
 ·simp
 ·intro k h1 h2
  simp [List.getD, h1]
theorem frame_of (t : Array Value) (h : t.size = 123) : ∃ f : Nat → Value, (∀ k, f k = t.getD k undef) ∧ t = #[f 0, f 1, f 2, f 3, f 4, f 5, f 6, f 7, f 8, f 9, f 10, f 11, f 12, f 13, f 14, f 15, f 16, f 17, f 18, f 19, f 20, f 21, f 22, f 23, f 24, f 25, f 26, f 27, f 28, f 29, f 30, f 31, f 32, f 33, f 34, f 35, f 36, f 37, f 38, f 39, f 40, f 41, f 42, f 43, f 44, f 45, f 46, f 47, f 48, f 49, f 50, f 51, f 52, f 53, f 54, f 55, f 56, f 57, f 58, f 59, f 60, f 61, f 62, f 63, f 64, f 65, f 66, f 67, f 68, f 69, f 70, f 71, f 72, f 73, f 74, f 75, f 76, f 77, f 78, f 79, f 80, f 81, f 82, f 83, f 84, f 85, f 86, f 87, f 88, f 89, f 90, f 91, f 92, f 93, f 94, f 95, f 96, f 97, f 98, f 99, f 100, f 101, f 102, f 103, f 104, f 105, f 106, f 107, f 108, f 109, f 110, f 111, f 112, f 113, f 114, f 115, f 116, f 117, f 118, f 119, f 120, f 121, f 122] := by
 refine ⟨fun k => t.getD k undef, fun _ => rfl, ?_⟩
 apply Array.toList_inj.1
 have h2 := list_map t.toList
 rw [Array.length_toList, h] at h2
 rw [h2]
 have e : ∀ k, t.toList.getD k undef = t.getD k undef := fun k => by simp [List.getD]
 simp only [e]
 rfl
theorem FoJ.frame {s : List UInt8} {a : Act} (h : FoJ s a) : ∃ (i : Nat) (f : Nat → Value), (i < 3 ∧ i < s.length ∧ 128 ≤ (s.getD i 0).toNat) ∧ a = { tmps := #[.string (bs s), .string ⟨#[120, 109, 108]⟩, undef, undef, f 4, .int .i64 (i : Int), f 6, f 7, f 8, f 9, f 10, f 11, f 12, f 13, f 14, f 15, f 16, f 17, f 18, f 19, f 20, f 21, f 22, f 23, f 24, f 25, f 26, f 27, f 28, f 29, f 30, f 31, f 32, f 33, f 34, f 35, f 36, f 37, f 38, f 39, f 40, f 41, f 42, f 43, f 44, f 45, f 46, f 47, f 48, f 49, f 50, f 51, f 52, f 53, f 54, f 55, f 56, f 57, f 58, f 59, f 60, f 61, f 62, f 63, f 64, f 65, f 66, f 67, f 68, f 69, f 70, f 71, f 72, f 73, f 74, f 75, f 76, f 77, f 78, f 79, f 80, f 81, f 82, f 83, f 84, f 85, f 86, f 87, f 88, f 89, f 90, f 91, f 92, f 93, f 94, f 95, f 96, f 97, f 98, f 99, f 100, f 101, f 102, f 103, f 104, f 105, f 106, f 107, f 108, f 109, f 110, f 111, f 112, f 113, f 114, f 115, f 116, f 117, f 118, f 119, f 120, f 121, f 122], defers := [] } := by
 obtain ⟨h1, ⟨i, h2, h3⟩, ⟨k0, k1, k2, k3⟩, h5⟩ := h
 obtain ⟨f, hf, ht⟩ := frame_of a.tmps h1
 refine ⟨i, f, h2, ?_⟩
 rw [← hf] at h3 k0 k1 k2 k3
 rw [h3, k0, k1, k2, k3] at ht
 cases a
 simp only at ht h5
 rw [ht, h5]
theorem or_tab : (∀ b : Fin 256, (128 ≤ (b.val ||| 120)) = (128 ≤ b.val)) ∧ (∀ b : Fin 256, (128 ≤ (b.val ||| 109)) = (128 ≤ b.val)) ∧ (∀ b : Fin 256, (128 ≤ (b.val ||| 108)) = (128 ≤ b.val)) := by decide +kernel
def xmlB (i : Nat) : Nat := if i = 0 then 120 else if i = 1 then 109 else 108
theorem xml_lt (i : Nat) : xmlB i < 256 := by
 unfold xmlB
 repeat' split
 all_goals omega
theorem or_xml (nb i : Nat) (hn : nb < 256) : bits .or .u8 (nb : Int) (xmlB i : Int) = ((nb ||| xmlB i : Nat) : Int) ∧ (128 ≤ (nb ||| xmlB i) ↔ 128 ≤ nb) := by
 refine ⟨u8_or_nat _ _ hn (xml_lt i), ?_⟩
 obtain ⟨h1, h2, h3⟩ := or_tab
 unfold xmlB
 split
 ·exact iff_of_eq (h1 ⟨nb, hn⟩)
 ·split
  ·exact iff_of_eq (h2 ⟨nb, hn⟩)
  ·exact iff_of_eq (h3 ⟨nb, hn⟩)
theorem small_step (s : List UInt8) (i : Nat) (hi : i < s.length) (h3 : i < 3) : (smallL (s.drop i) = [(120 : UInt8), 109, 108].drop i) ↔ (smallB (s.getD i 0)).toNat = xmlB i ∧ smallL (s.drop (i + 1)) = [(120 : UInt8), 109, 108].drop (i + 1) := by
 rw [drop_cons s i hi]
 show (smallB (s.getD i 0) :: smallL (s.drop (i + 1)) = _) ↔ _
 match i, h3 with
 | 0, _ =>
  show (_ :: _ = (120 : UInt8) :: [109, 108]) ↔ _
  rw [List.cons.injEq, ← UInt8.toNat_inj]
  rfl
 | 1, _ =>
  show (_ :: _ = (109 : UInt8) :: [108]) ↔ _
  rw [List.cons.injEq, ← UInt8.toNat_inj]
  rfl
 | 2, _ =>
  show (_ :: _ = (108 : UInt8) :: []) ↔ _
  rw [List.cons.injEq, ← UInt8.toNat_inj]
  rfl
theorem small_nat (b : UInt8) : (smallB b).toNat = if 65 ≤ b.toNat ∧ b.toNat ≤ 90 then b.toNat + 32 else b.toNat := by
 unfold smallB
 split
 ·rw [UInt8.toNat_add]
  have : (32 : UInt8).toNat = 32 := rfl
  omega
 ·rfl
def FoI (s : List UInt8) (i : Nat) : Prop := (smallL s = [120, 109, 108]) ↔ smallL (s.drop i) = [(120 : UInt8), 109, 108].drop i
set_option maxRecDepth 1000000 in
set_option maxHeartbeats 16000000 in
theorem efold_any (s : List UInt8) (w : World) (hs : s.length ≤ 60000) (hF : FoldV w) :
    Calls Tryz.prog 44 #[.string (bs s), .string ⟨#[120, 109, 108]⟩] w fun e w' => e = .returned (.bool (decide (smallL s = [120, 109, 108]))) ∧ Below w.heap.size w w' := by
  have hsz := bs_size s
  obtain ⟨M, hM⟩ : ∃ M : Nat, min (s.length : Int) (3 : Int) = (M : Int) := ⟨min s.length 3, by omega⟩
  have hMs : M ≤ s.length := by omega
  have hM3 : M ≤ 3 := by omega
  have hMe : M = s.length ∨ M = 3 := by omega
  have H0 : Hid (FoI s 0) := Lib.hid Iff.rfl
  obtain ⟨RR, hRR⟩ : ∃ RR : Bool, decide (smallL s = [120, 109, 108]) = RR := ⟨_, rfl⟩
  rw [hRR]
  have HRR := Lib.hid hRR
  clear hRR
  go_enter Tryz.func44, Tryz.ntmps44
  go_wp2_with fail
  refine wp_scope_jumps 0 (fun a' w' => w' = w ∧ FoJ s a') (fun _ _ => 0) rfl ?_ ?_
  · go_wp2_with fail
    go_loop [5] (fun v => ∃ i : Nat, v = .int .i64 (i : Int) ∧ i ≤ M ∧ Hid (FoI s i)) (fun v => M - (RowKit.intOf v).toNat)
    case atStart => exact ⟨0, rfl, Nat.zero_le _, H0⟩
    case round =>
      obtain ⟨i, rfl, hi, HI⟩ := hrel
      by_cases hlt : i < M
      · have hltz : (i : Int) < (M : Int) := by omega
        have hls : i < s.length := by omega
        have hls' : i < (bs s).size := by rw [hsz]; exact hls
        have hgt := bs_get s i hls'
        have hst := small_step s i hls (by omega)
        have hsn := small_nat (s.getD i 0)
        obtain ⟨nb, hnb⟩ : ∃ nb, (s.getD i 0).toNat = nb := ⟨_, rfl⟩
        have hg : ((bs s)[i]'hls').toNat = nb := by rw [hgt, hnb]
        have hn256 : nb < 256 := by rw [← hnb]; exact UInt8.toNat_lt _
        obtain ⟨hor, hor2⟩ := or_xml nb i hn256
        have hx3 : i < (⟨#[120, 109, 108]⟩ : ByteArray).size := by show i < 3; omega
        have hxg : ((⟨#[120, 109, 108]⟩ : ByteArray)[i]'hx3).toNat = xmlB i := by
          have h3 : i = 0 ∨ i = 1 ∨ i = 2 := by omega
          rcases h3 with rfl | rfl | rfl <;> rfl
        have hxs : (⟨#[120, 109, 108]⟩ : ByteArray).size = 3 := rfl
        have hxb : 97 ≤ xmlB i ∧ xmlB i ≤ 122 := by unfold xmlB; repeat' split
                                                    all_goals omega
        rw [hnb] at hsn
        have HST := Lib.hid hst
        have HSN := Lib.hid hsn
        generalize xmlB i = nc at *
        obtain ⟨hc1, hc2⟩ := hxb
        by_cases hb : 128 ≤ nb
        · have h128 : (128 : Int) ≤ ((nb ||| nc : Nat) : Int) := by have := hor2.2 hb; omega
          have HB := Lib.hid (show 128 ≤ (s.getD i 0).toNat by rw [hnb]; exact hb)
          clear hor2 hb hst hsn hnb hgt
          go_wp2_with fail
          go_step3
          exact ⟨rfl, rfl, rfl, ⟨i, ⟨by omega, hls, HB.out⟩, rfl⟩, ⟨rfl, rfl, rfl, rfl⟩, rfl⟩
        · have h128 : ¬ (128 : Int) ≤ ((nb ||| nc : Nat) : Int) := by have := mt hor2.1 hb; omega
          have hb2 : nb < 128 := by omega
          clear hor2 hb hst hsn hnb hgt
          go_wp2_with fail
          all_goals (try simp only [beq_iff_eq, beq_eq_false_iff_ne, ne_eq] at *)
          all_goals first
            | (go_round
               case rel => exact ⟨i + 1, by go_num, by omega, Lib.hid (HI.out.trans (HST.out.trans ⟨fun h => h.2, fun h => ⟨by rw [HSN.out]; split <;> omega, h⟩⟩))⟩
               case measure => simp [RowKit.intOf]; omega)
            | (simp only [Exit.jump]
               go_ret
               refine ⟨?_, Below.refl _ _⟩
               rw [← HRR.out, decide_eq_false (fun h => by
                 have h2 := (HST.out.1 (HI.out.1 h)).1
                 rw [HSN.out] at h2
                 split at h2 <;> omega)]
               rfl)
            | trace_state
      · have hltz : ¬ (i : Int) < (M : Int) := by omega
        have him : i = M := by omega
        have HX : Hid ((((s.length : Int) == 3) : Bool) = RR) := Lib.hid (by
          rw [← HRR.out]
          have h := HI.out
          unfold FoI at h
          rw [him] at h
          by_cases h3 : s.length = 3
          · have hM : M = 3 := by omega
            rw [hM, List.drop_eq_nil_of_le (by omega)] at h
            rw [decide_eq_true (h.2 rfl), beq_iff_eq]
            omega
          · rw [decide_eq_false, beq_eq_false_iff_ne]
            · omega
            · intro hh
              have h2 := h.1 hh
              have h4 := congrArg List.length h2
              unfold smallL at h4
              rw [List.length_map, List.length_drop, List.length_drop] at h4
              simp only [List.length_cons, List.length_nil] at h4
              omega)
        go_wp2_with fail
        all_goals (simp only [Exit.jump])
        all_goals go_ret
        all_goals exact ⟨ret_b HX.out, Below.refl _ _⟩
  · rintro a' w' ⟨rfl, hj⟩
    obtain ⟨i, f, ⟨hi3, hil, hib⟩, rfl⟩ := hj.frame
    have hRF : Hid (false = RR) := Lib.hid (by
      rw [← HRR.out]
      symm
      apply decide_eq_false
      intro h
      have h2 := congrArg (fun l => (l.getD i 0).toNat) h
      have h3 : (smallL s).getD i 0 = smallB (s.getD i 0) := by
        unfold smallL
        simp [List.getD, List.getElem?_eq_getElem hil]
      simp only [h3] at h2
      rw [small_nat, if_neg (by omega)] at h2
      have h4 : ([(120 : UInt8), 109, 108].getD i 0).toNat < 128 := by
        have h5 : i = 0 ∨ i = 1 ∨ i = 2 := by omega
        rcases h5 with rfl | rfl | rfl <;> decide
      omega)
    obtain ⟨x, t, hT, hx1, hx2, up, hup, hf1, hf2⟩ : ∃ (x : UInt8) (t : List UInt8), [(120 : UInt8), 109, 108].drop i = x :: t ∧ 97 ≤ x.toNat ∧ x.toNat < 123 ∧ ∃ up : Nat, up + 32 = x.toNat ∧ w'.cell? ⟨2, x.toNat, none⟩ = some (.int .u16 (up : Int)) ∧ w'.cell? ⟨2, up, none⟩ = some (.int .u16 (x.toNat : Int)) := by
      obtain ⟨⟨a, b⟩, ⟨c, d⟩, e, f⟩ := hF
      have h5 : i = 0 ∨ i = 1 ∨ i = 2 := by omega
      rcases h5 with rfl | rfl | rfl
      · exact ⟨120, _, rfl, by decide, by decide, 88, rfl, a, b⟩
      · exact ⟨109, _, rfl, by decide, by decide, 77, rfl, c, d⟩
      · exact ⟨108, _, rfl, by decide, by decide, 76, rfl, e, f⟩
    have hsl1 := slice_from s i (by omega)
    have hsl2 : ∀ wx, (Instr.slice 9 (.string ⟨#[120, 109, 108]⟩) (some (.int .i64 (i : Int))) none none).run Tryz.prog wx = .ok (.string (bs (x :: t))) wx := fun wx => by rw [← hT]; exact slice_from [120, 109, 108] i (by show i ≤ 3; omega) wx
    have hsl3 := tail_slice x t
    have hdr := drop_cons s i hil
    rw [hdr] at hsl1
    have hhi := decode_high (bs (s.getD i 0 :: s.drop (i + 1))) 0 (by rw [bs_size, List.length_cons]; omega) (by rw [bs_get]; exact hib)
    have hSz : 0 < (bs (s.getD i 0 :: s.drop (i + 1))).size := by rw [bs_size, List.length_cons]; omega
    have hFF := fun W (hb : Below w'.heap.size w' W) => hF.below hb
    generalize bs (s.getD i 0 :: s.drop (i + 1)) = S at *
    have hTs := bs_size (x :: t)
    rw [List.length_cons] at hTs
    have hDe := fun W => Any.utf8_DecodeRuneInString_ascii { layRepl with } (bs (x :: t)) x W rfl (by omega)
    have hDe2 : ∀ W, Calls Tryz.prog 74 #[.string (bs (x :: t))] W fun e w' => e = .returned (.tuple #[.int .i32 (x.toNat : Int), .int .i64 1]) ∧ w' = W := hDe
    have HDE := Lib.hid hDe2
    obtain ⟨nx, hnx0⟩ : ∃ nx, x.toNat = nx := ⟨_, rfl⟩
    rw [hnx0] at hx1 hx2 hup hf1 hf2 HDE
    have HFA := Lib.hid (fun W (hb : Below w'.heap.size w' W) => fold_at nx up W (by omega) (by omega) ((hb.cell (World.block_lt_of_cell? _ _ hf1)).trans hf1))
    have HFB := Lib.hid (fun W (hb : Below w'.heap.size w' W) => fold_at up nx W (by omega) (by omega) ((hb.cell (World.block_lt_of_cell? _ _ hf2)).trans hf2))
    have hTl : ¬ (bs (x :: t)).size = 0 := by omega
    clear hib hT hf1 hf2 hDe hDe2 hdr hj hF hFF hnx0 HRR H0
    generalize bs (x :: t) = TS at *
    have HRF := Lib.hid hRF.out
    clear hRF
    go_wp2_with fail
    go_loopw [1] (fun v wr => v = .string TS ∧ wr.heap[w'.heap.size]? = some (.stringIter S 0) ∧ Below w'.heap.size w' wr) (fun _ _ => 0)
    case atStart => exact ⟨rfl, World.iter_heap w' S 0, (Below.refl _ _).alloc (Nat.le_refl _) _⟩
    case round =>
      obtain ⟨rfl, hit, hbw⟩ := hrel
      have hnx : ∀ ty, (Instr.next (.pointer (some ⟨w'.heap.size, 0, none⟩)) true ty).run Tryz.prog wr = _ := fun ty => Lib.run_next_any_at wr w'.heap.size S 0 ty hit hSz
      have hbw2 := Lib.below_iterAt hbw (k := w'.heap.size) (Nat.le_refl _) S (0 + (Utf8.decode S 0).2)
      generalize (Utf8.decode S 0).1 = r at *
      generalize 0 + (Utf8.decode S 0).2 = dd at *
      generalize wr.iterAt w'.heap.size S dd = W1 at hnx hbw2
      obtain ⟨hr1, _⟩ := hhi
      have q1 : ((nx : Int) == (r : Int)) = false := by rw [beq_eq_false_iff_ne]; omega
      have q2 : ((up : Int) != (nx : Int)) = true := by rw [bne_iff_ne]; omega
      have q3 : ((nx : Int) != (nx : Int)) = false := by simp
      have HA1 := Lib.hid (HFA.out W1 hbw2)
      have HB1 := Lib.hid (HFB.out W1 hbw2)
      have HBW := Lib.hid hbw2
      have hupr : up < r := by omega
      have hnxr : nx < r := by omega
      clear hbw hbw2 hit
      go_wp2_with fail
      refine (HDE.out _).mono ?_
      rintro e w2 ⟨rfl, rfl⟩
      go_wp2_with fail
      refine HA1.out.mono ?_
      rintro e w3 ⟨rfl, rfl⟩
      go_wp2_with fail
      go_loop [13] (fun v => v = .int .i32 (up : Int) ∨ v = .int .i32 (nx : Int)) (fun v => 200 - (RowKit.intOf v).toNat)
      case atStart => exact .inl rfl
      case round =>
        rcases hrel with rfl | rfl
        · go_wp2_with fail
          refine HB1.out.mono ?_
          rintro e w4 ⟨rfl, rfl⟩
          go_wp2_with fail
          go_round
          case rel => exact .inr rfl
          case measure => simp [RowKit.intOf]; omega
        · go_wp2_with fail
          simp only [Exit.jump]
          go_ret
          exact ⟨ret_b HRF.out, HBW.out⟩
end Char
namespace Char
open Go.RowKit Go.Lib Go.Shelf
theorem But.fresh {R B : Nat} {w W1 W2 : World} (h : But R w W1) (hB : w.heap.size ≤ B) (hR : R ≤ B) (k : But B W1 W2) : But R w W2 :=
 ⟨h.1.trans (k.1.mono hR), fun i hi hr => (k.2 i (Nat.lt_of_lt_of_le hi h.1.size) (by omega)).trans (h.2 i hi hr)⟩
theorem Env.inner {R B : Nat} {W : World} (h : Env R W) (hB : R ≤ B) : Env B W := by
 obtain ⟨w0, h1, h2, h3⟩ := h
 exact ⟨w0, h1, h2, by omega⟩
theorem RdB.but {R B : Nat} {l : List UInt8} {w w' : World} (h : RdB R l w) (hb : But B w w') (hR : R ≠ B) : RdB R l w' := h.block (hb.2 R h.2.2 hR)
theorem rdb_new (l : List UInt8) (w : World) : RdB w.heap.size l (w.alloc (.cells #[.string (bs l)] 82)) := by
 refine ⟨?_, ?_, ?_⟩
 all_goals go_simp
structure InK (R : Nat) (w : World) (V rest : List UInt8) (W1 : World) (B : Nat) : Prop where
 inr : RdB B V W1
 env : Env B W1
 out : RdB R rest W1
 tok : TokAt w.heap.size 0 ⟨#[]⟩ ⟨#[]⟩ (.slice none 0 0) false W1
 but : But R w W1
 lo : w.heap.size < B
 hr : R < w.heap.size
theorem InK.next {R : Nat} {w : World} {V V' rest : List UInt8} {W1 W2 : World} {B : Nat} (h : InK R w V rest W1 B) (hr : RdB B V' W2) (hb : But B W1 W2) : InK R w V' rest W2 B :=
 ⟨hr, h.env.but hb, h.out.but hb (by have := h.lo; have := h.hr; omega), h.tok.but hb (by have := h.lo; omega), h.but.fresh (by have := h.lo; omega) (by have := h.lo; have := h.hr; omega) hb, h.lo, h.hr⟩
theorem InK.below {R : Nat} {w : World} {V rest : List UInt8} {W1 W2 : World} {B : Nat} (h : InK R w V rest W1 B) (hb : Below W1.heap.size W1 W2) : InK R w V rest W2 B := h.next (h.inr.below hb) (But.of hb h.inr.2.2)
set_option maxRecDepth 100000 in
set_option maxHeartbeats 8000000 in
theorem ins_any (R : Nat) (l : List UInt8) (w : World) (h : RdB R l w) (hl : l.length ≤ 60000) (ht : txD l = true) (hE : Env R w) :
  Calls Tryz.prog 116 #[.pointer (some ⟨R, 0, none⟩)] w (PcP R (insP l) w) := by
 have hR := h.2.2
 obtain ⟨W0, hW0, h0, hE0, hT0, hB0, hlt0⟩ := begin_tok R l w h hE
 have HW0 := Lib.hid hW0
 have HT0 := Lib.hid hT0
 have HB0 := Lib.hid hB0
 unfold insP
 by_cases hi : index l [63, 62] = -1
 ·rw [if_pos hi]
  have HU := Lib.hid (show Calls Tryz.prog 137 #[.pointer (some ⟨R, 0, none⟩), .string ⟨#[63, 62]⟩] W0 (fun e w' => e = pan 16 ∧ But R W0 w') from upTo_no R l [63, 62] W0 h0 (by omega) hE0.gl.1.2.1 hi)
  clear hi h0 hE0 hT0 hB0 hW0 h hE ht
  unfold PcP PaP
  go_enter Tryz.func116, Tryz.ntmps116
  go_wp2_with fail
  rw [← HW0.out]
  refine HU.out.mono ?_
  rintro e w1 ⟨rfl, hb1⟩
  have HB1 := Lib.hid (HB0.out.trans hb1)
  clear hb1
  unfold pan
  go_wp2_with fail
  exact ⟨rfl, rfl, HB1.out⟩
 rw [if_neg hi]
 obtain ⟨i, hin⟩ := idx_nat hi
 rw [hin, Int.toNat_natCast]
 obtain ⟨htV, _, _⟩ := tx_cut (m := [63, 62]) (by simp) (by decide) hin ht
 have HU := Lib.hid (show Calls Tryz.prog 137 #[.pointer (some ⟨R, 0, none⟩), .string ⟨#[63, 62]⟩] W0 (fun e w' => e = .returned (.string (bs (l.take i))) ∧ RdB R (l.drop (i + 2)) w' ∧ But R W0 w') from upTo_yes R l [63, 62] i W0 h0 (by omega) hE0.gl.1.2.1 hin)
 have hVl : (l.take i).length ≤ 60000 := by rw [List.length_take]; omega
 have HE0 := Lib.hid hE0
 clear hi hin h0 hE0 hT0 hB0 hW0 h hE ht
 generalize l.take i = V at *
 generalize l.drop (i + 2) = rest at *
 unfold piL
 have hrl := run_le _ V (Nat.le_refl _)
 have hwh := fun (B : Nat) (W : World) (hr : RdB B V W) => whileP_any B V W hr (by omega) htV
 unfold ScP at hwh
 obtain ⟨N, hN⟩ : ∃ N, V.take (runL V) = N := ⟨_, rfl⟩
 obtain ⟨t, htd⟩ : ∃ t, V.drop (runL V) = t := ⟨_, rfl⟩
 have hNl : N.length ≤ 60000 := by rw [← hN, List.length_take]; omega
 have htl : t.length = V.length - runL V := by rw [← htd, List.length_drop]
 have e1 : V.drop (runL V + spcL t) = t.drop (spcL t) := by rw [← htd, List.drop_drop]
 rw [hN, htd] at hwh
 rw [hN, htd, e1]
 have hne : (runL V < V.length ∧ spcL t = 0) ↔ (t ≠ [] ∧ spcL t = 0) := by
  constructor
  ·rintro ⟨a, b⟩
   refine ⟨?_, b⟩
   rintro rfl
   simp at htl
   omega
  ·rintro ⟨a, b⟩
   refine ⟨?_, b⟩
   have := List.length_pos_iff.2 a
   omega
 simp only [hne]
 have HWH := Lib.hid hwh
 have hsN := bs_size N
 clear hne e1 htd hN hwh htV hrl
 have hst : ∀ w1, RdB R rest w1 → But R W0 w1 → InK R w V rest (w1.alloc (.cells #[.string (bs V)] 82)) w1.heap.size := fun w1 hr hb => by
  have hbn : But R w1 (w1.alloc (.cells #[.string (bs V)] 82)) := But.new _ hr.2.2
  have hs := hb.size
  exact ⟨rdb_new V w1, ((HE0.out.but hb).but hbn).inner (by have := hr.2.2; omega), hr.below ((Below.refl _ _).alloc (Nat.le_refl _) _), (HT0.out.but (hb.trans hbn) (by omega)), HB0.out.trans (hb.trans hbn), by omega, hR⟩
 have HST := Lib.hid hst
 clear hst
 have hnmc := fun (W : World) (hG : Gl6 W) => chName_any (bs N) W (by omega) hG.1.1
 have hef := fun (W : World) (hG : Gl6 W) => efold_any N W hNl hG.2
 cases hnm : nmD (bs N) with
 | false =>
  rw [hnm] at hnmc
  rw [if_pos (.inl rfl)]
  have HNM := Lib.hid hnmc
  clear hnmc hef hnm htl
  unfold PcP PaP
  dsimp only
  go_enter Tryz.func116, Tryz.ntmps116
  go_wp2_with fail
  rw [← HW0.out]
  refine HU.out.mono ?_
  rintro e w1 ⟨rfl, hr1, hb1⟩
  have hk := HST.out w1 hr1 hb1
  obtain ⟨W1, hW1⟩ : ∃ W1, W1 = w1.alloc (.cells #[.string (bs V)] 82) := ⟨_, rfl⟩
  rw [← hW1] at hk
  have HK1 := Lib.hid hk
  have HW1 := Lib.hid hW1
  have HC1 := Lib.hid (HWH.out w1.heap.size W1 hk.inr)
  clear hr1 hb1 hk hW1
  go_upto_region 2 with (fail)
  rw [← HW1.out]
  go_wp2_with fail
  refine HC1.out.mono ?_
  rintro e w2 ⟨rfl, hr2, hb2⟩
  have hk2 := HK1.out.next hr2 hb2
  have HK2 := Lib.hid hk2
  have HC2 := Lib.hid (HNM.out w2 hk2.env.gl)
  clear hr2 hb2 hk2
  go_wp2_with fail
  refine HC2.out.mono ?_
  rintro e w3 ⟨rfl, hb3⟩
  have HB3 := Lib.hid (HK2.out.below hb3).but
  clear hb3
  go_wp2_with fail
  exact ⟨rfl, rfl, HB3.out⟩
 | true =>
  rw [hnm] at hnmc
  have HNM := Lib.hid hnmc
  clear hnmc hnm
  by_cases hx : smallL N = [120, 109, 108]
  ·rw [if_pos (.inr hx)]
   rw [decide_eq_true hx] at hef
   have HEF := Lib.hid hef
   clear hef hx htl
   unfold PcP PaP
   dsimp only
   go_enter Tryz.func116, Tryz.ntmps116
   go_wp2_with fail
   rw [← HW0.out]
   refine HU.out.mono ?_
   rintro e w1 ⟨rfl, hr1, hb1⟩
   have hk := HST.out w1 hr1 hb1
   obtain ⟨W1, hW1⟩ : ∃ W1, W1 = w1.alloc (.cells #[.string (bs V)] 82) := ⟨_, rfl⟩
   rw [← hW1] at hk
   have HK1 := Lib.hid hk
   have HW1 := Lib.hid hW1
   have HC1 := Lib.hid (HWH.out w1.heap.size W1 hk.inr)
   clear hr1 hb1 hk hW1
   go_upto_region 2 with (fail)
   rw [← HW1.out]
   go_wp2_with fail
   refine HC1.out.mono ?_
   rintro e w2 ⟨rfl, hr2, hb2⟩
   have hk2 := HK1.out.next hr2 hb2
   have HK2 := Lib.hid hk2
   have HC2 := Lib.hid (HNM.out w2 hk2.env.gl)
   clear hr2 hb2 hk2
   go_wp2_with fail
   refine HC2.out.mono ?_
   rintro e w3 ⟨rfl, hb3⟩
   have hk3 := HK2.out.below hb3
   have HK3 := Lib.hid hk3
   have HC3 := Lib.hid (HEF.out w3 hk3.env.gl)
   clear hb3 hk3
   go_wp2_with fail
   refine HC3.out.mono ?_
   rintro e w4 ⟨rfl, hb4⟩
   have HB4 := Lib.hid (HK3.out.below hb4).but
   clear hb4
   go_wp2_with fail
   exact ⟨rfl, rfl, HB4.out⟩
  ·rw [if_neg (by rintro (h | h); cases h; exact hx h)]
   rw [decide_eq_false hx] at hef
   have HEF := Lib.hid hef
   clear hef hx
   have hsp := fun (B : Nat) (W : World) (hr : RdB B t W) => spaces_p B t W hr (by omega)
   unfold ScP at hsp
   obtain ⟨u, hu⟩ : ∃ u, t.drop (spcL t) = u := ⟨_, rfl⟩
   rw [hu] at hsp ⊢
   have hcase : (spcL t = 0 ∧ t ≠ [] ∧ u ≠ []) ∨ (spcL t = 0 ∧ u = [] ∧ ¬ (t ≠ [] ∧ spcL t = 0)) ∨ (0 < spcL t ∧ ¬ (t ≠ [] ∧ spcL t = 0)) := by
    by_cases h0 : spcL t = 0
    ·rw [h0, List.drop_zero] at hu
     by_cases h1 : t = []
     ·exact .inr (.inl ⟨h0, hu ▸ h1, fun h => h.1 h1⟩)
     ·exact .inl ⟨h0, h1, hu ▸ h1⟩
    ·exact .inr (.inr ⟨by omega, fun h => h0 h.2⟩)
   rcases hcase with ⟨k0, k1, k2⟩ | hrest
   ·rw [if_pos ⟨k1, k0⟩]
    rw [k0] at hsp
    have HSP := Lib.hid hsp
    have j1 : ¬ (bs u).toList = [] := by rw [bs_tl]; exact k2
    have j2 : (bs u).toList.isEmpty = false := by rw [bs_tl]; cases u with | nil => exact absurd rfl k2 | cons _ _ => rfl
    have j3 := ne_nil_bs k2
    have j4 : (!(bs u).toList.isEmpty) = true := by rw [j2]; rfl
    clear hsp htl k0 k1 k2 hu
    unfold PcP PaP
    dsimp only
    go_enter Tryz.func116, Tryz.ntmps116
    go_wp2_with fail
    rw [← HW0.out]
    refine HU.out.mono ?_
    rintro e w1 ⟨rfl, hr1, hb1⟩
    have hk := HST.out w1 hr1 hb1
    obtain ⟨W1, hW1⟩ : ∃ W1, W1 = w1.alloc (.cells #[.string (bs V)] 82) := ⟨_, rfl⟩
    rw [← hW1] at hk
    have HK1 := Lib.hid hk
    have HW1 := Lib.hid hW1
    have HC1 := Lib.hid (HWH.out w1.heap.size W1 hk.inr)
    clear hr1 hb1 hk hW1
    go_upto_region 2 with (fail)
    rw [← HW1.out]
    go_wp2_with fail
    refine HC1.out.mono ?_
    rintro e w2 ⟨rfl, hr2, hb2⟩
    have hk2 := HK1.out.next hr2 hb2
    have HK2 := Lib.hid hk2
    have HC2 := Lib.hid (HNM.out w2 hk2.env.gl)
    clear hr2 hb2 hk2
    go_wp2_with fail
    refine HC2.out.mono ?_
    rintro e w3 ⟨rfl, hb3⟩
    have hk3 := HK2.out.below hb3
    have HK3 := Lib.hid hk3
    have HC3 := Lib.hid (HEF.out w3 hk3.env.gl)
    clear hb3 hk3
    go_wp2_with fail
    refine HC3.out.mono ?_
    rintro e w4 ⟨rfl, hb4⟩
    have hk4 := HK3.out.below hb4
    have HK4 := Lib.hid hk4
    have HC4 := Lib.hid (HSP.out w1.heap.size w4 hk4.inr)
    clear hb4 hk4
    go_wp2_with fail
    refine HC4.out.mono ?_
    rintro e w5 ⟨rfl, hr5, hb5⟩
    have HB5 := Lib.hid (HK4.out.next hr5 hb5).but
    obtain ⟨c0, c1, c2⟩ := hr5
    clear hb5
    go_wp2_with fail
    exact ⟨rfl, rfl, HB5.out⟩
   ·have hno : ¬ (t ≠ [] ∧ spcL t = 0) := by
     rcases hrest with ⟨_, _, h⟩ | ⟨_, h⟩ <;> exact h
    rw [if_neg hno]
    have hcase2 : (decide (0 < spcL t) = false ∧ u = []) ∨ decide (0 < spcL t) = true := by
     rcases hrest with ⟨h1, h2, _⟩ | ⟨h1, _⟩
     ·exact .inl ⟨decide_eq_false (by omega), h2⟩
     ·exact .inr (decide_eq_true h1)
    clear hno hrest hu
    generalize decide (0 < spcL t) = bb at *
    have HSP := Lib.hid hsp
    clear hsp htl
    unfold PcP
    dsimp only
    go_enter Tryz.func116, Tryz.ntmps116
    go_wp2_with fail
    rw [← HW0.out]
    refine HU.out.mono ?_
    rintro e w1 ⟨rfl, hr1, hb1⟩
    have hk := HST.out w1 hr1 hb1
    obtain ⟨W1, hW1⟩ : ∃ W1, W1 = w1.alloc (.cells #[.string (bs V)] 82) := ⟨_, rfl⟩
    rw [← hW1] at hk
    have HK1 := Lib.hid hk
    have HW1 := Lib.hid hW1
    have HC1 := Lib.hid (HWH.out w1.heap.size W1 hk.inr)
    clear hr1 hb1 hk hW1
    go_upto_region 2 with (fail)
    rw [← HW1.out]
    go_wp2_with fail
    refine HC1.out.mono ?_
    rintro e w2 ⟨rfl, hr2, hb2⟩
    have hk2 := HK1.out.next hr2 hb2
    have HK2 := Lib.hid hk2
    have HC2 := Lib.hid (HNM.out w2 hk2.env.gl)
    clear hr2 hb2 hk2
    go_wp2_with fail
    refine HC2.out.mono ?_
    rintro e w3 ⟨rfl, hb3⟩
    have hk3 := HK2.out.below hb3
    have HK3 := Lib.hid hk3
    have HC3 := Lib.hid (HEF.out w3 hk3.env.gl)
    clear hb3 hk3
    go_wp2_with fail
    refine HC3.out.mono ?_
    rintro e w4 ⟨rfl, hb4⟩
    have hk4 := HK3.out.below hb4
    have HK4 := Lib.hid hk4
    have HC4 := Lib.hid (HSP.out w1.heap.size w4 hk4.inr)
    clear hb4 hk4
    go_wp2_with fail
    refine HC4.out.mono ?_
    rintro e w5 ⟨rfl, hr5, hb5⟩
    have hk5 := HK4.out.next hr5 hb5
    have HK5 := Lib.hid hk5
    have HT5 := Lib.hid hk5.tok
    obtain ⟨c0, c1, c2⟩ := hr5
    obtain ⟨⟨a0, a1, a2, a3, a4⟩, ⟨f0, f1, f2, f3, f4⟩, h3⟩ := hk5.tok
    have hlo := hk5.lo
    clear hb5 hk5
    rcases hcase2 with ⟨rfl, rfl⟩ | rfl
    all_goals
     have i1 : (bs []).toList = [] := bs_tl []
     have i2 : (bs []).toList.isEmpty = true := by rw [i1]; rfl
     have i3 : ((bs []).toList != []) = false := by rw [i1]; rfl
     go_wp2_with fail
     exact end_tok1 rfl _ w.heap.size (HT5.out.set) rfl rfl ⟨none, 0, 0, rfl, HK5.out.out.tok (by omega) _ _ _ _ _, HK5.out.but.tok (Nat.le_refl _) hR _ _ _ _ _, OwnsAt.nil _ _⟩
end Char
end Go.Proofs.YtlmodgnkmlbjhaaGreatDoor
