import Derived.Test.YtlmodgnkmlbjhaaGreatDoorStartP
import Derived.Laws.EntriesVeiled
import Derived.Test.YtlmodgnkmlbjhaaGreatDoorPkIns
namespace Go.Proofs.YtlmodgnkmlbjhaaGreatDoor
namespace Char
open Go.RowKit Go.Lib Go.Shelf
set_option maxRecDepth 100000 in
theorem kinds_at0 (R : Nat) (w : World) : (Instr.index 155 (.agg #[.string ⟨#[60, 33, 45, 45]⟩, .func (.func 114) #[.pointer (some ⟨R, 0, none⟩)] #[], .string ⟨#[60, 33, 91, 67, 68, 65, 84, 65, 91]⟩, .func (.func 115) #[.pointer (some ⟨R, 0, none⟩)] #[], .string ⟨#[60, 63]⟩, .func (.func 116) #[.pointer (some ⟨R, 0, none⟩)] #[], .string ⟨#[60, 47]⟩, .func (.func 117) #[.pointer (some ⟨R, 0, none⟩)] #[], .string ⟨#[60, 33]⟩, .func (.func 118) #[.pointer (some ⟨R, 0, none⟩)] #[], .string ⟨#[60]⟩, .func (.func 119) #[.pointer (some ⟨R, 0, none⟩)] #[]]) (.int .i64 0)).run Tryz.prog w = .ok (.agg #[.string ⟨#[60, 33, 45, 45]⟩, .func (.func 114) #[.pointer (some ⟨R, 0, none⟩)] #[]]) w := by
 have hu := run_underlying (P := Tryz.prog) Tryz.underlying155
 have ha := Tryz.isAgg154
 have hz := Tryz.sizeOf154
 simp [Instr.index, hu, asIntOf, part, ha, hz, go_sem]
set_option maxRecDepth 100000 in
theorem kinds_at1 (R : Nat) (w : World) : (Instr.index 155 (.agg #[.string ⟨#[60, 33, 45, 45]⟩, .func (.func 114) #[.pointer (some ⟨R, 0, none⟩)] #[], .string ⟨#[60, 33, 91, 67, 68, 65, 84, 65, 91]⟩, .func (.func 115) #[.pointer (some ⟨R, 0, none⟩)] #[], .string ⟨#[60, 63]⟩, .func (.func 116) #[.pointer (some ⟨R, 0, none⟩)] #[], .string ⟨#[60, 47]⟩, .func (.func 117) #[.pointer (some ⟨R, 0, none⟩)] #[], .string ⟨#[60, 33]⟩, .func (.func 118) #[.pointer (some ⟨R, 0, none⟩)] #[], .string ⟨#[60]⟩, .func (.func 119) #[.pointer (some ⟨R, 0, none⟩)] #[]]) (.int .i64 1)).run Tryz.prog w = .ok (.agg #[.string ⟨#[60, 33, 91, 67, 68, 65, 84, 65, 91]⟩, .func (.func 115) #[.pointer (some ⟨R, 0, none⟩)] #[]]) w := by
 have hu := run_underlying (P := Tryz.prog) Tryz.underlying155
 have ha := Tryz.isAgg154
 have hz := Tryz.sizeOf154
 simp [Instr.index, hu, asIntOf, part, ha, hz, go_sem]
set_option maxRecDepth 100000 in
theorem kinds_at2 (R : Nat) (w : World) : (Instr.index 155 (.agg #[.string ⟨#[60, 33, 45, 45]⟩, .func (.func 114) #[.pointer (some ⟨R, 0, none⟩)] #[], .string ⟨#[60, 33, 91, 67, 68, 65, 84, 65, 91]⟩, .func (.func 115) #[.pointer (some ⟨R, 0, none⟩)] #[], .string ⟨#[60, 63]⟩, .func (.func 116) #[.pointer (some ⟨R, 0, none⟩)] #[], .string ⟨#[60, 47]⟩, .func (.func 117) #[.pointer (some ⟨R, 0, none⟩)] #[], .string ⟨#[60, 33]⟩, .func (.func 118) #[.pointer (some ⟨R, 0, none⟩)] #[], .string ⟨#[60]⟩, .func (.func 119) #[.pointer (some ⟨R, 0, none⟩)] #[]]) (.int .i64 2)).run Tryz.prog w = .ok (.agg #[.string ⟨#[60, 63]⟩, .func (.func 116) #[.pointer (some ⟨R, 0, none⟩)] #[]]) w := by
 have hu := run_underlying (P := Tryz.prog) Tryz.underlying155
 have ha := Tryz.isAgg154
 have hz := Tryz.sizeOf154
 simp [Instr.index, hu, asIntOf, part, ha, hz, go_sem]
set_option maxRecDepth 100000 in
theorem kinds_at3 (R : Nat) (w : World) : (Instr.index 155 (.agg #[.string ⟨#[60, 33, 45, 45]⟩, .func (.func 114) #[.pointer (some ⟨R, 0, none⟩)] #[], .string ⟨#[60, 33, 91, 67, 68, 65, 84, 65, 91]⟩, .func (.func 115) #[.pointer (some ⟨R, 0, none⟩)] #[], .string ⟨#[60, 63]⟩, .func (.func 116) #[.pointer (some ⟨R, 0, none⟩)] #[], .string ⟨#[60, 47]⟩, .func (.func 117) #[.pointer (some ⟨R, 0, none⟩)] #[], .string ⟨#[60, 33]⟩, .func (.func 118) #[.pointer (some ⟨R, 0, none⟩)] #[], .string ⟨#[60]⟩, .func (.func 119) #[.pointer (some ⟨R, 0, none⟩)] #[]]) (.int .i64 3)).run Tryz.prog w = .ok (.agg #[.string ⟨#[60, 47]⟩, .func (.func 117) #[.pointer (some ⟨R, 0, none⟩)] #[]]) w := by
 have hu := run_underlying (P := Tryz.prog) Tryz.underlying155
 have ha := Tryz.isAgg154
 have hz := Tryz.sizeOf154
 simp [Instr.index, hu, asIntOf, part, ha, hz, go_sem]
set_option maxRecDepth 100000 in
theorem kinds_at4 (R : Nat) (w : World) : (Instr.index 155 (.agg #[.string ⟨#[60, 33, 45, 45]⟩, .func (.func 114) #[.pointer (some ⟨R, 0, none⟩)] #[], .string ⟨#[60, 33, 91, 67, 68, 65, 84, 65, 91]⟩, .func (.func 115) #[.pointer (some ⟨R, 0, none⟩)] #[], .string ⟨#[60, 63]⟩, .func (.func 116) #[.pointer (some ⟨R, 0, none⟩)] #[], .string ⟨#[60, 47]⟩, .func (.func 117) #[.pointer (some ⟨R, 0, none⟩)] #[], .string ⟨#[60, 33]⟩, .func (.func 118) #[.pointer (some ⟨R, 0, none⟩)] #[], .string ⟨#[60]⟩, .func (.func 119) #[.pointer (some ⟨R, 0, none⟩)] #[]]) (.int .i64 4)).run Tryz.prog w = .ok (.agg #[.string ⟨#[60, 33]⟩, .func (.func 118) #[.pointer (some ⟨R, 0, none⟩)] #[]]) w := by
 have hu := run_underlying (P := Tryz.prog) Tryz.underlying155
 have ha := Tryz.isAgg154
 have hz := Tryz.sizeOf154
 simp [Instr.index, hu, asIntOf, part, ha, hz, go_sem]
set_option maxRecDepth 100000 in
theorem kinds_at5 (R : Nat) (w : World) : (Instr.index 155 (.agg #[.string ⟨#[60, 33, 45, 45]⟩, .func (.func 114) #[.pointer (some ⟨R, 0, none⟩)] #[], .string ⟨#[60, 33, 91, 67, 68, 65, 84, 65, 91]⟩, .func (.func 115) #[.pointer (some ⟨R, 0, none⟩)] #[], .string ⟨#[60, 63]⟩, .func (.func 116) #[.pointer (some ⟨R, 0, none⟩)] #[], .string ⟨#[60, 47]⟩, .func (.func 117) #[.pointer (some ⟨R, 0, none⟩)] #[], .string ⟨#[60, 33]⟩, .func (.func 118) #[.pointer (some ⟨R, 0, none⟩)] #[], .string ⟨#[60]⟩, .func (.func 119) #[.pointer (some ⟨R, 0, none⟩)] #[]]) (.int .i64 5)).run Tryz.prog w = .ok (.agg #[.string ⟨#[60]⟩, .func (.func 119) #[.pointer (some ⟨R, 0, none⟩)] #[]]) w := by
 have hu := run_underlying (P := Tryz.prog) Tryz.underlying155
 have ha := Tryz.isAgg154
 have hz := Tryz.sizeOf154
 simp [Instr.index, hu, asIntOf, part, ha, hz, go_sem]
end Char
namespace Char
open Go.RowKit Go.Lib Go.Shelf
structure PiK (R : Nat) (w : World) (cur : List UInt8) (W : World) : Prop where
 rd : RdB R cur W
 env : Env R W
 box : TokAt w.heap.size 0 ⟨#[]⟩ ⟨#[]⟩ (.slice none 0 0) false W
 but : But R w W
 hr : R < w.heap.size
theorem PiK.next {R : Nat} {w : World} {cur cur' : List UInt8} {W W2 : World} (h : PiK R w cur W) (hr : RdB R cur' W2) (hb : But R W W2) : PiK R w cur' W2 :=
 ⟨hr, h.env.but hb, h.box.block (hb.2 _ h.box.2.2 (by have := h.hr; omega)), h.but.trans hb, h.hr⟩
theorem PiK.alloc {R : Nat} {w : World} {cur : List UInt8} {W : World} (h : PiK R w cur W) (o : Obj) : PiK R w cur (W.alloc o) :=
 h.next (h.rd.below ((Below.refl _ _).alloc (Nat.le_refl _) _)) (But.new o h.rd.2.2)
def NoMk (l : List UInt8) (k : Nat) : Prop := (0 < k → [60, 33, 45, 45].isPrefixOf l = false) ∧ (1 < k → [60, 33, 91, 67, 68, 65, 84, 65, 91].isPrefixOf l = false) ∧ (2 < k → [60, 63].isPrefixOf l = false) ∧ (3 < k → [60, 47].isPrefixOf l = false) ∧ (4 < k → [60, 33].isPrefixOf l = false) ∧ (5 < k → [60].isPrefixOf l = false)
set_option maxRecDepth 1000000 in
set_option maxHeartbeats 16000000 in
theorem piece_any (R : Nat) (l : List UInt8) (w : World) (h : RdB R l w) (hl : l.length ≤ 60000) (ht : txD l = true) (hE : Env R w) :
  Calls Tryz.prog 88 #[.pointer (some ⟨R, 0, none⟩)] w (PcP R (oneP l) w) := by
 have hmf : ∀ (fn : Fn) (first cap : Array Value) (w : World), (Instr.makeFunc fn first cap).run Tryz.prog w = .ok (.func fn first cap) w := fun _ _ _ _ => rfl
 obtain ⟨P, hP⟩ : ∃ P, PcP R (oneP l) w = P := ⟨_, rfl⟩
 rw [hP]
 have hR := h.2.2
 obtain ⟨W0, hW0, h0, hE0, hT0, hB0, hlt0⟩ := begin_tok R l w h hE
 have HK0 : Hid (PiK R w l W0) := Lib.hid ⟨h0, hE0, hT0, hB0, hR⟩
 have HW0 := Lib.hid hW0
 clear hW0 h0 hE0 hT0 hB0 h hE
 go_enter Tryz.func88, Tryz.ntmps88
 go_wp2_with fail
 rw [← HW0.out]
 have HP := Lib.hid hP
 have HT := Lib.hid ht
 have HK1 : Hid (PiK R w l (W0.alloc (.cells #[.string ⟨#[60, 33, 45, 45]⟩, .func (.func 114) #[.pointer (some ⟨R, 0, none⟩)] #[], .string ⟨#[60, 33, 91, 67, 68, 65, 84, 65, 91]⟩, .func (.func 115) #[.pointer (some ⟨R, 0, none⟩)] #[], .string ⟨#[60, 63]⟩, .func (.func 116) #[.pointer (some ⟨R, 0, none⟩)] #[], .string ⟨#[60, 47]⟩, .func (.func 117) #[.pointer (some ⟨R, 0, none⟩)] #[], .string ⟨#[60, 33]⟩, .func (.func 118) #[.pointer (some ⟨R, 0, none⟩)] #[], .string ⟨#[60]⟩, .func (.func 119) #[.pointer (some ⟨R, 0, none⟩)] #[]] 155))) := Lib.hid (HK0.out.alloc _)
 go_loopw [26] (fun v wr => ∃ z : Int, v = .int .i64 z ∧ (z = 0 ∨ z = 1 ∨ z = 2 ∨ z = 3 ∨ z = 4 ∨ z = 5 ∨ z = 6) ∧ Hid (NoMk l z.toNat) ∧ Hid (PiK R w l wr)) (fun v _ => 6 - (RowKit.intOf v).toNat)
 case atStart => exact ⟨0, rfl, .inl rfl, Lib.hid ⟨fun h => absurd h (by decide), fun h => absurd h (by decide), fun h => absurd h (by decide), fun h => absurd h (by decide), fun h => absurd h (by decide), fun h => absurd h (by decide)⟩, HK1⟩
 case round =>
  obtain ⟨z, rfl, hz, HNO, HK⟩ := hrel
  clear HK0 HK1 hP ht
  rcases hz with rfl | rfl | rfl | rfl | rfl | rfl | rfl
  ·have hix := kinds_at0 R wr
   have hw1 : PiK R w l (wr.alloc (.cells #[.string ⟨#[60, 33, 45, 45]⟩, .func (.func 114) #[.pointer (some ⟨R, 0, none⟩)] #[]] 154)) := HK.out.alloc _
   have hk0 : (wr.alloc (.cells #[.string ⟨#[60, 33, 45, 45]⟩, .func (.func 114) #[.pointer (some ⟨R, 0, none⟩)] #[]] 154)).cell? ⟨wr.heap.size, 1, none⟩ = some (.func (.func 114) #[.pointer (some ⟨R, 0, none⟩)] #[]) := by go_simp
   have hks : wr.heap.size < (wr.alloc (.cells #[.string ⟨#[60, 33, 45, 45]⟩, .func (.func 114) #[.pointer (some ⟨R, 0, none⟩)] #[]] 154)).heap.size := by simp
   have htk : Calls Tryz.prog 120 #[.pointer (some ⟨R, 0, none⟩), .string ⟨#[60, 33, 45, 45]⟩] (wr.alloc (.cells #[.string ⟨#[60, 33, 45, 45]⟩, .func (.func 114) #[.pointer (some ⟨R, 0, none⟩)] #[]] 154)) (ScP R (.bool ([60, 33, 45, 45].isPrefixOf l)) (if [60, 33, 45, 45].isPrefixOf l then l.drop 4 else l) (wr.alloc (.cells #[.string ⟨#[60, 33, 45, 45]⟩, .func (.func 114) #[.pointer (some ⟨R, 0, none⟩)] #[]] 154))) := take_any R l [60, 33, 45, 45] _ hw1.rd
   have hRr : R < wr.heap.size := HK.out.rd.2.2
   have HKr := Lib.hid (fun (w2 : World) (t : List UInt8) (h1 : RdB R t w2) (h2 : But R (wr.alloc (.cells #[.string ⟨#[60, 33, 45, 45]⟩, .func (.func 114) #[.pointer (some ⟨R, 0, none⟩)] #[]] 154)) w2) => (⟨hw1.next h1 h2, (cell_of_block (h2.2 _ hks (by omega)) 1).trans hk0⟩ : PiK R w t w2 ∧ w2.cell? ⟨wr.heap.size, 1, none⟩ = some (.func (.func 114) #[.pointer (some ⟨R, 0, none⟩)] #[])))
   unfold ScP at htk
   cases hb : [60, 33, 45, 45].isPrefixOf l with
   | true =>
    rw [hb] at htk
    have htk2 : Calls Tryz.prog 120 #[.pointer (some ⟨R, 0, none⟩), .string ⟨#[60, 33, 45, 45]⟩] (wr.alloc (.cells #[.string ⟨#[60, 33, 45, 45]⟩, .func (.func 114) #[.pointer (some ⟨R, 0, none⟩)] #[]] 154)) (fun e w' => e = .returned (.bool true) ∧ RdB R (l.drop 4) w' ∧ But R (wr.alloc (.cells #[.string ⟨#[60, 33, 45, 45]⟩, .func (.func 114) #[.pointer (some ⟨R, 0, none⟩)] #[]] 154)) w') := htk
    have HTK := Lib.hid htk2
    have hG : oneP l = comP (l.drop 4) := by
     unfold oneP
     rw [if_pos hb]
    have hm := fun (W : World) (hr : RdB R (l.drop 4) W) (he : Env R W) => (show Calls Tryz.prog 114 #[.pointer (some ⟨R, 0, none⟩)] W (PcP R (comP (l.drop 4)) W) from by have ht := HT.out; exact comment_any R (l.drop 4) W hr (by rw [List.length_drop]; omega) he)
    clear htk htk2 hk0 hks hw1 HK HNO HT
    have hPP := HP.out
    rw [hG] at hPP
    clear hG
    generalize comP (l.drop 4) = x at *
    cases x with
    | inl err =>
     have HPE := Lib.hid (show ∀ W, But R w W → P (pan err) W from fun W hb => by rw [← hPP]; exact ⟨rfl, hb⟩)
     have HM := Lib.hid hm
     unfold PcP PaP at HM
     clear hPP hm hb
     go_wp2_with fail
     refine HTK.out.mono ?_
     rintro e w2 ⟨rfl, hr2, hb2⟩
     obtain ⟨hk2, k1⟩ := HKr.out w2 _ hr2 hb2
     have HK2 := Lib.hid hk2
     have HM2 := Lib.hid (HM.out w2 hr2 hk2.env)
     clear hr2 hb2 hk2
     go_wp2_with fail
     refine HM2.out.mono ?_
     rintro e w3 ⟨rfl, hb3⟩
     have HB3 := Lib.hid (HK2.out.but.trans hb3)
     clear hb3
     unfold pan
     go_wp2_with fail
     exact ⟨rfl, HPE.out _ HB3.out⟩
    | inr y =>
     obtain ⟨⟨tk, tn, tt, tq, te⟩, rest⟩ := y
     have HPE := Lib.hid (show ∀ W (o : Option Addr) (i j : Nat), RdB R rest W → But R w W → OwnsAt w.heap.size W (.slice o i j) tq → P (.returned (tokV tk (bs tn) (bs tt) (.slice o i j) te)) W from fun W o i j h1 h2 h3 => by rw [← hPP]; exact ⟨o, i, j, rfl, h1, h2, h3⟩)
     have hm2 : ∀ (W : World), RdB R (l.drop 4) W → Env R W → Calls Tryz.prog 114 #[.pointer (some ⟨R, 0, none⟩)] W (fun e w' => ∃ (o : Option Addr) (i j : Nat), e = .returned (.agg #[.int .i64 tk, .string (bs tn), .string (bs tt), .slice o i j, .bool te]) ∧ RdB R rest w' ∧ But R W w' ∧ OwnsAt W.heap.size w' (.slice o i j) tq) := hm
     have HM := Lib.hid hm2
     clear hPP hm hm2 hb
     go_wp2_with fail
     refine HTK.out.mono ?_
     rintro e w2 ⟨rfl, hr2, hb2⟩
     obtain ⟨hk2, k1⟩ := HKr.out w2 _ hr2 hb2
     have HK2 := Lib.hid hk2
     have HM2 := Lib.hid (HM.out w2 hr2 hk2.env)
     clear hr2 hb2 hk2
     go_wp2_with fail
     refine HM2.out.mono ?_
     rintro e w3 ⟨o, i, j, rfl, hr3, hb3, ho3⟩
     have hk3 := HK2.out.next hr3 hb3
     have HK3 := Lib.hid hk3
     have HO3 := Lib.hid ho3
     have hsw := HK2.out.but.size
     obtain ⟨⟨c0, c1, c2, c3, c4⟩, ⟨f0, f1, f2, f3, f4⟩, h3⟩ := hk3.box
     have hlt2 := HK2.out.box.2.2
     clear hr3 hb3 hk3 ho3
     go_wp2_with fail
     exact end_tok1 rfl _ w.heap.size (HK3.out.box.set) rfl rfl (HPE.out _ o i j (HK3.out.rd.tok (by omega) _ _ _ _ _) (HK3.out.but.tok (Nat.le_refl _) hR _ _ _ _ _) ((HO3.out.keep (fun k hk _ => tokSet_block _ _ _ _ _ _ _ k (by omega))).low (by omega)))
   | false =>
    rw [hb] at htk
    have htk2 : Calls Tryz.prog 120 #[.pointer (some ⟨R, 0, none⟩), .string ⟨#[60, 33, 45, 45]⟩] (wr.alloc (.cells #[.string ⟨#[60, 33, 45, 45]⟩, .func (.func 114) #[.pointer (some ⟨R, 0, none⟩)] #[]] 154)) (fun e w' => e = .returned (.bool false) ∧ RdB R l w' ∧ But R (wr.alloc (.cells #[.string ⟨#[60, 33, 45, 45]⟩, .func (.func 114) #[.pointer (some ⟨R, 0, none⟩)] #[]] 154)) w') := htk
    have HTK := Lib.hid htk2
    have HNX : Hid (NoMk l ((0 : Int) + 1).toNat) := Lib.hid (by
     have hn := HNO.out
     show NoMk l (0 + 1)
     refine ⟨fun _ => hb, fun h => absurd h (by decide), fun h => absurd h (by decide), fun h => absurd h (by decide), fun h => absurd h (by decide), fun h => absurd h (by decide)⟩)
    clear htk htk2 hk0 hks hw1 HK HNO hb
    go_wp2_with fail
    refine HTK.out.mono ?_
    rintro e w2 ⟨rfl, hr2, hb2⟩
    have HK2 := Lib.hid (HKr.out w2 _ hr2 hb2).1
    clear hr2 hb2
    go_wp2_with fail
    go_roundw
    case rel => exact ⟨0 + 1, rfl, by decide, HNX, HK2⟩
    case measure => simp [RowKit.intOf]
  ·have hix := kinds_at1 R wr
   have hw1 : PiK R w l (wr.alloc (.cells #[.string ⟨#[60, 33, 91, 67, 68, 65, 84, 65, 91]⟩, .func (.func 115) #[.pointer (some ⟨R, 0, none⟩)] #[]] 154)) := HK.out.alloc _
   have hk0 : (wr.alloc (.cells #[.string ⟨#[60, 33, 91, 67, 68, 65, 84, 65, 91]⟩, .func (.func 115) #[.pointer (some ⟨R, 0, none⟩)] #[]] 154)).cell? ⟨wr.heap.size, 1, none⟩ = some (.func (.func 115) #[.pointer (some ⟨R, 0, none⟩)] #[]) := by go_simp
   have hks : wr.heap.size < (wr.alloc (.cells #[.string ⟨#[60, 33, 91, 67, 68, 65, 84, 65, 91]⟩, .func (.func 115) #[.pointer (some ⟨R, 0, none⟩)] #[]] 154)).heap.size := by simp
   have htk : Calls Tryz.prog 120 #[.pointer (some ⟨R, 0, none⟩), .string ⟨#[60, 33, 91, 67, 68, 65, 84, 65, 91]⟩] (wr.alloc (.cells #[.string ⟨#[60, 33, 91, 67, 68, 65, 84, 65, 91]⟩, .func (.func 115) #[.pointer (some ⟨R, 0, none⟩)] #[]] 154)) (ScP R (.bool ([60, 33, 91, 67, 68, 65, 84, 65, 91].isPrefixOf l)) (if [60, 33, 91, 67, 68, 65, 84, 65, 91].isPrefixOf l then l.drop 9 else l) (wr.alloc (.cells #[.string ⟨#[60, 33, 91, 67, 68, 65, 84, 65, 91]⟩, .func (.func 115) #[.pointer (some ⟨R, 0, none⟩)] #[]] 154))) := take_any R l [60, 33, 91, 67, 68, 65, 84, 65, 91] _ hw1.rd
   have hRr : R < wr.heap.size := HK.out.rd.2.2
   have HKr := Lib.hid (fun (w2 : World) (t : List UInt8) (h1 : RdB R t w2) (h2 : But R (wr.alloc (.cells #[.string ⟨#[60, 33, 91, 67, 68, 65, 84, 65, 91]⟩, .func (.func 115) #[.pointer (some ⟨R, 0, none⟩)] #[]] 154)) w2) => (⟨hw1.next h1 h2, (cell_of_block (h2.2 _ hks (by omega)) 1).trans hk0⟩ : PiK R w t w2 ∧ w2.cell? ⟨wr.heap.size, 1, none⟩ = some (.func (.func 115) #[.pointer (some ⟨R, 0, none⟩)] #[])))
   unfold ScP at htk
   cases hb : [60, 33, 91, 67, 68, 65, 84, 65, 91].isPrefixOf l with
   | true =>
    rw [hb] at htk
    have htk2 : Calls Tryz.prog 120 #[.pointer (some ⟨R, 0, none⟩), .string ⟨#[60, 33, 91, 67, 68, 65, 84, 65, 91]⟩] (wr.alloc (.cells #[.string ⟨#[60, 33, 91, 67, 68, 65, 84, 65, 91]⟩, .func (.func 115) #[.pointer (some ⟨R, 0, none⟩)] #[]] 154)) (fun e w' => e = .returned (.bool true) ∧ RdB R (l.drop 9) w' ∧ But R (wr.alloc (.cells #[.string ⟨#[60, 33, 91, 67, 68, 65, 84, 65, 91]⟩, .func (.func 115) #[.pointer (some ⟨R, 0, none⟩)] #[]] 154)) w') := htk
    have HTK := Lib.hid htk2
    have hG : oneP l = datP (l.drop 9) := by
     unfold oneP
     rw [if_neg (show ¬ ([60, 33, 45, 45].isPrefixOf l = true) by rw [HNO.out.1 (by decide)]; simp)]
     rw [if_pos hb]
    have hm := fun (W : World) (hr : RdB R (l.drop 9) W) (he : Env R W) => (show Calls Tryz.prog 115 #[.pointer (some ⟨R, 0, none⟩)] W (PcP R (datP (l.drop 9)) W) from by have ht := HT.out; exact data_any R (l.drop 9) W hr (by rw [List.length_drop]; omega) he)
    clear htk htk2 hk0 hks hw1 HK HNO HT
    have hPP := HP.out
    rw [hG] at hPP
    clear hG
    generalize datP (l.drop 9) = x at *
    cases x with
    | inl err =>
     have HPE := Lib.hid (show ∀ W, But R w W → P (pan err) W from fun W hb => by rw [← hPP]; exact ⟨rfl, hb⟩)
     have HM := Lib.hid hm
     unfold PcP PaP at HM
     clear hPP hm hb
     go_wp2_with fail
     refine HTK.out.mono ?_
     rintro e w2 ⟨rfl, hr2, hb2⟩
     obtain ⟨hk2, k1⟩ := HKr.out w2 _ hr2 hb2
     have HK2 := Lib.hid hk2
     have HM2 := Lib.hid (HM.out w2 hr2 hk2.env)
     clear hr2 hb2 hk2
     go_wp2_with fail
     refine HM2.out.mono ?_
     rintro e w3 ⟨rfl, hb3⟩
     have HB3 := Lib.hid (HK2.out.but.trans hb3)
     clear hb3
     unfold pan
     go_wp2_with fail
     exact ⟨rfl, HPE.out _ HB3.out⟩
    | inr y =>
     obtain ⟨⟨tk, tn, tt, tq, te⟩, rest⟩ := y
     have HPE := Lib.hid (show ∀ W (o : Option Addr) (i j : Nat), RdB R rest W → But R w W → OwnsAt w.heap.size W (.slice o i j) tq → P (.returned (tokV tk (bs tn) (bs tt) (.slice o i j) te)) W from fun W o i j h1 h2 h3 => by rw [← hPP]; exact ⟨o, i, j, rfl, h1, h2, h3⟩)
     have hm2 : ∀ (W : World), RdB R (l.drop 9) W → Env R W → Calls Tryz.prog 115 #[.pointer (some ⟨R, 0, none⟩)] W (fun e w' => ∃ (o : Option Addr) (i j : Nat), e = .returned (.agg #[.int .i64 tk, .string (bs tn), .string (bs tt), .slice o i j, .bool te]) ∧ RdB R rest w' ∧ But R W w' ∧ OwnsAt W.heap.size w' (.slice o i j) tq) := hm
     have HM := Lib.hid hm2
     clear hPP hm hm2 hb
     go_wp2_with fail
     refine HTK.out.mono ?_
     rintro e w2 ⟨rfl, hr2, hb2⟩
     obtain ⟨hk2, k1⟩ := HKr.out w2 _ hr2 hb2
     have HK2 := Lib.hid hk2
     have HM2 := Lib.hid (HM.out w2 hr2 hk2.env)
     clear hr2 hb2 hk2
     go_wp2_with fail
     refine HM2.out.mono ?_
     rintro e w3 ⟨o, i, j, rfl, hr3, hb3, ho3⟩
     have hk3 := HK2.out.next hr3 hb3
     have HK3 := Lib.hid hk3
     have HO3 := Lib.hid ho3
     have hsw := HK2.out.but.size
     obtain ⟨⟨c0, c1, c2, c3, c4⟩, ⟨f0, f1, f2, f3, f4⟩, h3⟩ := hk3.box
     have hlt2 := HK2.out.box.2.2
     clear hr3 hb3 hk3 ho3
     go_wp2_with fail
     exact end_tok1 rfl _ w.heap.size (HK3.out.box.set) rfl rfl (HPE.out _ o i j (HK3.out.rd.tok (by omega) _ _ _ _ _) (HK3.out.but.tok (Nat.le_refl _) hR _ _ _ _ _) ((HO3.out.keep (fun k hk _ => tokSet_block _ _ _ _ _ _ _ k (by omega))).low (by omega)))
   | false =>
    rw [hb] at htk
    have htk2 : Calls Tryz.prog 120 #[.pointer (some ⟨R, 0, none⟩), .string ⟨#[60, 33, 91, 67, 68, 65, 84, 65, 91]⟩] (wr.alloc (.cells #[.string ⟨#[60, 33, 91, 67, 68, 65, 84, 65, 91]⟩, .func (.func 115) #[.pointer (some ⟨R, 0, none⟩)] #[]] 154)) (fun e w' => e = .returned (.bool false) ∧ RdB R l w' ∧ But R (wr.alloc (.cells #[.string ⟨#[60, 33, 91, 67, 68, 65, 84, 65, 91]⟩, .func (.func 115) #[.pointer (some ⟨R, 0, none⟩)] #[]] 154)) w') := htk
    have HTK := Lib.hid htk2
    have HNX : Hid (NoMk l ((1 : Int) + 1).toNat) := Lib.hid (by
     have hn := HNO.out
     show NoMk l (1 + 1)
     refine ⟨fun _ => hn.1 (by decide), fun _ => hb, fun h => absurd h (by decide), fun h => absurd h (by decide), fun h => absurd h (by decide), fun h => absurd h (by decide)⟩)
    clear htk htk2 hk0 hks hw1 HK HNO hb
    go_wp2_with fail
    refine HTK.out.mono ?_
    rintro e w2 ⟨rfl, hr2, hb2⟩
    have HK2 := Lib.hid (HKr.out w2 _ hr2 hb2).1
    clear hr2 hb2
    go_wp2_with fail
    go_roundw
    case rel => exact ⟨1 + 1, rfl, by decide, HNX, HK2⟩
    case measure => simp [RowKit.intOf]
  ·have hix := kinds_at2 R wr
   have hw1 : PiK R w l (wr.alloc (.cells #[.string ⟨#[60, 63]⟩, .func (.func 116) #[.pointer (some ⟨R, 0, none⟩)] #[]] 154)) := HK.out.alloc _
   have hk0 : (wr.alloc (.cells #[.string ⟨#[60, 63]⟩, .func (.func 116) #[.pointer (some ⟨R, 0, none⟩)] #[]] 154)).cell? ⟨wr.heap.size, 1, none⟩ = some (.func (.func 116) #[.pointer (some ⟨R, 0, none⟩)] #[]) := by go_simp
   have hks : wr.heap.size < (wr.alloc (.cells #[.string ⟨#[60, 63]⟩, .func (.func 116) #[.pointer (some ⟨R, 0, none⟩)] #[]] 154)).heap.size := by simp
   have htk : Calls Tryz.prog 120 #[.pointer (some ⟨R, 0, none⟩), .string ⟨#[60, 63]⟩] (wr.alloc (.cells #[.string ⟨#[60, 63]⟩, .func (.func 116) #[.pointer (some ⟨R, 0, none⟩)] #[]] 154)) (ScP R (.bool ([60, 63].isPrefixOf l)) (if [60, 63].isPrefixOf l then l.drop 2 else l) (wr.alloc (.cells #[.string ⟨#[60, 63]⟩, .func (.func 116) #[.pointer (some ⟨R, 0, none⟩)] #[]] 154))) := take_any R l [60, 63] _ hw1.rd
   have hRr : R < wr.heap.size := HK.out.rd.2.2
   have HKr := Lib.hid (fun (w2 : World) (t : List UInt8) (h1 : RdB R t w2) (h2 : But R (wr.alloc (.cells #[.string ⟨#[60, 63]⟩, .func (.func 116) #[.pointer (some ⟨R, 0, none⟩)] #[]] 154)) w2) => (⟨hw1.next h1 h2, (cell_of_block (h2.2 _ hks (by omega)) 1).trans hk0⟩ : PiK R w t w2 ∧ w2.cell? ⟨wr.heap.size, 1, none⟩ = some (.func (.func 116) #[.pointer (some ⟨R, 0, none⟩)] #[])))
   unfold ScP at htk
   cases hb : [60, 63].isPrefixOf l with
   | true =>
    rw [hb] at htk
    have htk2 : Calls Tryz.prog 120 #[.pointer (some ⟨R, 0, none⟩), .string ⟨#[60, 63]⟩] (wr.alloc (.cells #[.string ⟨#[60, 63]⟩, .func (.func 116) #[.pointer (some ⟨R, 0, none⟩)] #[]] 154)) (fun e w' => e = .returned (.bool true) ∧ RdB R (l.drop 2) w' ∧ But R (wr.alloc (.cells #[.string ⟨#[60, 63]⟩, .func (.func 116) #[.pointer (some ⟨R, 0, none⟩)] #[]] 154)) w') := htk
    have HTK := Lib.hid htk2
    have hG : oneP l = insP (l.drop 2) := by
     unfold oneP
     rw [if_neg (show ¬ ([60, 33, 45, 45].isPrefixOf l = true) by rw [HNO.out.1 (by decide)]; simp)]
     rw [if_neg (show ¬ ([60, 33, 91, 67, 68, 65, 84, 65, 91].isPrefixOf l = true) by rw [HNO.out.2.1 (by decide)]; simp)]
     rw [if_pos hb]
    have hm := fun (W : World) (hr : RdB R (l.drop 2) W) (he : Env R W) => (show Calls Tryz.prog 116 #[.pointer (some ⟨R, 0, none⟩)] W (PcP R (insP (l.drop 2)) W) from by have ht := HT.out; exact ins_any R (l.drop 2) W hr (by rw [List.length_drop]; omega) (tx_take (m := [60, 63]) (by decide) hb ht) he)
    clear htk htk2 hk0 hks hw1 HK HNO HT
    have hPP := HP.out
    rw [hG] at hPP
    clear hG
    generalize insP (l.drop 2) = x at *
    cases x with
    | inl err =>
     have HPE := Lib.hid (show ∀ W, But R w W → P (pan err) W from fun W hb => by rw [← hPP]; exact ⟨rfl, hb⟩)
     have HM := Lib.hid hm
     unfold PcP PaP at HM
     clear hPP hm hb
     go_wp2_with fail
     refine HTK.out.mono ?_
     rintro e w2 ⟨rfl, hr2, hb2⟩
     obtain ⟨hk2, k1⟩ := HKr.out w2 _ hr2 hb2
     have HK2 := Lib.hid hk2
     have HM2 := Lib.hid (HM.out w2 hr2 hk2.env)
     clear hr2 hb2 hk2
     go_wp2_with fail
     refine HM2.out.mono ?_
     rintro e w3 ⟨rfl, hb3⟩
     have HB3 := Lib.hid (HK2.out.but.trans hb3)
     clear hb3
     unfold pan
     go_wp2_with fail
     exact ⟨rfl, HPE.out _ HB3.out⟩
    | inr y =>
     obtain ⟨⟨tk, tn, tt, tq, te⟩, rest⟩ := y
     have HPE := Lib.hid (show ∀ W (o : Option Addr) (i j : Nat), RdB R rest W → But R w W → OwnsAt w.heap.size W (.slice o i j) tq → P (.returned (tokV tk (bs tn) (bs tt) (.slice o i j) te)) W from fun W o i j h1 h2 h3 => by rw [← hPP]; exact ⟨o, i, j, rfl, h1, h2, h3⟩)
     have hm2 : ∀ (W : World), RdB R (l.drop 2) W → Env R W → Calls Tryz.prog 116 #[.pointer (some ⟨R, 0, none⟩)] W (fun e w' => ∃ (o : Option Addr) (i j : Nat), e = .returned (.agg #[.int .i64 tk, .string (bs tn), .string (bs tt), .slice o i j, .bool te]) ∧ RdB R rest w' ∧ But R W w' ∧ OwnsAt W.heap.size w' (.slice o i j) tq) := hm
     have HM := Lib.hid hm2
     clear hPP hm hm2 hb
     go_wp2_with fail
     refine HTK.out.mono ?_
     rintro e w2 ⟨rfl, hr2, hb2⟩
     obtain ⟨hk2, k1⟩ := HKr.out w2 _ hr2 hb2
     have HK2 := Lib.hid hk2
     have HM2 := Lib.hid (HM.out w2 hr2 hk2.env)
     clear hr2 hb2 hk2
     go_wp2_with fail
     refine HM2.out.mono ?_
     rintro e w3 ⟨o, i, j, rfl, hr3, hb3, ho3⟩
     have hk3 := HK2.out.next hr3 hb3
     have HK3 := Lib.hid hk3
     have HO3 := Lib.hid ho3
     have hsw := HK2.out.but.size
     obtain ⟨⟨c0, c1, c2, c3, c4⟩, ⟨f0, f1, f2, f3, f4⟩, h3⟩ := hk3.box
     have hlt2 := HK2.out.box.2.2
     clear hr3 hb3 hk3 ho3
     go_wp2_with fail
     exact end_tok1 rfl _ w.heap.size (HK3.out.box.set) rfl rfl (HPE.out _ o i j (HK3.out.rd.tok (by omega) _ _ _ _ _) (HK3.out.but.tok (Nat.le_refl _) hR _ _ _ _ _) ((HO3.out.keep (fun k hk _ => tokSet_block _ _ _ _ _ _ _ k (by omega))).low (by omega)))
   | false =>
    rw [hb] at htk
    have htk2 : Calls Tryz.prog 120 #[.pointer (some ⟨R, 0, none⟩), .string ⟨#[60, 63]⟩] (wr.alloc (.cells #[.string ⟨#[60, 63]⟩, .func (.func 116) #[.pointer (some ⟨R, 0, none⟩)] #[]] 154)) (fun e w' => e = .returned (.bool false) ∧ RdB R l w' ∧ But R (wr.alloc (.cells #[.string ⟨#[60, 63]⟩, .func (.func 116) #[.pointer (some ⟨R, 0, none⟩)] #[]] 154)) w') := htk
    have HTK := Lib.hid htk2
    have HNX : Hid (NoMk l ((2 : Int) + 1).toNat) := Lib.hid (by
     have hn := HNO.out
     show NoMk l (2 + 1)
     refine ⟨fun _ => hn.1 (by decide), fun _ => hn.2.1 (by decide), fun _ => hb, fun h => absurd h (by decide), fun h => absurd h (by decide), fun h => absurd h (by decide)⟩)
    clear htk htk2 hk0 hks hw1 HK HNO hb
    go_wp2_with fail
    refine HTK.out.mono ?_
    rintro e w2 ⟨rfl, hr2, hb2⟩
    have HK2 := Lib.hid (HKr.out w2 _ hr2 hb2).1
    clear hr2 hb2
    go_wp2_with fail
    go_roundw
    case rel => exact ⟨2 + 1, rfl, by decide, HNX, HK2⟩
    case measure => simp [RowKit.intOf]
  ·have hix := kinds_at3 R wr
   have hw1 : PiK R w l (wr.alloc (.cells #[.string ⟨#[60, 47]⟩, .func (.func 117) #[.pointer (some ⟨R, 0, none⟩)] #[]] 154)) := HK.out.alloc _
   have hk0 : (wr.alloc (.cells #[.string ⟨#[60, 47]⟩, .func (.func 117) #[.pointer (some ⟨R, 0, none⟩)] #[]] 154)).cell? ⟨wr.heap.size, 1, none⟩ = some (.func (.func 117) #[.pointer (some ⟨R, 0, none⟩)] #[]) := by go_simp
   have hks : wr.heap.size < (wr.alloc (.cells #[.string ⟨#[60, 47]⟩, .func (.func 117) #[.pointer (some ⟨R, 0, none⟩)] #[]] 154)).heap.size := by simp
   have htk : Calls Tryz.prog 120 #[.pointer (some ⟨R, 0, none⟩), .string ⟨#[60, 47]⟩] (wr.alloc (.cells #[.string ⟨#[60, 47]⟩, .func (.func 117) #[.pointer (some ⟨R, 0, none⟩)] #[]] 154)) (ScP R (.bool ([60, 47].isPrefixOf l)) (if [60, 47].isPrefixOf l then l.drop 2 else l) (wr.alloc (.cells #[.string ⟨#[60, 47]⟩, .func (.func 117) #[.pointer (some ⟨R, 0, none⟩)] #[]] 154))) := take_any R l [60, 47] _ hw1.rd
   have hRr : R < wr.heap.size := HK.out.rd.2.2
   have HKr := Lib.hid (fun (w2 : World) (t : List UInt8) (h1 : RdB R t w2) (h2 : But R (wr.alloc (.cells #[.string ⟨#[60, 47]⟩, .func (.func 117) #[.pointer (some ⟨R, 0, none⟩)] #[]] 154)) w2) => (⟨hw1.next h1 h2, (cell_of_block (h2.2 _ hks (by omega)) 1).trans hk0⟩ : PiK R w t w2 ∧ w2.cell? ⟨wr.heap.size, 1, none⟩ = some (.func (.func 117) #[.pointer (some ⟨R, 0, none⟩)] #[])))
   unfold ScP at htk
   cases hb : [60, 47].isPrefixOf l with
   | true =>
    rw [hb] at htk
    have htk2 : Calls Tryz.prog 120 #[.pointer (some ⟨R, 0, none⟩), .string ⟨#[60, 47]⟩] (wr.alloc (.cells #[.string ⟨#[60, 47]⟩, .func (.func 117) #[.pointer (some ⟨R, 0, none⟩)] #[]] 154)) (fun e w' => e = .returned (.bool true) ∧ RdB R (l.drop 2) w' ∧ But R (wr.alloc (.cells #[.string ⟨#[60, 47]⟩, .func (.func 117) #[.pointer (some ⟨R, 0, none⟩)] #[]] 154)) w') := htk
    have HTK := Lib.hid htk2
    have hG : oneP l = endP (l.drop 2) := by
     unfold oneP
     rw [if_neg (show ¬ ([60, 33, 45, 45].isPrefixOf l = true) by rw [HNO.out.1 (by decide)]; simp)]
     rw [if_neg (show ¬ ([60, 33, 91, 67, 68, 65, 84, 65, 91].isPrefixOf l = true) by rw [HNO.out.2.1 (by decide)]; simp)]
     rw [if_neg (show ¬ ([60, 63].isPrefixOf l = true) by rw [HNO.out.2.2.1 (by decide)]; simp)]
     rw [if_pos hb]
    have hm := fun (W : World) (hr : RdB R (l.drop 2) W) (he : Env R W) => (show Calls Tryz.prog 117 #[.pointer (some ⟨R, 0, none⟩)] W (PcP R (endP (l.drop 2)) W) from by have ht := HT.out; exact end_any R (l.drop 2) W hr (by rw [List.length_drop]; omega) (tx_take (m := [60, 47]) (by decide) hb ht) he)
    clear htk htk2 hk0 hks hw1 HK HNO HT
    have hPP := HP.out
    rw [hG] at hPP
    clear hG
    generalize endP (l.drop 2) = x at *
    cases x with
    | inl err =>
     have HPE := Lib.hid (show ∀ W, But R w W → P (pan err) W from fun W hb => by rw [← hPP]; exact ⟨rfl, hb⟩)
     have HM := Lib.hid hm
     unfold PcP PaP at HM
     clear hPP hm hb
     go_wp2_with fail
     refine HTK.out.mono ?_
     rintro e w2 ⟨rfl, hr2, hb2⟩
     obtain ⟨hk2, k1⟩ := HKr.out w2 _ hr2 hb2
     have HK2 := Lib.hid hk2
     have HM2 := Lib.hid (HM.out w2 hr2 hk2.env)
     clear hr2 hb2 hk2
     go_wp2_with fail
     refine HM2.out.mono ?_
     rintro e w3 ⟨rfl, hb3⟩
     have HB3 := Lib.hid (HK2.out.but.trans hb3)
     clear hb3
     unfold pan
     go_wp2_with fail
     exact ⟨rfl, HPE.out _ HB3.out⟩
    | inr y =>
     obtain ⟨⟨tk, tn, tt, tq, te⟩, rest⟩ := y
     have HPE := Lib.hid (show ∀ W (o : Option Addr) (i j : Nat), RdB R rest W → But R w W → OwnsAt w.heap.size W (.slice o i j) tq → P (.returned (tokV tk (bs tn) (bs tt) (.slice o i j) te)) W from fun W o i j h1 h2 h3 => by rw [← hPP]; exact ⟨o, i, j, rfl, h1, h2, h3⟩)
     have hm2 : ∀ (W : World), RdB R (l.drop 2) W → Env R W → Calls Tryz.prog 117 #[.pointer (some ⟨R, 0, none⟩)] W (fun e w' => ∃ (o : Option Addr) (i j : Nat), e = .returned (.agg #[.int .i64 tk, .string (bs tn), .string (bs tt), .slice o i j, .bool te]) ∧ RdB R rest w' ∧ But R W w' ∧ OwnsAt W.heap.size w' (.slice o i j) tq) := hm
     have HM := Lib.hid hm2
     clear hPP hm hm2 hb
     go_wp2_with fail
     refine HTK.out.mono ?_
     rintro e w2 ⟨rfl, hr2, hb2⟩
     obtain ⟨hk2, k1⟩ := HKr.out w2 _ hr2 hb2
     have HK2 := Lib.hid hk2
     have HM2 := Lib.hid (HM.out w2 hr2 hk2.env)
     clear hr2 hb2 hk2
     go_wp2_with fail
     refine HM2.out.mono ?_
     rintro e w3 ⟨o, i, j, rfl, hr3, hb3, ho3⟩
     have hk3 := HK2.out.next hr3 hb3
     have HK3 := Lib.hid hk3
     have HO3 := Lib.hid ho3
     have hsw := HK2.out.but.size
     obtain ⟨⟨c0, c1, c2, c3, c4⟩, ⟨f0, f1, f2, f3, f4⟩, h3⟩ := hk3.box
     have hlt2 := HK2.out.box.2.2
     clear hr3 hb3 hk3 ho3
     go_wp2_with fail
     exact end_tok1 rfl _ w.heap.size (HK3.out.box.set) rfl rfl (HPE.out _ o i j (HK3.out.rd.tok (by omega) _ _ _ _ _) (HK3.out.but.tok (Nat.le_refl _) hR _ _ _ _ _) ((HO3.out.keep (fun k hk _ => tokSet_block _ _ _ _ _ _ _ k (by omega))).low (by omega)))
   | false =>
    rw [hb] at htk
    have htk2 : Calls Tryz.prog 120 #[.pointer (some ⟨R, 0, none⟩), .string ⟨#[60, 47]⟩] (wr.alloc (.cells #[.string ⟨#[60, 47]⟩, .func (.func 117) #[.pointer (some ⟨R, 0, none⟩)] #[]] 154)) (fun e w' => e = .returned (.bool false) ∧ RdB R l w' ∧ But R (wr.alloc (.cells #[.string ⟨#[60, 47]⟩, .func (.func 117) #[.pointer (some ⟨R, 0, none⟩)] #[]] 154)) w') := htk
    have HTK := Lib.hid htk2
    have HNX : Hid (NoMk l ((3 : Int) + 1).toNat) := Lib.hid (by
     have hn := HNO.out
     show NoMk l (3 + 1)
     refine ⟨fun _ => hn.1 (by decide), fun _ => hn.2.1 (by decide), fun _ => hn.2.2.1 (by decide), fun _ => hb, fun h => absurd h (by decide), fun h => absurd h (by decide)⟩)
    clear htk htk2 hk0 hks hw1 HK HNO hb
    go_wp2_with fail
    refine HTK.out.mono ?_
    rintro e w2 ⟨rfl, hr2, hb2⟩
    have HK2 := Lib.hid (HKr.out w2 _ hr2 hb2).1
    clear hr2 hb2
    go_wp2_with fail
    go_roundw
    case rel => exact ⟨3 + 1, rfl, by decide, HNX, HK2⟩
    case measure => simp [RowKit.intOf]
  ·have hix := kinds_at4 R wr
   have hw1 : PiK R w l (wr.alloc (.cells #[.string ⟨#[60, 33]⟩, .func (.func 118) #[.pointer (some ⟨R, 0, none⟩)] #[]] 154)) := HK.out.alloc _
   have hk0 : (wr.alloc (.cells #[.string ⟨#[60, 33]⟩, .func (.func 118) #[.pointer (some ⟨R, 0, none⟩)] #[]] 154)).cell? ⟨wr.heap.size, 1, none⟩ = some (.func (.func 118) #[.pointer (some ⟨R, 0, none⟩)] #[]) := by go_simp
   have hks : wr.heap.size < (wr.alloc (.cells #[.string ⟨#[60, 33]⟩, .func (.func 118) #[.pointer (some ⟨R, 0, none⟩)] #[]] 154)).heap.size := by simp
   have htk : Calls Tryz.prog 120 #[.pointer (some ⟨R, 0, none⟩), .string ⟨#[60, 33]⟩] (wr.alloc (.cells #[.string ⟨#[60, 33]⟩, .func (.func 118) #[.pointer (some ⟨R, 0, none⟩)] #[]] 154)) (ScP R (.bool ([60, 33].isPrefixOf l)) (if [60, 33].isPrefixOf l then l.drop 2 else l) (wr.alloc (.cells #[.string ⟨#[60, 33]⟩, .func (.func 118) #[.pointer (some ⟨R, 0, none⟩)] #[]] 154))) := take_any R l [60, 33] _ hw1.rd
   have hRr : R < wr.heap.size := HK.out.rd.2.2
   have HKr := Lib.hid (fun (w2 : World) (t : List UInt8) (h1 : RdB R t w2) (h2 : But R (wr.alloc (.cells #[.string ⟨#[60, 33]⟩, .func (.func 118) #[.pointer (some ⟨R, 0, none⟩)] #[]] 154)) w2) => (⟨hw1.next h1 h2, (cell_of_block (h2.2 _ hks (by omega)) 1).trans hk0⟩ : PiK R w t w2 ∧ w2.cell? ⟨wr.heap.size, 1, none⟩ = some (.func (.func 118) #[.pointer (some ⟨R, 0, none⟩)] #[])))
   unfold ScP at htk
   cases hb : [60, 33].isPrefixOf l with
   | true =>
    rw [hb] at htk
    have htk2 : Calls Tryz.prog 120 #[.pointer (some ⟨R, 0, none⟩), .string ⟨#[60, 33]⟩] (wr.alloc (.cells #[.string ⟨#[60, 33]⟩, .func (.func 118) #[.pointer (some ⟨R, 0, none⟩)] #[]] 154)) (fun e w' => e = .returned (.bool true) ∧ RdB R (l.drop 2) w' ∧ But R (wr.alloc (.cells #[.string ⟨#[60, 33]⟩, .func (.func 118) #[.pointer (some ⟨R, 0, none⟩)] #[]] 154)) w') := htk
    have HTK := Lib.hid htk2
    have hG : oneP l = (Sum.inl 13 : Nat ⊕ (Tk × List UInt8)) := by
     unfold oneP
     rw [if_neg (show ¬ ([60, 33, 45, 45].isPrefixOf l = true) by rw [HNO.out.1 (by decide)]; simp)]
     rw [if_neg (show ¬ ([60, 33, 91, 67, 68, 65, 84, 65, 91].isPrefixOf l = true) by rw [HNO.out.2.1 (by decide)]; simp)]
     rw [if_neg (show ¬ ([60, 63].isPrefixOf l = true) by rw [HNO.out.2.2.1 (by decide)]; simp)]
     rw [if_neg (show ¬ ([60, 47].isPrefixOf l = true) by rw [HNO.out.2.2.2.1 (by decide)]; simp)]
     rw [if_pos hb]
    have hm := fun (W : World) (hr : RdB R (l.drop 2) W) (he : Env R W) => (show Calls Tryz.prog 118 #[.pointer (some ⟨R, 0, none⟩)] W (PcP R ((Sum.inl 13 : Nat ⊕ (Tk × List UInt8))) W) from by have ht := HT.out; exact unknown_any R (l.drop 2) W hr)
    clear htk htk2 hk0 hks hw1 HK HNO HT
    have hPP := HP.out
    rw [hG] at hPP
    clear hG
    generalize (Sum.inl 13 : Nat ⊕ (Tk × List UInt8)) = x at *
    cases x with
    | inl err =>
     have HPE := Lib.hid (show ∀ W, But R w W → P (pan err) W from fun W hb => by rw [← hPP]; exact ⟨rfl, hb⟩)
     have HM := Lib.hid hm
     unfold PcP PaP at HM
     clear hPP hm hb
     go_wp2_with fail
     refine HTK.out.mono ?_
     rintro e w2 ⟨rfl, hr2, hb2⟩
     obtain ⟨hk2, k1⟩ := HKr.out w2 _ hr2 hb2
     have HK2 := Lib.hid hk2
     have HM2 := Lib.hid (HM.out w2 hr2 hk2.env)
     clear hr2 hb2 hk2
     go_wp2_with fail
     refine HM2.out.mono ?_
     rintro e w3 ⟨rfl, hb3⟩
     have HB3 := Lib.hid (HK2.out.but.trans hb3)
     clear hb3
     unfold pan
     go_wp2_with fail
     exact ⟨rfl, HPE.out _ HB3.out⟩
    | inr y =>
     obtain ⟨⟨tk, tn, tt, tq, te⟩, rest⟩ := y
     have HPE := Lib.hid (show ∀ W (o : Option Addr) (i j : Nat), RdB R rest W → But R w W → OwnsAt w.heap.size W (.slice o i j) tq → P (.returned (tokV tk (bs tn) (bs tt) (.slice o i j) te)) W from fun W o i j h1 h2 h3 => by rw [← hPP]; exact ⟨o, i, j, rfl, h1, h2, h3⟩)
     have hm2 : ∀ (W : World), RdB R (l.drop 2) W → Env R W → Calls Tryz.prog 118 #[.pointer (some ⟨R, 0, none⟩)] W (fun e w' => ∃ (o : Option Addr) (i j : Nat), e = .returned (.agg #[.int .i64 tk, .string (bs tn), .string (bs tt), .slice o i j, .bool te]) ∧ RdB R rest w' ∧ But R W w' ∧ OwnsAt W.heap.size w' (.slice o i j) tq) := hm
     have HM := Lib.hid hm2
     clear hPP hm hm2 hb
     go_wp2_with fail
     refine HTK.out.mono ?_
     rintro e w2 ⟨rfl, hr2, hb2⟩
     obtain ⟨hk2, k1⟩ := HKr.out w2 _ hr2 hb2
     have HK2 := Lib.hid hk2
     have HM2 := Lib.hid (HM.out w2 hr2 hk2.env)
     clear hr2 hb2 hk2
     go_wp2_with fail
     refine HM2.out.mono ?_
     rintro e w3 ⟨o, i, j, rfl, hr3, hb3, ho3⟩
     have hk3 := HK2.out.next hr3 hb3
     have HK3 := Lib.hid hk3
     have HO3 := Lib.hid ho3
     have hsw := HK2.out.but.size
     obtain ⟨⟨c0, c1, c2, c3, c4⟩, ⟨f0, f1, f2, f3, f4⟩, h3⟩ := hk3.box
     have hlt2 := HK2.out.box.2.2
     clear hr3 hb3 hk3 ho3
     go_wp2_with fail
     exact end_tok1 rfl _ w.heap.size (HK3.out.box.set) rfl rfl (HPE.out _ o i j (HK3.out.rd.tok (by omega) _ _ _ _ _) (HK3.out.but.tok (Nat.le_refl _) hR _ _ _ _ _) ((HO3.out.keep (fun k hk _ => tokSet_block _ _ _ _ _ _ _ k (by omega))).low (by omega)))
   | false =>
    rw [hb] at htk
    have htk2 : Calls Tryz.prog 120 #[.pointer (some ⟨R, 0, none⟩), .string ⟨#[60, 33]⟩] (wr.alloc (.cells #[.string ⟨#[60, 33]⟩, .func (.func 118) #[.pointer (some ⟨R, 0, none⟩)] #[]] 154)) (fun e w' => e = .returned (.bool false) ∧ RdB R l w' ∧ But R (wr.alloc (.cells #[.string ⟨#[60, 33]⟩, .func (.func 118) #[.pointer (some ⟨R, 0, none⟩)] #[]] 154)) w') := htk
    have HTK := Lib.hid htk2
    have HNX : Hid (NoMk l ((4 : Int) + 1).toNat) := Lib.hid (by
     have hn := HNO.out
     show NoMk l (4 + 1)
     refine ⟨fun _ => hn.1 (by decide), fun _ => hn.2.1 (by decide), fun _ => hn.2.2.1 (by decide), fun _ => hn.2.2.2.1 (by decide), fun _ => hb, fun h => absurd h (by decide)⟩)
    clear htk htk2 hk0 hks hw1 HK HNO hb
    go_wp2_with fail
    refine HTK.out.mono ?_
    rintro e w2 ⟨rfl, hr2, hb2⟩
    have HK2 := Lib.hid (HKr.out w2 _ hr2 hb2).1
    clear hr2 hb2
    go_wp2_with fail
    go_roundw
    case rel => exact ⟨4 + 1, rfl, by decide, HNX, HK2⟩
    case measure => simp [RowKit.intOf]
  ·have hix := kinds_at5 R wr
   have hw1 : PiK R w l (wr.alloc (.cells #[.string ⟨#[60]⟩, .func (.func 119) #[.pointer (some ⟨R, 0, none⟩)] #[]] 154)) := HK.out.alloc _
   have hk0 : (wr.alloc (.cells #[.string ⟨#[60]⟩, .func (.func 119) #[.pointer (some ⟨R, 0, none⟩)] #[]] 154)).cell? ⟨wr.heap.size, 1, none⟩ = some (.func (.func 119) #[.pointer (some ⟨R, 0, none⟩)] #[]) := by go_simp
   have hks : wr.heap.size < (wr.alloc (.cells #[.string ⟨#[60]⟩, .func (.func 119) #[.pointer (some ⟨R, 0, none⟩)] #[]] 154)).heap.size := by simp
   have htk : Calls Tryz.prog 120 #[.pointer (some ⟨R, 0, none⟩), .string ⟨#[60]⟩] (wr.alloc (.cells #[.string ⟨#[60]⟩, .func (.func 119) #[.pointer (some ⟨R, 0, none⟩)] #[]] 154)) (ScP R (.bool ([60].isPrefixOf l)) (if [60].isPrefixOf l then l.drop 1 else l) (wr.alloc (.cells #[.string ⟨#[60]⟩, .func (.func 119) #[.pointer (some ⟨R, 0, none⟩)] #[]] 154))) := take_any R l [60] _ hw1.rd
   have hRr : R < wr.heap.size := HK.out.rd.2.2
   have HKr := Lib.hid (fun (w2 : World) (t : List UInt8) (h1 : RdB R t w2) (h2 : But R (wr.alloc (.cells #[.string ⟨#[60]⟩, .func (.func 119) #[.pointer (some ⟨R, 0, none⟩)] #[]] 154)) w2) => (⟨hw1.next h1 h2, (cell_of_block (h2.2 _ hks (by omega)) 1).trans hk0⟩ : PiK R w t w2 ∧ w2.cell? ⟨wr.heap.size, 1, none⟩ = some (.func (.func 119) #[.pointer (some ⟨R, 0, none⟩)] #[])))
   unfold ScP at htk
   cases hb : [60].isPrefixOf l with
   | true =>
    rw [hb] at htk
    have htk2 : Calls Tryz.prog 120 #[.pointer (some ⟨R, 0, none⟩), .string ⟨#[60]⟩] (wr.alloc (.cells #[.string ⟨#[60]⟩, .func (.func 119) #[.pointer (some ⟨R, 0, none⟩)] #[]] 154)) (fun e w' => e = .returned (.bool true) ∧ RdB R (l.drop 1) w' ∧ But R (wr.alloc (.cells #[.string ⟨#[60]⟩, .func (.func 119) #[.pointer (some ⟨R, 0, none⟩)] #[]] 154)) w') := htk
    have HTK := Lib.hid htk2
    have hG : oneP l = staP (l.drop 1) := by
     unfold oneP
     rw [if_neg (show ¬ ([60, 33, 45, 45].isPrefixOf l = true) by rw [HNO.out.1 (by decide)]; simp)]
     rw [if_neg (show ¬ ([60, 33, 91, 67, 68, 65, 84, 65, 91].isPrefixOf l = true) by rw [HNO.out.2.1 (by decide)]; simp)]
     rw [if_neg (show ¬ ([60, 63].isPrefixOf l = true) by rw [HNO.out.2.2.1 (by decide)]; simp)]
     rw [if_neg (show ¬ ([60, 47].isPrefixOf l = true) by rw [HNO.out.2.2.2.1 (by decide)]; simp)]
     rw [if_neg (show ¬ ([60, 33].isPrefixOf l = true) by rw [HNO.out.2.2.2.2.1 (by decide)]; simp)]
     rw [if_pos hb]
    have hm := fun (W : World) (hr : RdB R (l.drop 1) W) (he : Env R W) => (show Calls Tryz.prog 119 #[.pointer (some ⟨R, 0, none⟩)] W (PcP R (staP (l.drop 1)) W) from by have ht := HT.out; exact start_p R (l.drop 1) W hr (by rw [List.length_drop]; omega) (tx_take (m := [60]) (by decide) hb ht) he)
    clear htk htk2 hk0 hks hw1 HK HNO HT
    have hPP := HP.out
    rw [hG] at hPP
    clear hG
    generalize staP (l.drop 1) = x at *
    cases x with
    | inl err =>
     have HPE := Lib.hid (show ∀ W, But R w W → P (pan err) W from fun W hb => by rw [← hPP]; exact ⟨rfl, hb⟩)
     have HM := Lib.hid hm
     unfold PcP PaP at HM
     clear hPP hm hb
     go_wp2_with fail
     refine HTK.out.mono ?_
     rintro e w2 ⟨rfl, hr2, hb2⟩
     obtain ⟨hk2, k1⟩ := HKr.out w2 _ hr2 hb2
     have HK2 := Lib.hid hk2
     have HM2 := Lib.hid (HM.out w2 hr2 hk2.env)
     clear hr2 hb2 hk2
     go_wp2_with fail
     refine HM2.out.mono ?_
     rintro e w3 ⟨rfl, hb3⟩
     have HB3 := Lib.hid (HK2.out.but.trans hb3)
     clear hb3
     unfold pan
     go_wp2_with fail
     exact ⟨rfl, HPE.out _ HB3.out⟩
    | inr y =>
     obtain ⟨⟨tk, tn, tt, tq, te⟩, rest⟩ := y
     have HPE := Lib.hid (show ∀ W (o : Option Addr) (i j : Nat), RdB R rest W → But R w W → OwnsAt w.heap.size W (.slice o i j) tq → P (.returned (tokV tk (bs tn) (bs tt) (.slice o i j) te)) W from fun W o i j h1 h2 h3 => by rw [← hPP]; exact ⟨o, i, j, rfl, h1, h2, h3⟩)
     have hm2 : ∀ (W : World), RdB R (l.drop 1) W → Env R W → Calls Tryz.prog 119 #[.pointer (some ⟨R, 0, none⟩)] W (fun e w' => ∃ (o : Option Addr) (i j : Nat), e = .returned (.agg #[.int .i64 tk, .string (bs tn), .string (bs tt), .slice o i j, .bool te]) ∧ RdB R rest w' ∧ But R W w' ∧ OwnsAt W.heap.size w' (.slice o i j) tq) := hm
     have HM := Lib.hid hm2
     clear hPP hm hm2 hb
     go_wp2_with fail
     refine HTK.out.mono ?_
     rintro e w2 ⟨rfl, hr2, hb2⟩
     obtain ⟨hk2, k1⟩ := HKr.out w2 _ hr2 hb2
     have HK2 := Lib.hid hk2
     have HM2 := Lib.hid (HM.out w2 hr2 hk2.env)
     clear hr2 hb2 hk2
     go_wp2_with fail
     refine HM2.out.mono ?_
     rintro e w3 ⟨o, i, j, rfl, hr3, hb3, ho3⟩
     have hk3 := HK2.out.next hr3 hb3
     have HK3 := Lib.hid hk3
     have HO3 := Lib.hid ho3
     have hsw := HK2.out.but.size
     obtain ⟨⟨c0, c1, c2, c3, c4⟩, ⟨f0, f1, f2, f3, f4⟩, h3⟩ := hk3.box
     have hlt2 := HK2.out.box.2.2
     clear hr3 hb3 hk3 ho3
     go_wp2_with fail
     exact end_tok1 rfl _ w.heap.size (HK3.out.box.set) rfl rfl (HPE.out _ o i j (HK3.out.rd.tok (by omega) _ _ _ _ _) (HK3.out.but.tok (Nat.le_refl _) hR _ _ _ _ _) ((HO3.out.keep (fun k hk _ => tokSet_block _ _ _ _ _ _ _ k (by omega))).low (by omega)))
   | false =>
    rw [hb] at htk
    have htk2 : Calls Tryz.prog 120 #[.pointer (some ⟨R, 0, none⟩), .string ⟨#[60]⟩] (wr.alloc (.cells #[.string ⟨#[60]⟩, .func (.func 119) #[.pointer (some ⟨R, 0, none⟩)] #[]] 154)) (fun e w' => e = .returned (.bool false) ∧ RdB R l w' ∧ But R (wr.alloc (.cells #[.string ⟨#[60]⟩, .func (.func 119) #[.pointer (some ⟨R, 0, none⟩)] #[]] 154)) w') := htk
    have HTK := Lib.hid htk2
    have HNX : Hid (NoMk l ((5 : Int) + 1).toNat) := Lib.hid (by
     have hn := HNO.out
     show NoMk l (5 + 1)
     refine ⟨fun _ => hn.1 (by decide), fun _ => hn.2.1 (by decide), fun _ => hn.2.2.1 (by decide), fun _ => hn.2.2.2.1 (by decide), fun _ => hn.2.2.2.2.1 (by decide), fun _ => hb⟩)
    clear htk htk2 hk0 hks hw1 HK HNO hb
    go_wp2_with fail
    refine HTK.out.mono ?_
    rintro e w2 ⟨rfl, hr2, hb2⟩
    have HK2 := Lib.hid (HKr.out w2 _ hr2 hb2).1
    clear hr2 hb2
    go_wp2_with fail
    go_roundw
    case rel => exact ⟨5 + 1, rfl, by decide, HNX, HK2⟩
    case measure => simp [RowKit.intOf]
  ·have hG : oneP l = txtP l := by
    apply oneP_txt
    exact HNO.out.2.2.2.2.2 (by decide)
   have htp := text_p R l wr HK.out.rd (by omega) HK.out.env
   have hPP := HP.out
   rw [hG] at hPP
   clear hG HNO
   generalize txtP l = x at *
   cases x with
   | inl err =>
    have HPE := Lib.hid (show ∀ W, But R w W → P (pan err) W from fun W hb => by rw [← hPP]; exact ⟨rfl, hb⟩)
    have HM := Lib.hid htp
    unfold PcP PaP at HM
    clear hPP htp
    go_wp2_with fail
    refine HM.out.mono ?_
    rintro e w3 ⟨rfl, hb3⟩
    have HB3 := Lib.hid (HK.out.but.trans hb3)
    clear hb3
    unfold pan
    go_wp2_with fail
    exact ⟨rfl, HPE.out _ HB3.out⟩
   | inr y =>
    obtain ⟨⟨tk, tn, tt, tq, te⟩, rest⟩ := y
    have HPE := Lib.hid (show ∀ W (o : Option Addr) (i j : Nat), RdB R rest W → But R w W → OwnsAt w.heap.size W (.slice o i j) tq → P (.returned (tokV tk (bs tn) (bs tt) (.slice o i j) te)) W from fun W o i j h1 h2 h3 => by rw [← hPP]; exact ⟨o, i, j, rfl, h1, h2, h3⟩)
    have hm2 : Calls Tryz.prog 121 #[.pointer (some ⟨R, 0, none⟩)] wr (fun e w' => ∃ (o : Option Addr) (i j : Nat), e = .returned (.agg #[.int .i64 tk, .string (bs tn), .string (bs tt), .slice o i j, .bool te]) ∧ RdB R rest w' ∧ But R wr w' ∧ OwnsAt wr.heap.size w' (.slice o i j) tq) := htp
    have HM := Lib.hid hm2
    clear hPP htp hm2
    go_wp2_with fail
    refine HM.out.mono ?_
    rintro e w3 ⟨o, i, j, rfl, hr3, hb3, ho3⟩
    have hk3 := HK.out.next hr3 hb3
    have HK3 := Lib.hid hk3
    have HO3 := Lib.hid ho3
    have hsw := HK.out.but.size
    obtain ⟨⟨c0, c1, c2, c3, c4⟩, ⟨f0, f1, f2, f3, f4⟩, h3⟩ := hk3.box
    have hlt2 := HK.out.box.2.2
    clear hr3 hb3 hk3 ho3
    go_wp2_with fail
    exact end_tok1 rfl _ w.heap.size (HK3.out.box.set) rfl rfl (HPE.out _ o i j (HK3.out.rd.tok (by omega) _ _ _ _ _) (HK3.out.but.tok (Nat.le_refl _) hR _ _ _ _ _) ((HO3.out.keep (fun k hk _ => tokSet_block _ _ _ _ _ _ _ k (by omega))).low (by omega)))
end Char
end Go.Proofs.YtlmodgnkmlbjhaaGreatDoor
