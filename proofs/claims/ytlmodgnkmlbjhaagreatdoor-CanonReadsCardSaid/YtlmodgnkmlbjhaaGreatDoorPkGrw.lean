import Derived.Test.YtlmodgnkmlbjhaaGreatDoorPkTrM
import Derived.Test.YtlmodgnkmlbjhaaGreatDoorPkShelf
import Derived.Test.YtlmodgnkmlbjhaaGreatDoorPkPieces
import Derived.Shelf.SlSortCmp.NoneTotal
import Derived.Test.YtlmodgnkmlbjhaaGreatDoorPkGrS
import Derived.Test.YtlmodgnkmlbjhaaGreatDoorPkRef
import Derived.Deep.QuietTactic
import Derived.BigQuiet
namespace Go.Proofs.YtlmodgnkmlbjhaaGreatDoor
namespace Char
open Go.RowKit Go.Lib Go.Shelf
def encA (x : At2) : List Value := [.string (bs x.1), .string (bs x.2)]
theorem encA_len (x : At2) : (encA x).length = 2 := rfl
theorem flat_encA (l : List At2) : Sort.flatK encA 2 l.toArray = (atsC l).toArray := by
 refine Sort.ext_get! (by rw [Sort.size_flatK, List.size_toArray, List.size_toArray, atsC_len]) fun t ht => ?_
 have ht' : t < l.length * 2 := by simpa using ht
 rw [Sort.get_flatK encA 2 _ t (by simpa using ht')]
 obtain ⟨h1, h2⟩ := atsC_at l (t / 2) (by omega)
 have hd : l.toArray[t / 2]! = l.getD (t / 2) ([], []) := by
  have hk : t / 2 < l.length := by omega
  simp [hk]
 rw [hd]
 rcases Nat.mod_two_eq_zero_or_one t with h0 | h0
 ·rw [h0]
  have e : t / 2 * 2 = t := by omega
  rw [e] at h1
  simp [encA, h1]
 ·rw [h0]
  have e : t / 2 * 2 + 1 = t := by omega
  rw [e] at h2
  simp [encA, h2]
set_option maxHeartbeats 1000000 in
theorem cmpA_any (x y : At2) (W : World) : Calls Tryz.prog 91 #[.agg #[.string (bs x.1), .string (bs x.2)], .agg #[.string (bs y.1), .string (bs y.2)]] W fun e w' => e = .returned (.int .i64 (compareBytes x.1 y.1)) ∧ ∃ q os', w' = Sort.grow (W.drewN q) os' := by
 have hcon := fun W' => Any.strings_Compare layCmp (bs x.1) (bs y.1) W'
 change ∀ W', Calls Tryz.prog 92 _ _ _ at hcon
 simp only [bs_list] at hcon
 generalize compareBytes x.1 y.1 = r at hcon ⊢
 go_enter Tryz.func91, Tryz.ntmps91
 go_wp2_with (go_at_call 92; refine (hcon _).mono ?_; rintro e w' ⟨rfl, rfl⟩)
 go_ret
 exact ⟨rfl, 0, _, by rw [Sort.alloc_eq_grow, Sort.alloc_eq_grow, Sort.grow_grow]; rfl⟩
theorem swoA : Sort.SWO (ltOf fun x y : At2 => compareBytes x.1 y.1) where
 irrefl x := by show decide _ = false; rw [cmp_less]; exact less_irr _
 trans x y z h1 h2 := by
  change decide _ = true at h1 h2
  show decide _ = true
  rw [cmp_less] at *
  exact less_trans _ _ _ h1 h2
 ntrans x y z h1 h2 := by
  change decide _ = false at h1 h2
  show decide _ = false
  rw [cmp_less] at *
  cases hb : Op.bytesLess x.1 z.1 with
  | false => rfl
  | true =>
   exfalso
   cases hyz : Op.bytesLess y.1 x.1 with
   | true =>
    have := less_trans _ _ _ hyz hb
    rw [this] at h2; cases h2
   | false =>
    have e := less_tri _ _ h1 hyz
    rw [e] at hb
    rw [hb] at h2; cases h2
theorem sortFn_any (B : Nat) (w : World) (o : Option Addr) (i j : Nat) (qs : List At2) (h : OwnsAt B w (.slice o i j) qs) (h12 : qs.length ≤ 12) (hn : (qs.map (·.1)).Nodup) :
  Calls Tryz.prog 90 #[.slice o i j, .func (.func 91) #[] #[]] w fun e w' => e = .returned (.tuple #[]) ∧ OwnsAt B w' (.slice o i j) (sortA qs) ∧ w.grownBy w' (Value.slice o i j).ownBlock := by
 have h0 := h
 rcases h.2 with ⟨h1, h2⟩ | ⟨g, cap, cur, e1, e2, hg, e3, e4, e5, e6⟩
 ·simp only [Value.slice.injEq] at h1
  obtain ⟨rfl, rfl, rfl⟩ := h1
  have hq : qs = [] := List.eq_nil_of_length_eq_zero h2
  subst hq
  refine (AnyF.slices_SortFunc_none laySort none 0 _ w).mono ?_
  rintro e w' ⟨rfl, rfl⟩
  exact ⟨rfl, h, ⟨rfl, rfl, rfl, Nat.le_refl _, fun _ _ _ => rfl⟩⟩
 ·simp only [Value.slice.injEq] at e1
  obtain ⟨rfl, rfl, rfl⟩ := e1
  have hsz : (atsC qs).length = qs.length * 2 := atsC_len qs
  have hH : Sort.HoldsK encA 2 w g 0 qs.toArray := by
   unfold Sort.HoldsK
   rw [flat_encA]
   intro t ht
   have ht' : t < (atsC qs).length := by simpa using ht
   refine ⟨?_, by simp [World.frozen?, hg]⟩
   have hh : (cur.toList.take (qs.length * 2))[t]? = (atsC qs)[t]? := by rw [e6]
   rw [List.getElem?_take_of_lt (by omega)] at hh
   simp only [World.cell?, hg, Nat.zero_add]
   simp only [Option.isSome_none, Bool.false_eq_true, if_false]
   rw [← Array.getElem?_toList, hh]
   simp [ht']
  have hcon := AnyQ.slices_SortFunc_small_sorted laySort 2 Tryz.isAgg40 Tryz.sizeOf40 encA encA_len (fun x v hv => by simp [encA] at hv; rcases hv with rfl | rfl <;> rfl) (fun x y => compareBytes x.1 y.1) 91 #[] swoA g 0 j qs.toArray w
   (enters_of Tryz.func91 (by kernel_rfl) rfl) (fun _ _ _ _ x y => cmpA_any x y _) hH (Array.getElem?_eq_some_iff.1 hg).1 (by simpa using h12)
   (fun n W hn => (Any.bits_Len layLen n W (by omega) (by omega)).mono fun _ _ ⟨he, hw⟩ => ⟨⟨_, he⟩, hw⟩)
  rw [List.size_toArray] at hcon
  refine (show Calls Tryz.prog 90 _ _ _ from hcon).mono ?_
  rintro e w' ⟨rfl, d', n, os, hp, hs, rfl⟩
  obtain ⟨ts, rfl⟩ : ∃ ts : List At2, d' = ts.toArray := ⟨d'.toList, by simp⟩
  have hlen : ts.length = qs.length := by simpa using hp.1
  have hts : ts = sortA qs := by
   refine sorted_eq qs ts ?_ hn ?_
   ·have := hp.2.2
    rw [← hlen] at this
    simpa [hlen, List.take_of_length_le (show ts.length ≤ qs.length by omega)] using this
   ·intro a b hab hb
    have := hs a b (Nat.zero_le _) hab (by omega)
    rw [← cmp_less]
    have ha : a < ts.length := by omega
    simpa [ltOf, ha, hb] using this
  subst hts
  refine ⟨rfl, ?_, ?_⟩
  ·refine ⟨by rw [atsC_len], .inr ⟨g, j, Sort.putCells id 0 (atsC (sortA qs)).toArray cur, by rw [sortA_len], e2, ?_, by rw [sortA_len]; exact e3, e4, by simp [Sort.putCells, e5], ?_⟩⟩
   ·have hg' : g < w.heap.size := (Array.getElem?_eq_some_iff.1 hg).1
    unfold sortWorldK Sort.putRowK
    rw [flat_encA, Sort.heap_grow_old _ _ (by simpa using hg')]
    simp [Sort.putRow, Sort.mapBlock, Sort.ahead, Array.getElem?_modify, hg, Sort.onCells]
   ·have hcs : qs.length * 2 ≤ cur.size := by rw [e5]; omega
    apply List.ext_getElem?
    intro t
    rw [sortA_len]
    by_cases ht : t < qs.length * 2
    ·rw [List.getElem?_take_of_lt ht, Array.getElem?_toList]
     have h3 : t < (atsC (sortA qs)).length := by rw [atsC_len, sortA_len]; exact ht
     simp [Sort.putCells, h3, show t < cur.size by omega]
    ·rw [List.getElem?_take_eq_none (by omega), List.getElem?_eq_none (by rw [atsC_len, sortA_len]; omega)]
  ·refine ⟨rfl, rfl, rfl, by simp [sortWorldK, Sort.putRowK], fun k hk hne => ?_⟩
   unfold sortWorldK Sort.putRowK
   rw [Sort.heap_grow_old _ _ (by simpa using hk)]
   have : g ≠ k := fun e => hne (by rw [← e]; rfl)
   simp [Sort.putRow, Sort.mapBlock, Sort.ahead, Array.getElem?_modify, this]
theorem OwnsAt.belowW {B : Nat} {w w' : World} {v : Value} {qs : List At2} (h : OwnsAt B w v qs) (hb : Below w.heap.size w w') : OwnsAt B w' v qs := h.keep (fun k _ hk => hb.block k hk)
structure BegP (B : Nat) (w : World) (nm : List UInt8) (va : Value) (qs : List At2) (e : Nat) (w' : World) : Prop where
 hi : w.heap.size ≤ e
 blk : w'.heap[e]? = some (.cells #[.int .i64 2, .string (bs nm), .string (bs []), va, .slice none 0 0] 25 (0, 0))
 ats : OwnsAt B w' va (sortA qs)
 gr : w.grownBy w' va.ownBlock
set_option maxRecDepth 100000 in
set_option maxHeartbeats 4000000 in
theorem begun_any (B : Nat) (w : World) (kd : Int) (nm tx : List UInt8) (em : Bool) (o : Option Addr) (i j : Nat) (qs : List At2) (h : OwnsAt B w (.slice o i j) qs) (h12 : qs.length ≤ 12) (hn : (qs.map (·.1)).Nodup) :
  Calls Tryz.prog 63 #[.agg #[.int .i64 kd, .string (bs nm), .string (bs tx), .slice o i j, .bool em]] w fun e w' => ∃ g, e = .returned (.pointer (some ⟨g, 0, none⟩)) ∧ BegP B w nm (.slice o i j) qs g w' := by
 obtain ⟨W0, hW0⟩ : ∃ W0, W0 = w.alloc (.cells #[.int .i64 kd, .string (bs nm), .string (bs tx), .slice o i j, .bool em] 72) := ⟨_, rfl⟩
 have hb0 : Below w.heap.size w W0 := by rw [hW0]; exact (Below.refl _ _).alloc (Nat.le_refl _) _
 have hs0 : W0.heap.size = w.heap.size + 1 := by rw [hW0]; simp
 have hC := sortFn_any B W0 o i j qs (h.belowW hb0) h12 hn
 have HC := Lib.hid hC
 have HB0 := Lib.hid hb0
 have HO := Lib.hid h
 have c0 : ∀ W', W0.grownBy W' (Value.slice o i j).ownBlock → W'.cell? ⟨w.heap.size, 1, none⟩ = some (.string (bs nm)) ∧ W'.cell? ⟨w.heap.size, 3, none⟩ = some (.slice o i j) := fun W' hg => by
  have hne : some w.heap.size ≠ (Value.slice o i j).ownBlock := fun e => by
   have := (h.block e.symm).2
   omega
  exact ⟨hg.cell (a := ⟨w.heap.size, 1, none⟩) (by rw [hW0]; go_simp) hne, hg.cell (a := ⟨w.heap.size, 3, none⟩) (by rw [hW0]; go_simp) hne⟩
 have HC0 := Lib.hid c0
 have HW0 := Lib.hid hW0
 have HS0 := Lib.hid hs0
 clear hb0 hC h c0 hW0 hs0
 go_enter Tryz.func63, Tryz.ntmps63
 go_wp2_with fail
 rw [← HW0.out]
 refine HC.out.mono ?_
 rintro e w1 ⟨rfl, ho1, hg1⟩
 obtain ⟨c1, c3⟩ := HC0.out w1 hg1
 have HO1 := Lib.hid ho1
 have HG1 := Lib.hid hg1
 clear ho1 hg1
 go_wp2_with fail
 go_ret
 have hs1 := HG1.out.size
 have hs0 := HS0.out
 refine ⟨_, rfl, by omega, ?_, HO1.out.belowW ((Below.refl _ _).alloc (Nat.le_refl _) _), ?_⟩
 ·exact World.alloc_heap_new w1 _
 ·refine ⟨HG1.out.os.trans HB0.out.os, HG1.out.tape.trans HB0.out.tape, HG1.out.output.trans HB0.out.output, by simp; omega, fun k hk hne => ?_⟩
  rw [Below.heap_alloc w1 _ k (by omega), HG1.out.block k (by omega) hne]
  exact HB0.out.block k hk
end Char
namespace Char
open Go.RowKit Go.Lib
set_option maxRecDepth 100000 in
theorem top_any {B H : Nat} {fut : List Nat} {w : World} {vo : Value} {f : Fr} {r : List Fr} (h : GS B H fut w vo (f :: r)) (hl : r.length ≤ 1000) :
  Calls Tryz.prog 56 #[.pointer (some ⟨H + 3, 0, none⟩)] w fun e w' => e = .returned (.pointer (some ⟨f.e, 0, none⟩)) ∧ w' = w := by
 obtain ⟨g, cap, rfl, hc, hg, hk⟩ := h.form (by simp)
 have h0 := hk 0 (by simp)
 simp only [List.length_cons, List.getElem_cons_zero, Nat.add_sub_cancel, Nat.sub_zero] at h0
 have ho : w.cell? ⟨H + 3, 0, none⟩ = some (.slice (some ⟨g, 0, none⟩) (r.length + 1) cap) := by simp [World.cell?, h.ob]
 generalize r.length = m at *
 clear h hk hc hg
 go_enter Tryz.func56, Tryz.ntmps56
 go_wp2_with fail
 go_ret
 exact ⟨rfl, rfl⟩
def LastAt (w : World) (vk : Value) (ks : List Tr) : Prop := ∃ o j, vk = .slice o ks.length j ∧ ∀ k, ks.getLast? = some k → ∃ g, o = some ⟨g, 0, none⟩ ∧ w.cell? ⟨g, (ks.length - 1) * 5, none⟩ = some (.int .i64 k.kd)
theorem OwnsNd.last {B : Nat} {w : World} {F : Nat → Prop} {v : Value} {ks : List Tr} (h : OwnsNd B w F v ks) : LastAt w v ks := by
 obtain ⟨o, j, rfl⟩ := h.form
 obtain ⟨xs, rfl, h2, _⟩ := h
 refine ⟨o, j, rfl, fun k hk => ?_⟩
 rw [List.getLast?_map] at hk
 have hne : xs ≠ [] := by rintro rfl; cases hk
 have hpos : 0 < xs.length := List.length_pos_iff.2 hne
 rw [List.length_map] at h2 ⊢
 obtain ⟨g, hg, hc, _⟩ := ownsNd_cells h2 (xs.length - 1) (by omega)
 rw [List.getLast?_eq_getElem?, List.getElem?_eq_getElem (by omega)] at hk
 simp only [Option.map_some, Option.some.injEq] at hk
 rw [hk] at hc
 exact ⟨g, hg, hc⟩
theorem LastAt.keep {w w' : World} {vk : Value} {ks : List Tr} (h : LastAt w vk ks) (hb : Below w.heap.size w w') : LastAt w' vk ks := by
 obtain ⟨o, j, e, hk⟩ := h
 refine ⟨o, j, e, fun k hl => ?_⟩
 obtain ⟨g, h1, h2⟩ := hk k hl
 exact ⟨g, h1, (hb.cell (p := ⟨g, (ks.length - 1) * 5, none⟩) (cell_lt h2)).trans h2⟩
set_option maxRecDepth 100000 in
set_option maxHeartbeats 4000000 in
theorem lastText_nil (w : World) (e : Nat) (o : Option Addr) (j : Nat) (hc : w.cell? ⟨e, 4, none⟩ = some (.slice o 0 j)) :
  Calls Tryz.prog 58 #[.pointer (some ⟨e, 0, none⟩)] w fun en w' => en = .returned (.pointer none) ∧ ∃ n, w' = w.drewN n := by
 go_enter Tryz.func58, Tryz.ntmps58
 go_wp2_with fail
 go_quiet (fail)
 go_wp2_with fail
 go_ret
 exact ⟨rfl, _, rfl⟩
theorem wrap_sub1 (m : Nat) (h : m ≤ 1000000) : IntKind.i64.wrap ((m : Int) + 1 - 1) = (m : Int) := by
 rw [Int.add_sub_cancel, IntKind.wrap_i64]
 omega
set_option maxRecDepth 100000 in
set_option maxHeartbeats 4000000 in
theorem lastText_no (w : World) (e g m j : Nat) (c : Int) (hc : w.cell? ⟨e, 4, none⟩ = some (.slice (some ⟨g, 0, none⟩) (m + 1) j)) (h1 : w.cell? ⟨g, m * 5, none⟩ = some (.int .i64 c)) (hl : m ≤ 1000000) (h4 : c ≠ 4) :
  Calls Tryz.prog 58 #[.pointer (some ⟨e, 0, none⟩)] w fun en w' => en = .returned (.pointer none) ∧ ∃ n, w' = w.drewN n := by
 have k1 : ((m : Int) + 1 == 0) = false := by rw [beq_eq_false_iff_ne]; omega
 have k2 := wrap_sub1 m hl
 have k3 : (c != 4) = true := by simpa using h4
 go_enter Tryz.func58, Tryz.ntmps58
 go_wp2_with fail
 go_quiet (fail)
 go_wp2_with fail
 go_ret
 exact ⟨rfl, _, rfl⟩
set_option maxRecDepth 100000 in
set_option maxHeartbeats 4000000 in
theorem lastText_yes (w : World) (e g m j : Nat) (hc : w.cell? ⟨e, 4, none⟩ = some (.slice (some ⟨g, 0, none⟩) (m + 1) j)) (h1 : w.cell? ⟨g, m * 5, none⟩ = some (.int .i64 4)) (hl : m ≤ 1000000) :
  Calls Tryz.prog 58 #[.pointer (some ⟨e, 0, none⟩)] w fun en w' => en = .returned (.pointer (some ⟨g, m * 5, none⟩)) ∧ ∃ n, w' = w.drewN n := by
 have k1 : ((m : Int) + 1 == 0) = false := by rw [beq_eq_false_iff_ne]; omega
 have k2 := wrap_sub1 m hl
 go_enter Tryz.func58, Tryz.ntmps58
 go_wp2_with fail
 go_quiet (fail)
 go_wp2_with fail
 go_quiet (fail)
 go_wp2_with fail
 go_ret
 exact ⟨rfl, _, World.drewN_drewN _ _ _⟩
def lastP (vk : Value) (ks : List Tr) : Option Addr := if lastTx ks = true then vk.ownBlock.map fun g => ⟨g, (ks.length - 1) * 5, none⟩ else none
theorem lastText_any (w : World) (e : Nat) (vk : Value) (ks : List Tr) (hc : w.cell? ⟨e, 4, none⟩ = some vk) (hk : LastAt w vk ks) (hl : ks.length ≤ 1000000) :
  Calls Tryz.prog 58 #[.pointer (some ⟨e, 0, none⟩)] w fun en w' => en = .returned (.pointer (lastP vk ks)) ∧ ∃ n, w' = w.drewN n := by
 obtain ⟨o, j, rfl, hk⟩ := hk
 unfold lastP lastTx
 cases hg : ks.getLast? with
 | none =>
  have hz : ks.length = 0 := by
   rw [List.getLast?_eq_none_iff] at hg
   rw [hg]; rfl
  rw [hz] at hc
  exact lastText_nil w e o j hc
 | some k =>
  obtain ⟨g, rfl, h1⟩ := hk k hg
  obtain ⟨m, hm⟩ : ∃ m, ks.length = m + 1 := ⟨ks.length - 1, by
   have : ks ≠ [] := by rintro rfl; cases hg
   have := List.length_pos_iff.2 this
   omega⟩
  rw [hm, Nat.add_sub_cancel] at h1
  rw [hm] at hc
  rw [hm, Nat.add_sub_cancel]
  by_cases h4 : k.kd = 4
  ·rw [h4] at h1
   rw [if_pos (by simp [h4])]
   exact lastText_yes w e g m j hc h1 (by omega)
  ·rw [if_neg (by simpa using h4)]
   exact lastText_no w e g m j k.kd hc h1 (by omega) h4
set_option maxRecDepth 100000 in
set_option maxHeartbeats 4000000 in
theorem leftOut_any (w : World) (kd : Int) (nm tx : List UInt8) (va : Value) (hva : ∃ o i j, va = .slice o i j) (em out : Bool) :
  Calls Tryz.prog 60 #[.agg #[.int .i64 kd, .string (bs nm), .string (bs tx), va, .bool em], .bool out] w fun e w' => e = .returned (.bool (kd == 3 && (tx.isEmpty || (out && tx.all fun c => spC (c.toNat : Int))))) ∧ Below w.heap.size w w' := by
 obtain ⟨o, i, j, rfl⟩ := hva
 have HB := fun (W : World) => Lib.hid (blank_any (bs tx) W)
 simp only [bs_list, blank_bytes _ tx (Nat.le_refl _)] at HB
 obtain ⟨bl, hbl⟩ : ∃ bl, (tx.all fun c => spC (c.toNat : Int)) = bl := ⟨_, rfl⟩
 rw [hbl] at HB ⊢
 clear hbl
 have e1 : ((bs tx).toList == []) = tx.isEmpty := by rw [bs_tl]; cases tx <;> rfl
 generalize tx.isEmpty = emp at *
 have e2 : (bs tx).toList.isEmpty = emp := by rw [← e1]; cases (bs tx).toList <;> rfl
 have hb0 : ∀ o, Below w.heap.size w (w.alloc o) := fun o => (Below.refl _ _).alloc (Nat.le_refl _) _
 have HB0 := Lib.hid hb0
 clear hb0
 obtain ⟨P, hP⟩ : ∃ P : Ending → World → Prop, P = fun e w' => e = .returned (.bool (kd == 3 && (emp || (out && bl)))) ∧ Below w.heap.size w w' := ⟨_, rfl⟩
 rw [← hP]
 have HP := Lib.hid hP
 clear hP
 by_cases h3 : kd = 3
 ·subst h3
  cases emp <;> cases out
  ·go_enter Tryz.func60, Tryz.ntmps60
   go_wp2_with fail
   rw [HP.out]
   exact ⟨rfl, HB0.out _⟩
  ·go_enter Tryz.func60, Tryz.ntmps60
   go_wp2_with (go_at_call 89; refine (HB _).out.mono ?_; rintro e w1 ⟨rfl, hb1⟩)
   rw [HP.out]
   exact ⟨rfl, (HB0.out _).trans (hb1.mono (by simp))⟩
  ·go_enter Tryz.func60, Tryz.ntmps60
   go_wp2_with fail
   rw [HP.out]
   exact ⟨rfl, HB0.out _⟩
  ·go_enter Tryz.func60, Tryz.ntmps60
   go_wp2_with fail
   rw [HP.out]
   exact ⟨rfl, HB0.out _⟩
 ·have k3 : (kd == 3) = false := by simpa using h3
  go_enter Tryz.func60, Tryz.ntmps60
  go_wp2_with fail
  rw [HP.out, k3]
  exact ⟨rfl, HB0.out _⟩
theorem lastP_no {vk : Value} {ks : List Tr} (h : lastTx ks = false) : lastP vk ks = none := by unfold lastP; rw [h]; rfl
theorem lastP_yes {w : World} {vk : Value} {ks : List Tr} (h : lastTx ks = true) (hk : LastAt w vk ks) : ∃ g j, vk = .slice (some ⟨g, 0, none⟩) ks.length j ∧ lastP vk ks = some ⟨g, (ks.length - 1) * 5, none⟩ := by
 obtain ⟨o, j, rfl, hk⟩ := hk
 cases hg : ks.getLast? with
 | none => unfold lastTx at h; rw [hg] at h; cases h
 | some k =>
  obtain ⟨g, rfl, _⟩ := hk k hg
  refine ⟨g, j, rfl, ?_⟩
  unfold lastP
  rw [if_pos h]
  rfl
def moreN (kd : Int) (n : Nat) (ks : List Tr) : Nat := if kd = 1 then 1 + n else if kd = 2 ∨ (kd = 3 ∧ lastTx ks = true) then 0 else 1
set_option maxRecDepth 100000 in
set_option maxHeartbeats 4000000 in
theorem more_any (w : World) (kd : Int) (nm tx : List UInt8) (o : Option Addr) (n j : Nat) (em : Bool) (e : Nat) (vk : Value) (ks : List Tr) (hc : w.cell? ⟨e, 4, none⟩ = some vk) (hk : LastAt w vk ks) (hl : ks.length ≤ 1000000) (hn : n ≤ 1000000) :
  Calls Tryz.prog 61 #[.agg #[.int .i64 kd, .string (bs nm), .string (bs tx), .slice o n j, .bool em], .pointer (some ⟨e, 0, none⟩)] w fun en w' => en = .returned (.int .i64 (moreN kd n ks : Int)) ∧ Below w.heap.size w w' := by
 have hb0 : ∀ o, Below w.heap.size w (w.alloc o) := fun o => (Below.refl _ _).alloc (Nat.le_refl _) _
 have HL := fun o => Lib.hid (lastText_any (w.alloc o) e vk ks (((hb0 o).cell (p := ⟨e, 4, none⟩) (cell_lt hc)).trans hc) (hk.keep (hb0 o)) hl)
 have HB0 := Lib.hid hb0
 have HK := Lib.hid hk
 clear hb0 hc hk
 unfold moreN
 by_cases h1 : kd = 1
 ·rw [if_pos h1]
  subst h1
  obtain ⟨P, hP⟩ : ∃ P : Ending → World → Prop, P = fun en w' => en = .returned (.int .i64 ((1 + n : Nat) : Int)) ∧ Below w.heap.size w w' := ⟨_, rfl⟩
  rw [← hP]
  have HP := Lib.hid hP
  clear hP HL
  go_enter Tryz.func61, Tryz.ntmps61
  go_wp2_with fail
  rw [HP.out]
  exact ⟨by go_num, HB0.out _⟩
 ·rw [if_neg h1]
  by_cases h2 : kd = 2
  ·rw [if_pos (.inl h2)]
   subst h2
   obtain ⟨P, hP⟩ : ∃ P : Ending → World → Prop, P = fun en w' => en = .returned (.int .i64 ((0 : Nat) : Int)) ∧ Below w.heap.size w w' := ⟨_, rfl⟩
   rw [← hP]
   have HP := Lib.hid hP
   clear hP HL
   go_enter Tryz.func61, Tryz.ntmps61
   go_wp2_with fail
   rw [HP.out]
   exact ⟨rfl, HB0.out _⟩
  ·by_cases h3 : kd = 3
   ·subst h3
    cases ht : lastTx ks with
    | false =>
     rw [if_neg (by simp)]
     simp only [lastP_no ht] at HL
     obtain ⟨P, hP⟩ : ∃ P : Ending → World → Prop, P = fun en w' => en = .returned (.int .i64 ((1 : Nat) : Int)) ∧ Below w.heap.size w w' := ⟨_, rfl⟩
     rw [← hP]
     have HP := Lib.hid hP
     clear hP HK ht
     go_enter Tryz.func61, Tryz.ntmps61
     go_wp2_with (go_at_call 58; refine (HL _).out.mono ?_; rintro en w1 ⟨rfl, m, rfl⟩)
     rw [HP.out]
     exact ⟨rfl, (HB0.out _).trans ⟨rfl, rfl, rfl, Nat.le_refl _, fun _ _ => rfl⟩⟩
    | true =>
     rw [if_pos (.inr ⟨rfl, rfl⟩)]
     obtain ⟨g, j2, hv, hlp⟩ := lastP_yes ht HK.out
     simp only [hlp] at HL
     obtain ⟨P, hP⟩ : ∃ P : Ending → World → Prop, P = fun en w' => en = .returned (.int .i64 ((0 : Nat) : Int)) ∧ Below w.heap.size w w' := ⟨_, rfl⟩
     rw [← hP]
     have HP := Lib.hid hP
     clear hP HK ht hv hlp
     generalize (ks.length - 1) * 5 = z at HL
     go_enter Tryz.func61, Tryz.ntmps61
     go_wp2_with (go_at_call 58; refine (HL _).out.mono ?_; rintro en w1 ⟨rfl, m, rfl⟩)
     rw [HP.out]
     exact ⟨rfl, (HB0.out _).trans ⟨rfl, rfl, rfl, Nat.le_refl _, fun _ _ => rfl⟩⟩
   ·rw [if_neg (by simp [h2, h3])]
    obtain ⟨P, hP⟩ : ∃ P : Ending → World → Prop, P = fun en w' => en = .returned (.int .i64 ((1 : Nat) : Int)) ∧ Below w.heap.size w w' := ⟨_, rfl⟩
    rw [← hP]
    have k1 : (kd == 1) = false := by simpa using h1
    have k2 : (kd == 2) = false := by simpa using h2
    have k3 : (kd == 3) = false := by simpa using h3
    have HP := Lib.hid hP
    clear hP HL h1 h2 h3
    go_enter Tryz.func61, Tryz.ntmps61
    go_wp2_with fail
    rw [HP.out]
    exact ⟨rfl, HB0.out _⟩
def faultN (kd : Int) (nm tnm : List UInt8) (m ng : Nat) (sz : Nat) : Nat :=
 if kd = 2 ∧ nm ≠ tnm then 14 else if kd = 2 then 0 else if m = 0 ∧ (kd ≠ 1 ∨ ng ≠ 0) then 17 else if kd = 1 ∧ m = 12 then 18 else if 120 < sz then 19 else 0
set_option maxRecDepth 100000 in
set_option maxHeartbeats 8000000 in
theorem fault_any (w : World) (kd : Int) (nm tx : List UInt8) (va : Value) (hva : ∃ o i j, va = .slice o i j) (em : Bool) (g m cap eg et : Nat) (tnm : List UInt8) (og : Option Addr) (ng cg sz : Nat) (hm : m ≤ 1000) (hz : sz ≤ 1000000)
  (h0 : w.cell? ⟨g, 0, none⟩ = some (.pointer (some ⟨eg, 0, none⟩))) (h1 : w.cell? ⟨g, m, none⟩ = some (.pointer (some ⟨et, 0, none⟩))) (h2 : w.cell? ⟨et, 1, none⟩ = some (.string (bs tnm))) (h3 : w.cell? ⟨eg, 4, none⟩ = some (.slice og ng cg)) :
  Calls Tryz.prog 62 #[.agg #[.int .i64 kd, .string (bs nm), .string (bs tx), va, .bool em], .slice (some ⟨g, 0, none⟩) (m + 1) cap, .int .i64 (sz : Int)] w fun en w' => en = .returned (.int .i64 (faultN kd nm tnm m ng sz : Int)) ∧ Below w.heap.size w w' := by
 obtain ⟨oa, ia, ja, rfl⟩ := hva
 have hb0 : ∀ o n, Below w.heap.size w ((w.alloc o).drewN n) := fun o n => ((Below.refl _ _).alloc (Nat.le_refl _) _).trans ⟨rfl, rfl, rfl, Nat.le_refl _, fun _ _ => rfl⟩
 have HB0 := Lib.hid hb0
 have l0 := cell_lt h0
 have l1 := cell_lt h1
 have l2 := cell_lt h2
 have l3 := cell_lt h3
 dsimp only at l0 l1 l2 l3
 clear hb0
 have kw := wrap_sub1 m (by omega)
 obtain ⟨P, hP⟩ : ∃ P : Ending → World → Prop, P = fun en w' => en = .returned (.int .i64 (faultN kd nm tnm m ng sz : Int)) ∧ Below w.heap.size w w' := ⟨_, rfl⟩
 rw [← hP]
 have HQ : ∀ c : Nat, faultN kd nm tnm m ng sz = c → Hid (∀ w', Below w.heap.size w w' → P (.returned (.int .i64 (c : Int))) w') := fun c hc => Lib.hid (fun w' hw => by rw [hP]; exact ⟨by rw [hc], hw⟩)
 clear hP
 unfold faultN at HQ
 by_cases c2 : kd = 2
 ·subst c2
  by_cases cn : nm = tnm
  ·have HF : Hid (∀ w', Below w.heap.size w w' → P (.returned (.int .i64 0)) w') := HQ 0 (by simp [cn])
   have e1 : ((bs nm).toList == (bs tnm).toList) = true := by simp [cn]
   clear HQ cn
   go_enter Tryz.func62, Tryz.ntmps62
   go_wp2_with fail
   go_quiet (fail)
   go_wp2_with fail
   go_quiet (fail)
   go_wp2_with fail
   exact HF.out _ (HB0.out _ _)
  ·have HF : Hid (∀ w', Below w.heap.size w w' → P (.returned (.int .i64 14)) w') := HQ 14 (by simp [cn])
   have e1 : ((bs nm).toList == (bs tnm).toList) = false := by rw [bs_tl, bs_tl]; simpa using cn
   clear HQ cn
   go_enter Tryz.func62, Tryz.ntmps62
   go_wp2_with fail
   go_quiet (fail)
   go_wp2_with fail
   go_quiet (fail)
   go_wp2_with fail
   simp only [World.drewN_drewN]
   exact HF.out _ (HB0.out _ _)
 ·have k2 : (kd == 2) = false := by simpa using c2
  by_cases c17 : m = 0 ∧ (kd ≠ 1 ∨ ng ≠ 0)
  ·have HF : Hid (∀ w', Below w.heap.size w w' → P (.returned (.int .i64 17)) w') := HQ 17 (by rw [if_neg (by simp [c2]), if_neg c2, if_pos c17])
   obtain ⟨rfl, c17⟩ := c17
   by_cases c1 : kd = 1
   ·subst c1
    have hng : 0 < (ng : Int) := by
     rcases c17 with c | c
     ·exact absurd rfl c
     ·omega
    clear HQ c17 c2
    go_enter Tryz.func62, Tryz.ntmps62
    go_wp2_with fail
    go_quiet (fail)
    go_wp2_with fail
    go_quiet (fail)
    go_wp2_with fail
    try go_quiet (fail)
    try go_wp2_with fail
    exact HF.out _ (HB0.out _ _)
   ·have k1 : (kd == 1) = false := by simpa using c1
    clear HQ c17 c2
    go_enter Tryz.func62, Tryz.ntmps62
    go_wp2_with fail
    go_quiet (fail)
    go_wp2_with fail
    go_quiet (fail)
    go_wp2_with fail
    try go_quiet (fail)
    try go_wp2_with fail
    exact HF.out _ (HB0.out _ _)
  ·by_cases c18 : kd = 1 ∧ m = 12
   ·have HF : Hid (∀ w', Below w.heap.size w w' → P (.returned (.int .i64 18)) w') := HQ 18 (by rw [if_neg (by simp [c2]), if_neg c2, if_neg c17, if_pos c18])
    obtain ⟨rfl, rfl⟩ := c18
    clear HQ c17 c2
    go_enter Tryz.func62, Tryz.ntmps62
    go_wp2_with fail
    go_quiet (fail)
    go_wp2_with fail
    go_quiet (fail)
    go_wp2_with fail
    exact HF.out _ (HB0.out _ _)
   ·by_cases c19 : 120 < sz
    ·have HF : Hid (∀ w', Below w.heap.size w w' → P (.returned (.int .i64 19)) w') := HQ 19 (by rw [if_neg (by simp [c2]), if_neg c2, if_neg c17, if_neg c18, if_pos c19])
     clear HQ c2
     by_cases cm : m = 0
     ·subst cm
      obtain ⟨rfl, rfl⟩ : kd = 1 ∧ ng = 0 := by
       constructor
       ·exact Decidable.byContradiction fun x => c17 ⟨rfl, .inl x⟩
       ·exact Decidable.byContradiction fun x => c17 ⟨rfl, .inr x⟩
      clear c17 c18
      go_enter Tryz.func62, Tryz.ntmps62
      go_wp2_with fail
      go_quiet (fail)
      go_wp2_with fail
      go_quiet (fail)
      go_wp2_with fail
      exact HF.out _ (HB0.out _ _)
     ·have km : ((m : Int) == 0) = false := by rw [beq_eq_false_iff_ne]; omega
      by_cases k1 : kd = 1
      ·subst k1
       have k12 : ((m : Int) == 12) = false := by rw [beq_eq_false_iff_ne]; intro h; exact c18 ⟨rfl, by omega⟩
       clear c17 c18
       go_enter Tryz.func62, Tryz.ntmps62
       go_wp2_with fail
       go_quiet (fail)
       go_wp2_with fail
       go_quiet (fail)
       go_wp2_with fail
       exact HF.out _ (HB0.out _ _)
      ·have k1' : (kd == 1) = false := by simpa using k1
       clear c17 c18 k1
       go_enter Tryz.func62, Tryz.ntmps62
       go_wp2_with fail
       go_quiet (fail)
       go_wp2_with fail
       go_quiet (fail)
       go_wp2_with fail
       exact HF.out _ (HB0.out _ _)
    ·have HF : Hid (∀ w', Below w.heap.size w w' → P (.returned (.int .i64 0)) w') := HQ 0 (by rw [if_neg (by simp [c2]), if_neg c2, if_neg c17, if_neg c18, if_neg c19])
     clear HQ c2
     by_cases cm : m = 0
     ·subst cm
      obtain ⟨rfl, rfl⟩ : kd = 1 ∧ ng = 0 := by
       constructor
       ·exact Decidable.byContradiction fun x => c17 ⟨rfl, .inl x⟩
       ·exact Decidable.byContradiction fun x => c17 ⟨rfl, .inr x⟩
      clear c17 c18
      go_enter Tryz.func62, Tryz.ntmps62
      go_wp2_with fail
      go_quiet (fail)
      go_wp2_with fail
      go_quiet (fail)
      go_wp2_with fail
      exact HF.out _ (HB0.out _ _)
     ·have km : ((m : Int) == 0) = false := by rw [beq_eq_false_iff_ne]; omega
      by_cases k1 : kd = 1
      ·subst k1
       have k12 : ((m : Int) == 12) = false := by rw [beq_eq_false_iff_ne]; intro h; exact c18 ⟨rfl, by omega⟩
       clear c17 c18
       go_enter Tryz.func62, Tryz.ntmps62
       go_wp2_with fail
       go_quiet (fail)
       go_wp2_with fail
       go_quiet (fail)
       go_wp2_with fail
       exact HF.out _ (HB0.out _ _)
      ·have k1' : (kd == 1) = false := by simpa using k1
       clear c17 c18 k1
       go_enter Tryz.func62, Tryz.ntmps62
       go_wp2_with fail
       go_quiet (fail)
       go_wp2_with fail
       go_quiet (fail)
       go_wp2_with fail
       exact HF.out _ (HB0.out _ _)
theorem end_nd {fn : Func} {p : Tmp} (h : fn.results = #[.cell p 25]) {a : Act} {R : Ending → World → Prop} (w1 : World) (g : Nat) {kd : Int} {n t : ByteArray} {va vk : Value} (hva : ∃ o i j, va = .slice o i j) (hvk : ∃ o i j, vk = .slice o i j)
  (hk : w1.cell? ⟨g, 0, none⟩ = some (.int .i64 kd) ∧ w1.cell? ⟨g, 1, none⟩ = some (.string n) ∧ w1.cell? ⟨g, 2, none⟩ = some (.string t) ∧ w1.cell? ⟨g, 3, none⟩ = some va ∧ w1.cell? ⟨g, 4, none⟩ = some vk)
  (hp : a.tmps.getD p undef = .pointer (some ⟨g, 0, none⟩)) (hd : a.defers = []) (hR : R (.returned (.agg #[.int .i64 kd, .string n, .string t, va, vk])) w1) : bodyPost Tryz.prog fn R .ret a w1 := by
 have hp' : a.tmps[p]?.getD undef = .pointer (some ⟨g, 0, none⟩) := by simpa using hp
 obtain ⟨a0, a1, a2, a3, a4⟩ := hk
 obtain ⟨_, _, _, rfl⟩ := hva
 obtain ⟨_, _, _, rfl⟩ := hvk
 exact bodyPost_ret (by simp [results, h, hp', go_sem, a0, a1, a2, a3, a4]) hd hR
theorem end_nd2 {fn : Func} {p q : Tmp} (h : fn.results = #[.cell p 25, .tmp q]) {a : Act} {R : Ending → World → Prop} (w1 : World) (g : Nat) {kd : Int} {n t : ByteArray} {va vk c : Value} (hva : ∃ o i j, va = .slice o i j) (hvk : ∃ o i j, vk = .slice o i j)
  (hk : w1.cell? ⟨g, 0, none⟩ = some (.int .i64 kd) ∧ w1.cell? ⟨g, 1, none⟩ = some (.string n) ∧ w1.cell? ⟨g, 2, none⟩ = some (.string t) ∧ w1.cell? ⟨g, 3, none⟩ = some va ∧ w1.cell? ⟨g, 4, none⟩ = some vk)
  (hp : a.tmps.getD p undef = .pointer (some ⟨g, 0, none⟩)) (hq : a.tmps.getD q undef = c) (hd : a.defers = []) (hR : R (.returned (.tuple #[.agg #[.int .i64 kd, .string n, .string t, va, vk], c])) w1) : bodyPost Tryz.prog fn R .ret a w1 := by
 have hp' : a.tmps[p]?.getD undef = .pointer (some ⟨g, 0, none⟩) := by simpa using hp
 have hq' : a.tmps[q]?.getD undef = c := by simpa using hq
 obtain ⟨a0, a1, a2, a3, a4⟩ := hk
 obtain ⟨_, _, _, rfl⟩ := hva
 obtain ⟨_, _, _, rfl⟩ := hvk
 exact bodyPost_ret (by simp [results, h, hp', hq', go_sem, a0, a1, a2, a3, a4]) hd hR
set_option maxRecDepth 100000 in
set_option maxHeartbeats 4000000 in
theorem leaf_any (w : World) (kd : Int) (nm tx : List UInt8) (va : Value) (hva : ∃ o i j, va = .slice o i j) (em : Bool) (h : kd = 3 ∨ kd = 4 ∨ kd = 5) :
  Calls Tryz.prog 64 #[.agg #[.int .i64 kd, .string (bs nm), .string (bs tx), va, .bool em]] w fun en w' => en = .returned (.agg #[.int .i64 (kd + 1), .string (bs nm), .string (bs tx), .slice none 0 0, .slice none 0 0]) ∧ Below w.heap.size w w' := by
 obtain ⟨oa, ia, ja, rfl⟩ := hva
 have hb0 : ∀ o1 o2 o3, Below w.heap.size w (((w.alloc o1).alloc o2).alloc o3) := fun o1 o2 o3 => (((Below.refl _ _).alloc (Nat.le_refl _) _).alloc (by simp) _).alloc (by simp; omega) _
 have HB0 := Lib.hid hb0
 clear hb0
 rcases h with rfl | rfl | rfl
 all_goals
  go_enter Tryz.func64, Tryz.ntmps64
  go_wp2_with fail
  refine end_nd Tryz.results64 _ (w.heap.size + 1) ⟨_, _, _, rfl⟩ ⟨_, _, _, rfl⟩ ⟨by go_simp, by go_simp, by go_simp, by go_simp, by go_simp⟩ rfl rfl ⟨rfl, ?_⟩
  exact HB0.out _ _ _
end Char
end Go.Proofs.YtlmodgnkmlbjhaaGreatDoor
