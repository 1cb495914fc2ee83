/- Begun -/
import Derived.Test.YtognlnjamlhmhaaGreatDoorPkTrM
import Derived.Test.YtognlnjamlhmhaaGreatDoorNdOn
import Derived.Test.YtognlnjamlhmhaaGreatDoorShelf7
import Derived.Test.YtognlnjamlhmhaaGreatDoorPkPieces
import Derived.Shelf.SlSortCmp.NoneTotal
/- The walks of begun's comparison, of the sort of attributes, and of begun. -/
namespace Go.Proofs.YtognlnjamlhmhaaGreatDoor.Char
open Go.RowKit Go.Lib Go.Shelf

def encA (x : At2) : List Value := [.string (bs x.1), .string (bs x.2)]
theorem encA_len (x : At2) : (encA x).length = 2 := rfl
theorem flat_encA (l : List At2) : Sort.flatK encA 2 l.toArray = (atsC l).toArray := by
  refine Sort.ext_get! (by rw [Sort.size_flatK, List.size_toArray, List.size_toArray, atsC_len]) fun t ht => ?_
  have ht' : t < l.length * 2 := by simpa using ht
  rw [Sort.get_flatK encA 2 _ t (by simpa using ht')]
  obtain ⟨h1, h2⟩ := atsC_at l (t / 2) (by omega)
  have hd : l.toArray[t / 2]! = l.getD (t / 2) ([], []) := by
    have hk : t / 2 < l.length := by omega
    simp [hk]
  rw [hd]
  rcases Nat.mod_two_eq_zero_or_one t with h0 | h0
  · rw [h0]
    have e : t / 2 * 2 = t := by omega
    rw [e] at h1
    simp [encA, h1]
  · rw [h0]
    have e : t / 2 * 2 + 1 = t := by omega
    rw [e] at h2
    simp [encA, h2]
set_option maxHeartbeats 1000000 in
theorem cmpA_any (x y : At2) (W : World) : Calls Tryz.prog 66 #[.agg #[.string (bs x.1), .string (bs x.2)], .agg #[.string (bs y.1), .string (bs y.2)]] W fun e w' => e = .returned (.int .i64 (compareBytes x.1 y.1)) ∧ ∃ q os', w' = Sort.grow (W.drewN q) os' := by
  have hcon := fun W' => Any.strings_Compare layCmp (bs x.1) (bs y.1) W'
  change ∀ W', Calls Tryz.prog 67 _ _ _ at hcon
  simp only [bs_list] at hcon
  generalize compareBytes x.1 y.1 = r at hcon ⊢
  go_enter Tryz.func66, Tryz.ntmps66
  go_wp2_with (go_at_call 67; refine (hcon _).mono ?_; rintro e w' ⟨rfl, rfl⟩)
  go_ret
  exact ⟨rfl, 0, _, by rw [Sort.alloc_eq_grow, Sort.alloc_eq_grow, Sort.grow_grow]; rfl⟩

theorem swoA : Sort.SWO (ltOf fun x y : At2 => compareBytes x.1 y.1) where
  irrefl x := by show decide _ = false; rw [cmp_less]; exact less_irr _
  trans x y z h1 h2 := by
    change decide _ = true at h1 h2
    show decide _ = true
    rw [cmp_less] at *
    exact less_trans _ _ _ h1 h2
  ntrans x y z h1 h2 := by
    change decide _ = false at h1 h2
    show decide _ = false
    rw [cmp_less] at *
    cases hb : Op.bytesLess x.1 z.1 with
    | false => rfl
    | true =>
      exfalso
      cases hyz : Op.bytesLess y.1 x.1 with
      | true =>
        have := less_trans _ _ _ hyz hb
        rw [this] at h2; cases h2
      | false =>
        have e := less_tri _ _ h1 hyz
        rw [e] at hb
        rw [hb] at h2; cases h2
theorem sortFn_any (B : Nat) (w : World) (o : Option Addr) (i j : Nat) (qs : List At2) (h : OwnsAt B w (.slice o i j) qs) (h12 : qs.length ≤ 12) (hn : (qs.map (·.1)).Nodup) :
    Calls Tryz.prog 65 #[.slice o i j, .func (.func 66) #[] #[]] w fun e w' => e = .returned (.tuple #[]) ∧ OwnsAt B w' (.slice o i j) (sortA qs) ∧ w.grownBy w' (Value.slice o i j).ownBlock := by
  have h0 := h
  rcases h.2 with ⟨h1, h2⟩ | ⟨g, cap, cur, e1, e2, hg, e3, e4, e5, e6⟩
  · simp only [Value.slice.injEq] at h1
    obtain ⟨rfl, rfl, rfl⟩ := h1
    have hq : qs = [] := List.eq_nil_of_length_eq_zero h2
    subst hq
    refine (AnyF.slices_SortFunc_none laySort none 0 _ w).mono ?_
    rintro e w' ⟨rfl, rfl⟩
    exact ⟨rfl, h, ⟨rfl, rfl, rfl, Nat.le_refl _, fun _ _ _ => rfl⟩⟩
  · simp only [Value.slice.injEq] at e1
    obtain ⟨rfl, rfl, rfl⟩ := e1
    have hsz : (atsC qs).length = qs.length * 2 := atsC_len qs
    have hH : Sort.HoldsK encA 2 w g 0 qs.toArray := by
      unfold Sort.HoldsK
      rw [flat_encA]
      intro t ht
      have ht' : t < (atsC qs).length := by simpa using ht
      refine ⟨?_, by simp [World.frozen?, hg]⟩
      have hh : (cur.toList.take (qs.length * 2))[t]? = (atsC qs)[t]? := by rw [e6]
      rw [List.getElem?_take_of_lt (by omega)] at hh
      simp only [World.cell?, hg, Nat.zero_add]
      simp only [Option.isSome_none, Bool.false_eq_true, if_false]
      rw [← Array.getElem?_toList, hh]
      simp [ht']
    have hcon := AnyQ.slices_SortFunc_small_sorted laySort 2 Tryz.isAgg37 Tryz.sizeOf37 encA encA_len (fun x v hv => by simp [encA] at hv; rcases hv with rfl | rfl <;> rfl) (fun x y => compareBytes x.1 y.1) 66 #[] swoA g 0 j qs.toArray w
      (enters_of Tryz.func66 (by kernel_rfl) rfl) (fun _ _ _ _ x y => cmpA_any x y _) hH (Array.getElem?_eq_some_iff.1 hg).1 (by simpa using h12)
      (fun n W hn => (Any.bits_Len layLen n W (by omega) (by omega)).mono fun _ _ ⟨he, hw⟩ => ⟨⟨_, he⟩, hw⟩)
    rw [List.size_toArray] at hcon
    refine (show Calls Tryz.prog 65 _ _ _ from hcon).mono ?_
    rintro e w' ⟨rfl, d', n, os, hp, hs, rfl⟩
    obtain ⟨ts, rfl⟩ : ∃ ts : List At2, d' = ts.toArray := ⟨d'.toList, by simp⟩
    have hlen : ts.length = qs.length := by simpa using hp.1
    have hts : ts = sortA qs := by
      refine sorted_eq qs ts ?_ hn ?_
      · have := hp.2.2
        rw [← hlen] at this
        simpa [hlen, List.take_of_length_le (show ts.length ≤ qs.length by omega)] using this
      · intro a b hab hb
        have := hs a b (Nat.zero_le _) hab (by omega)
        rw [← cmp_less]
        have ha : a < ts.length := by omega
        simpa [ltOf, ha, hb] using this
    subst hts
    refine ⟨rfl, ?_, ?_⟩
    · refine ⟨by rw [atsC_len], .inr ⟨g, j, Sort.putCells id 0 (atsC (sortA qs)).toArray cur, by rw [sortA_len], e2, ?_, by rw [sortA_len]; exact e3, e4, by simp [Sort.putCells, e5], ?_⟩⟩
      · have hg' : g < w.heap.size := (Array.getElem?_eq_some_iff.1 hg).1
        unfold sortWorldK Sort.putRowK
        rw [flat_encA, Sort.heap_grow_old _ _ (by simpa using hg')]
        simp [Sort.putRow, Sort.mapBlock, Sort.ahead, Array.getElem?_modify, hg, Sort.onCells]
      · have hcs : qs.length * 2 ≤ cur.size := by rw [e5]; omega
        apply List.ext_getElem?
        intro t
        rw [sortA_len]
        by_cases ht : t < qs.length * 2
        · rw [List.getElem?_take_of_lt ht, Array.getElem?_toList]
          have h3 : t < (atsC (sortA qs)).length := by rw [atsC_len, sortA_len]; exact ht
          simp [Sort.putCells, h3, show t < cur.size by omega]
        · rw [List.getElem?_take_eq_none (by omega), List.getElem?_eq_none (by rw [atsC_len, sortA_len]; omega)]
    · refine ⟨rfl, rfl, rfl, by simp [sortWorldK, Sort.putRowK], fun k hk hne => ?_⟩
      unfold sortWorldK Sort.putRowK
      rw [Sort.heap_grow_old _ _ (by simpa using hk)]
      have : g ≠ k := fun e => hne (by rw [← e]; rfl)
      simp [Sort.putRow, Sort.mapBlock, Sort.ahead, Array.getElem?_modify, this]

theorem OwnsAt.belowW {B : Nat} {w w' : World} {v : Value} {qs : List At2} (h : OwnsAt B w v qs) (hb : Below w.heap.size w w') : OwnsAt B w' v qs := h.keep (fun k _ hk => hb.block k hk)
/-- a new element -/
structure BegP (B : Nat) (w : World) (nm : List UInt8) (va : Value) (qs : List At2) (e : Nat) (w' : World) : Prop where
  hi : w.heap.size ≤ e
  blk : w'.heap[e]? = some (.cells #[.int .i64 2, .string (bs nm), .string (bs []), va, .slice none 0 0] 26 (0, 0))
  ats : OwnsAt B w' va (sortA qs)
  gr : w.grownBy w' va.ownBlock
set_option maxRecDepth 100000 in
set_option maxHeartbeats 4000000 in
theorem begun_any (B : Nat) (w : World) (kd : Int) (nm tx : List UInt8) (em : Bool) (o : Option Addr) (i j : Nat) (qs : List At2) (h : OwnsAt B w (.slice o i j) qs) (h12 : qs.length ≤ 12) (hn : (qs.map (·.1)).Nodup) :
    Calls Tryz.prog 41 #[.agg #[.int .i64 kd, .string (bs nm), .string (bs tx), .slice o i j, .bool em]] w fun e w' => ∃ g, e = .returned (.pointer (some ⟨g, 0, none⟩)) ∧ BegP B w nm (.slice o i j) qs g w' := by
  obtain ⟨W0, hW0⟩ : ∃ W0, W0 = w.alloc (.cells #[.int .i64 kd, .string (bs nm), .string (bs tx), .slice o i j, .bool em] 48) := ⟨_, rfl⟩
  have hb0 : Below w.heap.size w W0 := by rw [hW0]; exact (Below.refl _ _).alloc (Nat.le_refl _) _
  have hs0 : W0.heap.size = w.heap.size + 1 := by rw [hW0]; simp
  have hC := sortFn_any B W0 o i j qs (h.belowW hb0) h12 hn
  have HC := Lib.hid hC
  have HB0 := Lib.hid hb0
  have HO := Lib.hid h
  have c0 : ∀ W', W0.grownBy W' (Value.slice o i j).ownBlock → W'.cell? ⟨w.heap.size, 1, none⟩ = some (.string (bs nm)) ∧ W'.cell? ⟨w.heap.size, 3, none⟩ = some (.slice o i j) := fun W' hg => by
    have hne : some w.heap.size ≠ (Value.slice o i j).ownBlock := fun e => by
      have := (h.block e.symm).2
      omega
    exact ⟨hg.cell (a := ⟨w.heap.size, 1, none⟩) (by rw [hW0]; go_simp) hne, hg.cell (a := ⟨w.heap.size, 3, none⟩) (by rw [hW0]; go_simp) hne⟩
  have HC0 := Lib.hid c0
  have HW0 := Lib.hid hW0
  have HS0 := Lib.hid hs0
  clear hb0 hC h c0 hW0 hs0
  go_enter Tryz.func41, Tryz.ntmps41
  go_wp2_with fail
  rw [← HW0.out]
  refine HC.out.mono ?_
  rintro e w1 ⟨rfl, ho1, hg1⟩
  obtain ⟨c1, c3⟩ := HC0.out w1 hg1
  have HO1 := Lib.hid ho1
  have HG1 := Lib.hid hg1
  clear ho1 hg1
  go_wp2_with fail
  go_ret
  have hs1 := HG1.out.size
  have hs0 := HS0.out
  refine ⟨_, rfl, by omega, ?_, HO1.out.belowW ((Below.refl _ _).alloc (Nat.le_refl _) _), ?_⟩
  · exact World.alloc_heap_new w1 _
  · refine ⟨HG1.out.os.trans HB0.out.os, HG1.out.tape.trans HB0.out.tape, HG1.out.output.trans HB0.out.output, by simp; omega, fun k hk hne => ?_⟩
    rw [Below.heap_alloc w1 _ k (by omega), HG1.out.block k (by omega) hne]
    exact HB0.out.block k hk
end Go.Proofs.YtognlnjamlhmhaaGreatDoor.Char
