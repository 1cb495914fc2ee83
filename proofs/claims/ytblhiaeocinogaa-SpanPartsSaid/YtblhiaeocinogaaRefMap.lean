/- The walk of the document's own 'characters become others'. -/
import Derived.Test.YtblhiaeocinogaaRefCrs
import Derived.Test.YtblhiaeocinogaaMap
import Derived.Test.YtblhiaeocinogaaRefCut
namespace Go.Proofs.Ytblhiaeocinogaa.Char
open Go.RowKit Go.Lib

/-- the first place of a text in a list; -1: there is none -/
def firstB : List ByteArray → Nat → ByteArray → Int
  | [], _, _ => -1
  | c :: r, k, x => if c = x then (k : Int) else firstB r (k + 1) x
theorem firstB_ge : ∀ (l : List ByteArray) (k : Nat) (x : ByteArray), firstB l k x = -1 ∨ ((k : Int) ≤ firstB l k x ∧ firstB l k x < k + l.length)
  | [], _, _ => .inl rfl
  | c :: r, k, x => by
    unfold firstB
    by_cases h : c = x
    · rw [if_pos h]
      exact .inr ⟨Int.le_refl _, by simp; omega⟩
    · rw [if_neg h]
      rcases firstB_ge r (k + 1) x with h1 | ⟨h1, h2⟩
      · exact .inl h1
      · exact .inr ⟨by omega, by simp; omega⟩
/-- what a character becomes, by the first place -/
def becomes (h l : List ByteArray) (x : ByteArray) : ByteArray := if firstB l 0 x < 0 then x else heir h (firstB l 0 x).toNat
theorem data_inj {a b : ByteArray} : a.data.toList = b.data.toList ↔ a = b := by
  constructor
  · intro h
    cases a; cases b
    congr 1
    exact Array.toList_inj.1 h
  · intro h; rw [h]
theorem fate_first (h : List ByteArray) (x : ByteArray) : ∀ (l : List ByteArray) (k : Nat), k + l.length ≤ 1000000 → (∀ c ∈ l, c.size ≤ 4) →
    (fateL h (num k l) x.data.toList).getD x = if firstB l k x < 0 then x else heir h (firstB l k x).toNat
  | [], k, _, _ => rfl
  | c :: r, k, hl, h4 => by
    rw [List.length_cons] at hl
    have ih := fate_first h x r (k + 1) (by omega) (fun y hy => h4 y (List.mem_cons_of_mem _ hy))
    have hv := mkCh_val k c (by omega) (h4 c (by simp))
    unfold fateL at ih ⊢
    simp only [num, List.find?_cons, hv]
    unfold firstB
    by_cases e : c = x
    · have : (c.data.toList == x.data.toList) = true := by rw [beq_iff_eq]; rw [e]
      rw [this, if_pos e]
      have : ¬ ((k : Int) < 0) := by omega
      rw [if_neg this]
      simp [hv]
    · have : (c.data.toList == x.data.toList) = false := by
        rw [beq_eq_false_iff_ne]
        exact fun e' => e (data_inj.1 e')
      rw [this, if_neg e]
      exact ih
theorem turned_becomes (h l : List ByteArray) (hl : l.length ≤ 1000000) (h4 : ∀ c ∈ l, c.size ≤ 4) (x : Ch) : turned h (num 0 l) x = becomes h l x.1.2 := by
  unfold turned becomes
  exact fate_first h x.1.2 l 0 (by omega) h4
/-- .. of a whole text -/
def becL (h l : List ByteArray) (a : List ByteArray) : List UInt8 := a.flatMap fun x => (becomes h l x).data.toList
theorem becL_cons (h l : List ByteArray) (x : ByteArray) (r : List ByteArray) : becL h l (x :: r) = (becomes h l x).data.toList ++ becL h l r := by simp [becL]
theorem mapD_becL (s f t : ByteArray) (hs : s.size ≤ 1000000) (hf : f.size ≤ 1000000) : mapD s f t = becL (crs t) (crs f) (crs s) := by
  have h1 := num_vals (crs s) 0 (by have := crs_length s; omega) (crs_four s)
  unfold mapD mapL becL
  rw [← h1, List.flatMap_map]
  rw [h1]
  congr 1
  funext x
  rw [turned_becomes (crs t) (crs f) (by have := crs_length f; omega) (crs_four f) x]

set_option maxRecDepth 100000 in
set_option maxHeartbeats 4000000 in
theorem refMap_any (s f t : ByteArray) (w : World) (hs : s.size ≤ 1000000 - 1) (hf : f.size ≤ 1000000 - 1) (ht : t.size ≤ 1000000 - 1) :
    Calls Try.prog 18 #[.string s, .string f, .string t] w fun e w' => e = .returned (.string ⟨(mapD s f t).toArray⟩) ∧ Below w.heap.size w w' := by
  rw [mapD_becL s f t (by omega) (by omega)]
  have hcs := crs_length s
  have hcf := crs_length f
  have hct := crs_length t
  obtain ⟨X, hX⟩ : ∃ X, becL (crs t) (crs f) (crs s) = X := ⟨_, rfl⟩
  rw [hX]
  have HX := Lib.hid hX
  have CS := fun W => Lib.hid (crs_any s W (by omega))
  have CF := fun W => Lib.hid (crs_any f W (by omega))
  have CT := fun W => Lib.hid (crs_any t W (by omega))
  have S4 := Lib.hid (crs_four s)
  have T4 := Lib.hid (crs_four t)
  generalize crs s = a at hX HX CS S4 hcs
  generalize crs f = b at hX HX CF hcf
  generalize crs t = c at hX HX CT T4 hct
  clear hX
  go_enter Try.func18, Try.ntmps18
  go_wp2_with fail
  refine (CS _).out.mono ?_
  rintro e w1 ⟨v1, rfl, o1, b1⟩
  go_wp2_with fail
  refine (CF _).out.mono ?_
  rintro e w2 ⟨v2, rfl, o2, b2⟩
  go_wp2_with fail
  refine (CT _).out.mono ?_
  rintro e w3 ⟨v3, rfl, o3, b3⟩
  obtain ⟨a1, p1, rfl, hc1⟩ := (o1.reads.below (b2.trans (b3.mono b2.size)))
  obtain ⟨a2, p2, rfl, hc2⟩ := (o2.reads.below b3)
  obtain ⟨a3, p3, rfl, hc3⟩ := o3.reads
  have hbw : Below w.heap.size w w3 := b1.trans ((b2.trans (b3.mono b2.size)).mono b1.size)
  clear o1 o2 o3 b1 b2 b3 CS CF CT
  have HC1 := Lib.hid hc1
  have HC2 := Lib.hid hc2
  have HC3 := Lib.hid hc3
  have HBW := Lib.hid hbw
  clear hc1 hc2 hc3 hbw
  have hmx : Try.prog.follows .mixedOrders = true := by kernel_rfl
  go_wp2_with fail
  go_loopw [10, 11] (fun o i wr => ∃ (k : Nat) (out : ByteArray), k ≤ a.length ∧ i = .int .i64 (k : Int) ∧ o = .string out ∧ out.size ≤ 4 * k ∧ Below w3.heap.size w3 wr ∧ Hid (out.data.toList ++ becL c b (a.drop k) = X)) (fun _ i _ => a.length - (RowKit.intOf i).toNat)
  case atStart => exact ⟨0, ⟨#[]⟩, Nat.zero_le _, rfl, rfl, Nat.zero_le _, Below.refl _ _, Lib.hid (by simpa using HX.out)⟩
  case round =>
    obtain ⟨k, out, hk, rfl, rfl, hos, hbk, HO⟩ := hrel
    by_cases hlt : k < a.length
    · obtain ⟨g1, rfl, hg1, hcell1⟩ := HC1.out k hlt
      have hst := HO.out
      rw [drop_step a k hlt, becL_cons, ← List.append_assoc] at hst
      have hx4 := S4.out (a.getD k ⟨#[]⟩) (by simp [List.getD, List.getElem?_eq_getElem hlt])
      generalize a.getD k ⟨#[]⟩ = x at hcell1 hst hx4
      have HS := Lib.hid hst
      have HCELL1 : Hid (∀ W, Below w3.heap.size w3 W → W.cell? ⟨g1, k, none⟩ = some (.string x)) := Lib.hid (fun W hW => (hW.cell (p := ⟨g1, k, none⟩) hg1).trans hcell1)
      clear hst HO hcell1 HC1
      go_wp2_with fail
      go_loopw [12, 13] (fun p j wr => ∃ (m : Nat), m ≤ b.length ∧ j = .int .i64 ((m : Int) - 1) ∧ p = .int .i64 (firstB (b.drop m) m x) ∧ Below w3.heap.size w3 wr) (fun _ j _ => (RowKit.intOf j + 1).toNat)
      case atStart =>
        exact ⟨b.length, Nat.le_refl _, rfl, by rw [List.drop_length]; rfl, hbk⟩
      case round =>
        obtain ⟨m, hm, rfl, rfl, hbm⟩ := hrel
        cases m with
        | zero =>
          rw [List.drop_zero]
          have hca := HCELL1.out _ hbm
          have hst := HS.out
          have hgs := firstB_ge b 0 x
          unfold becomes at hst
          generalize firstB b 0 x = fi at hst hgs ⊢
          by_cases hfi : fi < 0
          · rw [if_pos hfi] at hst
            have hadd : ∀ wx, (Op.stringOp .add out x).run Try.prog wx = .ok (.string (out ++ x)) wx := fun wx => run_string_add wx out x (by omega) (by omega)
            have HS2 : Hid ((out ++ x).data.toList ++ becL c b (a.drop (k + 1)) = X) := Lib.hid (by rw [app_list]; exact hst)
            clear hst hgs HS
            go_wp2_with fail
            go_roundw
            case rel => exact ⟨k + 1, out ++ x, by omega, by go_num, rfl, by rw [ByteArray.size_append]; omega, hbm, HS2⟩
            case measure => simp [RowKit.intOf]; omega
          · rw [if_neg hfi] at hst
            obtain ⟨q, rfl⟩ : ∃ q : Nat, fi = (q : Int) := ⟨fi.toNat, by omega⟩
            rw [Int.toNat_natCast] at hst
            by_cases hq : q < c.length
            · obtain ⟨g3, rfl, hg3, hcell3⟩ := HC3.out q hq
              have hcc := (hbm.cell (p := ⟨g3, q, none⟩) hg3).trans hcell3
              have hc4 := T4.out (c.getD q ⟨#[]⟩) (by simp [List.getD, List.getElem?_eq_getElem hq])
              unfold heir at hst
              rw [if_pos hq] at hst
              generalize c.getD q ⟨#[]⟩ = z at hcc hst hc4
              have hadd : ∀ wx, (Op.stringOp .add out z).run Try.prog wx = .ok (.string (out ++ z)) wx := fun wx => run_string_add wx out z (by omega) (by omega)
              have HS2 : Hid ((out ++ z).data.toList ++ becL c b (a.drop (k + 1)) = X) := Lib.hid (by rw [app_list]; exact hst)
              clear hst hgs HS hcell3
              go_wp2_with fail
              go_roundw
              case rel => exact ⟨k + 1, out ++ z, by omega, by go_num, rfl, by rw [ByteArray.size_append]; omega, hbm, HS2⟩
              case measure => simp [RowKit.intOf]; omega
            · unfold heir at hst
              rw [if_neg hq] at hst
              have HS2 : Hid (out.data.toList ++ becL c b (a.drop (k + 1)) = X) := Lib.hid (by simpa using hst)
              clear hst hgs HS
              go_wp2_with fail
              go_roundw
              case rel => exact ⟨k + 1, out, by omega, by go_num, rfl, by omega, hbm, HS2⟩
              case measure => simp [RowKit.intOf]; omega
        | succ m =>
          obtain ⟨g2, rfl, hg2, hcell2⟩ := HC2.out m (by omega)
          have hcb := (hbm.cell (p := ⟨g2, m, none⟩) hg2).trans hcell2
          have hca := HCELL1.out _ hbm
          have hds := drop_step b m (by omega)
          have hfs : firstB (b.drop m) m x = if b.getD m ⟨#[]⟩ = x then (m : Int) else firstB (b.drop (m + 1)) (m + 1) x := by rw [hds]; rfl
          have hej : ((m + 1 : Nat) : Int) - 1 = (m : Int) := by omega
          generalize b.getD m ⟨#[]⟩ = y at hcb hfs
          generalize firstB (b.drop (m + 1)) (m + 1) x = fi at hfs ⊢
          have HFS := Lib.hid hfs
          clear hds hfs hcell2
          rw [hej]
          go_wp2_with fail
          go_region
          all_goals go_wp2_with fail
          · rename_i hq
            have hyx : y = x := data_inj.1 (by have := eq_of_beq hq; rwa [Lib.toList_data, Lib.toList_data] at this)
            go_roundw
            case rel => exact ⟨m, by omega, rfl, by rw [HFS.out, if_pos hyx], hbm.drew⟩
            case measure => simp [RowKit.intOf]
          · rename_i hq
            have hyx : ¬ y = x := fun e => by rw [e] at hq; simp at hq
            go_roundw
            case rel => exact ⟨m, by omega, rfl, by rw [HFS.out, if_neg hyx], hbm.drew⟩
            case measure => simp [RowKit.intOf]
    · have hst := HO.out
      rw [List.drop_eq_nil_of_le (by omega)] at hst
      have HS : Hid (out.data.toList = X) := Lib.hid (by simpa [becL] using hst)
      clear hst HO
      go_wp2_with fail
      go_ret
      exact ⟨by rw [← HS.out]; rfl, HBW.out.trans (hbk.mono HBW.out.size)⟩
end Go.Proofs.Ytblhiaeocinogaa.Char
