/- FewW Few Open11 LawTests11 -/
import Derived.Test.YtbbfcjaggdpfbaaPk05
import Derived.Test.YtbbfcjaggdpfbaaPk02
import Derived.Test.YtbbfcjaggdpfbaaPk11
import Derived.Test.YtbbfcjaggdpfbaaRows
import Derived.Deep.Slices
import Derived.ChangeArms
import Derived.SizedLaws
import Derived.Carry
import Derived.Test.YtbbfcjaggdpfbaaPk16
import Derived.Test.YtbbfcjaggdpfbaaPk17
import Derived.Test.YtbbfcjaggdpfbaaPk03
/- The walks of the statements' own few and Few. -/
namespace Go.Proofs.Ytbbfcjaggdpfbaa.Char
open Go.RowKit Go.Lib

mutual
/-- how many more nodes there may be behind this one; none: there are too many, or they are too deep -/
def fewT : Tr → Nat → Nat → Option Nat
  | .mk _ _ _ _ ks, d, m => if d = 0 ∨ m = 0 then none else fewK ks (d - 1) (m - 1)
def fewK : List Tr → Nat → Nat → Option Nat
  | [], _, m => some m
  | k :: ks, d, m => (fewT k d m).bind (fewK ks d)
end
theorem fewT_no {t : Tr} {d m : Nat} (h : d = 0 ∨ m = 0) : fewT t d m = none := by
  obtain ⟨kd, nm, tx, ats, ks⟩ := t
  rw [fewT, if_pos h]
theorem fewT_go {t : Tr} {d m : Nat} (h : ¬(d = 0 ∨ m = 0)) : fewT t d m = fewK t.ks (d - 1) (m - 1) := by
  obtain ⟨kd, nm, tx, ats, ks⟩ := t
  rw [fewT, if_neg h]
  rfl
mutual
theorem fewT_cnt : ∀ (t : Tr) (d m m' : Nat), fewT t d m = some m' → m' + cntT t = m
  | .mk kd nm tx ats ks, d, m, m', h => by
    rw [fewT] at h
    split at h
    · cases h
    · have := fewK_cnt ks _ _ _ h
      rw [cntT]
      omega
theorem fewK_cnt : ∀ (ks : List Tr) (d m m' : Nat), fewK ks d m = some m' → m' + cntK ks = m
  | [], d, m, m', h => by
    rw [fewK] at h
    cases h
    rw [cntK]; rfl
  | k :: ks, d, m, m', h => by
    rw [fewK] at h
    obtain ⟨x, hx, hy⟩ := Option.bind_eq_some_iff.1 h
    have h1 := fewT_cnt k _ _ _ hx
    have h2 := fewK_cnt ks _ _ _ hy
    rw [cntK]
    omega
end

set_option maxRecDepth 100000 in
set_option maxHeartbeats 4000000 in
theorem few_any (w0 : World) (n₀ L : Nat) (hL : n₀ ≤ L) : ∀ (d : Nat) (t : Tr) (va vk : Value) (w : World) (m : Nat), NdOn w0 (fun b => b < n₀) t va vk → Below n₀ w0 w → w.cell? ⟨L, 0, none⟩ = some (.int .i64 (m : Int)) → w.frozen? ⟨L, 0, none⟩ = false → m ≤ 2000 → d ≤ 30 →
    Calls Try.prog 50 #[ndV t va vk, .int .i64 (d : Int), .pointer (some ⟨L, 0, none⟩)] w fun e w' => e = .returned (.bool (fewT t d m).isSome) ∧ KpN n₀ L w w' ∧
      (∀ m', fewT t d m = some m' → w'.cell? ⟨L, 0, none⟩ = some (.int .i64 (m' : Int)) ∧ w'.frozen? ⟨L, 0, none⟩ = false) := by
  intro d
  induction d with
  | zero =>
    intro t va vk w m hn hb hc hf hm hd
    obtain ⟨oa, ja, ok, jk, rfl, rfl⟩ := hn.form
    have hLl : L < w.heap.size := cell_lt hc
    rw [fewT_no (.inl rfl)]
    clear hn
    unfold ndV
    go_enter Try.func50, Try.ntmps50
    go_wp2_with fail
    go_ret
    exact ⟨rfl, kpN_t (kpN_setCell hL _ _ _) (kpN_grow (by simp; omega) ((Below.refl _ _).alloc (Nat.le_refl _) _)), fun m' h => by cases h⟩
  | succ d ih =>
    intro t va vk w m hn hb hc hf hm hd
    obtain ⟨oa, ja, ok, jk, rfl, rfl⟩ := hn.form
    have hLl : L < w.heap.size := cell_lt hc
    have HN := Lib.hid hn
    have HIH := Lib.hid ih
    clear hn ih
    unfold ndV
    by_cases h0 : m = 0
    · subst h0
      rw [fewT_no (.inr rfl)]
      go_enter Try.func50, Try.ntmps50
      go_wp2_with fail
      go_ret
      exact ⟨rfl, kpN_t (kpN_setCell hL _ _ _) (kpN_grow (by simp; omega) ((Below.refl _ _).alloc (Nat.le_refl _) _)), fun m' h => by cases h⟩
    · rw [fewT_go (by omega), Nat.add_sub_cancel]
      have k1 : ((d : Int) + 1 == 0) = false := by rw [beq_eq_false_iff_ne]; omega
      have k2 : decide (((m - 1 : Nat) : Int) < 0) = false := by simp
      obtain ⟨w1, hw1⟩ : ∃ w1, w1 = (w.setCell ⟨L, 0, none⟩ (.int .i64 ((m - 1 : Nat) : Int))).alloc (.cells #[.int .i64 t.kd, .string (bs t.nm), .string (bs t.tx), .slice oa t.ats.length ja, .slice ok t.ks.length jk] 25) := ⟨_, rfl⟩
      have hk1 : KpN n₀ L w w1 := by rw [hw1]; exact kpN_t (kpN_setCell hL _ _ _) (kpN_grow (by simp; omega) ((Below.refl _ _).alloc (Nat.le_refl _) _))
      have s1 : w1.heap.size = w.heap.size + 1 := by rw [hw1]; simp
      have hbk : w1.heap[w.heap.size]? = some (.cells #[.int .i64 t.kd, .string (bs t.nm), .string (bs t.tx), .slice oa t.ats.length ja, .slice ok t.ks.length jk] 25 (0, 0)) := by
        rw [hw1]
        have := World.alloc_heap_new (w.setCell ⟨L, 0, none⟩ (.int .i64 ((m - 1 : Nat) : Int))) (.cells #[.int .i64 t.kd, .string (bs t.nm), .string (bs t.tx), .slice oa t.ats.length ja, .slice ok t.ks.length jk] 25)
        simpa using this
      have hc1 : w1.cell? ⟨L, 0, none⟩ = some (.int .i64 ((m - 1 : Nat) : Int)) ∧ w1.frozen? ⟨L, 0, none⟩ = false := by
        rw [hw1]
        refine ⟨?_, ?_⟩
        · rw [World.cell?_alloc_past _ _ _ (by simp; omega)]; exact World.cell?_setCell_same' _ _ _ (by rw [hc]; rfl)
        · rw [World.frozen?_alloc_past _ _ _ (by simp; omega), World.frozen?_setCell]; exact hf
      have hcl : ∀ W, KpN n₀ L w1 W → W.cell? ⟨w.heap.size, 4, none⟩ = some (.slice ok t.ks.length jk) := fun W hW => by
        have h := hW.2 w.heap.size _ hbk rfl (by omega)
        simp [World.cell?, h]
      have HCL := Lib.hid hcl
      have HK1 := Lib.hid hk1
      have HB := Lib.hid hb
      have HW1 := Lib.hid hw1
      clear hcl hk1 hbk hb
      have e1 : (m : Int) - 1 = ((m - 1 : Nat) : Int) := by omega
      go_enter Try.func50, Try.ntmps50
      go_wp2_with fail
      rw [← HW1.out]
      clear HW1 hw1
      go_loopw [7] (fun v wr => ∃ j m' : Nat, v = .int .i64 (j : Int) ∧ j ≤ t.ks.length ∧ j + m' ≤ 2000 ∧ wr.cell? ⟨L, 0, none⟩ = some (.int .i64 (m' : Int)) ∧ wr.frozen? ⟨L, 0, none⟩ = false ∧ KpN n₀ L w1 wr ∧ fewK (t.ks.drop j) d m' = fewK t.ks d (m - 1)) (fun v _ => t.ks.length - (RowKit.intOf v).toNat)
      case atStart => exact ⟨0, m - 1, rfl, Nat.zero_le _, by omega, hc1.1, hc1.2, kpN_refl _ _ _, rfl⟩
      case round =>
        obtain ⟨j, m1, rfl, hj, hjm, hcr, hfr, hkr, heq⟩ := hrel
        have hq4 := HCL.out _ hkr
        by_cases hlt : j < t.ks.length
        · obtain ⟨o9, i9, j9, hv9, hi9, hkids⟩ := HN.out.kids
          simp only [Value.slice.injEq] at hv9
          obtain ⟨rfl, rfl, rfl⟩ := hv9
          rcases hkids with h0 | ⟨g, off, rfl, hg, hK⟩
          · rw [h0] at hlt; cases hlt
          obtain ⟨va, vk, hat, hon⟩ := hK.at j hlt
          have hb0 : Below n₀ w0 wr := (HB.out.trans HK1.out.1).trans hkr.1
          obtain ⟨a0, a1, a2, a3, a4⟩ := hat.move (hb0.block g hg)
          have hc2 := HIH.out t.ks[j] va vk wr m1 hon hb0 hcr hfr (by omega) (by omega)
          rw [List.drop_eq_getElem_cons hlt, fewK] at heq
          have hcnt := fewT_cnt t.ks[j] d m1
          have hcp := cntT_pos t.ks[j]
          generalize t.ks[j] = kid at *
          obtain ⟨oa', ja', ok', jk', rfl, rfl⟩ := hon.form
          unfold ndV at hc2
          have HC2 := Lib.hid hc2
          have HKR := Lib.hid hkr
          have HEQ := Lib.hid heq
          have HCN := Lib.hid hcnt
          clear hc2 hon hat hK hkr heq hcnt
          cases hr : fewT kid d m1 with
          | none =>
            have HR := Lib.hid hr
            clear hr
            go_wp2_with fail
            refine HC2.out.mono ?_
            rintro e w2 ⟨rfl, hk2, _⟩
            rw [HR.out]
            go_wp2_with fail
            go_ret
            have heq := HEQ.out
            rw [HR.out] at heq
            rw [← heq]
            exact ⟨rfl, kpN_t HK1.out (kpN_t HKR.out hk2), fun m' h => by cases h⟩
          | some m2 =>
            have HR := Lib.hid hr
            have hm2 := HCN.out m2 hr
            clear hr
            go_wp2_with fail
            refine HC2.out.mono ?_
            rintro e w2 ⟨rfl, hk2, hm⟩
            obtain ⟨hc3, hf3⟩ := hm m2 HR.out
            rw [HR.out]
            go_wp2_with fail
            go_roundw
            case rel => exact ⟨_, _, _, _, _, _, _, _, _, _, _, _, _, _, _, _, _, _, _, ⟨j + 1, m2, by go_num, by omega, by omega, hc3, hf3, kpN_t HKR.out hk2, by have heq := HEQ.out; rw [HR.out] at heq; exact heq⟩, rfl⟩
            case measure => simp [RowKit.intOf]; omega
        · have e : j = t.ks.length := by omega
          subst e
          rw [List.drop_length, fewK] at heq
          go_wp2_with fail
          go_ret
          rw [← heq]
          exact ⟨rfl, kpN_t HK1.out hkr, fun m' h => by cases h; exact ⟨hcr, hfr⟩⟩
end Go.Proofs.Ytbbfcjaggdpfbaa.Char

/- The walk of the statements' own Few. -/
namespace Go.Proofs.Ytbbfcjaggdpfbaa.Char
open Go.RowKit Go.Lib

def fewB (t : Tr) : Bool := (fewT t 30 2000).isSome
theorem fewB_cnt {t : Tr} (h : fewB t = true) : cntT t ≤ 2000 := by
  obtain ⟨m, hm⟩ := Option.isSome_iff_exists.1 h
  have := fewT_cnt t _ _ _ hm
  omega
set_option maxRecDepth 100000 in
set_option maxHeartbeats 4000000 in
theorem fewF_any (t : Tr) (va vk : Value) (w : World) (hn : NdOn w (fun b => b < w.heap.size) t va vk) :
    Calls Try.prog 12 #[ndV t va vk] w fun e w' => e = .returned (.bool (fewB t)) ∧ Below w.heap.size w w' := by
  obtain ⟨oa, ja, ok, jk, rfl, rfl⟩ := hn.form
  obtain ⟨w1, hw1⟩ : ∃ w1, w1 = (w.alloc (.cells #[.int .i64 t.kd, .string (bs t.nm), .string (bs t.tx), .slice oa t.ats.length ja, .slice ok t.ks.length jk] 25)).alloc (.cells #[.int .i64 2000] 3) := ⟨_, rfl⟩
  have hb1 : Below w.heap.size w w1 := by rw [hw1]; exact ((Below.refl _ _).alloc (Nat.le_refl _) _).alloc (by simp) _
  have hc1 : w1.cell? ⟨w.heap.size + 1, 0, none⟩ = some (.int .i64 ((2000 : Nat) : Int)) ∧ w1.frozen? ⟨w.heap.size + 1, 0, none⟩ = false := by rw [hw1]; exact ⟨by go_simp, by go_simp⟩
  have h := few_any w w.heap.size (w.heap.size + 1) (by omega) 30 t _ _ w1 2000 hn hb1 hc1.1 hc1.2 (by omega) (by omega)
  unfold ndV at h
  have H := Lib.hid h
  have HB := Lib.hid hb1
  have HW := Lib.hid hw1
  clear h hn hb1 hc1
  unfold ndV fewB
  go_enter Try.func12, Try.ntmps12
  go_wp2_with fail
  rw [← HW.out]
  refine H.out.mono ?_
  rintro e w2 ⟨rfl, hk2, _⟩
  clear H HW hw1
  go_wp2_with fail
  go_ret
  exact ⟨rfl, HB.out.trans hk2.1⟩
end Go.Proofs.Ytbbfcjaggdpfbaa.Char

/- What comes in, opened: rows of numbers, records, puts; a node, with how many nodes and attributes it has. -/
namespace Go.Proofs.Ytbbfcjaggdpfbaa.Char
open Go.RowKit Go.Lib Go.ChangeShapes Go.WideShapes Go.Deep

theorem weights_all {H : Type} {P : Program} {e : TypeId} : ∀ {l : List (DataW H)} {d : DataW H}, d ∈ l → ∀ n ∈ d.weights P e, n ∈ DataW.weightsAll P e l
  | [], _, hd, _, _ => by cases hd
  | x :: r, d, hd, n, hn => by
    rw [DataW.weightsAll, List.mem_append]
    rcases List.mem_cons.1 hd with rfl | hd
    · exact .inl hn
    · exact .inr (weights_all hd n hn)
section
variable {H : Type} {enc : TypeId × Value → H} {W : World}
/-- a slice, opened element by element -/
theorem open_row {α : Type} [Inhabited α] {E ST : TypeId} {size by_ : Nat} (hst : Try.prog.underlying ST = some (.slice E)) (hc : Try.prog.cellsOf E = size) (hby : Try.prog.bytesOf E = by_) (h0 : 0 < size) (p : α → List Value → Prop)
    {n : Nat} {cv : Value} {d : DataW H} {pl : List MemPlace} (h : DataW.trod enc Try.prog W 0 (fun _ => true) true n ST [cv] = some (d, pl)) (hw : ∀ m ∈ d.weights Try.prog ST, m ≤ reachBytes)
    (hel : ∀ k cs d' pl', DataW.trod enc Try.prog W 0 (fun _ => true) true k E cs = some (d', pl') → (∀ m ∈ d'.weights Try.prog E, m ≤ reachBytes) → ∃ x, p x cs) :
    ∃ xs : List α, (∃ o i j, cv = .slice o i j ∧ i = xs.length ∧ (xs = [] ∨ ∃ g off, o = some ⟨g, off, none⟩ ∧ g < W.heap.size ∧ ∀ k (hk : k < xs.length), ∃ cs, p xs[k] cs ∧ cs.length = size ∧ ∀ i, i < size → W.cell? ⟨g, off + k * size + i, none⟩ = cs[i]?)) ∧ (∀ x, x ∈ xs → ∃ cs, p x cs) ∧ xs.length * by_ ≤ 2 ^ 47 := by
  rcases open_slice hst h with ⟨hcv, _⟩ | ⟨a, len, cap, m, k, D, Pl, hcv, _, hl, hm, hmm, hx, hall⟩
  · simp only [List.cons.injEq, and_true] at hcv
    subst hcv
    exact ⟨[], ⟨none, 0, 0, rfl, rfl, .inl rfl⟩, fun _ h => (by cases h), by simp⟩
  · simp only [List.cons.injEq, and_true] at hcv
    subst hcv
    simp only [if_true] at hmm
    subst hmm
    rw [hc] at hall
    simp only [Prod.mk.injEq] at hx
    obtain ⟨rfl, _⟩ := hx
    have hlen : len * by_ ≤ 2 ^ 47 := by
      have := hw (((List.range len).map D).length * by_ + ((List.range (m - len)).map fun j => D (len + j)).length * by_) (by
        rw [DataW.weights]
        simp only [hst, hby, Nat.add_mul]
        exact List.mem_cons_self)
      simp only [List.length_map, List.length_range] at this
      unfold reachBytes at this
      omega
    obtain ⟨f, hf⟩ := choose_lt (α := α) (n := len) (p := fun i x => ∃ cs, p x cs ∧ cs.length = size ∧ ∀ j, j < size → W.cell? (a.add (i * size + j)) = cs[j]?) (fun i hi => by
      obtain ⟨cs', h1, h2⟩ := hall i (by omega)
      obtain ⟨x, hx⟩ := hel k cs' _ _ h2 (fun m' hm' => hw m' (by
        rw [DataW.weights]
        simp only [hst]
        exact List.mem_cons_of_mem _ (List.mem_append_left _ (weights_all (List.mem_map_of_mem (f := D) (List.mem_range.2 hi)) m' hm'))))
      obtain ⟨_, hlc, hcell⟩ := World.cells?_some h1
      refine ⟨x, cs', hx, hlc, fun j hj => ?_⟩
      have := hcell j hj
      rwa [add_add] at this)
    refine ⟨(List.range len).map f, ⟨some a, len, m, rfl, by simp, ?_⟩, fun x hx => by
      obtain ⟨i, hi, rfl⟩ := List.mem_map.1 hx
      obtain ⟨cs, hcs, _⟩ := hf i (List.mem_range.1 hi)
      exact ⟨cs, hcs⟩, by simpa using hlen⟩
    by_cases h00 : len = 0
    · subst h00; exact .inl rfl
    · obtain ⟨g, off, spot⟩ := a
      obtain ⟨cs0, _, hl0, hc0⟩ := hf 0 (by omega)
      have hc1 := hc0 0 h0
      rw [List.getElem?_eq_getElem (by omega)] at hc1
      have hspot : spot = none := by simpa [Addr.add] using World.cell?_spot hc1
      subst hspot
      refine .inr ⟨g, off, rfl, cell_lt (a := ⟨g, off, none⟩) (by simpa [Addr.add] using hc1), fun i hi => ?_⟩
      simp only [List.length_map, List.length_range] at hi
      obtain ⟨cs, q1, q2, q3⟩ := hf i hi
      refine ⟨cs, by simpa using q1, q2, fun j hj => ?_⟩
      have := q3 j hj
      simpa [Addr.add_lit, Nat.add_assoc] using this
theorem cells_int : Try.prog.cellsOf 3 = 1 := by kernel_rfl
theorem cells_str : Try.prog.cellsOf 9 = 1 := by kernel_rfl
theorem cells_bool : Try.prog.cellsOf 4 = 1 := by kernel_rfl
theorem cells_ints : Try.prog.cellsOf 27 = 1 := by kernel_rfl
theorem cells_rec : Try.prog.cellsOf 34 = 7 := by kernel_rfl
theorem cells_put : Try.prog.cellsOf 148 = 8 := by kernel_rfl
theorem bytes_int : Try.prog.bytesOf 3 = 8 := by kernel_rfl
theorem bytes_put : Try.prog.bytesOf 148 = 112 := by kernel_rfl
/-- numbers that come in -/
theorem open_intsR {n : Nat} {cv : Value} {d : DataW H} {pl : List MemPlace} (h : DataW.trod enc Try.prog W 0 (fun _ => true) true n 27 [cv] = some (d, pl)) (hw : ∀ m ∈ d.weights Try.prog 27, m ≤ reachBytes) :
    ∃ zs : List Int, IntsOn W (fun b => b < W.heap.size) cv zs ∧ zs.length ≤ 2 ^ 44 ∧ ∀ z, z ∈ zs → (Lit.int .i64 z).wf = true := by
  obtain ⟨xs, ⟨o, i, j, e1, e2, e3⟩, e5, e4⟩ := open_row (α := Int) Try.underlying27 cells_int bytes_int (by decide) (fun z cs => cs = [.int .i64 z] ∧ (Lit.int .i64 z).wf = true) h hw (fun k cs d' pl' hk _ => by
    obtain ⟨i, hi, _, hiw⟩ := DataW.trod_int Try.underlying3 hk
    exact ⟨i, hi, hiw⟩)
  refine ⟨xs, ⟨o, i, j, e1, e2, ?_⟩, by omega, fun z hz => by
    obtain ⟨cs, _, h2⟩ := e5 z hz
    exact h2⟩
  rcases e3 with e3 | ⟨g, off, f1, f2, f3⟩
  · exact .inl e3
  · refine .inr ⟨g, off, f1, f2, fun k hk => ?_⟩
    obtain ⟨cs, ⟨rfl, _⟩, _, q⟩ := f3 k hk
    have := q 0 (by omega)
    rw [List.getD_eq_getElem?_getD, List.getElem?_eq_getElem hk]
    simpa using this
set_option maxRecDepth 100000 in
/-- a record that comes in -/
theorem open_rec {n : Nat} {cs : List Value} {d : DataW H} {pl : List MemPlace} (h : DataW.trod enc Try.prog W 0 (fun _ => true) true n 34 cs = some (d, pl)) (hw : ∀ m ∈ d.weights Try.prog 34, m ≤ reachBytes) :
    ∃ x : RcV, cs = rcC x ∧ RcOn W (fun b => b < W.heap.size) x ∧ RcSm x.1 ∧ wfR x.1 := by
  obtain ⟨xs, k, hk, hx, hlen, hxl, hf⟩ := DataW.trod_struct Try.underlying34 h
  rw [cells_rec] at hlen
  match cs, hlen with
  | [c0, c1, c2, c3, c4, c5, c6], _ =>
    match xs, hxl with
    | [y0, y1, y2, y3, y4, y5, y6], _ =>
      have h0 := hf 0 _ rfl
      have h1 := hf 1 _ rfl
      have h2 := hf 2 _ rfl
      have h3 := hf 3 _ rfl
      have h4 := hf 4 _ rfl
      have h5 := hf 5 _ rfl
      have h6 := hf 6 _ rfl
      simp only [cells_str, cells_int, cells_ints, cells_bool, List.drop_zero, List.take_succ_cons, List.take_zero, List.getElem?_cons_zero, List.getElem?_cons_succ, List.drop_succ_cons, List.getElem_toArray, List.getElem_cons_zero, List.getElem_cons_succ] at h0 h1 h2 h3 h4 h5 h6
      obtain ⟨i, hi, _, _⟩ := DataW.trod_int Try.underlying3 h0
      obtain ⟨a, ha, _, _⟩ := DataW.trod_string Try.underlying9 h1
      obtain ⟨b, hb, _, _⟩ := DataW.trod_string Try.underlying9 h2
      obtain ⟨p, hp, _, _⟩ := DataW.trod_int Try.underlying3 h3
      obtain ⟨g, hg, _⟩ := DataW.trod_bool Try.underlying4 h6
      simp only [List.cons.injEq, and_true] at hi ha hb hp hg
      simp only [Prod.mk.injEq] at hx
      obtain ⟨rfl, _⟩ := hx
      have hwe : ∀ (j : Nat) (t : TypeId) (e : DataW H), ([3, 9, 9, 3, 27, 27, 4] : List TypeId)[j]? = some t → ([y0, y1, y2, y3, y4, y5, y6].map (·.1))[j]? = some e → ∀ m ∈ e.weights Try.prog t, m ≤ reachBytes := fun j t e ht he m hm => by
        refine hw m ?_
        rw [DataW.weights]
        simp only [Try.underlying34]
        exact DataW.weights_mem_each ht he m hm
      obtain ⟨ks, hks, hkl, hkw⟩ := open_intsR (d := y4.1) (pl := y4.2) h4 (hwe 4 _ _ rfl rfl)
      obtain ⟨ats, hats, hal, haw⟩ := open_intsR (d := y5.1) (pl := y5.2) h5 (hwe 5 _ _ rfl rfl)
      exact ⟨(⟨i, a.data.toList, b.data.toList, p, ks, ats, g⟩, c4, c5), by rw [hi, ha, hb, hp, hg]; rfl, ⟨hks, hats⟩, ⟨hkl, hal⟩, fun z hz => hz.elim (hkw z) (haw z)⟩
instance : Inhabited ChV := ⟨(0, rcV0)⟩
set_option maxRecDepth 100000 in
/-- a put that comes in -/
theorem open_put {n : Nat} {cs : List Value} {d : DataW H} {pl : List MemPlace} (h : DataW.trod enc Try.prog W 0 (fun _ => true) true n 148 cs = some (d, pl)) (hw : ∀ m ∈ d.weights Try.prog 148, m ≤ reachBytes) :
    ∃ x : ChV, cs = .int .i64 x.1 :: rcC x.2 ∧ RcOn W (fun b => b < W.heap.size) x.2 ∧ RcSm x.2.1 ∧ (Lit.int .i64 x.1).wf = true ∧ wfR x.2.1 := by
  obtain ⟨xs, k, hk, hx, hlen, hxl, hf⟩ := DataW.trod_struct Try.underlying148 h
  rw [cells_put] at hlen
  match cs, hlen with
  | [c0, c1, c2, c3, c4, c5, c6, c7], _ =>
    match xs, hxl with
    | [y0, y1], _ =>
      have h0 := hf 0 _ rfl
      have h1 := hf 1 _ rfl
      simp only [cells_int, cells_rec, List.drop_zero, List.take_succ_cons, List.take_zero, List.getElem?_cons_zero, List.getElem?_cons_succ, List.drop_succ_cons, List.getElem_toArray, List.getElem_cons_zero, List.getElem_cons_succ] at h0 h1
      obtain ⟨i, hi, _, hiw⟩ := DataW.trod_int Try.underlying3 h0
      simp only [List.cons.injEq, and_true] at hi
      simp only [Prod.mk.injEq] at hx
      obtain ⟨rfl, _⟩ := hx
      obtain ⟨r, hr, hon, hsm, hwf⟩ := open_rec (d := y1.1) (pl := y1.2) h1 (fun m hm => hw m (by
        rw [DataW.weights]
        simp only [Try.underlying148]
        exact DataW.weights_mem_each (ts := [3, 34]) (j := 1) (t := 34) rfl rfl m hm))
      exact ⟨(i, r), by rw [hi, ← hr], hon, hsm, hiw, hwf⟩
/-- puts that come in -/
theorem open_puts {n : Nat} {cv : Value} {d : DataW H} {pl : List MemPlace} (h : DataW.trod enc Try.prog W 0 (fun _ => true) true n 73 [cv] = some (d, pl)) (hw : ∀ m ∈ d.weights Try.prog 73, m ≤ reachBytes) :
    ∃ xs : List ChV, ChsOn W (fun b => b < W.heap.size) cv xs ∧ xs.length ≤ 2 ^ 44 ∧ ∀ x, x ∈ xs → RcSm x.2.1 ∧ (Lit.int .i64 x.1).wf = true ∧ wfR x.2.1 := by
  obtain ⟨xs, ⟨o, i, j, e1, e2, e3⟩, e5, e4⟩ := open_row (α := ChV) Try.underlying73 cells_put bytes_put (by decide) (fun x cs => cs = .int .i64 x.1 :: rcC x.2 ∧ RcOn W (fun b => b < W.heap.size) x.2 ∧ RcSm x.2.1 ∧ (Lit.int .i64 x.1).wf = true ∧ wfR x.2.1) h hw (fun k cs d' pl' hk hw' => open_put hk hw')
  refine ⟨xs, ⟨⟨o, i, j, e1, e2, ?_⟩, fun x hx => ?_⟩, by omega, fun x hx => ?_⟩
  · rcases e3 with e3 | ⟨g, off, f1, f2, f3⟩
    · exact .inl e3
    · refine .inr ⟨g, off, f1, f2, fun k hk => ?_⟩
      obtain ⟨cs, ⟨rfl, _⟩, _, q⟩ := f3 k hk
      exact ⟨q 0 (by omega), q 1 (by omega), q 2 (by omega), q 3 (by omega), q 4 (by omega), q 5 (by omega), q 6 (by omega), q 7 (by omega)⟩
  · obtain ⟨cs, _, h2, _⟩ := e5 x hx
    exact h2
  · obtain ⟨cs, _, _, h3⟩ := e5 x hx
    exact h3
theorem laid_out : laidOutB Try.prog = true := by kernel_rfl
end
theorem bulk_mem {H : Type} : ∀ {l : List (DataW H)} {d : DataW H}, d ∈ l → Rows.uptoBulk d ≤ Rows.uptoBulkAll l
  | [], _, h => by cases h
  | x :: r, d, h => by
    rw [Rows.uptoBulkAll]
    rcases List.mem_cons.1 h with rfl | h
    · omega
    · have := bulk_mem h
      omega
theorem bulk_pos {H : Type} (d : DataW H) : 1 ≤ Rows.uptoBulk d := by
  unfold Rows.uptoBulk
  split <;> omega
theorem bulk_len {H : Type} : ∀ l : List (DataW H), l.length ≤ Rows.uptoBulkAll l
  | [] => by simp
  | x :: r => by
    have h1 := bulk_pos x
    have h2 := bulk_len r
    rw [List.length_cons, Rows.uptoBulkAll]
    omega
mutual
/-- how many nodes and attributes there are -/
def tallT : Tr → Nat
  | .mk _ _ _ ats ks => 1 + ats.length + tallK ks
def tallK : List Tr → Nat
  | [] => 0
  | k :: ks => tallT k + tallK ks
end
mutual
theorem totP_tall : ∀ t : Tr, totP t ≤ tallT t
  | .mk kd nm tx ats ks => by
    have := totPK_tall ks
    rw [totP, tallT]
    split
    · omega
    · omega
theorem totPK_tall : ∀ ks : List Tr, totPK ks ≤ tallK ks
  | [] => by rw [totPK, tallK]; exact Nat.le_refl _
  | k :: ks => by
    have h1 := totP_tall k
    have h2 := totPK_tall ks
    rw [totPK, tallK]
    omega
end
theorem tallK_bulk {H : Type} : ∀ (es : List (DataW H × List MemPlace)) (g : List Tr), g.length = es.length → (∀ i (h1 : i < g.length) (h2 : i < es.length), tallT g[i] ≤ Rows.uptoBulk es[i].1) → tallK g ≤ Rows.uptoBulkAll (es.map (·.1))
  | [], [], _, _ => by rw [tallK]; exact Nat.zero_le _
  | e :: es, x :: g, hl, h => by
    have h0 := h 0 (by simp) (by simp)
    have h1 := tallK_bulk es g (by simpa using hl) (fun i h1 h2 => by have := h (i + 1) (by simp; omega) (by simp; omega); simpa using this)
    rw [tallK, List.map_cons, Rows.uptoBulkAll]
    simp only [List.getElem_cons_zero] at h0
    omega
  | [], _ :: _, hl, _ => by simp at hl
  | _ :: _, [], hl, _ => by simp at hl
theorem cells_nd : Try.prog.cellsOf 25 = 5 := by kernel_rfl
theorem cells_at : Try.prog.cellsOf 100 = 2 := by kernel_rfl
theorem cells_ats : Try.prog.cellsOf 22 = 1 := by kernel_rfl
theorem cells_nds : Try.prog.cellsOf 23 = 1 := by kernel_rfl
theorem bytes_at : Try.prog.bytesOf 100 = 32 := by kernel_rfl
instance : Inhabited Tr := ⟨.mk 0 [] [] [] []⟩
section
variable {H : Type} {enc : TypeId × Value → H} {W : World}
set_option maxRecDepth 100000 in
theorem open_attrU {n N : Nat} {cs : List Value} {x : DataW H × List MemPlace} (h : DataW.trod enc Try.prog W 0 (fun _ => true) true n 100 cs = some x) (hN : Rows.uptoBulk x.1 ≤ N) :
    ∃ q : At2, cs = [.string (bs q.1), .string (bs q.2)] ∧ q.1.length ≤ N ∧ q.2.length ≤ N := by
  obtain ⟨xs, k, _, hxx, hlen, hxl, hf⟩ := DataW.trod_struct Try.underlying100 h
  rw [cells_at] at hlen
  match cs, hlen with
  | [c0, c1], _ =>
    match xs, hxl with
    | [y0, y1], _ =>
      have h0 := hf 0 _ rfl
      have h1 := hf 1 _ rfl
      simp only [cells_str, List.drop_zero, List.take_succ_cons, List.take_zero, List.getElem?_cons_zero, List.getElem?_cons_succ, List.drop_succ_cons, List.getElem_toArray, List.getElem_cons_zero, List.getElem_cons_succ] at h0 h1
      obtain ⟨a, ha, ya, _⟩ := DataW.trod_string Try.underlying9 h0
      obtain ⟨b, hb, yb, _⟩ := DataW.trod_string Try.underlying9 h1
      simp only [List.cons.injEq, and_true] at ha hb
      rw [hxx, ya, yb] at hN
      simp only [List.map_cons, List.map_nil, Rows.uptoBulk, Rows.uptoBulkAll] at hN
      exact ⟨(a.data.toList, b.data.toList), by rw [ha, hb]; rfl, by dsimp only; omega, by dsimp only; omega⟩

set_option maxRecDepth 100000 in
theorem open_attrsU {n N : Nat} {cv : Value} {d : DataW H} {p : List MemPlace} (h : DataW.trod enc Try.prog W 0 (fun _ => true) true n 22 [cv] = some (d, p))
    (hw : ∀ m ∈ d.weights Try.prog 22, m ≤ reachBytes) (hN : Rows.uptoBulk d ≤ N) : ∃ qs : List At2, AtsOn W (fun b => b < W.heap.size) cv qs ∧ qs.length ≤ 2 ^ 62 ∧ qs.length ≤ N ∧ ∀ a, a ∈ qs → a.1.length ≤ N ∧ a.2.length ≤ N := by
  rcases open_slice Try.underlying22 h with ⟨hc, _⟩ | ⟨a, len, cap, m, k, D, Pl, hc, _, hl, hm, hmm, hx, hall⟩
  · simp only [List.cons.injEq, and_true] at hc
    subst hc
    exact ⟨[], ⟨none, 0, 0, rfl, rfl, .inl rfl⟩, by simp, by simp, fun a ha => by cases ha⟩
  · simp only [List.cons.injEq, and_true] at hc
    subst hc
    simp only [if_true] at hmm
    subst hmm
    rw [cells_at] at hall
    simp only [Prod.mk.injEq] at hx
    obtain ⟨rfl, _⟩ := hx
    have hlen : len ≤ 2 ^ 62 := by
      have := hw (((List.range len).map D).length * 32 + ((List.range (m - len)).map fun j => D (len + j)).length * 32) (by
        rw [DataW.weights]
        simp only [Try.underlying22, bytes_at, Nat.add_mul]
        exact List.mem_cons_self)
      simp only [List.length_map, List.length_range] at this
      unfold reachBytes at this
      omega
    rw [Rows.uptoBulk] at hN
    have hlN : len ≤ N := by
      have := bulk_len ((List.range len).map D)
      simp only [List.length_map, List.length_range] at this
      omega
    obtain ⟨f, hf⟩ := choose_lt (α := At2) (n := len) (p := fun i x => (x.1.length ≤ N ∧ x.2.length ≤ N) ∧ W.cell? (a.add (i * 2)) = some (.string (bs x.1)) ∧ W.cell? (a.add (i * 2 + 1)) = some (.string (bs x.2))) (fun i hi => by
      obtain ⟨cs', h1, h2⟩ := hall i (by omega)
      obtain ⟨q, rfl, hq⟩ := open_attrU (N := N) h2 (by have := bulk_mem (List.mem_map_of_mem (f := D) (List.mem_range.2 hi)); dsimp only at this ⊢; omega)
      obtain ⟨_, _, hcell⟩ := World.cells?_some h1
      refine ⟨q, hq, ?_, ?_⟩
      · have := hcell 0 (by omega)
        rwa [add_add, Nat.add_zero] at this
      · have := hcell 1 (by omega)
        rwa [add_add] at this)
    refine ⟨(List.range len).map f, ⟨some a, len, m, rfl, by simp, ?_⟩, by simpa using hlen, by simpa using hlN, fun a ha => by
      obtain ⟨i, hi, rfl⟩ := List.mem_map.1 ha
      exact (hf i (List.mem_range.1 hi)).1⟩
    by_cases h0 : len = 0
    · subst h0; exact .inl rfl
    · obtain ⟨g, off, spot⟩ := a
      have hc0 := (hf 0 (by omega)).2.1
      have hspot : spot = none := by simpa [Addr.add] using World.cell?_spot hc0
      subst hspot
      refine .inr ⟨g, off, rfl, cell_lt (a := ⟨g, off, none⟩) (by simpa [Addr.add] using hc0), fun i hi => ?_⟩
      simp only [List.length_map, List.length_range] at hi
      have he : ((List.range len).map f).getD i ([], []) = f i := by simp [List.getD, hi]
      rw [he]
      obtain ⟨_, r0, r1⟩ := hf i hi
      exact ⟨by simpa [Addr.add_lit] using r0, by simpa [Addr.add_lit, Nat.add_assoc] using r1⟩

set_option maxRecDepth 100000 in
theorem open_nodeU : ∀ (n : Nat) (cs : List Value) (d : DataW H) (p : List MemPlace), DataW.trod enc Try.prog W 0 (fun _ => true) true n 25 cs = some (d, p) → (∀ m ∈ d.weights Try.prog 25, m ≤ reachBytes) →
    ∃ (t : Tr) (va vk : Value), cs = [.int .i64 t.kd, .string (bs t.nm), .string (bs t.tx), va, vk] ∧ NdOn W (fun b => b < W.heap.size) t va vk ∧ tallT t ≤ Rows.uptoBulk d := by
  intro n
  induction n using Nat.strongRecOn with
  | _ n ih =>
  intro cs d p h hw
  obtain ⟨xs, k, hk, hx, hlen, hxl, hf⟩ := DataW.trod_struct Try.underlying25 h
  rw [cells_nd] at hlen
  match cs, hlen with
  | [c0, c1, c2, c3, c4], _ =>
    match xs, hxl with
    | [y0, y1, y2, y3, y4], _ =>
      have h0 := hf 0 _ rfl
      have h1 := hf 1 _ rfl
      have h2 := hf 2 _ rfl
      have h3 := hf 3 _ rfl
      have h4 := hf 4 _ rfl
      simp only [cells_str, cells_int, cells_ats, cells_nds, List.drop_zero, List.take_succ_cons, List.take_zero, List.getElem?_cons_zero, List.getElem?_cons_succ, List.drop_succ_cons, List.getElem_toArray, List.getElem_cons_zero, List.getElem_cons_succ] at h0 h1 h2 h3 h4
      obtain ⟨i, hi, _, _⟩ := DataW.trod_int Try.underlying3 h0
      obtain ⟨a, ha, ya, _⟩ := DataW.trod_string Try.underlying9 h1
      obtain ⟨b, hb, yb, _⟩ := DataW.trod_string Try.underlying9 h2
      simp only [List.cons.injEq, and_true] at hi ha hb
      simp only [Prod.mk.injEq] at hx
      obtain ⟨rfl, _⟩ := hx
      have hwe : ∀ (j : Nat) (t : TypeId) (e : DataW H), ([3, 9, 9, 22, 23] : List TypeId)[j]? = some t → ([y0, y1, y2, y3, y4].map (·.1))[j]? = some e → ∀ m ∈ e.weights Try.prog t, m ≤ reachBytes := fun j t e ht he m hm => by
        refine hw m ?_
        rw [DataW.weights]
        simp only [Try.underlying25]
        exact DataW.weights_mem_each ht he m hm
      obtain ⟨qs, hqs, _, hqN, _⟩ := open_attrsU (N := Rows.uptoBulk y3.1) (d := y3.1) (p := y3.2) h3 (hwe 3 _ _ rfl rfl) (Nat.le_refl _)
      have hwk := hwe 4 _ _ rfl rfl
      have hkids : ∃ ks : List Tr, (∃ o i j, c4 = .slice o i j ∧ i = ks.length ∧ (ks = [] ∨ ∃ g off, o = some ⟨g, off, none⟩ ∧ g < W.heap.size ∧ KsOn W (fun b => b < W.heap.size) g off ks)) ∧ tallK ks ≤ Rows.uptoBulk y4.1 := by
        rcases DataW.trod_slice Try.underlying23 h4 with ⟨hc, _⟩ | ⟨ad, len, cap, elems, rest, k', hk', hc, hx4, _, _, _, hel, hall, _, _⟩
        · simp only [List.cons.injEq, and_true] at hc
          exact ⟨[], ⟨none, 0, 0, hc, rfl, .inl rfl⟩, by rw [tallK]; exact Nat.zero_le _⟩
        · simp only [List.cons.injEq, and_true] at hc
          rw [cells_nd] at hall
          obtain ⟨f, hf4⟩ := choose_lt (α := Tr) (n := len) (p := fun i t => (∀ h : i < elems.length, tallT t ≤ Rows.uptoBulk elems[i].1) ∧ ∃ va vk, W.cells? 0 (ad.add (i * 5)) 5 = some [.int .i64 t.kd, .string (bs t.nm), .string (bs t.tx), va, vk] ∧ NdOn W (fun b => b < W.heap.size) t va vk) (fun i hi => by
            have hb := hall i hi
            rw [List.getElem?_eq_getElem (by omega), Option.bind_eq_some_iff] at hb
            obtain ⟨cs', e1, e2⟩ := hb
            obtain ⟨t, va, vk, rfl, hon, hmx⟩ := ih k' (by omega) cs' _ _ e2 (fun m hm => hwk m (by
              rw [hx4, DataW.weights]
              simp only [Try.underlying23]
              exact List.mem_cons_of_mem _ (List.mem_append_left _ (weights_all (List.mem_map_of_mem (List.getElem_mem (by omega))) m hm))))
            exact ⟨t, fun _ => by simpa using hmx, va, vk, e1, hon⟩)
          refine ⟨(List.range len).map f, ⟨some ad, len, cap, hc, by simp, ?_⟩, ?_⟩
          · by_cases h0 : len = 0
            · subst h0; exact .inl rfl
            · obtain ⟨g, off, spot⟩ := ad
              obtain ⟨_, va, vk, hc0, _⟩ := hf4 0 (by omega)
              have hc1 := (World.cells?_some hc0).2.2 0 (by omega)
              rw [add_add] at hc1
              have hspot : spot = none := by simpa [Addr.add] using World.cell?_spot hc1
              subst hspot
              refine .inr ⟨g, off, rfl, cell_lt (a := ⟨g, off, none⟩) (by simpa [Addr.add] using hc1), KsOn.of fun i hi => ?_⟩
              simp only [List.length_map, List.length_range] at hi
              simp only [List.getElem_map, List.getElem_range]
              obtain ⟨_, va, vk, hcs, hon⟩ := hf4 i hi
              have hcell := (World.cells?_some hcs).2.2
              have hat : ∀ j (hj : j < 5), W.cell? ⟨g, off + i * 5 + j, none⟩ = ([.int .i64 (f i).kd, .string (bs (f i).nm), .string (bs (f i).tx), va, vk] : List Value)[j]? := fun j hj => by
                have := hcell j hj
                rw [add_add] at this
                simpa [Addr.add_lit, Nat.add_assoc] using this
              exact ⟨va, vk, ⟨hat 0 (by omega), hat 1 (by omega), hat 2 (by omega), hat 3 (by omega), hat 4 (by omega)⟩, hon⟩
          · rw [hx4, Rows.uptoBulk]
            have := tallK_bulk elems ((List.range len).map f) (by simp; omega) (fun i h1 h2 => by
              simp only [List.length_map, List.length_range] at h1
              simp only [List.getElem_map, List.getElem_range]
              exact (hf4 i h1).1 h2)
            omega
      obtain ⟨ks, hks, hkm⟩ := hkids
      refine ⟨.mk i a.data.toList b.data.toList qs ks, c3, c4, by rw [hi, ha, hb]; rfl, NdOn.of hqs hks, ?_⟩
      rw [tallT]
      simp only [List.map_cons, List.map_nil, Rows.uptoBulk, Rows.uptoBulkAll]
      omega
end
section
variable {H : Type} {enc : TypeId × Value → H} {W : World}
set_option maxRecDepth 100000 in
theorem open_nodeTU {r : Reach} {b0 : Nat} {v : Value} {d : DataW H} {p : List MemPlace} (hv : Value.okWide Try.prog W r b0 25 v) (h : DataW.Trod enc Try.prog W 0 (fun _ => true) true 25 v d p)
    (hw : ∀ m ∈ d.weights Try.prog 25, m ≤ reachBytes) : ∃ (t : Tr) (va vk : Value), v = ndV t va vk ∧ NdOn W (fun b => b < W.heap.size) t va vk ∧ tallT t ≤ Rows.uptoBulk d := by
  obtain ⟨cs, rfl, _⟩ := okWide_struct Try.underlying25 hv
  obtain ⟨fuel, hf⟩ := h
  obtain ⟨t, va, vk, hcs, h1, h2⟩ := open_nodeU fuel _ _ _ hf hw
  refine ⟨t, va, vk, ?_, h1, h2⟩
  obtain ⟨l⟩ := cs
  have : l = [.int .i64 t.kd, .string (bs t.nm), .string (bs t.tx), va, vk] := hcs
  rw [this]
  rfl
set_option maxRecDepth 100000 in
theorem open_putsT {r : Reach} {b0 : Nat} {v : Value} {d : DataW H} {p : List MemPlace} (hv : Value.okWide Try.prog W r b0 73 v) (h : DataW.Trod enc Try.prog W 0 (fun _ => true) true 73 v d p)
    (hw : ∀ m ∈ d.weights Try.prog 73, m ≤ reachBytes) : ∃ xs : List ChV, ChsOn W (fun g => g < W.heap.size) v xs ∧ xs.length ≤ 2 ^ 44 ∧ ∀ x, x ∈ xs → RcSm x.2.1 ∧ (Lit.int .i64 x.1).wf = true ∧ wfR x.2.1 := by
  obtain ⟨a, l, c, rfl⟩ := okWide_slice Try.underlying73 hv
  obtain ⟨fuel, hf⟩ := h
  exact open_puts hf hw
theorem cells_ask : Try.prog.cellsOf 85 = 5 := by kernel_rfl
theorem cells_test : Try.prog.cellsOf 83 = 3 := by kernel_rfl
set_option maxRecDepth 100000 in
theorem open_askT {r : Reach} {b0 : Nat} {v : Value} {d : DataW H} {p : List MemPlace} (hv : Value.okWide Try.prog W r b0 85 v) (h : DataW.Trod enc Try.prog W 0 (fun _ => true) true 85 v d p)
    (_hw : ∀ m ∈ d.weights Try.prog 85, m ≤ reachBytes) : ∃ (xi xa xk : Int) (xn : List UInt8) (xh : Bool), v = .agg #[.int .i64 xi, .int .i64 xa, .int .i64 xk, .string (bs xn), .bool xh] ∧ (Lit.int .i64 xi).wf = true := by
  obtain ⟨cs, rfl, _⟩ := okWide_struct Try.underlying85 hv
  obtain ⟨fuel, hf⟩ := h
  obtain ⟨l⟩ := cs
  obtain ⟨xs, k, hk, hx, hlen, hxl, hff⟩ := DataW.trod_struct Try.underlying85 (show DataW.trod enc Try.prog W 0 (fun _ => true) true fuel 85 l = some (d, p) from hf)
  rw [cells_ask] at hlen
  match l, hlen with
  | [c0, c1, c2, c3, c4], _ =>
    match xs, hxl with
    | [y0, y1, y2], _ =>
      have h0 := hff 0 _ rfl
      have h1 := hff 1 _ rfl
      have h2 := hff 2 _ rfl
      simp only [cells_int, cells_test, List.drop_zero, List.take_succ_cons, List.take_zero, List.getElem?_cons_zero, List.getElem?_cons_succ, List.drop_succ_cons, List.getElem_toArray, List.getElem_cons_zero, List.getElem_cons_succ] at h0 h1 h2
      obtain ⟨i, hi, _, hiw⟩ := DataW.trod_int Try.underlying3 h0
      obtain ⟨a, ha, _, _⟩ := DataW.trod_int Try.underlying3 h1
      obtain ⟨zs, k2, hk2, hx2, hlen2, hzl, hfz⟩ := DataW.trod_struct Try.underlying83 h2
      match zs, hzl with
      | [z0, z1, z2], _ =>
        have g0 := hfz 0 _ rfl
        have g1 := hfz 1 _ rfl
        have g2 := hfz 2 _ rfl
        simp only [cells_int, cells_str, cells_bool, List.drop_zero, List.take_succ_cons, List.take_zero, List.getElem?_cons_zero, List.getElem?_cons_succ, List.drop_succ_cons, List.getElem_toArray, List.getElem_cons_zero, List.getElem_cons_succ] at g0 g1 g2
        obtain ⟨q, hq, _, _⟩ := DataW.trod_int Try.underlying3 g0
        obtain ⟨s, hs, _, _⟩ := DataW.trod_string Try.underlying9 g1
        obtain ⟨b, hb, _⟩ := DataW.trod_bool Try.underlying4 g2
        simp only [List.cons.injEq, and_true] at hi ha hq hs hb
        exact ⟨i, a, q, s.data.toList, b, by rw [hi, ha, hq, hs, hb]; rfl, hiw⟩
end
end Go.Proofs.Ytbbfcjaggdpfbaa.Char

/- The walk of the law AxisTests. -/
namespace Go.Proofs.Ytbbfcjaggdpfbaa.Char
open Go.RowKit Go.Lib

theorem KeptT.cell {w : World} (q : KeptT w) {a : Addr} {v : Value} (h : w.cell? a = some v) : q.at.cell? a = some v := keep_cell h q.ok
set_option maxRecDepth 100000 in
set_option maxHeartbeats 16000000 in
theorem lawTests11_any (t : Tr) (va vk : Value) (o : Option Addr) (j : Nat) (cs : List ChV) (xi xa xk : Int) (xn : List UInt8) (xh : Bool) (w : World) (hn : NdOn w (fun g => g < w.heap.size) t va vk) (ht : totP t ≤ 2000000)
    (hcs : ChsOn w (fun g => g < w.heap.size) (.slice o cs.length j) cs) (hsm : ∀ x, x ∈ cs → RcSm x.2.1 ∧ (Lit.int .i64 x.1).wf = true ∧ wfR x.2.1) (hcl : cs.length ≤ 2 ^ 44) (hxi : (Lit.int .i64 xi).wf = true) :
    Calls Try.prog 8 #[ndV t va vk, .slice o cs.length j, .agg #[.int .i64 xi, .int .i64 xa, .int .i64 xk, .string (bs xn), .bool xh]] w fun e w' => e = .returned (.bool true) ∧ Below w.heap.size w w' := by
  obtain ⟨oa, ja, ok, jk, rfl, rfl⟩ := hn.form
  obtain ⟨W0, hW0⟩ : ∃ W0, W0 = (w.alloc (.cells #[.int .i64 t.kd, .string (bs t.nm), .string (bs t.tx), .slice oa t.ats.length ja, .slice ok t.ks.length jk] 25)).alloc (.cells #[.int .i64 xi, .int .i64 xa, .int .i64 xk, .string (bs xn), .bool xh] 85) := ⟨_, rfl⟩
  have hb0 : Below w.heap.size w W0 := by rw [hW0]; exact ((Below.refl _ _).alloc (Nat.le_refl _) _).alloc (by simp) _
  have hk0 : W0.heap[w.heap.size]? = some (.cells #[.int .i64 t.kd, .string (bs t.nm), .string (bs t.tx), .slice oa t.ats.length ja, .slice ok t.ks.length jk] 25 (0, 0)) := by
    rw [hW0, Below.heap_alloc _ _ _ (by simp)]
    exact World.alloc_heap_new w _
  have hk1 : W0.heap[w.heap.size + 1]? = some (.cells #[.int .i64 xi, .int .i64 xa, .int .i64 xk, .string (bs xn), .bool xh] 85 (0, 0)) := by
    rw [hW0]
    have := World.alloc_heap_new (w.alloc (.cells #[.int .i64 t.kd, .string (bs t.nm), .string (bs t.tx), .slice oa t.ats.length ja, .slice ok t.ks.length jk] 25)) (.cells #[.int .i64 xi, .int .i64 xa, .int .i64 xk, .string (bs xn), .bool xh] 85)
    simpa using this
  have n0 : W0.cell? ⟨w.heap.size, 0, none⟩ = some (.int .i64 t.kd) := by simp [World.cell?, hk0]
  have n1 : W0.cell? ⟨w.heap.size, 1, none⟩ = some (.string (bs t.nm)) := by simp [World.cell?, hk0]
  have n2 : W0.cell? ⟨w.heap.size, 2, none⟩ = some (.string (bs t.tx)) := by simp [World.cell?, hk0]
  have n3 : W0.cell? ⟨w.heap.size, 3, none⟩ = some (.slice oa t.ats.length ja) := by simp [World.cell?, hk0]
  have n4 : W0.cell? ⟨w.heap.size, 4, none⟩ = some (.slice ok t.ks.length jk) := by simp [World.cell?, hk0]
  have x0 : W0.cell? ⟨w.heap.size + 1, 0, none⟩ = some (.int .i64 xi) := by simp [World.cell?, hk1]
  have x1 : W0.cell? ⟨w.heap.size + 1, 1, none⟩ = some (.int .i64 xa) := by simp [World.cell?, hk1]
  have x2 : W0.cell? ⟨w.heap.size + 1, 2, none⟩ = some (.int .i64 xk) := by simp [World.cell?, hk1]
  have x3 : W0.cell? ⟨w.heap.size + 1, 3, none⟩ = some (.string (bs xn)) := by simp [World.cell?, hk1]
  have x4 : W0.cell? ⟨w.heap.size + 1, 4, none⟩ = some (.bool xh) := by simp [World.cell?, hk1]
  have hn0 : NdOn W0 (fun g => g < W0.heap.size) t (.slice oa t.ats.length ja) (.slice ok t.ks.length jk) := hn.move (fun g hg hF => ⟨Nat.lt_of_lt_of_le hg hb0.size, hb0.block g hg⟩)
  have hfew := fewF_any t _ _ W0 hn0
  obtain ⟨E, hE⟩ : ∃ E, fewB t = E := ⟨_, rfl⟩
  rw [hE] at hfew
  unfold ndV at hfew
  have HF := Lib.hid hfew
  have HN := Lib.hid hn0
  have HCS := Lib.hid (hcs.move (F' := fun g => g < W0.heap.size) (w' := W0) fun g hg hF => ⟨Nat.lt_of_lt_of_le hg hb0.size, hb0.block g hg⟩)
  have HSM := Lib.hid hsm
  have HB0 := Lib.hid hb0
  have HE := Lib.hid hE
  have HW0 := Lib.hid hW0
  have HWK := Lib.hid worksA_any
  have HXI := Lib.hid hxi
  clear hn hcs hsm hb0 hk0 hk1 hn0 hfew hE hW0 hxi
  unfold ndV
  cases E with
  | false =>
    clear x0 x1 x2 x3 x4
    go_enter Try.func8, Try.ntmps8
    go_upto_region 1 with fail
    rw [← HW0.out]
    go_wp2_with (first
      | (go_at_call 12
         refine HF.out.mono ?_
         rintro e w1 ⟨rfl, q1⟩
         have HB1 := Lib.hid (HB0.out.trans (q1.mono HB0.out.size))
         clear q1 n0 n1 n2 n3 n4)
      | (go_at_call 38
         refine (HWK.out _).mono ?_
         rintro e w2 ⟨rfl, q2⟩
         have HB2 := Lib.hid (HB1.out.trans (q2.mono HB1.out.size))
         clear q2))
    go_ret
    exact ⟨rfl, HB2.out⟩
  | true =>
    have hcnt := fewB_cnt HE.out
    go_enter Try.func8, Try.ntmps8
    go_upto_region 1 with fail
    rw [← HW0.out]
    go_upto_region 4 with (first
      | (go_at_call 12
         refine HF.out.mono ?_
         rintro e w1 ⟨rfl, q1⟩
         have hm := madeA_any t (.slice oa t.ats.length ja) (.slice ok t.ks.length jk) o j cs w1 (F := fun g => g < W0.heap.size) (G := fun g => g < W0.heap.size) (by omega) (HN.out.move fun g hg hF => ⟨hF, q1.block g hg⟩) (fun g hg => Nat.lt_of_lt_of_le hg q1.size) ht (HCS.out.move fun g hg hF => ⟨hF, q1.block g hg⟩) (fun g hg => Nat.lt_of_lt_of_le hg q1.size) (fun x hx => ⟨(HSM.out x hx).1, (HSM.out x hx).2.1⟩) (Nat.le_trans hcl (by decide))
         unfold ndV at hm
         have HM := Lib.hid hm
         have HB1 := Lib.hid (HB0.out.trans (q1.mono HB0.out.size))
         have m0 := keep_cell n0 q1
         have m1 := keep_cell n1 q1
         have m2 := keep_cell n2 q1
         have m3 := keep_cell n3 q1
         have m4 := keep_cell n4 q1
         have X0 := Lib.hid (keep_cell x0 q1)
         have X1 := Lib.hid (keep_cell x1 q1)
         have X2 := Lib.hid (keep_cell x2 q1)
         have X3 := Lib.hid (keep_cell x3 q1)
         have X4 := Lib.hid (keep_cell x4 q1)
         clear q1 n0 n1 n2 n3 n4 x0 x1 x2 x3 x4 hm)
      | (go_at_call 39
         refine HM.out.mono ?_
         rintro e w2 ⟨p, b, sb, b2, d, Z, Z1, Y, Y1, rfl, h2⟩
         have HH := Lib.hid h2
         clear h2 m0 m1 m2 m3 m4 HM))
    have hb2 := HH.out.bel
    have hol := putsO_len (ownA t) ((cs.take 12).map toCh)
    have hol2 := ownA_len t
    rw [List.length_map, List.length_take] at hol
    have hwo := wfO_puts (wfO_ownA t ht) ((cs.take 12).map toCh) (fun c hc => by
      obtain ⟨x, hx, rfl⟩ := List.mem_map.1 hc
      exact (HSM.out x (List.mem_of_mem_take hx)).2.2)
    have hv := HH.out.vh (by show 1 ≤ _; omega) (wfL_stoA t) hwo
    have hd := HH.out.dv (by show 1 ≤ _; omega) (wfL_stoA t) hwo (by omega)
    obtain ⟨hc0, hc1⟩ := HH.out.cells
    have CM := Lib.hid (fun q : KeptT w2 => match_any (hv.below q.ok) xa xk xn xh xi HXI.out)
    have CR := Lib.hid (fun q : KeptT w2 => matchR_any (hd.below q.ok) xa xk xn xh xi)
    have CT := Lib.hid (fun q : KeptT w2 => rightT_any xk xn xh q.at)
    have CU := Lib.hid (fun q : KeptT w2 => rightTR_any xk xn xh q.at)
    unfold teV at CM CR CT CU
    have A0 : ∀ q : KeptT w2, q.at.cell? ⟨p, 0, none⟩ = some (.pointer (some ⟨b, 0, none⟩)) := fun q => q.cell hc0
    have A1 : ∀ q : KeptT w2, q.at.cell? ⟨p, 1, none⟩ = some (.pointer (some ⟨b2, 0, none⟩)) := fun q => q.cell hc1
    have B0 : ∀ q : KeptT w2, q.at.cell? ⟨w.heap.size + 1, 0, none⟩ = some (.int .i64 xi) := fun q => q.cell (keep_cell X0.out hb2)
    have B1 : ∀ q : KeptT w2, q.at.cell? ⟨w.heap.size + 1, 1, none⟩ = some (.int .i64 xa) := fun q => q.cell (keep_cell X1.out hb2)
    have B2 : ∀ q : KeptT w2, q.at.cell? ⟨w.heap.size + 1, 2, none⟩ = some (.int .i64 xk) := fun q => q.cell (keep_cell X2.out hb2)
    have B3 : ∀ q : KeptT w2, q.at.cell? ⟨w.heap.size + 1, 3, none⟩ = some (.string (bs xn)) := fun q => q.cell (keep_cell X3.out hb2)
    have B4 : ∀ q : KeptT w2, q.at.cell? ⟨w.heap.size + 1, 4, none⟩ = some (.bool xh) := fun q => q.cell (keep_cell X4.out hb2)
    have HB2 := Lib.hid (HB1.out.trans (hb2.mono HB1.out.size))
    generalize matchT xa xk xn xh (lookV (stoA t).L 0 (putsO (ownA t) ((cs.take 12).map toCh)) xi) = M at CM CR
    generalize rightT xk xn xh = R at CT CU
    clear hv hd hc0 hc1 hwo hol hol2 HH hb2 X0 X1 X2 X3 X4
    cases M <;> cases R <;>
    · refine wp_region_kept (KeptT w2) KeptT.at (by kernel_rfl) (by kernel_rfl) ⟨⟨w2.drew, (Below.refl _ w2).drew⟩, rfl⟩ ?_
      repeat (go_big_quiet_step (first
        | (go_at_call 42; rename_i q; exact (CM.out q).mono (fun e w' h => ⟨h.1, q.on h.2⟩))
        | (go_at_call 43; rename_i q; exact (CR.out q).mono (fun e w' h => ⟨h.1, q.on h.2⟩))
        | (go_at_call 44; rename_i q; exact (CT.out q).mono (fun e w' h => ⟨h.1, q.on h.2⟩))
        | (go_at_call 45; rename_i q; exact (CU.out q).mono (fun e w' h => ⟨h.1, q.on h.2⟩))
        | (go_at_call 38; rename_i q; exact (HWK.out q.at).mono (fun e w' h => ⟨h.1, q.on h.2⟩))))
      refine wpQuiet_nil ?_
      rintro w' ⟨q, rfl⟩
      go_wp2_with fail
      go_ret
      exact ⟨rfl, HB2.out.trans (q.ok.mono HB2.out.size)⟩
theorem lawTests11_of (t : Tr) (va vk v : Value) (cs : List ChV) (xi xa xk : Int) (xn : List UInt8) (xh : Bool) (w : World) (hn : NdOn w (fun g => g < w.heap.size) t va vk) (ht : tallT t ≤ 1048576)
    (hcs : ChsOn w (fun g => g < w.heap.size) v cs) (hsm : ∀ x, x ∈ cs → RcSm x.2.1 ∧ (Lit.int .i64 x.1).wf = true ∧ wfR x.2.1) (hcl : cs.length ≤ 2 ^ 44) (hxi : (Lit.int .i64 xi).wf = true) :
    Calls Try.prog 8 #[ndV t va vk, v, .agg #[.int .i64 xi, .int .i64 xa, .int .i64 xk, .string (bs xn), .bool xh]] w fun e w' => e = .returned (.bool true) ∧ Below w.heap.size w w' := by
  obtain ⟨o, j, rfl⟩ := hcs.form
  exact lawTests11_any t va vk o j cs xi xa xk xn xh w hn (by have := totP_tall t; omega) hcs hsm hcl hxi
end Go.Proofs.Ytbbfcjaggdpfbaa.Char
