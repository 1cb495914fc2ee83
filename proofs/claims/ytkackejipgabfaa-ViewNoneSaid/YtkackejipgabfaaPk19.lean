/- Open11 OpenS BothV -/
import Derived.Test.YtkackejipgabfaaPk02
import Derived.Test.YtkackejipgabfaaPk11
import Derived.Test.YtkackejipgabfaaPk05
import Derived.Test.YtkackejipgabfaaRows
import Derived.Deep.Slices
import Derived.ChangeArms
import Derived.SizedLaws
import Derived.Carry
import Derived.Test.YtkackejipgabfaaPk18
import Derived.Test.YtkackejipgabfaaPk12
/- What comes in, opened: rows of numbers, records, puts; a node, with how many nodes and attributes it has. -/
namespace Go.Proofs.Ytkackejipgabfaa.Char
open Go.RowKit Go.Lib Go.ChangeShapes Go.WideShapes Go.Deep

theorem weights_all {H : Type} {P : Program} {e : TypeId} : ∀ {l : List (DataW H)} {d : DataW H}, d ∈ l → ∀ n ∈ d.weights P e, n ∈ DataW.weightsAll P e l
  | [], _, hd, _, _ => by cases hd
  | x :: r, d, hd, n, hn => by
    rw [DataW.weightsAll, List.mem_append]
    rcases List.mem_cons.1 hd with rfl | hd
    · exact .inl hn
    · exact .inr (weights_all hd n hn)
section
variable {H : Type} {enc : TypeId × Value → H} {W : World}
/-- a slice, opened element by element -/
theorem open_row {α : Type} [Inhabited α] {E ST : TypeId} {size by_ : Nat} (hst : Try.prog.underlying ST = some (.slice E)) (hc : Try.prog.cellsOf E = size) (hby : Try.prog.bytesOf E = by_) (h0 : 0 < size) (p : α → List Value → Prop)
    {n : Nat} {cv : Value} {d : DataW H} {pl : List MemPlace} (h : DataW.trod enc Try.prog W 0 (fun _ => true) true n ST [cv] = some (d, pl)) (hw : ∀ m ∈ d.weights Try.prog ST, m ≤ reachBytes)
    (hel : ∀ k cs d' pl', DataW.trod enc Try.prog W 0 (fun _ => true) true k E cs = some (d', pl') → (∀ m ∈ d'.weights Try.prog E, m ≤ reachBytes) → ∃ x, p x cs) :
    ∃ xs : List α, (∃ o i j, cv = .slice o i j ∧ i = xs.length ∧ (xs = [] ∨ ∃ g off, o = some ⟨g, off, none⟩ ∧ g < W.heap.size ∧ ∀ k (hk : k < xs.length), ∃ cs, p xs[k] cs ∧ cs.length = size ∧ ∀ i, i < size → W.cell? ⟨g, off + k * size + i, none⟩ = cs[i]?)) ∧ (∀ x, x ∈ xs → ∃ cs, p x cs) ∧ xs.length * by_ ≤ 2 ^ 47 := by
  rcases open_slice hst h with ⟨hcv, _⟩ | ⟨a, len, cap, m, k, D, Pl, hcv, _, hl, hm, hmm, hx, hall⟩
  · simp only [List.cons.injEq, and_true] at hcv
    subst hcv
    exact ⟨[], ⟨none, 0, 0, rfl, rfl, .inl rfl⟩, fun _ h => (by cases h), by simp⟩
  · simp only [List.cons.injEq, and_true] at hcv
    subst hcv
    simp only [if_true] at hmm
    subst hmm
    rw [hc] at hall
    simp only [Prod.mk.injEq] at hx
    obtain ⟨rfl, _⟩ := hx
    have hlen : len * by_ ≤ 2 ^ 47 := by
      have := hw (((List.range len).map D).length * by_ + ((List.range (m - len)).map fun j => D (len + j)).length * by_) (by
        rw [DataW.weights]
        simp only [hst, hby, Nat.add_mul]
        exact List.mem_cons_self)
      simp only [List.length_map, List.length_range] at this
      unfold reachBytes at this
      omega
    obtain ⟨f, hf⟩ := choose_lt (α := α) (n := len) (p := fun i x => ∃ cs, p x cs ∧ cs.length = size ∧ ∀ j, j < size → W.cell? (a.add (i * size + j)) = cs[j]?) (fun i hi => by
      obtain ⟨cs', h1, h2⟩ := hall i (by omega)
      obtain ⟨x, hx⟩ := hel k cs' _ _ h2 (fun m' hm' => hw m' (by
        rw [DataW.weights]
        simp only [hst]
        exact List.mem_cons_of_mem _ (List.mem_append_left _ (weights_all (List.mem_map_of_mem (f := D) (List.mem_range.2 hi)) m' hm'))))
      obtain ⟨_, hlc, hcell⟩ := World.cells?_some h1
      refine ⟨x, cs', hx, hlc, fun j hj => ?_⟩
      have := hcell j hj
      rwa [add_add] at this)
    refine ⟨(List.range len).map f, ⟨some a, len, m, rfl, by simp, ?_⟩, fun x hx => by
      obtain ⟨i, hi, rfl⟩ := List.mem_map.1 hx
      obtain ⟨cs, hcs, _⟩ := hf i (List.mem_range.1 hi)
      exact ⟨cs, hcs⟩, by simpa using hlen⟩
    by_cases h00 : len = 0
    · subst h00; exact .inl rfl
    · obtain ⟨g, off, spot⟩ := a
      obtain ⟨cs0, _, hl0, hc0⟩ := hf 0 (by omega)
      have hc1 := hc0 0 h0
      rw [List.getElem?_eq_getElem (by omega)] at hc1
      have hspot : spot = none := by simpa [Addr.add] using World.cell?_spot hc1
      subst hspot
      refine .inr ⟨g, off, rfl, cell_lt (a := ⟨g, off, none⟩) (by simpa [Addr.add] using hc1), fun i hi => ?_⟩
      simp only [List.length_map, List.length_range] at hi
      obtain ⟨cs, q1, q2, q3⟩ := hf i hi
      refine ⟨cs, by simpa using q1, q2, fun j hj => ?_⟩
      have := q3 j hj
      simpa [Addr.add_lit, Nat.add_assoc] using this
theorem cells_int : Try.prog.cellsOf 3 = 1 := by kernel_rfl
theorem cells_str : Try.prog.cellsOf 9 = 1 := by kernel_rfl
theorem cells_bool : Try.prog.cellsOf 4 = 1 := by kernel_rfl
theorem cells_ints : Try.prog.cellsOf 27 = 1 := by kernel_rfl
theorem cells_rec : Try.prog.cellsOf 34 = 7 := by kernel_rfl
theorem cells_put : Try.prog.cellsOf 141 = 8 := by kernel_rfl
theorem bytes_int : Try.prog.bytesOf 3 = 8 := by kernel_rfl
theorem bytes_put : Try.prog.bytesOf 141 = 112 := by kernel_rfl
/-- numbers that come in -/
theorem open_intsR {n : Nat} {cv : Value} {d : DataW H} {pl : List MemPlace} (h : DataW.trod enc Try.prog W 0 (fun _ => true) true n 27 [cv] = some (d, pl)) (hw : ∀ m ∈ d.weights Try.prog 27, m ≤ reachBytes) :
    ∃ zs : List Int, IntsOn W (fun b => b < W.heap.size) cv zs ∧ zs.length ≤ 2 ^ 44 ∧ ∀ z, z ∈ zs → (Lit.int .i64 z).wf = true := by
  obtain ⟨xs, ⟨o, i, j, e1, e2, e3⟩, e5, e4⟩ := open_row (α := Int) Try.underlying27 cells_int bytes_int (by decide) (fun z cs => cs = [.int .i64 z] ∧ (Lit.int .i64 z).wf = true) h hw (fun k cs d' pl' hk _ => by
    obtain ⟨i, hi, _, hiw⟩ := DataW.trod_int Try.underlying3 hk
    exact ⟨i, hi, hiw⟩)
  refine ⟨xs, ⟨o, i, j, e1, e2, ?_⟩, by omega, fun z hz => by
    obtain ⟨cs, _, h2⟩ := e5 z hz
    exact h2⟩
  rcases e3 with e3 | ⟨g, off, f1, f2, f3⟩
  · exact .inl e3
  · refine .inr ⟨g, off, f1, f2, fun k hk => ?_⟩
    obtain ⟨cs, ⟨rfl, _⟩, _, q⟩ := f3 k hk
    have := q 0 (by omega)
    rw [List.getD_eq_getElem?_getD, List.getElem?_eq_getElem hk]
    simpa using this
set_option maxRecDepth 100000 in
/-- a record that comes in -/
theorem open_rec {n : Nat} {cs : List Value} {d : DataW H} {pl : List MemPlace} (h : DataW.trod enc Try.prog W 0 (fun _ => true) true n 34 cs = some (d, pl)) (hw : ∀ m ∈ d.weights Try.prog 34, m ≤ reachBytes) :
    ∃ x : RcV, cs = rcC x ∧ RcOn W (fun b => b < W.heap.size) x ∧ RcSm x.1 ∧ wfR x.1 := by
  obtain ⟨xs, k, hk, hx, hlen, hxl, hf⟩ := DataW.trod_struct Try.underlying34 h
  rw [cells_rec] at hlen
  match cs, hlen with
  | [c0, c1, c2, c3, c4, c5, c6], _ =>
    match xs, hxl with
    | [y0, y1, y2, y3, y4, y5, y6], _ =>
      have h0 := hf 0 _ rfl
      have h1 := hf 1 _ rfl
      have h2 := hf 2 _ rfl
      have h3 := hf 3 _ rfl
      have h4 := hf 4 _ rfl
      have h5 := hf 5 _ rfl
      have h6 := hf 6 _ rfl
      simp only [cells_str, cells_int, cells_ints, cells_bool, List.drop_zero, List.take_succ_cons, List.take_zero, List.getElem?_cons_zero, List.getElem?_cons_succ, List.drop_succ_cons, List.getElem_toArray, List.getElem_cons_zero, List.getElem_cons_succ] at h0 h1 h2 h3 h4 h5 h6
      obtain ⟨i, hi, _, _⟩ := DataW.trod_int Try.underlying3 h0
      obtain ⟨a, ha, _, _⟩ := DataW.trod_string Try.underlying9 h1
      obtain ⟨b, hb, _, _⟩ := DataW.trod_string Try.underlying9 h2
      obtain ⟨p, hp, _, _⟩ := DataW.trod_int Try.underlying3 h3
      obtain ⟨g, hg, _⟩ := DataW.trod_bool Try.underlying4 h6
      simp only [List.cons.injEq, and_true] at hi ha hb hp hg
      simp only [Prod.mk.injEq] at hx
      obtain ⟨rfl, _⟩ := hx
      have hwe : ∀ (j : Nat) (t : TypeId) (e : DataW H), ([3, 9, 9, 3, 27, 27, 4] : List TypeId)[j]? = some t → ([y0, y1, y2, y3, y4, y5, y6].map (·.1))[j]? = some e → ∀ m ∈ e.weights Try.prog t, m ≤ reachBytes := fun j t e ht he m hm => by
        refine hw m ?_
        rw [DataW.weights]
        simp only [Try.underlying34]
        exact DataW.weights_mem_each ht he m hm
      obtain ⟨ks, hks, hkl, hkw⟩ := open_intsR (d := y4.1) (pl := y4.2) h4 (hwe 4 _ _ rfl rfl)
      obtain ⟨ats, hats, hal, haw⟩ := open_intsR (d := y5.1) (pl := y5.2) h5 (hwe 5 _ _ rfl rfl)
      exact ⟨(⟨i, a.data.toList, b.data.toList, p, ks, ats, g⟩, c4, c5), by rw [hi, ha, hb, hp, hg]; rfl, ⟨hks, hats⟩, ⟨hkl, hal⟩, fun z hz => hz.elim (hkw z) (haw z)⟩
instance : Inhabited ChV := ⟨(0, rcV0)⟩
set_option maxRecDepth 100000 in
/-- a put that comes in -/
theorem open_put {n : Nat} {cs : List Value} {d : DataW H} {pl : List MemPlace} (h : DataW.trod enc Try.prog W 0 (fun _ => true) true n 141 cs = some (d, pl)) (hw : ∀ m ∈ d.weights Try.prog 141, m ≤ reachBytes) :
    ∃ x : ChV, cs = .int .i64 x.1 :: rcC x.2 ∧ RcOn W (fun b => b < W.heap.size) x.2 ∧ RcSm x.2.1 ∧ (Lit.int .i64 x.1).wf = true ∧ wfR x.2.1 := by
  obtain ⟨xs, k, hk, hx, hlen, hxl, hf⟩ := DataW.trod_struct Try.underlying141 h
  rw [cells_put] at hlen
  match cs, hlen with
  | [c0, c1, c2, c3, c4, c5, c6, c7], _ =>
    match xs, hxl with
    | [y0, y1], _ =>
      have h0 := hf 0 _ rfl
      have h1 := hf 1 _ rfl
      simp only [cells_int, cells_rec, List.drop_zero, List.take_succ_cons, List.take_zero, List.getElem?_cons_zero, List.getElem?_cons_succ, List.drop_succ_cons, List.getElem_toArray, List.getElem_cons_zero, List.getElem_cons_succ] at h0 h1
      obtain ⟨i, hi, _, hiw⟩ := DataW.trod_int Try.underlying3 h0
      simp only [List.cons.injEq, and_true] at hi
      simp only [Prod.mk.injEq] at hx
      obtain ⟨rfl, _⟩ := hx
      obtain ⟨r, hr, hon, hsm, hwf⟩ := open_rec (d := y1.1) (pl := y1.2) h1 (fun m hm => hw m (by
        rw [DataW.weights]
        simp only [Try.underlying141]
        exact DataW.weights_mem_each (ts := [3, 34]) (j := 1) (t := 34) rfl rfl m hm))
      exact ⟨(i, r), by rw [hi, ← hr], hon, hsm, hiw, hwf⟩
/-- puts that come in -/
theorem open_puts {n : Nat} {cv : Value} {d : DataW H} {pl : List MemPlace} (h : DataW.trod enc Try.prog W 0 (fun _ => true) true n 73 [cv] = some (d, pl)) (hw : ∀ m ∈ d.weights Try.prog 73, m ≤ reachBytes) :
    ∃ xs : List ChV, ChsOn W (fun b => b < W.heap.size) cv xs ∧ xs.length ≤ 2 ^ 44 ∧ ∀ x, x ∈ xs → RcSm x.2.1 ∧ (Lit.int .i64 x.1).wf = true ∧ wfR x.2.1 := by
  obtain ⟨xs, ⟨o, i, j, e1, e2, e3⟩, e5, e4⟩ := open_row (α := ChV) Try.underlying73 cells_put bytes_put (by decide) (fun x cs => cs = .int .i64 x.1 :: rcC x.2 ∧ RcOn W (fun b => b < W.heap.size) x.2 ∧ RcSm x.2.1 ∧ (Lit.int .i64 x.1).wf = true ∧ wfR x.2.1) h hw (fun k cs d' pl' hk hw' => open_put hk hw')
  refine ⟨xs, ⟨⟨o, i, j, e1, e2, ?_⟩, fun x hx => ?_⟩, by omega, fun x hx => ?_⟩
  · rcases e3 with e3 | ⟨g, off, f1, f2, f3⟩
    · exact .inl e3
    · refine .inr ⟨g, off, f1, f2, fun k hk => ?_⟩
      obtain ⟨cs, ⟨rfl, _⟩, _, q⟩ := f3 k hk
      exact ⟨q 0 (by omega), q 1 (by omega), q 2 (by omega), q 3 (by omega), q 4 (by omega), q 5 (by omega), q 6 (by omega), q 7 (by omega)⟩
  · obtain ⟨cs, _, h2, _⟩ := e5 x hx
    exact h2
  · obtain ⟨cs, _, _, h3⟩ := e5 x hx
    exact h3
theorem laid_out : laidOutB Try.prog = true := by kernel_rfl
end
theorem bulk_mem {H : Type} : ∀ {l : List (DataW H)} {d : DataW H}, d ∈ l → Rows.uptoBulk d ≤ Rows.uptoBulkAll l
  | [], _, h => by cases h
  | x :: r, d, h => by
    rw [Rows.uptoBulkAll]
    rcases List.mem_cons.1 h with rfl | h
    · omega
    · have := bulk_mem h
      omega
theorem bulk_pos {H : Type} (d : DataW H) : 1 ≤ Rows.uptoBulk d := by
  unfold Rows.uptoBulk
  split <;> omega
theorem bulk_len {H : Type} : ∀ l : List (DataW H), l.length ≤ Rows.uptoBulkAll l
  | [] => by simp
  | x :: r => by
    have h1 := bulk_pos x
    have h2 := bulk_len r
    rw [List.length_cons, Rows.uptoBulkAll]
    omega
mutual
/-- how many nodes and attributes there are -/
def tallT : Tr → Nat
  | .mk _ _ _ ats ks => 1 + ats.length + tallK ks
def tallK : List Tr → Nat
  | [] => 0
  | k :: ks => tallT k + tallK ks
end
mutual
theorem totP_tall : ∀ t : Tr, totP t ≤ tallT t
  | .mk kd nm tx ats ks => by
    have := totPK_tall ks
    rw [totP, tallT]
    split
    · omega
    · omega
theorem totPK_tall : ∀ ks : List Tr, totPK ks ≤ tallK ks
  | [] => by rw [totPK, tallK]; exact Nat.le_refl _
  | k :: ks => by
    have h1 := totP_tall k
    have h2 := totPK_tall ks
    rw [totPK, tallK]
    omega
end
theorem tallK_bulk {H : Type} : ∀ (es : List (DataW H × List MemPlace)) (g : List Tr), g.length = es.length → (∀ i (h1 : i < g.length) (h2 : i < es.length), tallT g[i] ≤ Rows.uptoBulk es[i].1) → tallK g ≤ Rows.uptoBulkAll (es.map (·.1))
  | [], [], _, _ => by rw [tallK]; exact Nat.zero_le _
  | e :: es, x :: g, hl, h => by
    have h0 := h 0 (by simp) (by simp)
    have h1 := tallK_bulk es g (by simpa using hl) (fun i h1 h2 => by have := h (i + 1) (by simp; omega) (by simp; omega); simpa using this)
    rw [tallK, List.map_cons, Rows.uptoBulkAll]
    simp only [List.getElem_cons_zero] at h0
    omega
  | [], _ :: _, hl, _ => by simp at hl
  | _ :: _, [], hl, _ => by simp at hl
theorem cells_nd : Try.prog.cellsOf 25 = 5 := by kernel_rfl
theorem cells_at : Try.prog.cellsOf 90 = 2 := by kernel_rfl
theorem cells_ats : Try.prog.cellsOf 22 = 1 := by kernel_rfl
theorem cells_nds : Try.prog.cellsOf 23 = 1 := by kernel_rfl
theorem bytes_at : Try.prog.bytesOf 90 = 32 := by kernel_rfl
instance : Inhabited Tr := ⟨.mk 0 [] [] [] []⟩
section
variable {H : Type} {enc : TypeId × Value → H} {W : World}
set_option maxRecDepth 100000 in
theorem open_attrU {n N : Nat} {cs : List Value} {x : DataW H × List MemPlace} (h : DataW.trod enc Try.prog W 0 (fun _ => true) true n 90 cs = some x) (hN : Rows.uptoBulk x.1 ≤ N) :
    ∃ q : At2, cs = [.string (bs q.1), .string (bs q.2)] ∧ q.1.length ≤ N ∧ q.2.length ≤ N := by
  obtain ⟨xs, k, _, hxx, hlen, hxl, hf⟩ := DataW.trod_struct Try.underlying90 h
  rw [cells_at] at hlen
  match cs, hlen with
  | [c0, c1], _ =>
    match xs, hxl with
    | [y0, y1], _ =>
      have h0 := hf 0 _ rfl
      have h1 := hf 1 _ rfl
      simp only [cells_str, List.drop_zero, List.take_succ_cons, List.take_zero, List.getElem?_cons_zero, List.getElem?_cons_succ, List.drop_succ_cons, List.getElem_toArray, List.getElem_cons_zero, List.getElem_cons_succ] at h0 h1
      obtain ⟨a, ha, ya, _⟩ := DataW.trod_string Try.underlying9 h0
      obtain ⟨b, hb, yb, _⟩ := DataW.trod_string Try.underlying9 h1
      simp only [List.cons.injEq, and_true] at ha hb
      rw [hxx, ya, yb] at hN
      simp only [List.map_cons, List.map_nil, Rows.uptoBulk, Rows.uptoBulkAll] at hN
      exact ⟨(a.data.toList, b.data.toList), by rw [ha, hb]; rfl, by dsimp only; omega, by dsimp only; omega⟩

set_option maxRecDepth 100000 in
theorem open_attrsU {n N : Nat} {cv : Value} {d : DataW H} {p : List MemPlace} (h : DataW.trod enc Try.prog W 0 (fun _ => true) true n 22 [cv] = some (d, p))
    (hw : ∀ m ∈ d.weights Try.prog 22, m ≤ reachBytes) (hN : Rows.uptoBulk d ≤ N) : ∃ qs : List At2, AtsOn W (fun b => b < W.heap.size) cv qs ∧ qs.length ≤ 2 ^ 62 ∧ qs.length ≤ N ∧ ∀ a, a ∈ qs → a.1.length ≤ N ∧ a.2.length ≤ N := by
  rcases open_slice Try.underlying22 h with ⟨hc, _⟩ | ⟨a, len, cap, m, k, D, Pl, hc, _, hl, hm, hmm, hx, hall⟩
  · simp only [List.cons.injEq, and_true] at hc
    subst hc
    exact ⟨[], ⟨none, 0, 0, rfl, rfl, .inl rfl⟩, by simp, by simp, fun a ha => by cases ha⟩
  · simp only [List.cons.injEq, and_true] at hc
    subst hc
    simp only [if_true] at hmm
    subst hmm
    rw [cells_at] at hall
    simp only [Prod.mk.injEq] at hx
    obtain ⟨rfl, _⟩ := hx
    have hlen : len ≤ 2 ^ 62 := by
      have := hw (((List.range len).map D).length * 32 + ((List.range (m - len)).map fun j => D (len + j)).length * 32) (by
        rw [DataW.weights]
        simp only [Try.underlying22, bytes_at, Nat.add_mul]
        exact List.mem_cons_self)
      simp only [List.length_map, List.length_range] at this
      unfold reachBytes at this
      omega
    rw [Rows.uptoBulk] at hN
    have hlN : len ≤ N := by
      have := bulk_len ((List.range len).map D)
      simp only [List.length_map, List.length_range] at this
      omega
    obtain ⟨f, hf⟩ := choose_lt (α := At2) (n := len) (p := fun i x => (x.1.length ≤ N ∧ x.2.length ≤ N) ∧ W.cell? (a.add (i * 2)) = some (.string (bs x.1)) ∧ W.cell? (a.add (i * 2 + 1)) = some (.string (bs x.2))) (fun i hi => by
      obtain ⟨cs', h1, h2⟩ := hall i (by omega)
      obtain ⟨q, rfl, hq⟩ := open_attrU (N := N) h2 (by have := bulk_mem (List.mem_map_of_mem (f := D) (List.mem_range.2 hi)); dsimp only at this ⊢; omega)
      obtain ⟨_, _, hcell⟩ := World.cells?_some h1
      refine ⟨q, hq, ?_, ?_⟩
      · have := hcell 0 (by omega)
        rwa [add_add, Nat.add_zero] at this
      · have := hcell 1 (by omega)
        rwa [add_add] at this)
    refine ⟨(List.range len).map f, ⟨some a, len, m, rfl, by simp, ?_⟩, by simpa using hlen, by simpa using hlN, fun a ha => by
      obtain ⟨i, hi, rfl⟩ := List.mem_map.1 ha
      exact (hf i (List.mem_range.1 hi)).1⟩
    by_cases h0 : len = 0
    · subst h0; exact .inl rfl
    · obtain ⟨g, off, spot⟩ := a
      have hc0 := (hf 0 (by omega)).2.1
      have hspot : spot = none := by simpa [Addr.add] using World.cell?_spot hc0
      subst hspot
      refine .inr ⟨g, off, rfl, cell_lt (a := ⟨g, off, none⟩) (by simpa [Addr.add] using hc0), fun i hi => ?_⟩
      simp only [List.length_map, List.length_range] at hi
      have he : ((List.range len).map f).getD i ([], []) = f i := by simp [List.getD, hi]
      rw [he]
      obtain ⟨_, r0, r1⟩ := hf i hi
      exact ⟨by simpa [Addr.add_lit] using r0, by simpa [Addr.add_lit, Nat.add_assoc] using r1⟩

set_option maxRecDepth 100000 in
theorem open_nodeU : ∀ (n : Nat) (cs : List Value) (d : DataW H) (p : List MemPlace), DataW.trod enc Try.prog W 0 (fun _ => true) true n 25 cs = some (d, p) → (∀ m ∈ d.weights Try.prog 25, m ≤ reachBytes) →
    ∃ (t : Tr) (va vk : Value), cs = [.int .i64 t.kd, .string (bs t.nm), .string (bs t.tx), va, vk] ∧ NdOn W (fun b => b < W.heap.size) t va vk ∧ tallT t ≤ Rows.uptoBulk d := by
  intro n
  induction n using Nat.strongRecOn with
  | _ n ih =>
  intro cs d p h hw
  obtain ⟨xs, k, hk, hx, hlen, hxl, hf⟩ := DataW.trod_struct Try.underlying25 h
  rw [cells_nd] at hlen
  match cs, hlen with
  | [c0, c1, c2, c3, c4], _ =>
    match xs, hxl with
    | [y0, y1, y2, y3, y4], _ =>
      have h0 := hf 0 _ rfl
      have h1 := hf 1 _ rfl
      have h2 := hf 2 _ rfl
      have h3 := hf 3 _ rfl
      have h4 := hf 4 _ rfl
      simp only [cells_str, cells_int, cells_ats, cells_nds, List.drop_zero, List.take_succ_cons, List.take_zero, List.getElem?_cons_zero, List.getElem?_cons_succ, List.drop_succ_cons, List.getElem_toArray, List.getElem_cons_zero, List.getElem_cons_succ] at h0 h1 h2 h3 h4
      obtain ⟨i, hi, _, _⟩ := DataW.trod_int Try.underlying3 h0
      obtain ⟨a, ha, ya, _⟩ := DataW.trod_string Try.underlying9 h1
      obtain ⟨b, hb, yb, _⟩ := DataW.trod_string Try.underlying9 h2
      simp only [List.cons.injEq, and_true] at hi ha hb
      simp only [Prod.mk.injEq] at hx
      obtain ⟨rfl, _⟩ := hx
      have hwe : ∀ (j : Nat) (t : TypeId) (e : DataW H), ([3, 9, 9, 22, 23] : List TypeId)[j]? = some t → ([y0, y1, y2, y3, y4].map (·.1))[j]? = some e → ∀ m ∈ e.weights Try.prog t, m ≤ reachBytes := fun j t e ht he m hm => by
        refine hw m ?_
        rw [DataW.weights]
        simp only [Try.underlying25]
        exact DataW.weights_mem_each ht he m hm
      obtain ⟨qs, hqs, _, hqN, _⟩ := open_attrsU (N := Rows.uptoBulk y3.1) (d := y3.1) (p := y3.2) h3 (hwe 3 _ _ rfl rfl) (Nat.le_refl _)
      have hwk := hwe 4 _ _ rfl rfl
      have hkids : ∃ ks : List Tr, (∃ o i j, c4 = .slice o i j ∧ i = ks.length ∧ (ks = [] ∨ ∃ g off, o = some ⟨g, off, none⟩ ∧ g < W.heap.size ∧ KsOn W (fun b => b < W.heap.size) g off ks)) ∧ tallK ks ≤ Rows.uptoBulk y4.1 := by
        rcases DataW.trod_slice Try.underlying23 h4 with ⟨hc, _⟩ | ⟨ad, len, cap, elems, rest, k', hk', hc, hx4, _, _, _, hel, hall, _, _⟩
        · simp only [List.cons.injEq, and_true] at hc
          exact ⟨[], ⟨none, 0, 0, hc, rfl, .inl rfl⟩, by rw [tallK]; exact Nat.zero_le _⟩
        · simp only [List.cons.injEq, and_true] at hc
          rw [cells_nd] at hall
          obtain ⟨f, hf4⟩ := choose_lt (α := Tr) (n := len) (p := fun i t => (∀ h : i < elems.length, tallT t ≤ Rows.uptoBulk elems[i].1) ∧ ∃ va vk, W.cells? 0 (ad.add (i * 5)) 5 = some [.int .i64 t.kd, .string (bs t.nm), .string (bs t.tx), va, vk] ∧ NdOn W (fun b => b < W.heap.size) t va vk) (fun i hi => by
            have hb := hall i hi
            rw [List.getElem?_eq_getElem (by omega), Option.bind_eq_some_iff] at hb
            obtain ⟨cs', e1, e2⟩ := hb
            obtain ⟨t, va, vk, rfl, hon, hmx⟩ := ih k' (by omega) cs' _ _ e2 (fun m hm => hwk m (by
              rw [hx4, DataW.weights]
              simp only [Try.underlying23]
              exact List.mem_cons_of_mem _ (List.mem_append_left _ (weights_all (List.mem_map_of_mem (List.getElem_mem (by omega))) m hm))))
            exact ⟨t, fun _ => by simpa using hmx, va, vk, e1, hon⟩)
          refine ⟨(List.range len).map f, ⟨some ad, len, cap, hc, by simp, ?_⟩, ?_⟩
          · by_cases h0 : len = 0
            · subst h0; exact .inl rfl
            · obtain ⟨g, off, spot⟩ := ad
              obtain ⟨_, va, vk, hc0, _⟩ := hf4 0 (by omega)
              have hc1 := (World.cells?_some hc0).2.2 0 (by omega)
              rw [add_add] at hc1
              have hspot : spot = none := by simpa [Addr.add] using World.cell?_spot hc1
              subst hspot
              refine .inr ⟨g, off, rfl, cell_lt (a := ⟨g, off, none⟩) (by simpa [Addr.add] using hc1), KsOn.of fun i hi => ?_⟩
              simp only [List.length_map, List.length_range] at hi
              simp only [List.getElem_map, List.getElem_range]
              obtain ⟨_, va, vk, hcs, hon⟩ := hf4 i hi
              have hcell := (World.cells?_some hcs).2.2
              have hat : ∀ j (hj : j < 5), W.cell? ⟨g, off + i * 5 + j, none⟩ = ([.int .i64 (f i).kd, .string (bs (f i).nm), .string (bs (f i).tx), va, vk] : List Value)[j]? := fun j hj => by
                have := hcell j hj
                rw [add_add] at this
                simpa [Addr.add_lit, Nat.add_assoc] using this
              exact ⟨va, vk, ⟨hat 0 (by omega), hat 1 (by omega), hat 2 (by omega), hat 3 (by omega), hat 4 (by omega)⟩, hon⟩
          · rw [hx4, Rows.uptoBulk]
            have := tallK_bulk elems ((List.range len).map f) (by simp; omega) (fun i h1 h2 => by
              simp only [List.length_map, List.length_range] at h1
              simp only [List.getElem_map, List.getElem_range]
              exact (hf4 i h1).1 h2)
            omega
      obtain ⟨ks, hks, hkm⟩ := hkids
      refine ⟨.mk i a.data.toList b.data.toList qs ks, c3, c4, by rw [hi, ha, hb]; rfl, NdOn.of hqs hks, ?_⟩
      rw [tallT]
      simp only [List.map_cons, List.map_nil, Rows.uptoBulk, Rows.uptoBulkAll]
      omega
end
section
variable {H : Type} {enc : TypeId × Value → H} {W : World}
set_option maxRecDepth 100000 in
theorem open_nodeTU {r : Reach} {b0 : Nat} {v : Value} {d : DataW H} {p : List MemPlace} (hv : Value.okWide Try.prog W r b0 25 v) (h : DataW.Trod enc Try.prog W 0 (fun _ => true) true 25 v d p)
    (hw : ∀ m ∈ d.weights Try.prog 25, m ≤ reachBytes) : ∃ (t : Tr) (va vk : Value), v = ndV t va vk ∧ NdOn W (fun b => b < W.heap.size) t va vk ∧ tallT t ≤ Rows.uptoBulk d := by
  obtain ⟨cs, rfl, _⟩ := okWide_struct Try.underlying25 hv
  obtain ⟨fuel, hf⟩ := h
  obtain ⟨t, va, vk, hcs, h1, h2⟩ := open_nodeU fuel _ _ _ hf hw
  refine ⟨t, va, vk, ?_, h1, h2⟩
  obtain ⟨l⟩ := cs
  have : l = [.int .i64 t.kd, .string (bs t.nm), .string (bs t.tx), va, vk] := hcs
  rw [this]
  rfl
set_option maxRecDepth 100000 in
theorem open_putsT {r : Reach} {b0 : Nat} {v : Value} {d : DataW H} {p : List MemPlace} (hv : Value.okWide Try.prog W r b0 73 v) (h : DataW.Trod enc Try.prog W 0 (fun _ => true) true 73 v d p)
    (hw : ∀ m ∈ d.weights Try.prog 73, m ≤ reachBytes) : ∃ xs : List ChV, ChsOn W (fun g => g < W.heap.size) v xs ∧ xs.length ≤ 2 ^ 44 ∧ ∀ x, x ∈ xs → RcSm x.2.1 ∧ (Lit.int .i64 x.1).wf = true ∧ wfR x.2.1 := by
  obtain ⟨a, l, c, rfl⟩ := okWide_slice Try.underlying73 hv
  obtain ⟨fuel, hf⟩ := h
  exact open_puts hf hw
end
end Go.Proofs.Ytkackejipgabfaa.Char

/- What comes in, opened: steps, with how many nodes and attributes they have together; numbers. -/
namespace Go.Proofs.Ytkackejipgabfaa.Char
open Go.RowKit Go.Lib Go.ChangeShapes Go.WideShapes Go.Deep

def sumT {α : Type} (tl : α → Nat) : List α → Nat
  | [] => 0
  | x :: r => tl x + sumT tl r
theorem sum_bulk {α H : Type} {tl : α → Nat} {f : Nat → α} {D : Nat → DataW H} : ∀ l : List Nat, (∀ i, i ∈ l → tl (f i) ≤ Rows.uptoBulk (D i)) → sumT tl (l.map f) ≤ Rows.uptoBulkAll (l.map D)
  | [], _ => by simp [sumT]
  | i :: l, h => by
    have h1 := h i List.mem_cons_self
    have h2 := sum_bulk l fun j hj => h j (List.mem_cons_of_mem _ hj)
    rw [List.map_cons, List.map_cons, sumT, Rows.uptoBulkAll]
    omega
theorem sum_take {α : Type} {tl : α → Nat} : ∀ (k : Nat) (l : List α), sumT tl (l.take k) ≤ sumT tl l
  | 0, _ => by rw [List.take_zero, sumT]; exact Nat.zero_le _
  | _ + 1, [] => Nat.le_refl _
  | k + 1, x :: r => by
    have := sum_take (tl := tl) k r
    rw [List.take_succ_cons, sumT, sumT]
    omega
theorem sum_mem {α : Type} {tl : α → Nat} : ∀ {l : List α} {x : α}, x ∈ l → tl x ≤ sumT tl l
  | y :: r, x, h => by
    rw [sumT]
    rcases List.mem_cons.1 h with rfl | h
    · omega
    · have := sum_mem (tl := tl) h
      omega
section
variable {H : Type} {enc : TypeId × Value → H} {W : World}
/-- a slice, opened element by element, with a measure of its elements -/
theorem open_rowU {α : Type} [Inhabited α] {E ST : TypeId} {size by_ : Nat} (hst : Try.prog.underlying ST = some (.slice E)) (hc : Try.prog.cellsOf E = size) (hby : Try.prog.bytesOf E = by_) (h0 : 0 < size) (p : α → List Value → Prop) (tl : α → Nat)
    {n : Nat} {cv : Value} {d : DataW H} {pl : List MemPlace} (h : DataW.trod enc Try.prog W 0 (fun _ => true) true n ST [cv] = some (d, pl)) (hw : ∀ m ∈ d.weights Try.prog ST, m ≤ reachBytes)
    (hel : ∀ k cs d' pl', DataW.trod enc Try.prog W 0 (fun _ => true) true k E cs = some (d', pl') → (∀ m ∈ d'.weights Try.prog E, m ≤ reachBytes) → ∃ x, p x cs ∧ tl x ≤ Rows.uptoBulk d') :
    ∃ xs : List α, (∃ o i j, cv = .slice o i j ∧ i = xs.length ∧ (xs = [] ∨ ∃ g off, o = some ⟨g, off, none⟩ ∧ g < W.heap.size ∧ ∀ k (hk : k < xs.length), ∃ cs, p xs[k] cs ∧ cs.length = size ∧ ∀ i, i < size → W.cell? ⟨g, off + k * size + i, none⟩ = cs[i]?)) ∧ (∀ x, x ∈ xs → ∃ cs, p x cs) ∧ xs.length * by_ ≤ 2 ^ 47 ∧ sumT tl xs ≤ Rows.uptoBulk d := by
  rcases open_slice hst h with ⟨hcv, _⟩ | ⟨a, len, cap, m, k, D, Pl, hcv, _, hl, hm, hmm, hx, hall⟩
  · simp only [List.cons.injEq, and_true] at hcv
    subst hcv
    exact ⟨[], ⟨none, 0, 0, rfl, rfl, .inl rfl⟩, fun _ h => (by cases h), by simp, by simp [sumT]⟩
  · simp only [List.cons.injEq, and_true] at hcv
    subst hcv
    simp only [if_true] at hmm
    subst hmm
    rw [hc] at hall
    simp only [Prod.mk.injEq] at hx
    obtain ⟨rfl, _⟩ := hx
    have hlen : len * by_ ≤ 2 ^ 47 := by
      have := hw (((List.range len).map D).length * by_ + ((List.range (m - len)).map fun j => D (len + j)).length * by_) (by
        rw [DataW.weights]
        simp only [hst, hby, Nat.add_mul]
        exact List.mem_cons_self)
      simp only [List.length_map, List.length_range] at this
      unfold reachBytes at this
      omega
    obtain ⟨f, hf⟩ := choose_lt (α := α) (n := len) (p := fun i x => tl x ≤ Rows.uptoBulk (D i) ∧ ∃ cs, p x cs ∧ cs.length = size ∧ ∀ j, j < size → W.cell? (a.add (i * size + j)) = cs[j]?) (fun i hi => by
      obtain ⟨cs', h1, h2⟩ := hall i (by omega)
      obtain ⟨x, hx, ht⟩ := hel k cs' _ _ h2 (fun m' hm' => hw m' (by
        rw [DataW.weights]
        simp only [hst]
        exact List.mem_cons_of_mem _ (List.mem_append_left _ (weights_all (List.mem_map_of_mem (f := D) (List.mem_range.2 hi)) m' hm'))))
      obtain ⟨_, hlc, hcell⟩ := World.cells?_some h1
      refine ⟨x, ht, cs', hx, hlc, fun j hj => ?_⟩
      have := hcell j hj
      rwa [add_add] at this)
    refine ⟨(List.range len).map f, ⟨some a, len, m, rfl, by simp, ?_⟩, fun x hx => by
      obtain ⟨i, hi, rfl⟩ := List.mem_map.1 hx
      obtain ⟨_, cs, hcs, _⟩ := hf i (List.mem_range.1 hi)
      exact ⟨cs, hcs⟩, by simpa using hlen, ?_⟩
    · by_cases h00 : len = 0
      · subst h00; exact .inl rfl
      · obtain ⟨g, off, spot⟩ := a
        obtain ⟨_, cs0, _, hl0, hc0⟩ := hf 0 (by omega)
        have hc1 := hc0 0 h0
        rw [List.getElem?_eq_getElem (by omega)] at hc1
        have hspot : spot = none := by simpa [Addr.add] using World.cell?_spot hc1
        subst hspot
        refine .inr ⟨g, off, rfl, cell_lt (a := ⟨g, off, none⟩) (by simpa [Addr.add] using hc1), fun i hi => ?_⟩
        simp only [List.length_map, List.length_range] at hi
        obtain ⟨_, cs, q1, q2, q3⟩ := hf i hi
        refine ⟨cs, by simpa using q1, q2, fun j hj => ?_⟩
        have := q3 j hj
        simpa [Addr.add_lit, Nat.add_assoc] using this
    · rw [Rows.uptoBulk]
      have := sum_bulk (tl := tl) (f := f) (D := D) (List.range len) fun i hi => (hf i (List.mem_range.1 hi)).1
      omega
theorem cells_step : Try.prog.cellsOf 36 = 14 := by kernel_rfl
theorem bytes_step : Try.prog.bytesOf 36 = 208 := by kernel_rfl
set_option maxRecDepth 100000 in
/-- a step that comes in -/
theorem open_step {n : Nat} {cs : List Value} {d : DataW H} {pl : List MemPlace} (h : DataW.trod enc Try.prog W 0 (fun _ => true) true n 36 cs = some (d, pl)) (hw : ∀ m ∈ d.weights Try.prog 36, m ≤ reachBytes) :
    ∃ q : StX, (cs = stC q ∧ StOn W (fun b => b < W.heap.size) q ∧ StSm q) ∧ tallT q.t ≤ Rows.uptoBulk d := by
  obtain ⟨xs, k, hk, hx, hlen, hxl, hf⟩ := DataW.trod_struct Try.underlying36 h
  rw [cells_step] at hlen
  match cs, hlen with
  | [c0, c1, c2, c3, c4, c5, c6, c7, c8, c9, c10, c11, c12, c13], _ =>
    match xs, hxl with
    | [y0, y1, y2, y3], _ =>
      have h0 := hf 0 _ rfl
      have h1 := hf 1 _ rfl
      have h2 := hf 2 _ rfl
      have h3 := hf 3 _ rfl
      simp only [cells_int, cells_rec, cells_nd, List.drop_zero, List.take_succ_cons, List.take_zero, List.getElem?_cons_zero, List.getElem?_cons_succ, List.drop_succ_cons, List.getElem_toArray, List.getElem_cons_zero, List.getElem_cons_succ] at h0 h1 h2 h3
      obtain ⟨i, hi, _, _⟩ := DataW.trod_int Try.underlying3 h0
      obtain ⟨j, hj, _, hjw⟩ := DataW.trod_int Try.underlying3 h1
      simp only [List.cons.injEq, and_true] at hi hj
      simp only [Prod.mk.injEq] at hx
      obtain ⟨rfl, _⟩ := hx
      have hwe : ∀ (j : Nat) (t : TypeId) (e : DataW H), ([3, 3, 34, 25] : List TypeId)[j]? = some t → ([y0, y1, y2, y3].map (·.1))[j]? = some e → ∀ m ∈ e.weights Try.prog t, m ≤ reachBytes := fun j t e ht he m hm => by
        refine hw m ?_
        rw [DataW.weights]
        simp only [Try.underlying36]
        exact DataW.weights_mem_each ht he m hm
      obtain ⟨r, hr, hon, hsm, hwf⟩ := open_rec (d := y2.1) (pl := y2.2) h2 (hwe 2 _ _ rfl rfl)
      obtain ⟨t, va, vk, ht, hn, hb⟩ := open_nodeU _ _ y3.1 y3.2 h3 (hwe 3 _ _ rfl rfl)
      refine ⟨⟨i, j, r, t, va, vk⟩, ⟨?_, ⟨hon, hn⟩, hsm, hjw, hwf⟩, ?_⟩
      · rw [hi, hj]
        show Value.int .i64 i :: Value.int .i64 j :: ([c2, c3, c4, c5, c6, c7, c8] ++ [c9, c10, c11, c12, c13]) = _
        rw [hr, ht]
        rfl
      · simp only [List.map_cons, List.map_nil, Rows.uptoBulk, Rows.uptoBulkAll]
        omega
/-- a step in memory -/
def StAt (w : World) (g off : Nat) (q : StX) : Prop := w.cell? ⟨g, off, none⟩ = some (.int .i64 q.kd) ∧ w.cell? ⟨g, off + 1, none⟩ = some (.int .i64 q.id) ∧
  (w.cell? ⟨g, off + 2, none⟩ = some (.int .i64 q.x.1.kd) ∧ w.cell? ⟨g, off + 3, none⟩ = some (.string (bs q.x.1.nm)) ∧ w.cell? ⟨g, off + 4, none⟩ = some (.string (bs q.x.1.tx)) ∧ w.cell? ⟨g, off + 5, none⟩ = some (.int .i64 q.x.1.pa) ∧ w.cell? ⟨g, off + 6, none⟩ = some q.x.2.1 ∧ w.cell? ⟨g, off + 7, none⟩ = some q.x.2.2 ∧ w.cell? ⟨g, off + 8, none⟩ = some (.bool q.x.1.gone)) ∧
  w.cell? ⟨g, off + 9, none⟩ = some (.int .i64 q.t.kd) ∧ w.cell? ⟨g, off + 10, none⟩ = some (.string (bs q.t.nm)) ∧ w.cell? ⟨g, off + 11, none⟩ = some (.string (bs q.t.tx)) ∧ w.cell? ⟨g, off + 12, none⟩ = some q.va ∧ w.cell? ⟨g, off + 13, none⟩ = some q.vk
theorem StAt.move {w w' : World} {g off : Nat} (h : w'.heap[g]? = w.heap[g]?) {q : StX} (hn : StAt w g off q) : StAt w' g off q := by
  obtain ⟨h0, h1, ⟨h2, h3, h4, h5, h6, h7, h8⟩, h9, h10, h11, h12, h13⟩ := hn
  have mv : ∀ k v, w.cell? ⟨g, k, none⟩ = some v → w'.cell? ⟨g, k, none⟩ = some v := fun k v hv => (World.cell?_of_block (w := w) h).trans hv
  exact ⟨mv _ _ h0, mv _ _ h1, ⟨mv _ _ h2, mv _ _ h3, mv _ _ h4, mv _ _ h5, mv _ _ h6, mv _ _ h7, mv _ _ h8⟩, mv _ _ h9, mv _ _ h10, mv _ _ h11, mv _ _ h12, mv _ _ h13⟩
/-- steps in a slice, in blocks of which F holds -/
def StsOn (w : World) (F : Nat → Prop) (v : Value) (xs : List StX) : Prop := (∃ o i j, v = .slice o i j ∧ i = xs.length ∧ (xs = [] ∨ ∃ g off, o = some ⟨g, off, none⟩ ∧ F g ∧ ∀ k (h : k < xs.length), StAt w g (off + k * 14) xs[k])) ∧ ∀ x, x ∈ xs → StOn w F x
theorem StsOn.move {w w' : World} {F F' : Nat → Prop} (h : ∀ b, b < w.heap.size → F b → F' b ∧ w'.heap[b]? = w.heap[b]?) {v : Value} {xs : List StX} (ha : StsOn w F v xs) : StsOn w' F' v xs := by
  obtain ⟨⟨o, i, j, e1, e2, e3⟩, e9⟩ := ha
  refine ⟨⟨o, i, j, e1, e2, ?_⟩, fun x hx => (e9 x hx).move h⟩
  rcases e3 with e3 | ⟨g, off, e4, e5, e6⟩
  · exact .inl e3
  · by_cases hq : xs = []
    · exact .inl hq
    · obtain ⟨k1, k2⟩ := h g (cell_lt (e6 0 (List.length_pos_iff.2 hq)).1) e5
      exact .inr ⟨g, off, e4, k1, fun k hk => (e6 k hk).move k2⟩
theorem StsOn.reads {w : World} {F : Nat → Prop} {o : Option Addr} {i j : Nat} {xs : List StX} (h : StsOn w F (.slice o i j) xs) (k : Nat) (hk : k < xs.length) :
    ∃ g off, o = some ⟨g, off, none⟩ ∧ F g ∧ StAt w g (off + k * 14) xs[k] ∧ StOn w F xs[k] := by
  obtain ⟨⟨o', i', j', e1, e2, e3⟩, e9⟩ := h
  cases e1
  rcases e3 with e3 | ⟨g, off, e4, e5, e6⟩
  · rw [e3] at hk; cases hk
  · exact ⟨g, off, e4, e5, e6 k hk, e9 _ (List.getElem_mem hk)⟩
theorem StsOn.form {w : World} {F : Nat → Prop} {v : Value} {xs : List StX} (h : StsOn w F v xs) : ∃ o j, v = .slice o xs.length j := by
  obtain ⟨⟨o, i, j, e1, e2, _⟩, _⟩ := h
  exact ⟨o, j, by rw [e1, e2]⟩
set_option maxRecDepth 100000 in
/-- steps that come in -/
theorem open_steps {n : Nat} {cv : Value} {d : DataW H} {pl : List MemPlace} (h : DataW.trod enc Try.prog W 0 (fun _ => true) true n 26 [cv] = some (d, pl)) (hw : ∀ m ∈ d.weights Try.prog 26, m ≤ reachBytes) :
    ∃ xs : List StX, StsOn W (fun b => b < W.heap.size) cv xs ∧ xs.length ≤ 2 ^ 44 ∧ (∀ x, x ∈ xs → StSm x) ∧ sumT (fun q => tallT q.t) xs ≤ Rows.uptoBulk d := by
  obtain ⟨xs, ⟨o, i, j, e1, e2, e3⟩, e5, e4, e6⟩ := open_rowU (α := StX) Try.underlying26 cells_step bytes_step (by decide) (fun q cs => cs = stC q ∧ StOn W (fun b => b < W.heap.size) q ∧ StSm q) (fun q => tallT q.t) h hw (fun k cs d' pl' hk hw' => open_step hk hw')
  refine ⟨xs, ⟨⟨o, i, j, e1, e2, ?_⟩, fun x hx => ?_⟩, by omega, fun x hx => ?_, e6⟩
  · rcases e3 with e3 | ⟨g, off, f1, f2, f3⟩
    · exact .inl e3
    · refine .inr ⟨g, off, f1, f2, fun k hk => ?_⟩
      obtain ⟨cs, ⟨rfl, _⟩, _, q⟩ := f3 k hk
      exact ⟨q 0 (by omega), q 1 (by omega), ⟨q 2 (by omega), q 3 (by omega), q 4 (by omega), q 5 (by omega), q 6 (by omega), q 7 (by omega), q 8 (by omega)⟩, q 9 (by omega), q 10 (by omega), q 11 (by omega), q 12 (by omega), q 13 (by omega)⟩
  · obtain ⟨cs, ⟨_, h2, _⟩⟩ := e5 x hx
    exact h2
  · obtain ⟨cs, ⟨_, _, h3⟩⟩ := e5 x hx
    exact h3
set_option maxRecDepth 100000 in
theorem open_stepsT {r : Reach} {b0 : Nat} {v : Value} {d : DataW H} {p : List MemPlace} (hv : Value.okWide Try.prog W r b0 26 v) (h : DataW.Trod enc Try.prog W 0 (fun _ => true) true 26 v d p)
    (hw : ∀ m ∈ d.weights Try.prog 26, m ≤ reachBytes) : ∃ xs : List StX, StsOn W (fun g => g < W.heap.size) v xs ∧ xs.length ≤ 2 ^ 44 ∧ (∀ x, x ∈ xs → StSm x) ∧ sumT (fun q => tallT q.t) xs ≤ Rows.uptoBulk d := by
  obtain ⟨a, l, c, rfl⟩ := okWide_slice Try.underlying26 hv
  obtain ⟨fuel, hf⟩ := h
  exact open_steps hf hw
set_option maxRecDepth 100000 in
theorem open_intsT {r : Reach} {b0 : Nat} {v : Value} {d : DataW H} {p : List MemPlace} (hv : Value.okWide Try.prog W r b0 27 v) (h : DataW.Trod enc Try.prog W 0 (fun _ => true) true 27 v d p)
    (hw : ∀ m ∈ d.weights Try.prog 27, m ≤ reachBytes) : ∃ (zs : List Int) (o : Option Addr) (j : Nat), v = .slice o zs.length j ∧ IntsOn W (fun g => g < W.heap.size) (.slice o zs.length j) zs ∧ zs.length ≤ j ∧ zs.length ≤ 2 ^ 44 ∧ ∀ z, z ∈ zs → (Lit.int .i64 z).wf = true := by
  obtain ⟨a, l, c, rfl⟩ := okWide_slice Try.underlying27 hv
  obtain ⟨fuel, hf⟩ := h
  obtain ⟨zs, h1, h2, h3⟩ := open_intsR hf hw
  obtain ⟨o, j, e⟩ := h1.form
  cases e
  refine ⟨zs, a, c, rfl, h1, ?_, h2, h3⟩
  rcases open_slice Try.underlying27 (show DataW.trod enc Try.prog W 0 (fun _ => true) true fuel 27 [.slice a zs.length c] = some (d, p) from hf) with ⟨q, _⟩ | ⟨_, _, _, _, _, _, _, q, _, q2, _⟩
  · simp only [List.cons.injEq, Value.slice.injEq, and_true] at q
    omega
  · simp only [List.cons.injEq, Value.slice.injEq, and_true] at q
    omega
set_option maxRecDepth 100000 in
theorem open_stepT {r : Reach} {b0 : Nat} {v : Value} {d : DataW H} {p : List MemPlace} (hv : Value.okWide Try.prog W r b0 36 v) (h : DataW.Trod enc Try.prog W 0 (fun _ => true) true 36 v d p)
    (hw : ∀ m ∈ d.weights Try.prog 36, m ≤ reachBytes) : ∃ q : StX, v = stV q ∧ StOn W (fun g => g < W.heap.size) q ∧ StSm q := by
  obtain ⟨cs, rfl, _⟩ := okWide_struct Try.underlying36 hv
  obtain ⟨fuel, hf⟩ := h
  obtain ⟨l⟩ := cs
  obtain ⟨q, ⟨h1, h2, h3⟩, _⟩ := open_step (show DataW.trod enc Try.prog W 0 (fun _ => true) true fuel 36 l = some (d, p) from hf) hw
  exact ⟨q, by rw [h1]; rfl, h2, h3⟩
end
end Go.Proofs.Ytkackejipgabfaa.Char

/- Both views behind a pair: what is asked of them; what steps leave. -/
namespace Go.Proofs.Ytkackejipgabfaa.Char
open Go.RowKit Go.Lib

theorem DV.sort {w : World} {b t : Nat} {L : List On} {own : Own} (h : DV w b L t own) {K : Nat → Prop} (l : Value) (zs : List Int) (hz : IntsOn w K l zs) (hzl : zs.length ≤ 1000000000) :
    Calls Try.prog 18 #[.pointer (some ⟨b, 0, none⟩), l] w fun e w' => ∃ u, e = .returned u ∧ OwnsInt w.heap.size w' u ((asG (goV L t own 1)).filter fun z => zs.any fun y => y == z) ∧ Below w.heap.size w w' := by
  obtain ⟨F, B, d, gv, la, v, v2, xs, cs, h1, h2, rfl, rfl, h5, h6, h7⟩ := h
  rw [List.length_map] at h6 h7
  exact sortW_any h1 h2 h5 (by omega) (by omega) l zs hz hzl
/-- both views: all is told of them -/
structure Both (W : World) (p b b2 : Nat) (L : List On) (t : Nat) (own : Own) : Prop where
  vh : ∃ Z, VH Z W (some ⟨b, 0, none⟩) (lookV L t own)
  dv : DV W b2 L t own
  c0 : W.cell? ⟨p, 0, none⟩ = some (.pointer (some ⟨b, 0, none⟩))
  c1 : W.cell? ⟨p, 1, none⟩ = some (.pointer (some ⟨b2, 0, none⟩))
  len : L.length ≤ 5000000 ∧ own.length ≤ 5000000
section
variable {W : World} {p b b2 t : Nat} {L : List On} {own : Own}
theorem Both.below (h : Both W p b b2 L t own) {W' : World} (hb : Below W.heap.size W W') : Both W' p b b2 L t own := by
  obtain ⟨⟨Z, h1⟩, h2, h3, h4, h5⟩ := h
  exact ⟨⟨Z, h1.below hb⟩, h2.below hb, keep_cell h3 hb, keep_cell h4 hb, h5⟩
theorem Both.allV (h : Both W p b b2 L t own) : Calls Try.prog 15 #[.pointer (some ⟨b, 0, none⟩)] W fun e w' => ∃ u, e = .returned u ∧ OwnsInt W.heap.size w' u (asG (goV L t own 1)) ∧ Below W.heap.size W w' := by
  obtain ⟨⟨Z, h1⟩, h2, h3, h4, h5⟩ := h
  exact all_gen h1 _ _ (goV_eq L t own 1) (by have := goV_len L t own 1; omega)
theorem Both.sortV (h : Both W p b b2 L t own) {K : Nat → Prop} (oz : Option Addr) (jz : Nat) (zs : List Int) (hz : IntsOn W K (.slice oz zs.length jz) zs) (hK : ∀ g, K g → g < W.heap.size) (hzl : zs.length ≤ 10000000) (hzw : ∀ z, z ∈ zs → (Lit.int .i64 z).wf = true) :
    Calls Try.prog 17 #[.pointer (some ⟨b, 0, none⟩), .slice oz zs.length jz] W fun e w' => ∃ u, e = .returned u ∧ OwnsInt W.heap.size w' u ((asG (goV L t own 1)).filter fun z => zs.any fun y => y == z) ∧ Below W.heap.size W w' := by
  obtain ⟨⟨Z, hv⟩, h2, h3, h4, h5⟩ := h
  exact sort_gen hv _ _ (goV_eq L t own 1) (by have := goV_len L t own 1; omega) (goV_once L t own 1).1 (goF_wf hv.wf _ 1 false [] _ (by decide) (fun x hx => (by cases hx)) (goV_eq L t own 1)) oz jz zs hz hK hzl hzw
theorem Both.allWf (h : Both W p b b2 L t own) : ∀ z, z ∈ asG (goV L t own 1) → (Lit.int .i64 z).wf = true := fun z hz => by
  obtain ⟨⟨Z, hv⟩, _⟩ := h
  obtain ⟨x, hx, rfl⟩ := List.mem_map.1 hz
  exact goF_wf hv.wf _ 1 false [] _ (by decide) (fun x hx => (by cases hx)) (goV_eq L t own 1) x hx
theorem Both.allLen (h : Both W p b b2 L t own) : (asG (goV L t own 1)).length ≤ 10000000 := by
  have := goV_len L t own 1
  have h5 := h.len
  unfold asG
  rw [List.length_map]
  omega
end
theorem PairN.both {B : Nat} {w0 W : World} {p b sb b2 d t : Nat} {S : Sto} {own : Own} (h : PairN B w0 W p b sb b2 d t S own) (hl : S.L.length ≤ 5000000) (hL : wfL S.L) (ho : wfO own) (hol : own.length ≤ 5000000) : Both W p b b2 S.L t own := by
  obtain ⟨Z, Z1, Y, Y1, h1, _, _⟩ := h
  exact ⟨⟨_, h1.vh hl hL ho⟩, h1.dv hl hL ho hol, h1.cells.1, h1.cells.2, hl, hol⟩
theorem PairN.bel {B : Nat} {w0 W : World} {p b sb b2 d t : Nat} {S : Sto} {own : Own} (h : PairN B w0 W p b sb b2 d t S own) : Below B w0 W := by
  obtain ⟨Z, Z1, Y, Y1, h1, _, _⟩ := h
  exact h1.bel
theorem PairN.below {B : Nat} {w0 W : World} {p b sb b2 d t : Nat} {S : Sto} {own : Own} (h : PairN B w0 W p b sb b2 d t S own) {W' : World} (hb : Below W.heap.size W W') : PairN B w0 W' p b sb b2 d t S own := by
  obtain ⟨Z, Z1, Y, Y1, h1, h2, h3⟩ := h
  exact ⟨Z, Z1, Y, Y1, h1.below hb, h2, h3⟩
theorem PairN.low {B : Nat} {w0 W : World} {p b sb b2 d t : Nat} {S : Sto} {own : Own} (h : PairN B w0 W p b sb b2 d t S own) : B ≤ W.heap.size := by
  obtain ⟨Z, Z1, Y, Y1, h1, h2, h3⟩ := h
  exact h1.two.vs.lowB
/-- what some steps leave -/
def playG (s : Nat × Own) (qs : List StX) : Nat × Own := qs.foldl (fun s q => stepG s.1 s.2 q) s
theorem playG_snoc (s : Nat × Own) (qs : List StX) (q : StX) : playG s (qs ++ [q]) = stepG (playG s qs).1 (playG s qs).2 q := by
  unfold playG
  rw [List.foldl_append]
  rfl
theorem stepG_ok {g : Nat} {own : Own} {q : StX} (hq : StSm q) (ho : wfO own) (hg : g + totP q.t ≤ 100000000) : (stepG g own q).1 ≤ g + totP q.t ∧ (stepG g own q).2.length ≤ own.length + totP q.t + 1 ∧ wfO (stepG g own q).2 := by
  unfold stepG
  split
  · have := putO_len1 own q.id q.x.1
    exact ⟨by dsimp only; omega, by dsimp only; omega, wfO_put ho _ hq.wf⟩
  · split
    · obtain ⟨h1, h2, _⟩ := plantT_spec q.t q.id g own
      exact ⟨by dsimp only; omega, by dsimp only; omega, wfO_plantT q.t q.id g own ho hg⟩
    · exact ⟨by dsimp only; omega, by dsimp only; omega, ho⟩
theorem totP_sum : ∀ (qs : List StX), sumT (fun q => totP q.t) qs ≤ sumT (fun q => tallT q.t) qs
  | [] => Nat.le_refl _
  | q :: r => by
    have h1 := totP_tall q.t
    have h2 := totP_sum r
    rw [sumT, sumT]
    omega
theorem play_ok : ∀ (qs : List StX) (g : Nat) (own : Own), wfO own → (∀ q, q ∈ qs → StSm q) → g + sumT (fun q => totP q.t) qs ≤ 100000000 →
    (playG (g, own) qs).1 ≤ g + sumT (fun q => totP q.t) qs ∧ (playG (g, own) qs).2.length ≤ own.length + sumT (fun q => totP q.t) qs + qs.length ∧ wfO (playG (g, own) qs).2
  | [], g, own, ho, _, _ => ⟨by simp [playG, sumT], by simp [playG, sumT], ho⟩
  | q :: qs, g, own, ho, hq, hg => by
    rw [sumT] at hg ⊢
    obtain ⟨k1, k2, k3⟩ := stepG_ok (hq q List.mem_cons_self) ho (by omega : g + totP q.t ≤ 100000000)
    obtain ⟨h1, h2, h3⟩ := play_ok qs (stepG g own q).1 (stepG g own q).2 k3 (fun x hx => hq x (List.mem_cons_of_mem _ hx)) (by omega)
    have e : playG (g, own) (q :: qs) = playG ((stepG g own q).1, (stepG g own q).2) qs := rfl
    rw [e, List.length_cons]
    exact ⟨by omega, by omega, h3⟩
end Go.Proofs.Ytkackejipgabfaa.Char
