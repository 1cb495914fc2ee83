/- What comes in, opened: rows of numbers, records, changes, steps. -/
import Derived.Test.YtpimdmjhnogelaaChOn
import Derived.Deep.Slices
import Derived.ChangeArms
import Derived.SizedLaws
import Derived.Carry
namespace Go.Proofs.Ytpimdmjhnogelaa.Char
open Go.RowKit Go.Lib Go.ChangeShapes Go.WideShapes Go.Deep

theorem weights_all {H : Type} {P : Program} {e : TypeId} : ∀ {l : List (DataW H)} {d : DataW H}, d ∈ l → ∀ n ∈ d.weights P e, n ∈ DataW.weightsAll P e l
  | [], _, hd, _, _ => by cases hd
  | x :: r, d, hd, n, hn => by
    rw [DataW.weightsAll, List.mem_append]
    rcases List.mem_cons.1 hd with rfl | hd
    · exact .inl hn
    · exact .inr (weights_all hd n hn)
section
variable {H : Type} {enc : TypeId × Value → H} {W : World}
/-- a slice, opened element by element -/
theorem open_row {α : Type} [Inhabited α] {E ST : TypeId} {size by_ : Nat} (hst : Try.prog.underlying ST = some (.slice E)) (hc : Try.prog.cellsOf E = size) (hby : Try.prog.bytesOf E = by_) (h0 : 0 < size) (p : α → List Value → Prop)
    {n : Nat} {cv : Value} {d : DataW H} {pl : List MemPlace} (h : DataW.trod enc Try.prog W 0 (fun _ => true) true n ST [cv] = some (d, pl)) (hw : ∀ m ∈ d.weights Try.prog ST, m ≤ reachBytes)
    (hel : ∀ k cs d' pl', DataW.trod enc Try.prog W 0 (fun _ => true) true k E cs = some (d', pl') → (∀ m ∈ d'.weights Try.prog E, m ≤ reachBytes) → ∃ x, p x cs) :
    ∃ xs : List α, (∃ o i j, cv = .slice o i j ∧ i = xs.length ∧ (xs = [] ∨ ∃ g off, o = some ⟨g, off, none⟩ ∧ g < W.heap.size ∧ ∀ k (hk : k < xs.length), ∃ cs, p xs[k] cs ∧ cs.length = size ∧ ∀ i, i < size → W.cell? ⟨g, off + k * size + i, none⟩ = cs[i]?)) ∧ (∀ x, x ∈ xs → ∃ cs, p x cs) ∧ xs.length * by_ ≤ 2 ^ 47 := by
  rcases open_slice hst h with ⟨hcv, _⟩ | ⟨a, len, cap, m, k, D, Pl, hcv, _, hl, hm, hmm, hx, hall⟩
  · simp only [List.cons.injEq, and_true] at hcv
    subst hcv
    exact ⟨[], ⟨none, 0, 0, rfl, rfl, .inl rfl⟩, fun _ h => (by cases h), by simp⟩
  · simp only [List.cons.injEq, and_true] at hcv
    subst hcv
    simp only [if_true] at hmm
    subst hmm
    rw [hc] at hall
    simp only [Prod.mk.injEq] at hx
    obtain ⟨rfl, _⟩ := hx
    have hlen : len * by_ ≤ 2 ^ 47 := by
      have := hw (((List.range len).map D).length * by_ + ((List.range (m - len)).map fun j => D (len + j)).length * by_) (by
        rw [DataW.weights]
        simp only [hst, hby, Nat.add_mul]
        exact List.mem_cons_self)
      simp only [List.length_map, List.length_range] at this
      unfold reachBytes at this
      omega
    obtain ⟨f, hf⟩ := choose_lt (α := α) (n := len) (p := fun i x => ∃ cs, p x cs ∧ cs.length = size ∧ ∀ j, j < size → W.cell? (a.add (i * size + j)) = cs[j]?) (fun i hi => by
      obtain ⟨cs', h1, h2⟩ := hall i (by omega)
      obtain ⟨x, hx⟩ := hel k cs' _ _ h2 (fun m' hm' => hw m' (by
        rw [DataW.weights]
        simp only [hst]
        exact List.mem_cons_of_mem _ (List.mem_append_left _ (weights_all (List.mem_map_of_mem (f := D) (List.mem_range.2 hi)) m' hm'))))
      obtain ⟨_, hlc, hcell⟩ := World.cells?_some h1
      refine ⟨x, cs', hx, hlc, fun j hj => ?_⟩
      have := hcell j hj
      rwa [add_add] at this)
    refine ⟨(List.range len).map f, ⟨some a, len, m, rfl, by simp, ?_⟩, fun x hx => by
      obtain ⟨i, hi, rfl⟩ := List.mem_map.1 hx
      obtain ⟨cs, hcs, _⟩ := hf i (List.mem_range.1 hi)
      exact ⟨cs, hcs⟩, by simpa using hlen⟩
    by_cases h00 : len = 0
    · subst h00; exact .inl rfl
    · obtain ⟨g, off, spot⟩ := a
      obtain ⟨cs0, _, hl0, hc0⟩ := hf 0 (by omega)
      have hc1 := hc0 0 h0
      rw [List.getElem?_eq_getElem (by omega)] at hc1
      have hspot : spot = none := by simpa [Addr.add] using World.cell?_spot hc1
      subst hspot
      refine .inr ⟨g, off, rfl, cell_lt (a := ⟨g, off, none⟩) (by simpa [Addr.add] using hc1), fun i hi => ?_⟩
      simp only [List.length_map, List.length_range] at hi
      obtain ⟨cs, q1, q2, q3⟩ := hf i hi
      refine ⟨cs, by simpa using q1, q2, fun j hj => ?_⟩
      have := q3 j hj
      simpa [Addr.add_lit, Nat.add_assoc] using this
theorem cells_int : Try.prog.cellsOf 3 = 1 := by kernel_rfl
theorem cells_str : Try.prog.cellsOf 9 = 1 := by kernel_rfl
theorem cells_bool : Try.prog.cellsOf 4 = 1 := by kernel_rfl
theorem cells_u64 : Try.prog.cellsOf 23 = 1 := by kernel_rfl
theorem cells_ints : Try.prog.cellsOf 32 = 1 := by kernel_rfl
theorem cells_rec : Try.prog.cellsOf 37 = 7 := by kernel_rfl
theorem cells_ch : Try.prog.cellsOf 73 = 8 := by kernel_rfl
theorem cells_chs : Try.prog.cellsOf 29 = 1 := by kernel_rfl
theorem cells_step : Try.prog.cellsOf 31 = 4 := by kernel_rfl
theorem bytes_int : Try.prog.bytesOf 3 = 8 := by kernel_rfl
theorem bytes_ch : Try.prog.bytesOf 73 = 112 := by kernel_rfl
theorem bytes_step : Try.prog.bytesOf 31 = 48 := by kernel_rfl
/-- numbers that come in -/
theorem open_intsR {n : Nat} {cv : Value} {d : DataW H} {pl : List MemPlace} (h : DataW.trod enc Try.prog W 0 (fun _ => true) true n 32 [cv] = some (d, pl)) (hw : ∀ m ∈ d.weights Try.prog 32, m ≤ reachBytes) :
    ∃ zs : List Int, IntsOn W (fun b => b < W.heap.size) cv zs ∧ zs.length ≤ 2 ^ 44 := by
  obtain ⟨xs, ⟨o, i, j, e1, e2, e3⟩, _, e4⟩ := open_row (α := Int) Try.underlying32 cells_int bytes_int (by decide) (fun z cs => cs = [.int .i64 z]) h hw (fun k cs d' pl' hk _ => by
    obtain ⟨i, hi, _, _⟩ := DataW.trod_int Try.underlying3 hk
    exact ⟨i, hi⟩)
  refine ⟨xs, ⟨o, i, j, e1, e2, ?_⟩, by omega⟩
  rcases e3 with e3 | ⟨g, off, f1, f2, f3⟩
  · exact .inl e3
  · refine .inr ⟨g, off, f1, f2, fun k hk => ?_⟩
    obtain ⟨cs, rfl, _, q⟩ := f3 k hk
    have := q 0 (by omega)
    rw [List.getD_eq_getElem?_getD, List.getElem?_eq_getElem hk]
    simpa using this
set_option maxRecDepth 100000 in
/-- a record that comes in -/
theorem open_rec {n : Nat} {cs : List Value} {d : DataW H} {pl : List MemPlace} (h : DataW.trod enc Try.prog W 0 (fun _ => true) true n 37 cs = some (d, pl)) (hw : ∀ m ∈ d.weights Try.prog 37, m ≤ reachBytes) :
    ∃ x : RcV, cs = rcC x ∧ RcOn W (fun b => b < W.heap.size) x ∧ RcSm x.1 := by
  obtain ⟨xs, k, hk, hx, hlen, hxl, hf⟩ := DataW.trod_struct Try.underlying37 h
  rw [cells_rec] at hlen
  match cs, hlen with
  | [c0, c1, c2, c3, c4, c5, c6], _ =>
    match xs, hxl with
    | [y0, y1, y2, y3, y4, y5, y6], _ =>
      have h0 := hf 0 _ rfl
      have h1 := hf 1 _ rfl
      have h2 := hf 2 _ rfl
      have h3 := hf 3 _ rfl
      have h4 := hf 4 _ rfl
      have h5 := hf 5 _ rfl
      have h6 := hf 6 _ rfl
      simp only [cells_str, cells_int, cells_ints, cells_bool, List.drop_zero, List.take_succ_cons, List.take_zero, List.getElem?_cons_zero, List.getElem?_cons_succ, List.drop_succ_cons, List.getElem_toArray, List.getElem_cons_zero, List.getElem_cons_succ] at h0 h1 h2 h3 h4 h5 h6
      obtain ⟨i, hi, _, _⟩ := DataW.trod_int Try.underlying3 h0
      obtain ⟨a, ha, _, _⟩ := DataW.trod_string Try.underlying9 h1
      obtain ⟨b, hb, _, _⟩ := DataW.trod_string Try.underlying9 h2
      obtain ⟨p, hp, _, _⟩ := DataW.trod_int Try.underlying3 h3
      obtain ⟨g, hg, _⟩ := DataW.trod_bool Try.underlying4 h6
      simp only [List.cons.injEq, and_true] at hi ha hb hp hg
      simp only [Prod.mk.injEq] at hx
      obtain ⟨rfl, _⟩ := hx
      have hwe : ∀ (j : Nat) (t : TypeId) (e : DataW H), ([3, 9, 9, 3, 32, 32, 4] : List TypeId)[j]? = some t → ([y0, y1, y2, y3, y4, y5, y6].map (·.1))[j]? = some e → ∀ m ∈ e.weights Try.prog t, m ≤ reachBytes := fun j t e ht he m hm => by
        refine hw m ?_
        rw [DataW.weights]
        simp only [Try.underlying37]
        exact DataW.weights_mem_each ht he m hm
      obtain ⟨ks, hks, hkl⟩ := open_intsR (d := y4.1) (pl := y4.2) h4 (hwe 4 _ _ rfl rfl)
      obtain ⟨ats, hats, hal⟩ := open_intsR (d := y5.1) (pl := y5.2) h5 (hwe 5 _ _ rfl rfl)
      exact ⟨(⟨i, a.data.toList, b.data.toList, p, ks, ats, g⟩, c4, c5), by rw [hi, ha, hb, hp, hg]; rfl, ⟨hks, hats⟩, hkl, hal⟩
instance : Inhabited ChV := ⟨(0, rcV0)⟩
set_option maxRecDepth 100000 in
/-- a change that comes in -/
theorem open_ch {n : Nat} {cs : List Value} {d : DataW H} {pl : List MemPlace} (h : DataW.trod enc Try.prog W 0 (fun _ => true) true n 73 cs = some (d, pl)) (hw : ∀ m ∈ d.weights Try.prog 73, m ≤ reachBytes) :
    ∃ x : ChV, cs = .int .i64 x.1 :: rcC x.2 ∧ RcOn W (fun b => b < W.heap.size) x.2 ∧ RcSm x.2.1 := by
  obtain ⟨xs, k, hk, hx, hlen, hxl, hf⟩ := DataW.trod_struct Try.underlying73 h
  rw [cells_ch] at hlen
  match cs, hlen with
  | [c0, c1, c2, c3, c4, c5, c6, c7], _ =>
    match xs, hxl with
    | [y0, y1], _ =>
      have h0 := hf 0 _ rfl
      have h1 := hf 1 _ rfl
      simp only [cells_int, cells_rec, List.drop_zero, List.take_succ_cons, List.take_zero, List.getElem?_cons_zero, List.getElem?_cons_succ, List.drop_succ_cons, List.getElem_toArray, List.getElem_cons_zero, List.getElem_cons_succ] at h0 h1
      obtain ⟨i, hi, _, _⟩ := DataW.trod_int Try.underlying3 h0
      simp only [List.cons.injEq, and_true] at hi
      simp only [Prod.mk.injEq] at hx
      obtain ⟨rfl, _⟩ := hx
      obtain ⟨r, hr, hon, hsm⟩ := open_rec (d := y1.1) (pl := y1.2) h1 (fun m hm => hw m (by
        rw [DataW.weights]
        simp only [Try.underlying73]
        exact DataW.weights_mem_each (ts := [3, 37]) (j := 1) (t := 37) rfl rfl m hm))
      exact ⟨(i, r), by rw [hi, ← hr], hon, hsm⟩
/-- changes that come in -/
theorem open_chs {n : Nat} {cv : Value} {d : DataW H} {pl : List MemPlace} (h : DataW.trod enc Try.prog W 0 (fun _ => true) true n 29 [cv] = some (d, pl)) (hw : ∀ m ∈ d.weights Try.prog 29, m ≤ reachBytes) :
    ∃ xs : List ChV, ChsOn W (fun b => b < W.heap.size) cv xs ∧ xs.length ≤ 2 ^ 44 ∧ ∀ x, x ∈ xs → RcSm x.2.1 := by
  obtain ⟨xs, ⟨o, i, j, e1, e2, e3⟩, e5, e4⟩ := open_row (α := ChV) Try.underlying29 cells_ch bytes_ch (by decide) (fun x cs => cs = .int .i64 x.1 :: rcC x.2 ∧ RcOn W (fun b => b < W.heap.size) x.2 ∧ RcSm x.2.1) h hw (fun k cs d' pl' hk hw' => open_ch hk hw')
  refine ⟨xs, ⟨⟨o, i, j, e1, e2, ?_⟩, fun x hx => ?_⟩, by omega, fun x hx => ?_⟩
  · rcases e3 with e3 | ⟨g, off, f1, f2, f3⟩
    · exact .inl e3
    · refine .inr ⟨g, off, f1, f2, fun k hk => ?_⟩
      obtain ⟨cs, ⟨rfl, _⟩, _, q⟩ := f3 k hk
      exact ⟨q 0 (by omega), q 1 (by omega), q 2 (by omega), q 3 (by omega), q 4 (by omega), q 5 (by omega), q 6 (by omega), q 7 (by omega)⟩
  · obtain ⟨cs, _, h2, _⟩ := e5 x hx
    exact h2
  · obtain ⟨cs, _, _, h3⟩ := e5 x hx
    exact h3
/-- a step of a script -/
structure StV where
  kd : Int
  id : Int
  time : Nat
  cs : List ChV
  lv : Value
instance : Inhabited StV := ⟨⟨0, 0, 0, [], .slice none 0 0⟩⟩
def stC (x : StV) : List Value := [.int .i64 x.kd, .int .i64 x.id, .int .u64 (x.time : Int), x.lv]
/-- what a step's changes are, and where -/
structure StOk (W : World) (B : Nat) (x : StV) : Prop where
  on : ChsOn W (fun b => b < B) x.lv x.cs
  len : x.cs.length ≤ 2 ^ 44
  idw : (Lit.int .i64 x.id).wf = true
  sm : ∀ c, c ∈ x.cs → RcSm c.2.1
theorem StOk.below {W W' : World} {B : Nat} {x : StV} (h : StOk W B x) (hb : Below B W W') : StOk W' B x := ⟨h.on.below hb, h.len, h.idw, h.sm⟩
theorem StOk.form {W : World} {B : Nat} {x : StV} (h : StOk W B x) : ∃ o j, x.lv = .slice o x.cs.length j := h.on.form
set_option maxRecDepth 100000 in
theorem open_step {n : Nat} {cs : List Value} {d : DataW H} {pl : List MemPlace} (h : DataW.trod enc Try.prog W 0 (fun _ => true) true n 31 cs = some (d, pl)) (hw : ∀ m ∈ d.weights Try.prog 31, m ≤ reachBytes) :
    ∃ x : StV, cs = stC x ∧ StOk W W.heap.size x := by
  obtain ⟨xs, k, hk, hx, hlen, hxl, hf⟩ := DataW.trod_struct Try.underlying31 h
  rw [cells_step] at hlen
  match cs, hlen with
  | [c0, c1, c2, c3], _ =>
    match xs, hxl with
    | [y0, y1, y2, y3], _ =>
      have h0 := hf 0 _ rfl
      have h1 := hf 1 _ rfl
      have h2 := hf 2 _ rfl
      have h3 := hf 3 _ rfl
      simp only [cells_int, cells_u64, cells_chs, List.drop_zero, List.take_succ_cons, List.take_zero, List.getElem?_cons_zero, List.getElem?_cons_succ, List.drop_succ_cons, List.getElem_toArray, List.getElem_cons_zero, List.getElem_cons_succ] at h0 h1 h2 h3
      obtain ⟨i, hi, _, _⟩ := DataW.trod_int Try.underlying3 h0
      obtain ⟨j, hj, _, hjw⟩ := DataW.trod_int Try.underlying3 h1
      obtain ⟨t, ht, _, hwf⟩ := DataW.trod_int Try.underlying23 h2
      simp only [List.cons.injEq, and_true] at hi hj ht
      simp only [Prod.mk.injEq] at hx
      obtain ⟨rfl, _⟩ := hx
      have ht0 : ((t.toNat : Nat) : Int) = t := by
        have : 0 ≤ t := by
          have hm : IntKind.u64.min = 0 := by decide
          simp [Lit.wf, hm] at hwf
          omega
        omega
      obtain ⟨l, hon, hl, hsm⟩ := open_chs (d := y3.1) (pl := y3.2) h3 (fun m hm => hw m (by
        rw [DataW.weights]
        simp only [Try.underlying31]
        exact DataW.weights_mem_each (ts := [3, 3, 23, 29]) (j := 3) (t := 29) rfl rfl m hm))
      exact ⟨⟨i, j, t.toNat, l, c3⟩, by rw [hi, hj, ht]; unfold stC; rw [ht0], hon, hl, hjw, hsm⟩
def StAt (w : World) (g off : Nat) (x : StV) : Prop := w.cell? ⟨g, off, none⟩ = some (.int .i64 x.kd) ∧ w.cell? ⟨g, off + 1, none⟩ = some (.int .i64 x.id) ∧ w.cell? ⟨g, off + 2, none⟩ = some (.int .u64 (x.time : Int)) ∧ w.cell? ⟨g, off + 3, none⟩ = some x.lv
theorem StAt.move {w w' : World} {g off : Nat} (h : w'.heap[g]? = w.heap[g]?) {x : StV} (hn : StAt w g off x) : StAt w' g off x := by
  have mv : ∀ k v, w.cell? ⟨g, k, none⟩ = some v → w'.cell? ⟨g, k, none⟩ = some v := fun k v hv => (World.cell?_of_block (w := w) h).trans hv
  exact ⟨mv _ _ hn.1, mv _ _ hn.2.1, mv _ _ hn.2.2.1, mv _ _ hn.2.2.2⟩
/-- a script in a slice, below B -/
def StsOn (w : World) (B : Nat) (v : Value) (xs : List StV) : Prop := (∃ o i j, v = .slice o i j ∧ i = xs.length ∧ (xs = [] ∨ ∃ g off, o = some ⟨g, off, none⟩ ∧ g < B ∧ ∀ k (h : k < xs.length), StAt w g (off + k * 4) xs[k])) ∧ ∀ x, x ∈ xs → StOk w B x
theorem StsOn.below {w w' : World} {B : Nat} {v : Value} {xs : List StV} (h : StsOn w B v xs) (hb : Below B w w') : StsOn w' B v xs := by
  obtain ⟨⟨o, i, j, e1, e2, e3⟩, e9⟩ := h
  refine ⟨⟨o, i, j, e1, e2, ?_⟩, fun x hx => (e9 x hx).below hb⟩
  rcases e3 with e3 | ⟨g, off, e4, e5, e6⟩
  · exact .inl e3
  · exact .inr ⟨g, off, e4, e5, fun k hk => (e6 k hk).move (hb.block g e5)⟩
theorem StsOn.form {w : World} {B : Nat} {v : Value} {xs : List StV} (h : StsOn w B v xs) : ∃ o j, v = .slice o xs.length j := by
  obtain ⟨⟨o, i, j, e1, e2, _⟩, _⟩ := h
  exact ⟨o, j, by rw [e1, e2]⟩
theorem StsOn.reads {w : World} {B : Nat} {o : Option Addr} {i j : Nat} {xs : List StV} (h : StsOn w B (.slice o i j) xs) (k : Nat) (hk : k < xs.length) : ∃ g off, o = some ⟨g, off, none⟩ ∧ StAt w g (off + k * 4) xs[k] ∧ StOk w B xs[k] := by
  obtain ⟨⟨o', i', j', e1, e2, e3⟩, e9⟩ := h
  cases e1
  rcases e3 with e3 | ⟨g, off, e4, e5, e6⟩
  · rw [e3] at hk; cases hk
  · exact ⟨g, off, e4, e6 k hk, e9 _ (List.getElem_mem hk)⟩
theorem open_steps {n : Nat} {cv : Value} {d : DataW H} {pl : List MemPlace} (h : DataW.trod enc Try.prog W 0 (fun _ => true) true n 22 [cv] = some (d, pl)) (hw : ∀ m ∈ d.weights Try.prog 22, m ≤ reachBytes) :
    ∃ xs : List StV, StsOn W W.heap.size cv xs ∧ xs.length ≤ 2 ^ 62 := by
  obtain ⟨xs, ⟨o, i, j, e1, e2, e3⟩, e5, e4⟩ := open_row (α := StV) Try.underlying22 cells_step bytes_step (by decide) (fun x cs => cs = stC x ∧ StOk W W.heap.size x) h hw (fun k cs d' pl' hk hw' => open_step hk hw')
  refine ⟨xs, ⟨⟨o, i, j, e1, e2, ?_⟩, fun x hx => ?_⟩, by omega⟩
  · rcases e3 with e3 | ⟨g, off, f1, f2, f3⟩
    · exact .inl e3
    · refine .inr ⟨g, off, f1, f2, fun k hk => ?_⟩
      obtain ⟨cs, ⟨rfl, _⟩, _, q⟩ := f3 k hk
      exact ⟨q 0 (by omega), q 1 (by omega), q 2 (by omega), q 3 (by omega)⟩
  · obtain ⟨cs, _, h2⟩ := e5 x hx
    exact h2
/-! As arguments of a call. -/
theorem trod_cell {t : TypeId} {v : Value} {d : DataW H} {p : List MemPlace} (h : DataW.Trod enc Try.prog W 0 (fun _ => true) true t v d p) (hc : v.cells.toList = [v]) : ∃ n, DataW.trod enc Try.prog W 0 (fun _ => true) true n t [v] = some (d, p) := by
  obtain ⟨n, hn⟩ := h
  rw [hc] at hn
  exact ⟨n, hn⟩
theorem laid_out : laidOutB Try.prog = true := by kernel_rfl
end
end Go.Proofs.Ytpimdmjhnogelaa.Char
