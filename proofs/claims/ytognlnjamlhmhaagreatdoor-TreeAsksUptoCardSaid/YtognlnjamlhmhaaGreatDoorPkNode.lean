/- NodeIn NodeInU -/
import Derived.Test.YtognlnjamlhmhaaGreatDoorPkEq
import Derived.Deep.Slices
import Derived.ChangeArms
import Derived.SizedLaws
import Derived.Carry
import Derived.Test.YtognlnjamlhmhaaGreatDoorPkRefR
import Derived.Test.YtognlnjamlhmhaaGreatDoorRows
/- A node that comes in, opened: what it reads as, and where it lies. -/
namespace Go.Proofs.YtognlnjamlhmhaaGreatDoor.Char
open Go.RowKit Go.Lib Go.ChangeShapes Go.WideShapes Go.Deep

theorem cells_nd : Tryz.prog.cellsOf 26 = 5 := by kernel_rfl
theorem cells_at : Tryz.prog.cellsOf 37 = 2 := by kernel_rfl
theorem cells_str : Tryz.prog.cellsOf 9 = 1 := by kernel_rfl
theorem cells_int : Tryz.prog.cellsOf 3 = 1 := by kernel_rfl
theorem cells_ats : Tryz.prog.cellsOf 23 = 1 := by kernel_rfl
theorem cells_nds : Tryz.prog.cellsOf 24 = 1 := by kernel_rfl
theorem bytes_at : Tryz.prog.bytesOf 37 = 32 := by kernel_rfl
instance : Inhabited Tr := ⟨grd0⟩

theorem weights_all {H : Type} {P : Program} {e : TypeId} : ∀ {l : List (DataW H)} {d : DataW H}, d ∈ l → ∀ n ∈ d.weights P e, n ∈ DataW.weightsAll P e l
  | [], _, hd, _, _ => by cases hd
  | x :: r, d, hd, n, hn => by
    rw [DataW.weightsAll, List.mem_append]
    rcases List.mem_cons.1 hd with rfl | hd
    · exact .inl hn
    · exact .inr (weights_all hd n hn)

section
variable {H : Type} {enc : TypeId × Value → H} {W : World}

set_option maxRecDepth 100000 in
theorem open_attr {n : Nat} {cs : List Value} {x : DataW H × List MemPlace} (h : DataW.trod enc Tryz.prog W 0 (fun _ => true) true n 37 cs = some x) :
    ∃ q : At2, cs = [.string (bs q.1), .string (bs q.2)] := by
  obtain ⟨xs, k, _, _, hlen, hxl, hf⟩ := DataW.trod_struct Tryz.underlying37 h
  rw [cells_at] at hlen
  match cs, hlen with
  | [c0, c1], _ =>
    match xs, hxl with
    | [y0, y1], _ =>
      have h0 := hf 0 _ rfl
      have h1 := hf 1 _ rfl
      simp only [cells_str, List.drop_zero, List.take_succ_cons, List.take_zero, List.getElem?_cons_zero, List.getElem?_cons_succ, List.drop_succ_cons, List.getElem_toArray, List.getElem_cons_zero, List.getElem_cons_succ] at h0 h1
      obtain ⟨a, ha, _, _⟩ := DataW.trod_string Tryz.underlying9 h0
      obtain ⟨b, hb, _, _⟩ := DataW.trod_string Tryz.underlying9 h1
      simp only [List.cons.injEq, and_true] at ha hb
      exact ⟨(a.data.toList, b.data.toList), by rw [ha, hb]; rfl⟩

set_option maxRecDepth 100000 in
theorem open_attrs {n : Nat} {cv : Value} {d : DataW H} {p : List MemPlace} (h : DataW.trod enc Tryz.prog W 0 (fun _ => true) true n 23 [cv] = some (d, p))
    (hw : ∀ m ∈ d.weights Tryz.prog 23, m ≤ reachBytes) : ∃ qs : List At2, AtsOn W (fun b => b < W.heap.size) cv qs ∧ qs.length ≤ 2 ^ 62 := by
  rcases open_slice Tryz.underlying23 h with ⟨hc, _⟩ | ⟨a, len, cap, m, k, D, Pl, hc, _, hl, hm, hmm, hx, hall⟩
  · simp only [List.cons.injEq, and_true] at hc
    subst hc
    exact ⟨[], ⟨none, 0, 0, rfl, rfl, .inl rfl⟩, by simp⟩
  · simp only [List.cons.injEq, and_true] at hc
    subst hc
    simp only [if_true] at hmm
    subst hmm
    rw [cells_at] at hall
    simp only [Prod.mk.injEq] at hx
    obtain ⟨rfl, _⟩ := hx
    have hlen : len ≤ 2 ^ 62 := by
      have := hw (((List.range len).map D).length * 32 + ((List.range (m - len)).map fun j => D (len + j)).length * 32) (by
        rw [DataW.weights]
        simp only [Tryz.underlying23, bytes_at, Nat.add_mul]
        exact List.mem_cons_self)
      simp only [List.length_map, List.length_range] at this
      unfold reachBytes at this
      omega
    obtain ⟨f, hf⟩ := choose_lt (α := At2) (n := len) (p := fun i x => W.cell? (a.add (i * 2)) = some (.string (bs x.1)) ∧ W.cell? (a.add (i * 2 + 1)) = some (.string (bs x.2))) (fun i hi => by
      obtain ⟨cs', h1, h2⟩ := hall i (by omega)
      obtain ⟨q, rfl⟩ := open_attr h2
      obtain ⟨_, _, hcell⟩ := World.cells?_some h1
      refine ⟨q, ?_, ?_⟩
      · have := hcell 0 (by omega)
        rwa [add_add, Nat.add_zero] at this
      · have := hcell 1 (by omega)
        rwa [add_add] at this)
    refine ⟨(List.range len).map f, ⟨some a, len, m, rfl, by simp, ?_⟩, by simpa using hlen⟩
    by_cases h0 : len = 0
    · subst h0; exact .inl rfl
    · obtain ⟨g, off, spot⟩ := a
      have hc0 := (hf 0 (by omega)).1
      have hspot : spot = none := by simpa [Addr.add] using World.cell?_spot hc0
      subst hspot
      refine .inr ⟨g, off, rfl, cell_lt (a := ⟨g, off, none⟩) (by simpa [Addr.add] using hc0), fun i hi => ?_⟩
      simp only [List.length_map, List.length_range] at hi
      have he : ((List.range len).map f).getD i ([], []) = f i := by simp [List.getD, hi]
      rw [he]
      obtain ⟨r0, r1⟩ := hf i hi
      exact ⟨by simpa [Addr.add_lit] using r0, by simpa [Addr.add_lit, Nat.add_assoc] using r1⟩

set_option maxRecDepth 100000 in
theorem open_node : ∀ (n : Nat) (cs : List Value) (d : DataW H) (p : List MemPlace), DataW.trod enc Tryz.prog W 0 (fun _ => true) true n 26 cs = some (d, p) → (∀ m ∈ d.weights Tryz.prog 26, m ≤ reachBytes) →
    ∃ (t : Tr) (va vk : Value), cs = [.int .i64 t.kd, .string (bs t.nm), .string (bs t.tx), va, vk] ∧ NdOn W (fun b => b < W.heap.size) t va vk ∧ mxT t ≤ 2 ^ 62 := by
  intro n
  induction n using Nat.strongRecOn with
  | _ n ih =>
  intro cs d p h hw
  obtain ⟨xs, k, hk, hx, hlen, hxl, hf⟩ := DataW.trod_struct Tryz.underlying26 h
  rw [cells_nd] at hlen
  match cs, hlen with
  | [c0, c1, c2, c3, c4], _ =>
    match xs, hxl with
    | [y0, y1, y2, y3, y4], _ =>
      have h0 := hf 0 _ rfl
      have h1 := hf 1 _ rfl
      have h2 := hf 2 _ rfl
      have h3 := hf 3 _ rfl
      have h4 := hf 4 _ rfl
      simp only [cells_str, cells_int, cells_ats, cells_nds, List.drop_zero, List.take_succ_cons, List.take_zero, List.getElem?_cons_zero, List.getElem?_cons_succ, List.drop_succ_cons, List.getElem_toArray, List.getElem_cons_zero, List.getElem_cons_succ] at h0 h1 h2 h3 h4
      obtain ⟨i, hi, _, _⟩ := DataW.trod_int Tryz.underlying3 h0
      obtain ⟨a, ha, _, _⟩ := DataW.trod_string Tryz.underlying9 h1
      obtain ⟨b, hb, _, _⟩ := DataW.trod_string Tryz.underlying9 h2
      simp only [List.cons.injEq, and_true] at hi ha hb
      simp only [Prod.mk.injEq] at hx
      obtain ⟨rfl, _⟩ := hx
      have hwe : ∀ (j : Nat) (t : TypeId) (e : DataW H), ([3, 9, 9, 23, 24] : List TypeId)[j]? = some t → ([y0, y1, y2, y3, y4].map (·.1))[j]? = some e → ∀ m ∈ e.weights Tryz.prog t, m ≤ reachBytes := fun j t e ht he m hm => by
        refine hw m ?_
        rw [DataW.weights]
        simp only [Tryz.underlying26]
        exact DataW.weights_mem_each ht he m hm
      obtain ⟨qs, hqs, hql⟩ := open_attrs (d := y3.1) (p := y3.2) h3 (hwe 3 _ _ rfl rfl)
      have hwk := hwe 4 _ _ rfl rfl
      have hkids : ∃ ks : List Tr, (∃ o i j, c4 = .slice o i j ∧ i = ks.length ∧ (ks = [] ∨ ∃ g off, o = some ⟨g, off, none⟩ ∧ g < W.heap.size ∧ KsOn W (fun b => b < W.heap.size) g off ks)) ∧ mxK ks ≤ 2 ^ 62 := by
        rcases DataW.trod_slice Tryz.underlying24 h4 with ⟨hc, _⟩ | ⟨ad, len, cap, elems, rest, k', hk', hc, hx4, _, _, _, hel, hall, _, _⟩
        · simp only [List.cons.injEq, and_true] at hc
          exact ⟨[], ⟨none, 0, 0, hc, rfl, .inl rfl⟩, by rw [mxK]; omega⟩
        · simp only [List.cons.injEq, and_true] at hc
          rw [cells_nd] at hall
          obtain ⟨f, hf4⟩ := choose_lt (α := Tr) (n := len) (p := fun i t => mxT t ≤ 2 ^ 62 ∧ ∃ va vk, W.cells? 0 (ad.add (i * 5)) 5 = some [.int .i64 t.kd, .string (bs t.nm), .string (bs t.tx), va, vk] ∧ NdOn W (fun b => b < W.heap.size) t va vk) (fun i hi => by
            have hb := hall i hi
            rw [List.getElem?_eq_getElem (by omega), Option.bind_eq_some_iff] at hb
            obtain ⟨cs', e1, e2⟩ := hb
            obtain ⟨t, va, vk, rfl, hon, hmx⟩ := ih k' (by omega) cs' _ _ e2 (fun m hm => hwk m (by
              rw [hx4, DataW.weights]
              simp only [Tryz.underlying24]
              exact List.mem_cons_of_mem _ (List.mem_append_left _ (weights_all (List.mem_map_of_mem (List.getElem_mem (by omega))) m hm))))
            exact ⟨t, hmx, va, vk, e1, hon⟩)
          refine ⟨(List.range len).map f, ⟨some ad, len, cap, hc, by simp, ?_⟩, ?_⟩
          · by_cases h0 : len = 0
            · subst h0; exact .inl rfl
            · obtain ⟨g, off, spot⟩ := ad
              obtain ⟨_, va, vk, hc0, _⟩ := hf4 0 (by omega)
              have hc1 := (World.cells?_some hc0).2.2 0 (by omega)
              rw [add_add] at hc1
              have hspot : spot = none := by simpa [Addr.add] using World.cell?_spot hc1
              subst hspot
              refine .inr ⟨g, off, rfl, cell_lt (a := ⟨g, off, none⟩) (by simpa [Addr.add] using hc1), KsOn.of fun i hi => ?_⟩
              simp only [List.length_map, List.length_range] at hi
              simp only [List.getElem_map, List.getElem_range]
              obtain ⟨_, va, vk, hcs, hon⟩ := hf4 i hi
              have hcell := (World.cells?_some hcs).2.2
              have hat : ∀ j (hj : j < 5), W.cell? ⟨g, off + i * 5 + j, none⟩ = ([.int .i64 (f i).kd, .string (bs (f i).nm), .string (bs (f i).tx), va, vk] : List Value)[j]? := fun j hj => by
                have := hcell j hj
                rw [add_add] at this
                simpa [Addr.add_lit, Nat.add_assoc] using this
              exact ⟨va, vk, ⟨hat 0 (by omega), hat 1 (by omega), hat 2 (by omega), hat 3 (by omega), hat 4 (by omega)⟩, hon⟩
          · have : ∀ l : List Nat, (∀ i ∈ l, i < len) → mxK (l.map f) ≤ 2 ^ 62 := by
              intro l
              induction l with
              | nil => intro _; rw [List.map_nil, mxK]; omega
              | cons x r ihl =>
                intro hl
                have q1 := (hf4 x (hl x (by simp))).1
                have q2 := ihl (fun i hi => hl i (by simp [hi]))
                rw [List.map_cons, mxK]
                omega
            exact this _ (fun i hi => List.mem_range.1 hi)
      obtain ⟨ks, hks, hkm⟩ := hkids
      refine ⟨.mk i a.data.toList b.data.toList qs ks, c3, c4, by rw [hi, ha, hb]; rfl, NdOn.of hqs hks, ?_⟩
      rw [mxT_def]
      exact Nat.max_le.2 ⟨hql, hkm⟩
set_option maxRecDepth 100000 in
theorem open_nodeT {r : Reach} {b0 : Nat} {v : Value} {d : DataW H} {p : List MemPlace} (hv : Value.okWide Tryz.prog W r b0 26 v) (h : DataW.Trod enc Tryz.prog W 0 (fun _ => true) true 26 v d p)
    (hw : ∀ m ∈ d.weights Tryz.prog 26, m ≤ reachBytes) : ∃ (t : Tr) (va vk : Value), v = ndV t va vk ∧ NdOn W (fun b => b < W.heap.size) t va vk ∧ mxT t ≤ 2 ^ 62 := by
  obtain ⟨cs, rfl, _⟩ := okWide_struct Tryz.underlying26 hv
  obtain ⟨fuel, hf⟩ := h
  obtain ⟨t, va, vk, hcs, h1, h2⟩ := open_node fuel _ _ _ hf hw
  refine ⟨t, va, vk, ?_, h1, h2⟩
  obtain ⟨l⟩ := cs
  have : l = [.int .i64 t.kd, .string (bs t.nm), .string (bs t.tx), va, vk] := hcs
  rw [this]
  rfl
theorem laid_out : laidOutB Tryz.prog = true := by kernel_rfl
end
end Go.Proofs.YtognlnjamlhmhaaGreatDoor.Char

/- A node that comes in, of bulk at most so many, opened (made by gen_nodeinu.py out of NodeIn). -/
namespace Go.Proofs.YtognlnjamlhmhaaGreatDoor.Char
open Go.RowKit Go.Lib Go.ChangeShapes Go.WideShapes Go.Deep
theorem bulk_mem {H : Type} : ∀ {l : List (DataW H)} {d : DataW H}, d ∈ l → Rows.uptoBulk d ≤ Rows.uptoBulkAll l
  | [], _, h => by cases h
  | x :: r, d, h => by
    rw [Rows.uptoBulkAll]
    rcases List.mem_cons.1 h with rfl | h
    · omega
    · have := bulk_mem h
      omega
theorem bulk_pos {H : Type} (d : DataW H) : 1 ≤ Rows.uptoBulk d := by
  unfold Rows.uptoBulk
  split <;> omega
theorem bulk_len {H : Type} : ∀ l : List (DataW H), l.length ≤ Rows.uptoBulkAll l
  | [] => by simp
  | x :: r => by
    have h1 := bulk_pos x
    have h2 := bulk_len r
    rw [List.length_cons, Rows.uptoBulkAll]
    omega
section
variable {H : Type} {enc : TypeId × Value → H} {W : World}
set_option maxRecDepth 100000 in
theorem open_attrU {n N : Nat} {cs : List Value} {x : DataW H × List MemPlace} (h : DataW.trod enc Tryz.prog W 0 (fun _ => true) true n 37 cs = some x) (hN : Rows.uptoBulk x.1 ≤ N) :
    ∃ q : At2, cs = [.string (bs q.1), .string (bs q.2)] ∧ q.1.length ≤ N ∧ q.2.length ≤ N := by
  obtain ⟨xs, k, _, hxx, hlen, hxl, hf⟩ := DataW.trod_struct Tryz.underlying37 h
  rw [cells_at] at hlen
  match cs, hlen with
  | [c0, c1], _ =>
    match xs, hxl with
    | [y0, y1], _ =>
      have h0 := hf 0 _ rfl
      have h1 := hf 1 _ rfl
      simp only [cells_str, List.drop_zero, List.take_succ_cons, List.take_zero, List.getElem?_cons_zero, List.getElem?_cons_succ, List.drop_succ_cons, List.getElem_toArray, List.getElem_cons_zero, List.getElem_cons_succ] at h0 h1
      obtain ⟨a, ha, ya, _⟩ := DataW.trod_string Tryz.underlying9 h0
      obtain ⟨b, hb, yb, _⟩ := DataW.trod_string Tryz.underlying9 h1
      simp only [List.cons.injEq, and_true] at ha hb
      rw [hxx, ya, yb] at hN
      simp only [List.map_cons, List.map_nil, Rows.uptoBulk, Rows.uptoBulkAll] at hN
      exact ⟨(a.data.toList, b.data.toList), by rw [ha, hb]; rfl, by dsimp only; omega, by dsimp only; omega⟩

set_option maxRecDepth 100000 in
theorem open_attrsU {n N : Nat} {cv : Value} {d : DataW H} {p : List MemPlace} (h : DataW.trod enc Tryz.prog W 0 (fun _ => true) true n 23 [cv] = some (d, p))
    (hw : ∀ m ∈ d.weights Tryz.prog 23, m ≤ reachBytes) (hN : Rows.uptoBulk d ≤ N) : ∃ qs : List At2, AtsOn W (fun b => b < W.heap.size) cv qs ∧ qs.length ≤ 2 ^ 62 ∧ qs.length ≤ N ∧ ∀ a, a ∈ qs → a.1.length ≤ N ∧ a.2.length ≤ N := by
  rcases open_slice Tryz.underlying23 h with ⟨hc, _⟩ | ⟨a, len, cap, m, k, D, Pl, hc, _, hl, hm, hmm, hx, hall⟩
  · simp only [List.cons.injEq, and_true] at hc
    subst hc
    exact ⟨[], ⟨none, 0, 0, rfl, rfl, .inl rfl⟩, by simp, by simp, fun a ha => by cases ha⟩
  · simp only [List.cons.injEq, and_true] at hc
    subst hc
    simp only [if_true] at hmm
    subst hmm
    rw [cells_at] at hall
    simp only [Prod.mk.injEq] at hx
    obtain ⟨rfl, _⟩ := hx
    have hlen : len ≤ 2 ^ 62 := by
      have := hw (((List.range len).map D).length * 32 + ((List.range (m - len)).map fun j => D (len + j)).length * 32) (by
        rw [DataW.weights]
        simp only [Tryz.underlying23, bytes_at, Nat.add_mul]
        exact List.mem_cons_self)
      simp only [List.length_map, List.length_range] at this
      unfold reachBytes at this
      omega
    rw [Rows.uptoBulk] at hN
    have hlN : len ≤ N := by
      have := bulk_len ((List.range len).map D)
      simp only [List.length_map, List.length_range] at this
      omega
    obtain ⟨f, hf⟩ := choose_lt (α := At2) (n := len) (p := fun i x => (x.1.length ≤ N ∧ x.2.length ≤ N) ∧ W.cell? (a.add (i * 2)) = some (.string (bs x.1)) ∧ W.cell? (a.add (i * 2 + 1)) = some (.string (bs x.2))) (fun i hi => by
      obtain ⟨cs', h1, h2⟩ := hall i (by omega)
      obtain ⟨q, rfl, hq⟩ := open_attrU (N := N) h2 (by have := bulk_mem (List.mem_map_of_mem (f := D) (List.mem_range.2 hi)); dsimp only at this ⊢; omega)
      obtain ⟨_, _, hcell⟩ := World.cells?_some h1
      refine ⟨q, hq, ?_, ?_⟩
      · have := hcell 0 (by omega)
        rwa [add_add, Nat.add_zero] at this
      · have := hcell 1 (by omega)
        rwa [add_add] at this)
    refine ⟨(List.range len).map f, ⟨some a, len, m, rfl, by simp, ?_⟩, by simpa using hlen, by simpa using hlN, fun a ha => by
      obtain ⟨i, hi, rfl⟩ := List.mem_map.1 ha
      exact (hf i (List.mem_range.1 hi)).1⟩
    by_cases h0 : len = 0
    · subst h0; exact .inl rfl
    · obtain ⟨g, off, spot⟩ := a
      have hc0 := (hf 0 (by omega)).2.1
      have hspot : spot = none := by simpa [Addr.add] using World.cell?_spot hc0
      subst hspot
      refine .inr ⟨g, off, rfl, cell_lt (a := ⟨g, off, none⟩) (by simpa [Addr.add] using hc0), fun i hi => ?_⟩
      simp only [List.length_map, List.length_range] at hi
      have he : ((List.range len).map f).getD i ([], []) = f i := by simp [List.getD, hi]
      rw [he]
      obtain ⟨_, r0, r1⟩ := hf i hi
      exact ⟨by simpa [Addr.add_lit] using r0, by simpa [Addr.add_lit, Nat.add_assoc] using r1⟩

set_option maxRecDepth 100000 in
theorem open_nodeU (N : Nat) : ∀ (n : Nat) (cs : List Value) (d : DataW H) (p : List MemPlace), DataW.trod enc Tryz.prog W 0 (fun _ => true) true n 26 cs = some (d, p) → (∀ m ∈ d.weights Tryz.prog 26, m ≤ reachBytes) → Rows.uptoBulk d ≤ N →
    ∃ (t : Tr) (va vk : Value), cs = [.int .i64 t.kd, .string (bs t.nm), .string (bs t.tx), va, vk] ∧ NdOn W (fun b => b < W.heap.size) t va vk ∧ smT N t := by
  intro n
  induction n using Nat.strongRecOn with
  | _ n ih =>
  intro cs d p h hw hN
  obtain ⟨xs, k, hk, hx, hlen, hxl, hf⟩ := DataW.trod_struct Tryz.underlying26 h
  rw [cells_nd] at hlen
  match cs, hlen with
  | [c0, c1, c2, c3, c4], _ =>
    match xs, hxl with
    | [y0, y1, y2, y3, y4], _ =>
      have h0 := hf 0 _ rfl
      have h1 := hf 1 _ rfl
      have h2 := hf 2 _ rfl
      have h3 := hf 3 _ rfl
      have h4 := hf 4 _ rfl
      simp only [cells_str, cells_int, cells_ats, cells_nds, List.drop_zero, List.take_succ_cons, List.take_zero, List.getElem?_cons_zero, List.getElem?_cons_succ, List.drop_succ_cons, List.getElem_toArray, List.getElem_cons_zero, List.getElem_cons_succ] at h0 h1 h2 h3 h4
      obtain ⟨i, hi, _, _⟩ := DataW.trod_int Tryz.underlying3 h0
      obtain ⟨a, ha, ya, _⟩ := DataW.trod_string Tryz.underlying9 h1
      obtain ⟨b, hb, yb, _⟩ := DataW.trod_string Tryz.underlying9 h2
      simp only [List.cons.injEq, and_true] at hi ha hb
      simp only [Prod.mk.injEq] at hx
      obtain ⟨rfl, _⟩ := hx
      simp only [List.map_cons, List.map_nil, Rows.uptoBulk, Rows.uptoBulkAll] at hN
      have ha1 : Rows.uptoBulk y1.1 = a.data.toList.length + 1 := by rw [ya, Rows.uptoBulk]
      have ha2 : a.data.toList.length + 1 ≤ N := by omega
      have hb1 : Rows.uptoBulk y2.1 = b.data.toList.length + 1 := by rw [yb, Rows.uptoBulk]
      have hb2 : b.data.toList.length + 1 ≤ N := by omega
      have hwe : ∀ (j : Nat) (t : TypeId) (e : DataW H), ([3, 9, 9, 23, 24] : List TypeId)[j]? = some t → ([y0, y1, y2, y3, y4].map (·.1))[j]? = some e → ∀ m ∈ e.weights Tryz.prog t, m ≤ reachBytes := fun j t e ht he m hm => by
        refine hw m ?_
        rw [DataW.weights]
        simp only [Tryz.underlying26]
        exact DataW.weights_mem_each ht he m hm
      obtain ⟨qs, hqs, _, hqN, hqa⟩ := open_attrsU (N := N) (d := y3.1) (p := y3.2) h3 (hwe 3 _ _ rfl rfl) (by omega)
      have hwk := hwe 4 _ _ rfl rfl
      have hkids : ∃ ks : List Tr, (∃ o i j, c4 = .slice o i j ∧ i = ks.length ∧ (ks = [] ∨ ∃ g off, o = some ⟨g, off, none⟩ ∧ g < W.heap.size ∧ KsOn W (fun b => b < W.heap.size) g off ks)) ∧ ks.length ≤ N ∧ smK N ks := by
        rcases DataW.trod_slice Tryz.underlying24 h4 with ⟨hc, _⟩ | ⟨ad, len, cap, elems, rest, k', hk', hc, hx4, _, _, _, hel, hall, _, _⟩
        · simp only [List.cons.injEq, and_true] at hc
          exact ⟨[], ⟨none, 0, 0, hc, rfl, .inl rfl⟩, by simp, by rw [smK]; trivial⟩
        · simp only [List.cons.injEq, and_true] at hc
          rw [cells_nd] at hall
          have hN4 : Rows.uptoBulk y4.1 ≤ N := by omega
          rw [hx4, Rows.uptoBulk] at hN4
          have hlN : len ≤ N := by
            have := bulk_len (elems.map (·.1))
            simp only [List.length_map] at this
            omega
          obtain ⟨f, hf4⟩ := choose_lt (α := Tr) (n := len) (p := fun i t => smT N t ∧ ∃ va vk, W.cells? 0 (ad.add (i * 5)) 5 = some [.int .i64 t.kd, .string (bs t.nm), .string (bs t.tx), va, vk] ∧ NdOn W (fun b => b < W.heap.size) t va vk) (fun i hi => by
            have hb := hall i hi
            rw [List.getElem?_eq_getElem (by omega), Option.bind_eq_some_iff] at hb
            obtain ⟨cs', e1, e2⟩ := hb
            obtain ⟨t, va, vk, rfl, hon, hmx⟩ := ih k' (by omega) cs' _ _ e2 (fun m hm => hwk m (by
              rw [hx4, DataW.weights]
              simp only [Tryz.underlying24]
              exact List.mem_cons_of_mem _ (List.mem_append_left _ (weights_all (List.mem_map_of_mem (List.getElem_mem (by omega))) m hm)))) (by
              have := bulk_mem (List.mem_map_of_mem (f := fun x : DataW H × List MemPlace => x.1) (List.getElem_mem (show i < elems.length by omega)))
              simp only [List.get_eq_getElem]
              omega)
            exact ⟨t, hmx, va, vk, e1, hon⟩)
          refine ⟨(List.range len).map f, ⟨some ad, len, cap, hc, by simp, ?_⟩, by simpa using hlN, ?_⟩
          · by_cases h0 : len = 0
            · subst h0; exact .inl rfl
            · obtain ⟨g, off, spot⟩ := ad
              obtain ⟨_, va, vk, hc0, _⟩ := hf4 0 (by omega)
              have hc1 := (World.cells?_some hc0).2.2 0 (by omega)
              rw [add_add] at hc1
              have hspot : spot = none := by simpa [Addr.add] using World.cell?_spot hc1
              subst hspot
              refine .inr ⟨g, off, rfl, cell_lt (a := ⟨g, off, none⟩) (by simpa [Addr.add] using hc1), KsOn.of fun i hi => ?_⟩
              simp only [List.length_map, List.length_range] at hi
              simp only [List.getElem_map, List.getElem_range]
              obtain ⟨_, va, vk, hcs, hon⟩ := hf4 i hi
              have hcell := (World.cells?_some hcs).2.2
              have hat : ∀ j (hj : j < 5), W.cell? ⟨g, off + i * 5 + j, none⟩ = ([.int .i64 (f i).kd, .string (bs (f i).nm), .string (bs (f i).tx), va, vk] : List Value)[j]? := fun j hj => by
                have := hcell j hj
                rw [add_add] at this
                simpa [Addr.add_lit, Nat.add_assoc] using this
              exact ⟨va, vk, ⟨hat 0 (by omega), hat 1 (by omega), hat 2 (by omega), hat 3 (by omega), hat 4 (by omega)⟩, hon⟩
          · have : ∀ l : List Nat, (∀ i ∈ l, i < len) → smK N (l.map f) := by
              intro l
              induction l with
              | nil => intro _; rw [List.map_nil, smK]; trivial
              | cons x r ihl =>
                intro hl
                have q1 := (hf4 x (hl x (by simp))).1
                have q2 := ihl (fun i hi => hl i (by simp [hi]))
                rw [List.map_cons, smK]
                exact ⟨q1, q2⟩
            exact this _ (fun i hi => List.mem_range.1 hi)
      obtain ⟨ks, hks, hkl, hkm⟩ := hkids
      refine ⟨.mk i a.data.toList b.data.toList qs ks, c3, c4, by rw [hi, ha, hb]; rfl, NdOn.of hqs hks, ?_⟩
      exact smT_def.2 ⟨by show a.data.toList.length ≤ N; omega, by show b.data.toList.length ≤ N; omega, hqN, hqa, hkl, hkm⟩

set_option maxRecDepth 100000 in
theorem open_nodeTU {N : Nat} {r : Reach} {b0 : Nat} {v : Value} {d : DataW H} {p : List MemPlace} (hv : Value.okWide Tryz.prog W r b0 26 v) (h : DataW.Trod enc Tryz.prog W 0 (fun _ => true) true 26 v d p)
    (hw : ∀ m ∈ d.weights Tryz.prog 26, m ≤ reachBytes) (hN : Rows.uptoBulk d ≤ N) : ∃ (t : Tr) (va vk : Value), v = ndV t va vk ∧ NdOn W (fun b => b < W.heap.size) t va vk ∧ smT N t := by
  obtain ⟨cs, rfl, _⟩ := okWide_struct Tryz.underlying26 hv
  obtain ⟨fuel, hf⟩ := h
  obtain ⟨t, va, vk, hcs, h1, h2⟩ := open_nodeU N fuel _ _ _ hf hw hN
  refine ⟨t, va, vk, ?_, h1, h2⟩
  obtain ⟨l⟩ := cs
  have : l = [.int .i64 t.kd, .string (bs t.nm), .string (bs t.tx), va, vk] := hcs
  rw [this]
  rfl
end
end Go.Proofs.YtognlnjamlhmhaaGreatDoor.Char
