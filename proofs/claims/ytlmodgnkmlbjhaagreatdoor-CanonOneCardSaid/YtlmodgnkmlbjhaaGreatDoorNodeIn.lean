import Derived.Test.YtlmodgnkmlbjhaaGreatDoorPkFew
import Derived.Deep.Slices
import Derived.ChangeArms
import Derived.SizedLaws
import Derived.Carry
namespace Go.Proofs.YtlmodgnkmlbjhaaGreatDoor
namespace Char
open Go.RowKit Go.Lib Go.ChangeShapes Go.WideShapes Go.Deep
theorem cells_nd : Tryz.prog.cellsOf 25 = 5 := by kernel_rfl
theorem cells_at : Tryz.prog.cellsOf 40 = 2 := by kernel_rfl
theorem cells_str : Tryz.prog.cellsOf 9 = 1 := by kernel_rfl
theorem cells_int : Tryz.prog.cellsOf 3 = 1 := by kernel_rfl
theorem cells_ats : Tryz.prog.cellsOf 22 = 1 := by kernel_rfl
theorem cells_nds : Tryz.prog.cellsOf 23 = 1 := by kernel_rfl
theorem bytes_at : Tryz.prog.bytesOf 40 = 32 := by kernel_rfl
instance : Inhabited Tr := ⟨grd0⟩
theorem weights_all {H : Type} {P : Program} {e : TypeId} : ∀ {l : List (DataW H)} {d : DataW H}, d ∈ l → ∀ n ∈ d.weights P e, n ∈ DataW.weightsAll P e l
 | [], _, hd, _, _ => by cases hd
 | x :: r, d, hd, n, hn => by
  rw [DataW.weightsAll, List.mem_append]
  rcases List.mem_cons.1 hd with rfl | hd
  ·exact .inl hn
  ·exact .inr (weights_all hd n hn)
section
variable {H : Type} {enc : TypeId × Value → H} {W : World}
set_option maxRecDepth 100000 in
theorem open_attr {n : Nat} {cs : List Value} {x : DataW H × List MemPlace} (h : DataW.trod enc Tryz.prog W 0 (fun _ => true) true n 40 cs = some x) :
  ∃ q : At2, cs = [.string (bs q.1), .string (bs q.2)] := by
 obtain ⟨xs, k, _, _, hlen, hxl, hf⟩ := DataW.trod_struct Tryz.underlying40 h
 rw [cells_at] at hlen
 match cs, hlen with
 | [c0, c1], _ =>
  match xs, hxl with
  | [y0, y1], _ =>
   have h0 := hf 0 _ rfl
   have h1 := hf 1 _ rfl
   simp only [cells_str, List.drop_zero, List.take_succ_cons, List.take_zero, List.getElem?_cons_zero, List.getElem?_cons_succ, List.drop_succ_cons, List.getElem_toArray, List.getElem_cons_zero, List.getElem_cons_succ] at h0 h1
   obtain ⟨a, ha, _, _⟩ := DataW.trod_string Tryz.underlying9 h0
   obtain ⟨b, hb, _, _⟩ := DataW.trod_string Tryz.underlying9 h1
   simp only [List.cons.injEq, and_true] at ha hb
   exact ⟨(a.data.toList, b.data.toList), by rw [ha, hb]; rfl⟩
set_option maxRecDepth 100000 in
theorem open_attrs {n : Nat} {cv : Value} {d : DataW H} {p : List MemPlace} (h : DataW.trod enc Tryz.prog W 0 (fun _ => true) true n 22 [cv] = some (d, p))
  (hw : ∀ m ∈ d.weights Tryz.prog 22, m ≤ reachBytes) : ∃ qs : List At2, AtsOn W (fun b => b < W.heap.size) cv qs ∧ qs.length ≤ 2 ^ 62 := by
 rcases open_slice Tryz.underlying22 h with ⟨hc, _⟩ | ⟨a, len, cap, m, k, D, Pl, hc, _, hl, hm, hmm, hx, hall⟩
 ·simp only [List.cons.injEq, and_true] at hc
  subst hc
  exact ⟨[], ⟨none, 0, 0, rfl, rfl, .inl rfl⟩, by simp⟩
 ·simp only [List.cons.injEq, and_true] at hc
  subst hc
  simp only [if_true] at hmm
  subst hmm
  rw [cells_at] at hall
  simp only [Prod.mk.injEq] at hx
  obtain ⟨rfl, _⟩ := hx
  have hlen : len ≤ 2 ^ 62 := by
   have := hw (((List.range len).map D).length * 32 + ((List.range (m - len)).map fun j => D (len + j)).length * 32) (by
    rw [DataW.weights]
    simp only [Tryz.underlying22, bytes_at, Nat.add_mul]
    exact List.mem_cons_self)
   simp only [List.length_map, List.length_range] at this
   unfold reachBytes at this
   omega
  obtain ⟨f, hf⟩ := choose_lt (α := At2) (n := len) (p := fun i x => W.cell? (a.add (i * 2)) = some (.string (bs x.1)) ∧ W.cell? (a.add (i * 2 + 1)) = some (.string (bs x.2))) (fun i hi => by
   obtain ⟨cs', h1, h2⟩ := hall i (by omega)
   obtain ⟨q, rfl⟩ := open_attr h2
   obtain ⟨_, _, hcell⟩ := World.cells?_some h1
   refine ⟨q, ?_, ?_⟩
   ·have := hcell 0 (by omega)
    rwa [add_add, Nat.add_zero] at this
   ·have := hcell 1 (by omega)
    rwa [add_add] at this)
  refine ⟨(List.range len).map f, ⟨some a, len, m, rfl, by simp, ?_⟩, by simpa using hlen⟩
  by_cases h0 : len = 0
  ·subst h0; exact .inl rfl
  ·obtain ⟨g, off, spot⟩ := a
   have hc0 := (hf 0 (by omega)).1
   have hspot : spot = none := by simpa [Addr.add] using World.cell?_spot hc0
   subst hspot
   refine .inr ⟨g, off, rfl, cell_lt (a := ⟨g, off, none⟩) (by simpa [Addr.add] using hc0), fun i hi => ?_⟩
   simp only [List.length_map, List.length_range] at hi
   have he : ((List.range len).map f).getD i ([], []) = f i := by simp [List.getD, hi]
   rw [he]
   obtain ⟨r0, r1⟩ := hf i hi
   exact ⟨by simpa [Addr.add_lit] using r0, by simpa [Addr.add_lit, Nat.add_assoc] using r1⟩
set_option maxRecDepth 100000 in
theorem open_node : ∀ (n : Nat) (cs : List Value) (d : DataW H) (p : List MemPlace), DataW.trod enc Tryz.prog W 0 (fun _ => true) true n 25 cs = some (d, p) → (∀ m ∈ d.weights Tryz.prog 25, m ≤ reachBytes) →
  ∃ (t : Tr) (va vk : Value), cs = [.int .i64 t.kd, .string (bs t.nm), .string (bs t.tx), va, vk] ∧ NdOn W (fun b => b < W.heap.size) t va vk ∧ mxT t ≤ 2 ^ 62 := by
 intro n
 induction n using Nat.strongRecOn with
 | _ n ih =>
 intro cs d p h hw
 obtain ⟨xs, k, hk, hx, hlen, hxl, hf⟩ := DataW.trod_struct Tryz.underlying25 h
 rw [cells_nd] at hlen
 match cs, hlen with
 | [c0, c1, c2, c3, c4], _ =>
  match xs, hxl with
  | [y0, y1, y2, y3, y4], _ =>
   have h0 := hf 0 _ rfl
   have h1 := hf 1 _ rfl
   have h2 := hf 2 _ rfl
   have h3 := hf 3 _ rfl
   have h4 := hf 4 _ rfl
   simp only [cells_str, cells_int, cells_ats, cells_nds, List.drop_zero, List.take_succ_cons, List.take_zero, List.getElem?_cons_zero, List.getElem?_cons_succ, List.drop_succ_cons, List.getElem_toArray, List.getElem_cons_zero, List.getElem_cons_succ] at h0 h1 h2 h3 h4
   obtain ⟨i, hi, _, _⟩ := DataW.trod_int Tryz.underlying3 h0
   obtain ⟨a, ha, _, _⟩ := DataW.trod_string Tryz.underlying9 h1
   obtain ⟨b, hb, _, _⟩ := DataW.trod_string Tryz.underlying9 h2
   simp only [List.cons.injEq, and_true] at hi ha hb
   simp only [Prod.mk.injEq] at hx
   obtain ⟨rfl, _⟩ := hx
   have hwe : ∀ (j : Nat) (t : TypeId) (e : DataW H), ([3, 9, 9, 22, 23] : List TypeId)[j]? = some t → ([y0, y1, y2, y3, y4].map (·.1))[j]? = some e → ∀ m ∈ e.weights Tryz.prog t, m ≤ reachBytes := fun j t e ht he m hm => by
    refine hw m ?_
    rw [DataW.weights]
    simp only [Tryz.underlying25]
    exact DataW.weights_mem_each ht he m hm
   obtain ⟨qs, hqs, hql⟩ := open_attrs (d := y3.1) (p := y3.2) h3 (hwe 3 _ _ rfl rfl)
   have hwk := hwe 4 _ _ rfl rfl
   have hkids : ∃ ks : List Tr, (∃ o i j, c4 = .slice o i j ∧ i = ks.length ∧ (ks = [] ∨ ∃ g off, o = some ⟨g, off, none⟩ ∧ g < W.heap.size ∧ KsOn W (fun b => b < W.heap.size) g off ks)) ∧ mxK ks ≤ 2 ^ 62 := by
    rcases DataW.trod_slice Tryz.underlying23 h4 with ⟨hc, _⟩ | ⟨ad, len, cap, elems, rest, k', hk', hc, hx4, _, _, _, hel, hall, _, _⟩
    ·simp only [List.cons.injEq, and_true] at hc
     exact ⟨[], ⟨none, 0, 0, hc, rfl, .inl rfl⟩, by rw [mxK]; omega⟩
    ·simp only [List.cons.injEq, and_true] at hc
     rw [cells_nd] at hall
     obtain ⟨f, hf4⟩ := choose_lt (α := Tr) (n := len) (p := fun i t => mxT t ≤ 2 ^ 62 ∧ ∃ va vk, W.cells? 0 (ad.add (i * 5)) 5 = some [.int .i64 t.kd, .string (bs t.nm), .string (bs t.tx), va, vk] ∧ NdOn W (fun b => b < W.heap.size) t va vk) (fun i hi => by
      have hb := hall i hi
      rw [List.getElem?_eq_getElem (by omega), Option.bind_eq_some_iff] at hb
      obtain ⟨cs', e1, e2⟩ := hb
      obtain ⟨t, va, vk, rfl, hon, hmx⟩ := ih k' (by omega) cs' _ _ e2 (fun m hm => hwk m (by
       rw [hx4, DataW.weights]
       simp only [Tryz.underlying23]
       exact List.mem_cons_of_mem _ (List.mem_append_left _ (weights_all (List.mem_map_of_mem (List.getElem_mem (by omega))) m hm))))
      exact ⟨t, hmx, va, vk, e1, hon⟩)
     refine ⟨(List.range len).map f, ⟨some ad, len, cap, hc, by simp, ?_⟩, ?_⟩
     ·by_cases h0 : len = 0
      ·subst h0; exact .inl rfl
      ·obtain ⟨g, off, spot⟩ := ad
       obtain ⟨_, va, vk, hc0, _⟩ := hf4 0 (by omega)
       have hc1 := (World.cells?_some hc0).2.2 0 (by omega)
       rw [add_add] at hc1
       have hspot : spot = none := by simpa [Addr.add] using World.cell?_spot hc1
       subst hspot
       refine .inr ⟨g, off, rfl, cell_lt (a := ⟨g, off, none⟩) (by simpa [Addr.add] using hc1), KsOn.of fun i hi => ?_⟩
       simp only [List.length_map, List.length_range] at hi
       simp only [List.getElem_map, List.getElem_range]
       obtain ⟨_, va, vk, hcs, hon⟩ := hf4 i hi
       have hcell := (World.cells?_some hcs).2.2
       have hat : ∀ j (hj : j < 5), W.cell? ⟨g, off + i * 5 + j, none⟩ = ([.int .i64 (f i).kd, .string (bs (f i).nm), .string (bs (f i).tx), va, vk] : List Value)[j]? := fun j hj => by
        have := hcell j hj
        rw [add_add] at this
        simpa [Addr.add_lit, Nat.add_assoc] using this
       exact ⟨va, vk, ⟨hat 0 (by omega), hat 1 (by omega), hat 2 (by omega), hat 3 (by omega), hat 4 (by omega)⟩, hon⟩
     ·have : ∀ l : List Nat, (∀ i ∈ l, i < len) → mxK (l.map f) ≤ 2 ^ 62 := by
       intro l
       induction l with
       | nil => intro _; rw [List.map_nil, mxK]; omega
       | cons x r ihl =>
        intro hl
        have q1 := (hf4 x (hl x (by simp))).1
        have q2 := ihl (fun i hi => hl i (by simp [hi]))
        rw [List.map_cons, mxK]
        omega
      exact this _ (fun i hi => List.mem_range.1 hi)
   obtain ⟨ks, hks, hkm⟩ := hkids
   refine ⟨.mk i a.data.toList b.data.toList qs ks, c3, c4, by rw [hi, ha, hb]; rfl, NdOn.of hqs hks, ?_⟩
   rw [mxT_def]
   exact Nat.max_le.2 ⟨hql, hkm⟩
set_option maxRecDepth 100000 in
theorem open_nodeT {r : Reach} {b0 : Nat} {v : Value} {d : DataW H} {p : List MemPlace} (hv : Value.okWide Tryz.prog W r b0 25 v) (h : DataW.Trod enc Tryz.prog W 0 (fun _ => true) true 25 v d p)
  (hw : ∀ m ∈ d.weights Tryz.prog 25, m ≤ reachBytes) : ∃ (t : Tr) (va vk : Value), v = ndV t va vk ∧ NdOn W (fun b => b < W.heap.size) t va vk ∧ mxT t ≤ 2 ^ 62 := by
 obtain ⟨cs, rfl, _⟩ := okWide_struct Tryz.underlying25 hv
 obtain ⟨fuel, hf⟩ := h
 obtain ⟨t, va, vk, hcs, h1, h2⟩ := open_node fuel _ _ _ hf hw
 refine ⟨t, va, vk, ?_, h1, h2⟩
 obtain ⟨l⟩ := cs
 have : l = [.int .i64 t.kd, .string (bs t.nm), .string (bs t.tx), va, vk] := hcs
 rw [this]
 rfl
theorem laid_out : laidOutB Tryz.prog = true := by kernel_rfl
end
end Char
end Go.Proofs.YtlmodgnkmlbjhaaGreatDoor
