/- An argument of type Expr, opened: what it reads as, and where it lies. -/
import Derived.Test.YtapljbdklhnfkaaGreatDoorPk04
import Derived.Deep.Slices
import Derived.ChangeArms
import Derived.SizedLaws
import Derived.Carry
import Derived.OpenShut
namespace Go.Proofs.YtapljbdklhnfkaaGreatDoor.Char
open Go.RowKit Go.Lib Go.ChangeShapes Go.WideShapes Go.Deep

theorem cells_ex : Tryz.prog.cellsOf 28 = 7 := by kernel_rfl
theorem cells_stp : Tryz.prog.cellsOf 54 = 5 := by kernel_rfl
theorem cells_dec : Tryz.prog.cellsOf 24 = 2 := by kernel_rfl
theorem cells_tst : Tryz.prog.cellsOf 52 = 3 := by kernel_rfl
theorem cells_str : Tryz.prog.cellsOf 9 = 1 := by kernel_rfl
theorem cells_int : Tryz.prog.cellsOf 3 = 1 := by kernel_rfl
theorem cells_i64 : Tryz.prog.cellsOf 2 = 1 := by kernel_rfl
theorem cells_bool : Tryz.prog.cellsOf 4 = 1 := by kernel_rfl
theorem cells_exs : Tryz.prog.cellsOf 25 = 1 := by kernel_rfl
theorem cells_sts : Tryz.prog.cellsOf 26 = 1 := by kernel_rfl
theorem bytes_ex : Tryz.prog.bytesOf 28 = 96 := by kernel_rfl
theorem bytes_stp : Tryz.prog.bytesOf 54 = 64 := by kernel_rfl
instance : Inhabited Ex := ⟨ex0⟩
instance : Inhabited St := ⟨.mk 0 0 [] false []⟩

theorem weights_all {H : Type} {P : Program} {e : TypeId} : ∀ {l : List (DataW H)} {d : DataW H}, d ∈ l → ∀ n ∈ d.weights P e, n ∈ DataW.weightsAll P e l
  | [], _, hd, _, _ => by cases hd
  | x :: r, d, hd, n, hn => by
    rw [DataW.weightsAll, List.mem_append]
    rcases List.mem_cons.1 hd with rfl | hd
    · exact .inl hn
    · exact .inr (weights_all hd n hn)
theorem str_reach {H : Type} {d : DataW H} {l : List UInt8} (h : d = .lit (.string l)) (hw : ∀ m ∈ d.weights Tryz.prog 9, m ≤ reachBytes) : l.length ≤ 2 ^ 47 := by
  have := hw l.length (by
    rw [h, DataW.weights]
    simp)
  unfold reachBytes at this
  omega
theorem okI_of {k : Int} (h : (Lit.int .i64 k).wf = true) : okI k := by
  have := bounds_i64 h
  unfold okI
  omega

section
variable {H : Type} {enc : TypeId × Value → H} {W : World}

/-- what opens an expression of a lesser fuel -/
def OpE (enc : TypeId × Value → H) (W : World) (n : Nat) : Prop := ∀ (cs : List Value) (d : DataW H) (p : List MemPlace), DataW.trod enc Tryz.prog W 0 (fun _ => true) true n 28 cs = some (d, p) → (∀ m ∈ d.weights Tryz.prog 28, m ≤ reachBytes) →
    ∃ (x : Ex) (vk vs : Value), cs = exC x vk vs ∧ ExOn W (fun b => b < W.heap.size) x vk vs ∧ wfE (2 ^ 47) x
def OpS (enc : TypeId × Value → H) (W : World) (n : Nat) : Prop := ∀ (cs : List Value) (d : DataW H) (p : List MemPlace), DataW.trod enc Tryz.prog W 0 (fun _ => true) true n 54 cs = some (d, p) → (∀ m ∈ d.weights Tryz.prog 54, m ≤ reachBytes) →
    ∃ (x : St) (vp : Value), cs = stpC x vp ∧ StOn W (fun b => b < W.heap.size) x vp ∧ wfS (2 ^ 47) x

set_option maxRecDepth 100000 in
theorem open_exs {n : Nat} (ih : ∀ m, m < n → OpE enc W m) {cv : Value} {d : DataW H} {p : List MemPlace} (h : DataW.trod enc Tryz.prog W 0 (fun _ => true) true n 25 [cv] = some (d, p))
    (hw : ∀ m ∈ d.weights Tryz.prog 25, m ≤ reachBytes) : ∃ ks : List Ex, KdOn W (fun b => b < W.heap.size) cv ks ∧ ks.length ≤ 2 ^ 47 ∧ wfEs (2 ^ 47) ks := by
  rcases DataW.trod_slice Tryz.underlying25 h with ⟨hc, _⟩ | ⟨ad, len, cap, elems, rest, k', hk', hc, hx4, _, _, _, hel, hall, _, _⟩
  · simp only [List.cons.injEq, and_true] at hc
    exact ⟨[], ⟨none, 0, hc, .inl rfl⟩, by simp, by rw [wfEs]; trivial⟩
  · simp only [List.cons.injEq, and_true] at hc
    rw [cells_ex] at hall
    simp only [Prod.mk.injEq] at hx4
    obtain ⟨rfl, _⟩ := hx4
    have hlen : len ≤ 2 ^ 47 := by
      have := hw ((elems.map (·.1)).length * 96 + (rest.map (·.1)).length * 96) (by
        rw [DataW.weights]
        simp only [Tryz.underlying25, bytes_ex, Nat.add_mul]
        exact List.mem_cons_self)
      simp only [List.length_map] at this
      unfold reachBytes at this
      omega
    obtain ⟨f, hf4⟩ := choose_lt (α := Ex) (n := len) (p := fun i t => wfE (2 ^ 47) t ∧ ∃ va vk, W.cells? 0 (ad.add (i * 7)) 7 = some (exC t va vk) ∧ ExOn W (fun b => b < W.heap.size) t va vk) (fun i hi => by
      have hb := hall i hi
      rw [List.getElem?_eq_getElem (by omega), Option.bind_eq_some_iff] at hb
      obtain ⟨cs', e1, e2⟩ := hb
      obtain ⟨t, va, vk, rfl, hon, hmx⟩ := ih k' (by omega) cs' _ _ e2 (fun m hm => hw m (by
        rw [DataW.weights]
        simp only [Tryz.underlying25]
        exact List.mem_cons_of_mem _ (List.mem_append_left _ (weights_all (List.mem_map_of_mem (List.getElem_mem (by omega))) m hm))))
      exact ⟨t, hmx, va, vk, e1, hon⟩)
    refine ⟨(List.range len).map f, ⟨some ad, cap, by rw [hc]; simp, ?_⟩, by simpa using hlen, wfEs_of fun j hj => by simp only [List.length_map, List.length_range] at hj; simpa using (hf4 j hj).1⟩
    by_cases h0 : len = 0
    · subst h0; exact .inl rfl
    · obtain ⟨g, off, spot⟩ := ad
      obtain ⟨_, va, vk, hc0, _⟩ := hf4 0 (by omega)
      have hc1 := (World.cells?_some hc0).2.2 0 (by omega)
      rw [add_add] at hc1
      have hspot : spot = none := by simpa [Addr.add, exC] using World.cell?_spot hc1
      subst hspot
      refine .inr ⟨g, off, rfl, cell_lt (a := ⟨g, off, none⟩) (by simpa [Addr.add, exC] using hc1), KsOn.of fun i hi => ?_⟩
      simp only [List.length_map, List.length_range] at hi
      simp only [List.getElem_map, List.getElem_range]
      obtain ⟨_, va, vk, hcs, hon⟩ := hf4 i hi
      have hcell := (World.cells?_some hcs).2.2
      refine ⟨va, vk, fun j u hu => ?_, hon⟩
      have hj : j < 7 := by
        have := (List.getElem?_eq_some_iff.1 hu).1
        simpa [exC] using this
      have := hcell j hj
      rw [add_add] at this
      rw [hu] at this
      simpa [Addr.add_lit, Nat.add_assoc] using this

set_option maxRecDepth 100000 in
theorem open_step {n : Nat} (ih : ∀ m, m < n → OpE enc W m) : OpS enc W n := by
  intro cs d p h hw
  obtain ⟨xs, k, hk, hx, hlen, hxl, hf⟩ := DataW.trod_struct Tryz.underlying54 h
  rw [cells_stp] at hlen
  match cs, hlen with
  | [c0, c1, c2, c3, c4], _ =>
    match xs, hxl with
    | [y0, y1, y2], _ =>
      have h0 := hf 0 _ rfl
      have h1 := hf 1 _ rfl
      have h2 := hf 2 _ rfl
      simp only [cells_tst, cells_int, cells_exs, List.drop_zero, List.take_succ_cons, List.take_zero, List.getElem?_cons_zero, List.getElem?_cons_succ, List.drop_succ_cons, List.getElem_toArray, List.getElem_cons_zero, List.getElem_cons_succ] at h0 h1 h2
      obtain ⟨zs, k2, hk2, hz, _, hzl, hfz⟩ := DataW.trod_struct Tryz.underlying52 h1
      match zs, hzl with
      | [z0, z1, z2], _ =>
        have g0 := hfz 0 _ rfl
        have g1 := hfz 1 _ rfl
        have g2 := hfz 2 _ rfl
        simp only [cells_str, cells_int, cells_bool, List.drop_zero, List.take_succ_cons, List.take_zero, List.getElem?_cons_zero, List.getElem?_cons_succ, List.drop_succ_cons, List.getElem_toArray, List.getElem_cons_zero, List.getElem_cons_succ] at g0 g1 g2
        obtain ⟨ax, hax, _, wax⟩ := DataW.trod_int Tryz.underlying3 h0
        obtain ⟨tk, htk, _, wtk⟩ := DataW.trod_int Tryz.underlying3 g0
        obtain ⟨nm, hnm, ynm, _⟩ := DataW.trod_string Tryz.underlying9 g1
        obtain ⟨hs, hhs, _⟩ := DataW.trod_bool Tryz.underlying4 g2
        simp only [List.cons.injEq, and_true] at hax htk hnm hhs
        simp only [Prod.mk.injEq] at hx
        obtain ⟨rfl, _⟩ := hx
        have hwe : ∀ (j : Nat) (t : TypeId) (e : DataW H), ([3, 52, 25] : List TypeId)[j]? = some t → ([y0, y1, y2].map (·.1))[j]? = some e → ∀ m ∈ e.weights Tryz.prog t, m ≤ reachBytes := fun j t e ht he m hm => by
          refine hw m ?_
          rw [DataW.weights]
          simp only [Tryz.underlying54]
          exact DataW.weights_mem_each ht he m hm
        have hwt := hwe 1 _ _ rfl rfl
        have hz1 : y1.1 = .agg ([z0, z1, z2].map (·.1)) := by rw [show y1 = (y1.1, y1.2) from rfl, Prod.mk.injEq] at hz; exact hz.1
        change ∀ m ∈ DataW.weights Tryz.prog 52 y1.1, m ≤ reachBytes at hwt
        rw [hz1] at hwt
        have hwn : ∀ m ∈ z1.1.weights Tryz.prog 9, m ≤ reachBytes := fun m hm => by
          refine hwt m ?_
          rw [DataW.weights]
          simp only [Tryz.underlying52]
          exact DataW.weights_mem_each (j := 1) (t := 9) (d := z1.1) rfl rfl m hm
        have hn1 := str_reach (congrArg Prod.fst ynm) hwn
        obtain ⟨ps, hps, hpl, hpw⟩ := open_exs (fun m hm => ih m (by omega)) (d := y2.1) (p := y2.2) h2 (hwe 2 _ _ rfl rfl)
        exact ⟨.mk ax tk nm.data.toList hs ps, c4, by rw [hax, htk, hnm, hhs]; rfl, StOn.iff.2 hps, by rw [wfS]; exact ⟨⟨okI_of wax, okI_of wtk, hn1, hpl⟩, hpw⟩⟩

set_option maxRecDepth 100000 in
theorem open_sts {n : Nat} (ih : ∀ m, m < n → OpE enc W m) {cv : Value} {d : DataW H} {p : List MemPlace} (h : DataW.trod enc Tryz.prog W 0 (fun _ => true) true n 26 [cv] = some (d, p))
    (hw : ∀ m ∈ d.weights Tryz.prog 26, m ≤ reachBytes) : ∃ ks : List St, SdOn W (fun b => b < W.heap.size) cv ks ∧ ks.length ≤ 2 ^ 47 ∧ wfSs (2 ^ 47) ks := by
  rcases DataW.trod_slice Tryz.underlying26 h with ⟨hc, _⟩ | ⟨ad, len, cap, elems, rest, k', hk', hc, hx4, _, _, _, hel, hall, _, _⟩
  · simp only [List.cons.injEq, and_true] at hc
    exact ⟨[], ⟨none, 0, hc, .inl rfl⟩, by simp, by rw [wfSs]; trivial⟩
  · simp only [List.cons.injEq, and_true] at hc
    rw [cells_stp] at hall
    simp only [Prod.mk.injEq] at hx4
    obtain ⟨rfl, _⟩ := hx4
    have hlen : len ≤ 2 ^ 47 := by
      have := hw ((elems.map (·.1)).length * 64 + (rest.map (·.1)).length * 64) (by
        rw [DataW.weights]
        simp only [Tryz.underlying26, bytes_stp, Nat.add_mul]
        exact List.mem_cons_self)
      simp only [List.length_map] at this
      unfold reachBytes at this
      omega
    obtain ⟨f, hf4⟩ := choose_lt (α := St) (n := len) (p := fun i t => wfS (2 ^ 47) t ∧ ∃ vp, W.cells? 0 (ad.add (i * 5)) 5 = some (stpC t vp) ∧ StOn W (fun b => b < W.heap.size) t vp) (fun i hi => by
      have hb := hall i hi
      rw [List.getElem?_eq_getElem (by omega), Option.bind_eq_some_iff] at hb
      obtain ⟨cs', e1, e2⟩ := hb
      obtain ⟨t, vp, rfl, hon, hmx⟩ := open_step (n := k') (fun m hm => ih m (by omega)) cs' _ _ e2 (fun m hm => hw m (by
        rw [DataW.weights]
        simp only [Tryz.underlying26]
        exact List.mem_cons_of_mem _ (List.mem_append_left _ (weights_all (List.mem_map_of_mem (List.getElem_mem (by omega))) m hm))))
      exact ⟨t, hmx, vp, e1, hon⟩)
    refine ⟨(List.range len).map f, ⟨some ad, cap, by rw [hc]; simp, ?_⟩, by simpa using hlen, wfSs_of fun j hj => by simp only [List.length_map, List.length_range] at hj; simpa using (hf4 j hj).1⟩
    by_cases h0 : len = 0
    · subst h0; exact .inl rfl
    · obtain ⟨g, off, spot⟩ := ad
      obtain ⟨_, vp, hc0, _⟩ := hf4 0 (by omega)
      have hc1 := (World.cells?_some hc0).2.2 0 (by omega)
      rw [add_add] at hc1
      have hspot : spot = none := by simpa [Addr.add, stpC] using World.cell?_spot hc1
      subst hspot
      refine .inr ⟨g, off, rfl, cell_lt (a := ⟨g, off, none⟩) (by simpa [Addr.add, stpC] using hc1), SsOn.of fun i hi => ?_⟩
      simp only [List.length_map, List.length_range] at hi
      simp only [List.getElem_map, List.getElem_range]
      obtain ⟨_, vp, hcs, hon⟩ := hf4 i hi
      have hcell := (World.cells?_some hcs).2.2
      refine ⟨vp, fun j u hu => ?_, hon⟩
      have hj : j < 5 := by
        have := (List.getElem?_eq_some_iff.1 hu).1
        simpa [stpC] using this
      have := hcell j hj
      rw [add_add] at this
      rw [hu] at this
      simpa [Addr.add_lit, Nat.add_assoc] using this

set_option maxRecDepth 100000 in
theorem open_ex : ∀ n, OpE enc W n := by
  intro n
  induction n using Nat.strongRecOn with
  | _ n ih =>
  intro cs d p h hw
  obtain ⟨xs, k, hk, hx, hlen, hxl, hf⟩ := DataW.trod_struct Tryz.underlying28 h
  rw [cells_ex] at hlen
  match cs, hlen with
  | [c0, c1, c2, c3, c4, c5, c6], _ =>
    match xs, hxl with
    | [y0, y1, y2, y3, y4, y5], _ =>
      have h0 := hf 0 _ rfl
      have h1 := hf 1 _ rfl
      have h2 := hf 2 _ rfl
      have h3 := hf 3 _ rfl
      have h4 := hf 4 _ rfl
      have h5 := hf 5 _ rfl
      simp only [cells_dec, cells_str, cells_bool, cells_sts, cells_int, cells_exs, List.drop_zero, List.take_succ_cons, List.take_zero, List.getElem?_cons_zero, List.getElem?_cons_succ, List.drop_succ_cons, List.getElem_toArray, List.getElem_cons_zero, List.getElem_cons_succ] at h0 h1 h2 h3 h4 h5
      obtain ⟨zs, k2, hk2, hz, _, hzl, hfz⟩ := DataW.trod_struct Tryz.underlying24 h2
      match zs, hzl with
      | [z0, z1], _ =>
        have g0 := hfz 0 _ rfl
        have g1 := hfz 1 _ rfl
        simp only [cells_i64, cells_int, List.drop_zero, List.take_succ_cons, List.take_zero, List.getElem?_cons_zero, List.getElem?_cons_succ, List.drop_succ_cons, List.getElem_toArray, List.getElem_cons_zero, List.getElem_cons_succ] at g0 g1
        obtain ⟨op, hop, _, wop⟩ := DataW.trod_int Tryz.underlying3 h0
        obtain ⟨s, hs, ys, _⟩ := DataW.trod_string Tryz.underlying9 h1
        obtain ⟨tg, htg, _, wtg⟩ := DataW.trod_int Tryz.underlying3 g0
        obtain ⟨vl, hvl, _, wvl⟩ := DataW.trod_int Tryz.underlying2 g1
        obtain ⟨ab, hab, _⟩ := DataW.trod_bool Tryz.underlying4 h3
        simp only [List.cons.injEq, and_true] at hop hs htg hvl hab
        simp only [Prod.mk.injEq] at hx
        obtain ⟨rfl, _⟩ := hx
        have hwe : ∀ (j : Nat) (t : TypeId) (e : DataW H), ([3, 9, 24, 4, 25, 26] : List TypeId)[j]? = some t → ([y0, y1, y2, y3, y4, y5].map (·.1))[j]? = some e → ∀ m ∈ e.weights Tryz.prog t, m ≤ reachBytes := fun j t e ht he m hm => by
          refine hw m ?_
          rw [DataW.weights]
          simp only [Tryz.underlying28]
          exact DataW.weights_mem_each ht he m hm
        have hs1 := str_reach (congrArg Prod.fst ys) (hwe 1 _ _ rfl rfl)
        obtain ⟨ks, hks, hkl, hkw⟩ := open_exs (fun m hm => ih m (by omega)) (d := y4.1) (p := y4.2) h4 (hwe 4 _ _ rfl rfl)
        obtain ⟨ss, hss, hsl, hsw⟩ := open_sts (fun m hm => ih m (by omega)) (d := y5.1) (p := y5.2) h5 (hwe 5 _ _ rfl rfl)
        exact ⟨.mk op s.data.toList tg vl ab ks ss, c5, c6, by rw [hop, hs, htg, hvl, hab]; rfl, ExOn.iff.2 ⟨hks, hss⟩, by rw [wfE]; exact ⟨⟨okI_of wop, okI_of wtg, okI_of wvl, hs1, hkl, hsl⟩, hkw, hsw⟩⟩

set_option maxRecDepth 100000 in
theorem open_exprT {r : Reach} {b0 : Nat} {v : Value} {d : DataW H} {p : List MemPlace} (hv : Value.okWide Tryz.prog W r b0 28 v) (h : DataW.Trod enc Tryz.prog W 0 (fun _ => true) true 28 v d p)
    (hw : ∀ m ∈ d.weights Tryz.prog 28, m ≤ reachBytes) : ∃ (t : Ex) (va vk : Value), v = exV t va vk ∧ ExOn W (fun b => b < W.heap.size) t va vk ∧ wfE (2 ^ 47) t := by
  obtain ⟨cs, rfl, _⟩ := okWide_struct Tryz.underlying28 hv
  obtain ⟨fuel, hf⟩ := h
  obtain ⟨t, va, vk, hcs, h1, h2⟩ := open_ex fuel _ _ _ hf hw
  refine ⟨t, va, vk, ?_, h1, h2⟩
  obtain ⟨l⟩ := cs
  have : l = exC t va vk := hcs
  rw [this]
  rfl
theorem laid_out : laidOutB Tryz.prog = true := by kernel_rfl
end
end Go.Proofs.YtapljbdklhnfkaaGreatDoor.Char
