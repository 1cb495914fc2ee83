/- Mathematics: the program's map of rows, and the document's one list. -/
import Derived.Test.YtpimdmjhnogelaaSweep9
import Derived.Test.YtpimdmjhnogelaaInstall9
import Derived.Test.YtpimdmjhnogelaaRefIds
namespace Go.Proofs.Ytpimdmjhnogelaa.Char
open Go.RowKit Go.Lib

/-- rows by nodes hold what one list holds -/
def Tied (X : Int → List VeV) (L : List On) : Prop := ∀ id, (X id).map toVe = versL L id
theorem Tied.len {X : Int → List VeV} {L : List On} (h : Tied X L) (id : Int) : (X id).length = (versL L id).length := by rw [← h id, List.length_map]
theorem versL_le (L : List On) (id : Int) : (versL L id).length ≤ L.length := by
  unfold versL
  rw [List.length_map]
  exact List.length_filter_le _ _
theorem Tied.empty {X : Int → List VeV} {L : List On} (h : Tied X L) (id : Int) : (X id).isEmpty = (versL L id).isEmpty := by
  have := h.len id
  cases hX : X id <;> cases hv : versL L id <;> simp_all
/-- the sum over the nodes that have a version is that over all -/
theorem cnt_all (X : Int → List VeV) (f : Int → Nat) (hf : ∀ id, X id = [] → f id = 0) (g : Nat) : ((idsX g X).map f).sum = ((List.range' 1 g).map fun id : Nat => f (id : Int)).sum := by
  unfold idsX
  have key : ∀ l : List Nat, (((l.filter fun id : Nat => !(X (id : Int)).isEmpty).map Int.ofNat).map f).sum = (l.map fun id : Nat => f (id : Int)).sum := by
    intro l
    induction l with
    | nil => rfl
    | cons a r ih =>
      rw [List.filter_cons]
      by_cases h : X (a : Int) = []
      · rw [if_neg (by simp [h]), ih, List.map_cons, List.sum_cons, hf _ h, Nat.zero_add]
      · rw [if_pos (by simpa using h), List.map_cons, List.map_cons, List.sum_cons, ih, List.map_cons, List.sum_cons]
        rfl
  exact key _
theorem cnt_len {X : Int → List VeV} {S : Sto} (h : Tied X S.L) (hi : InvS S) : cntL X (idsX S.given X) = S.L.length := by
  unfold cntL
  rw [cnt_all X (fun id => (X id).length) (fun id hid => by rw [hid]; rfl), ← count_range S.given S.L hi.ids]
  congr 1
  exact List.map_congr_left fun id _ => h.len _
theorem ids_eq {X : Int → List VeV} {L : List On} (h : Tied X L) : ∀ g : Nat, idsX g X = idsL L g
  | 0 => rfl
  | g + 1 => by
    have ih := ids_eq h g
    unfold idsX at ih ⊢
    rw [List.range'_concat, List.filter_append, List.map_append, ih, idsL, ← h.empty]
    have e : ((1 + 1 * g : Nat) : Int) = ((g + 1 : Nat) : Int) := by omega
    cases hx : (X ((g + 1 : Nat) : Int)).isEmpty with
    | true => rw [List.filter_cons, e, hx]; simp
    | false =>
      rw [List.filter_cons, e, hx]
      simp
      omega
/-- what a sweep leaves of a row -/
theorem cut_sw {o : Nat} {xs : List VeV} : cutV o (xs.map toVe) = (swR o xs).map toVe := by
  unfold cutV swR swN
  rw [lowV_up, List.length_map, List.length_take, Nat.min_eq_left (upN_le o xs), List.getLast?_map, List.getLast?_take]
  have hle := upN_le o xs
  by_cases h0 : upN o xs = 0
  · rw [if_pos h0, if_pos h0]; rfl
  · rw [if_neg h0, if_neg h0]
    have hk : upN o xs - 1 < xs.length := by omega
    rw [List.getD_eq_getElem?_getD, List.getElem?_eq_getElem hk]
    simp only [Option.getD_some]
    show (if (toVe xs[upN o xs - 1]).r.gone = true then _ else _) = _
    unfold toVe
    dsimp only
    split
    · rw [← List.map_drop]
    · rw [← List.map_drop]
theorem sw_sweep {o : Nat} {xs : List VeV} (h : upX xs) : (swR o xs).map toVe = sweepV o (xs.map toVe) := by
  rw [sweepV_cut ((upX_iff xs).1 h), cut_sw]
theorem Xp_all {o : Nat} {X : Int → List VeV} {gv : Nat} (h : ∀ id, X id ≠ [] → 1 ≤ id ∧ id ≤ (gv : Int)) (id : Int) : Xp o X (idsX gv X) id = swR o (X id) := by
  unfold Xp
  by_cases hm : id ∈ idsX gv X
  · rw [if_pos hm]
  · rw [if_neg hm]
    have : X id = [] := by
      by_cases hx : X id = []
      · exact hx
      · exact absurd (mem_idsX.2 ⟨h id hx, hx⟩) hm
    rw [this]
    rfl
theorem Tied.sweep {X : Int → List VeV} {L : List On} {gv o : Nat} (h : Tied X L) (hi : ∀ id, X id ≠ [] → 1 ≤ id ∧ id ≤ (gv : Int)) (hu : ∀ id, upX (X id)) : Tied (Xp o X (idsX gv X)) (sweepL o L) := fun id => by
  rw [Xp_all hi, sw_sweep (hu id), h id, vers_sweep]
theorem sum_sub : ∀ (l : List Nat) (f g k : Nat → Nat), (∀ x, x ∈ l → f x = g x + k x) → (l.map f).sum = (l.map g).sum + (l.map k).sum
  | [], _, _, _, _ => rfl
  | a :: r, f, g, k, h => by
    have h1 := sum_sub r f g k fun x hx => h x (List.mem_cons_of_mem _ hx)
    have h2 := h a List.mem_cons_self
    simp only [List.map_cons, List.sum_cons]
    omega
theorem sum_sweep {X : Int → List VeV} {S : Sto} {o : Nat} (h : Tied X S.L) (hi : InvS S) (hu : ∀ id, upX (X id)) : S.L.length = (sweepL o S.L).length + sumL o X (idsX S.given X) := by
  have h1 := count_range S.given S.L hi.ids
  have h2 := count_range S.given (sweepL o S.L) (hi.sweep o).ids
  rw [← h1, ← h2]
  unfold sumL
  rw [cnt_all X (fun id => swN o (X id)) (fun id hid => by rw [hid]; rfl)]
  refine sum_sub _ _ _ _ fun id _ => ?_
  have h3 : versL (sweepL o S.L) (id : Int) = (swR o (X (id : Int))).map toVe := by rw [sw_sweep (hu _), h, vers_sweep]
  have h4 := swN_le o (X (id : Int))
  have h5 := h.len (id : Int)
  rw [h3, List.length_map]
  unfold swR
  rw [List.length_drop]
  omega
theorem layC_vers (t : Nat) (cs : List (Int × Rc)) (id : Int) : versL (layC t cs) id = (cs.filter fun c => c.1 == id).map fun c => ⟨t, c.2⟩ := by
  unfold versL layC
  rw [List.filter_map, List.map_map]
  rfl
theorem Tied.lay {X : Int → List VeV} {L : List On} {t : Nat} {ys : List ChV} {cs : List (Int × Rc)} (h : Tied X L) (hy : ys.map toCh = cs) : Tied (layX X t ys) (L ++ layC t cs) := fun id => by
  unfold layX
  rw [List.map_append, h id, versL_app, layC_vers, ← hy, List.filter_map, List.map_map, List.map_map]
  rfl
theorem Tied.start : Tied X1 newS.L := fun id => by
  unfold X1 newS
  by_cases h : id = 1
  · subst h; rfl
  · rw [if_neg h, versL_cons, if_neg (fun e => h e.symm)]; rfl
theorem Tied.times {X : Int → List VeV} {S : Sto} (h : Tied X S.L) (hi : InvS S) (id : Int) (x : VeV) (hx : x ∈ X id) : x.1 ≤ S.last := by
  have : toVe x ∈ versL S.L id := by rw [← h id]; exact List.mem_map_of_mem hx
  unfold versL at this
  obtain ⟨y, hy, e⟩ := List.mem_map.1 this
  have h2 := hi.tms y (List.mem_filter.1 hy).1
  rw [e] at h2
  exact h2
/-- the document's way of asking is asking one node's versions -/
theorem at_tie (id : Int) (t : Nat) (xs : List OnV) : atV (versL (xs.map toOn) id) t = if (atR (atL id t xs)).2 = true then some (atR (atL id t xs)).1.1 else none := by
  have e : ((versL (xs.map toOn) id).filter fun x => decide (x.time ≤ t)) = (xs.filter (atF id t)).map fun x => toVe x.2 := by
    unfold versL
    rw [List.filter_map, List.filter_filter, List.filter_map, List.map_map]
    congr 1
    refine List.filter_congr fun x _ => ?_
    unfold atF
    show (decide ((toOn x).v.time ≤ t) && ((toOn x).id == id)) = _
    unfold toOn toVe
    dsimp only
    by_cases h1 : x.1 = id <;> by_cases h2 : x.2.1 ≤ t <;> simp [h1, h2]
  unfold atV atL
  rw [e, List.getLast?_map]
  cases (xs.filter (atF id t)).getLast? with
  | none => rfl
  | some x =>
    show (if (toVe x.2).r.gone = true then none else some (toVe x.2).r) = _
    unfold atR toVe
    dsimp only
    by_cases hg : x.2.2.1.gone = true
    · simp [hg]
    · simp [hg]
theorem atR_none {c : Option OnV} (h : (atR c).2 = false) : (atR c).1 = rcV0 := by
  unfold atR at h ⊢
  cases c with
  | none => rfl
  | some x =>
    dsimp only at h ⊢
    split at h
    · rename_i hg; rw [if_pos hg]
    · cases h
end Go.Proofs.Ytpimdmjhnogelaa.Char
