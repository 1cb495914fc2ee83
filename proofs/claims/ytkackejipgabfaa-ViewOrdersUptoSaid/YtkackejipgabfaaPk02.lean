/- Count9 New9 Turn9 RecBox Copied9 Box8 ChOn Right9 -/
import Derived.Test.YtkackejipgabfaaPk01
import Derived.Laws.AppendOwn
import Derived.Maps.AppendAt
import Derived.OwnWalk
/- The walk of Count. -/
namespace Go.Proofs.Ytkackejipgabfaa.Char
open Go.RowKit Go.Lib Go.Sort Go.Maps
attribute [local go_sem] Oper.semAt_some

theorem wf_small {x : Int} (h1 : 1 ≤ x) (h2 : x ≤ 100000000) : (Lit.int .i64 x).wf = true := by
  have e1 : IntKind.i64.min = -9223372036854775808 := by rfl
  have e2 : IntKind.i64.max = 9223372036854775807 := by rfl
  simp [Lit.wf, e1, e2]
  constructor <;> omega
/-- what the store's iterator hands over -/
def xsP (gv : Nat) (X : Int → List VeV) (V : Int → Value) : List (Int × Value) := (idsX gv X).map fun id => (id, V id)
theorem xsP_fst (gv : Nat) (X : Int → List VeV) (V : Int → Value) : (xsP gv X V).map (·.1) = idsX gv X := by simp [xsP, Function.comp_def]
theorem xsP_len (gv : Nat) (X : Int → List VeV) (V : Int → Value) : (xsP gv X V).length ≤ gv := by unfold xsP; rw [List.length_map]; exact idsX_len
theorem xsP_mem {gv : Nat} {X : Int → List VeV} {V : Int → Value} {x : Int × Value} (h : x ∈ xsP gv X V) : x.2 = V x.1 ∧ 1 ≤ x.1 ∧ x.1 ≤ (gv : Int) ∧ X x.1 ≠ [] := by
  obtain ⟨id, hid, rfl⟩ := List.mem_map.1 h
  obtain ⟨⟨h1, h2⟩, h3⟩ := mem_idsX.1 hid
  exact ⟨rfl, h1, h2, h3⟩
theorem mem_of_pre {α : Type} {pre xs : List α} {x : α} (h : (pre ++ [x]) <+: xs) : x ∈ xs := by
  obtain ⟨t, rfl⟩ := h
  simp
theorem PSt.stN {Z : Nat → Prop} {B : Nat} {w : World} {b mb n : Nat} {D : DataW Value} {V : Int → Value} {X : Int → List VeV} {gv lt : Nat} (h : PSt Z B w b mb n D V X gv lt) (hg : gv ≤ 100000000) {Bt : Nat} (hbox : w.cell? ⟨Bt, 0, none⟩ = some (.pointer (some ⟨b, 0, none⟩))) (pre : List (Int × Value)) : StN b mb Bt (xsP gv X V) pre w :=
  ⟨hbox, h.cells.2.2.2.1, n, D, h.own, fun x hx => by rw [(xsP_mem (mem_of_pre hx)).1]; exact h.val _, fun _ => ⟨Nat.le_trans h.size hg, fun ss hp => by rw [xsP_fst]; exact h.keys hp⟩⟩
theorem xsP_wf {gv : Nat} (hg : gv ≤ 100000000) (X : Int → List VeV) (V : Int → Value) : ∀ x, x ∈ xsP gv X V → (Lit.int .i64 x.1).wf = true := fun x hx => by
  obtain ⟨_, h1, h2, _⟩ := xsP_mem hx
  exact wf_small h1 (by omega)
/-- how many versions -/
def cntL (X : Int → List VeV) (ids : List Int) : Nat := (ids.map fun id => (X id).length).sum
theorem cntL_snoc (X : Int → List VeV) (ids : List Int) (id : Int) : cntL X (ids ++ [id]) = cntL X ids + (X id).length := by simp [cntL]
theorem cntL_pre {X : Int → List VeV} {a b : List Int} (h : a <+: b) : cntL X a ≤ cntL X b := by
  obtain ⟨t, rfl⟩ := h
  simp [cntL]
theorem pre_fst {gv : Nat} {X : Int → List VeV} {V : Int → Value} {pre : List (Int × Value)} (h : pre <+: xsP gv X V) : pre.map (·.1) <+: idsX gv X := by
  rw [← xsP_fst gv X V]
  obtain ⟨t, ht⟩ := h
  exact ⟨t.map (·.1), by rw [← List.map_append, ht]⟩
set_option maxRecDepth 100000 in
set_option maxHeartbeats 4000000 in
theorem count_any {Z : Nat → Prop} {B : Nat} {w : World} {b mb n : Nat} {D : DataW Value} {V : Int → Value} {X : Int → List VeV} {gv lt : Nat} (h : PSt Z B w b mb n D V X gv lt) (hg : gv ≤ 10000000) (hc : cntL X (idsX gv X) ≤ 2 ^ 60) :
    Calls Try.prog 24 #[.pointer (some ⟨b, 0, none⟩)] w fun e w' => e = .returned (.int .i64 (cntL X (idsX gv X) : Int)) ∧ Below w.heap.size w w' := by
  have hM := fun (W : World) (hb : Below w.heap.size w W) => (callsIn_wide (n := 19)).2 (made_yes b W (h.below hb).cells.1)
  have HM := Lib.hid hM
  have HN := fun (W : World) => Lib.hid (nodes_in Fence.wide 19 trivial rfl b W)
  have H := Lib.hid h
  clear h hM
  refine (callsIn_wide (n := 20)).1 ?_
  refine callsIn_of_wp_marks Try.func24 rfl trivial ?_ rfl
  simp only [Try.ntmps24, List.size_toArray, List.length_cons, List.length_nil, Nat.reduceAdd, Nat.reduceSub, Array.replicate_succ, Array.replicate_zero, List.push_toArray, List.append_toArray, List.nil_append, List.cons_append]
  gi_wp2_with (first
    | (refine ⟨trivial, ?_⟩; gi_at_call 54; refine (HM.out _ (Below.refl _ _)).mono ?_; rintro e w' ⟨rfl, rfl⟩)
    | (refine ⟨trivial, ?_⟩; gi_at_call 55; refine (HN _).out.mono ?_; rintro e w' ⟨rfl, rfl⟩))
  obtain ⟨WL, hWL⟩ : ∃ WL, WL = (w'.alloc (.cells #[.int .i64 0] 3)).alloc (.cells #[.pointer (some ⟨b, 0, none⟩)] 45) := ⟨_, rfl⟩
  rw [← hWL]
  have hB0 : Below w'.heap.size w' WL := by rw [hWL]; exact ((Below.refl _ _).alloc (Nat.le_refl _) _).alloc (by simp) _
  have hsL : WL.heap.size = w'.heap.size + 2 := by rw [hWL]; simp
  have hbx : WL.cell? ⟨w'.heap.size, 0, none⟩ = some (.int .i64 0) ∧ WL.frozen? ⟨w'.heap.size, 0, none⟩ = false := by rw [hWL]; exact ⟨by go_simp, by go_simp⟩
  have hbt : WL.cell? ⟨w'.heap.size + 1, 0, none⟩ = some (.pointer (some ⟨b, 0, none⟩)) := by rw [hWL]; go_simp
  refine wpIn_rangeFunc_fix (F := Fence.wide) (n := 20) rfl (by omega) (gf := 87) (lb := #[.pointer (some ⟨w'.heap.size + 1, 0, none⟩)]) rfl trivial (enters_of Try.func87 (by kernel_rfl) rfl)
    (nodes1_fix 19 (by omega) b mb (w'.heap.size + 1) (xsP gv X V) (Nat.le_trans (xsP_len _ _ _) (by omega)) (xsP_wf (by omega) X V) WL) (Below.refl _ _) (fun _ => rfl)
    (fun _ pre W => Below w'.heap.size w' W ∧ WL.heap.size ≤ W.heap.size ∧ (W.cell? ⟨w'.heap.size, 0, none⟩ = some (.int .i64 (cntL X (pre.map (·.1)) : Int)) ∧ W.frozen? ⟨w'.heap.size, 0, none⟩ = false) ∧ W.cell? ⟨w'.heap.size + 1, 0, none⟩ = some (.pointer (some ⟨b, 0, none⟩)))
    ?keep ?st ?start (fun x => { tmps := #[.pointer (some ⟨b, 0, none⟩), undef, .int .i64 0, .pointer (some ⟨w'.heap.size, 0, none⟩), undef, x.2, .pointer (some ⟨b, 0, none⟩), .bool true, .bool false, .pointer (some ⟨b, 0, none⟩), .func (.func 87) #[] #[.pointer (some ⟨w'.heap.size + 1, 0, none⟩)], .int .i64 x.1, x.2, undef, undef, undef, undef, undef], defers := [] })
    ?assign ?body ?done
  case keep =>
    rintro m pre W l o o' ⟨k1, k2, ⟨k3, k4⟩, k5⟩ hl _ _ _
    have e1 : (W.putObj l o').heap[w'.heap.size]? = W.heap[w'.heap.size]? := World.putObj_heap_other (by omega)
    have e2 : (W.putObj l o').heap[w'.heap.size + 1]? = W.heap[w'.heap.size + 1]? := World.putObj_heap_other (by omega)
    exact ⟨below_putObj k1 (by omega) o', by rw [World.putObj_size]; exact k2, ⟨(World.cell?_of_block (w := W) (a := ⟨w'.heap.size, 0, none⟩) e1).trans k3, (World.frozen?_of_block (w := W) (a := ⟨w'.heap.size, 0, none⟩) e1).trans k4⟩, (World.cell?_of_block (w := W) (a := ⟨w'.heap.size + 1, 0, none⟩) e2).trans k5⟩
  case st =>
    rintro m pre W ⟨k1, _, _, k5⟩
    exact (H.out.below k1).stN (by omega) k5 pre
  case start =>
    intro W hb
    exact ⟨hB0.trans (hb.mono (by omega)), hb.size, ⟨(hb.cell (p := ⟨w'.heap.size, 0, none⟩) (by simp; omega)).trans hbx.1, (World.frozen?_of_block (w := WL) (a := ⟨w'.heap.size, 0, none⟩) (hb.block w'.heap.size (by omega))).trans hbx.2⟩, (hb.cell (p := ⟨w'.heap.size + 1, 0, none⟩) (by simp; omega)).trans hbt⟩
  case assign =>
    rintro l ⟨xi, xv⟩ W K hK
    simp only [encN]
    gi_wp2
    exact hK
  case body =>
    rintro l m pre ⟨xi, xv⟩ W hm hmW ⟨k1, k2, ⟨k3, k4⟩, k5⟩ hpx
    obtain ⟨e0, _⟩ := xsP_mem (mem_of_pre hpx)
    dsimp only at e0
    subst e0
    obtain ⟨o, j, hV⟩ := H.out.form xi
    have hle := cntL_pre (X := X) (pre_fst hpx)
    rw [List.map_append, List.map_cons, List.map_nil, cntL_snoc] at hle
    rw [hV]
    have HP : Hid ((pre ++ [(xi, V xi)]).map (·.1) = pre.map (·.1) ++ [xi]) := Lib.hid (by simp)
    have HV := Lib.hid hV
    have HK1 := Lib.hid k1
    have HK5 := Lib.hid k5
    clear hV hpx k1 k5
    gi_wp2
    rw [IntWalk.wrap64_in _ (by omega)]
    refine ⟨⟨HK1.out.setCell (p := ⟨w'.heap.size, 0, none⟩) (Nat.le_refl _) _, by rw [World.size_setCell]; omega, ⟨?_, by rw [World.frozen?_setCell]; exact k4⟩, ?_⟩, by rw [World.size_setCell]; exact hmW, fun k q1 q2 => heap_set_ne (by simp; omega)⟩
    · rw [World.cell?_setCell_same' _ _ _ (by rw [k3]; rfl), ← HV.out, HP.out, cntL_snoc, Int.natCast_add]
    · have := HK5.out
      rw [← this]
      exact World.cell?_of_block (w := W) (a := ⟨w'.heap.size + 1, 0, none⟩) (heap_set_ne (by simp))
  case done =>
    rintro D m W hD ⟨k1, k2, ⟨k3, k4⟩, k5⟩ hK
    rw [xsP_fst] at k3
    gi_wp2
    refine ⟨by simp, .inl ⟨_, _, rfl, run_takeDeferred hK, ?_⟩⟩
    exact ⟨_, results_tmp rfl _ _ _, rfl, below_putObj k1 (by omega) _⟩
end Go.Proofs.Ytkackejipgabfaa.Char

/- The walk of the program's New. -/
namespace Go.Proofs.Ytkackejipgabfaa.Char
open Go.RowKit Go.Lib

theorem wpList_insert_in {w : World} {ops : Array Oper} {rest : List Oper} {o : Oper} {a : Act} {Q : Exit → Act → World → Prop} {P : Program} (hg : o.guard = none) (m x v : Operand) (t : TypeId) (hop : o.op = Op.insert t m x v)
    (k e : TypeId) (K : Maps.Keyed P k) (ht : P.underlying t = some (.map k e)) (R : Value → Option (DataW Value × List MemPlace)) (b n : Nat) (D : DataW Value)
    (hm : a.eval m = .map (some b)) (hown : w.ownsMap P k R b n D) (hn : n < maxLen) (key val : Value) (kl : Lit) (hx : a.eval x = key) (hv : a.eval v = val) (hkey : keyOf P k key = some kl)
    (d : DataW Value) (ps : List MemPlace) (hval : R val = some (d, ps))
    (hK : ∀ w', w'.ownsMap P k R b (n + 1) (D.put kl d) → w.mapTurned w' b → wpList P ops Q rest (a.put o.dst undef) w') :
    wpList P ops Q (o :: rest) a w := by
  refine wpList_plain hg fun K' hK' => ?_
  obtain ⟨w', hrun, r1, r2⟩ := hown.store K ht hn hkey hval
  unfold Oper.wp
  simp [execOp, hop, hm, hx, hv, hrun, Result.andThen]
  exact hK' _ _ (hK w' r1 r2)
theorem has_put {D : DataW Value} (hD : Maps.IsMap D) (i j : Int) (v : Value) : Maps.has (D.put (kI i) (.held v)) (kI j) = if j = i then true else Maps.has D (kI j) := by
  by_cases h : j = i
  · subst h; rw [if_pos rfl]; exact Maps.has_put_same hD (kI_key j) _
  · rw [if_neg h]; exact Maps.has_put_other (kI_ne h) _
theorem val_put {D : DataW Value} (hD : Maps.IsMap D) (i j : Int) (v : Value) (z : DataW Value) : (D.put (kI i) (.held v)).atKey (kI j) z = if j = i then .held v else D.atKey (kI j) z := by
  by_cases h : j = i
  · subst h; rw [if_pos rfl]; exact Maps.atKey_put_same hD (kI_key j) _ _
  · rw [if_neg h]; exact Maps.atKey_put_other (kI_ne h) _ _
theorem has_del (D : DataW Value) (i j : Int) : Maps.has (D.del (kI i)) (kI j) = if j = i then false else Maps.has D (kI j) := by
  by_cases h : j = i
  · subst h; rw [if_pos rfl]; exact Maps.has_del_same
  · rw [if_neg h]; exact Maps.has_del_other (kI_ne h)
theorem val_del (D : DataW Value) (i j : Int) (z : DataW Value) : (D.del (kI i)).atKey (kI j) z = if j = i then z else D.atKey (kI j) z := by
  by_cases h : j = i
  · subst h; rw [if_pos rfl]; exact Maps.atKey_del_same _
  · rw [if_neg h]; exact Maps.atKey_del_other (kI_ne h) _
/-- the root alone -/
def rootVe : VeV := (0, rootR, .slice none 0 0, .slice none 0 0)
def V1 (v : Value) : Int → Value := fun i => if i = 1 then v else nilV
def X1 : Int → List VeV := fun i => if i = 1 then [rootVe] else []
set_option maxRecDepth 100000 in
set_option maxHeartbeats 4000000 in
theorem new_any (B : Nat) (w : World) (hB : B ≤ w.heap.size) :
    Calls Try.prog 19 #[] w fun e w' => ∃ b mb n D V, e = .returned (.pointer (some ⟨b, 0, none⟩)) ∧ PSt (fun g => w.heap.size ≤ g ∧ g < w'.heap.size) B w' b mb n D V X1 1 0 ∧ Below w.heap.size w w' := by
  have hmk : ∀ w, (Instr.makeMap 110 none).run Try.prog w = .ok (.map (some w.heap.size)) (w.alloc (.map #[] 0)) := fun w => run_makeMap _ w
  have hmap : ∀ o, (((w.alloc (.map #[] 0)).alloc o)).ownsMap Try.prog 3 heldE w.heap.size 0 (.map []) := fun o => World.ownsMap.alloc (World.ownsMap_made w _ _ _) o
  have HM := Lib.hid hmap
  clear hmap
  go_enter Try.func19, Try.ntmps19
  go_wp2_with (first
    | (refine wpList_insert_in rfl (.tmp 2) (.const (.int .i64 1)) (.tmp 5) 110 rfl 3 109 law_int Try.underlying110 heldE w.heap.size 0 (.map []) rfl (HM.out _) (by unfold maxLen; omega) _ _ (kI 1) rfl rfl (key_int (by decide)) (.held _) [] rfl ?_; intro w2 hown2 hturn2)
    | fail)
  have hg2 := hturn2.grown
  have hs2 := hg2.size
  simp only [World.size_alloc] at hs2
  have hr : w2.heap[w.heap.size + 1]? = some (.cells #[.int .u64 0, .int .i64 1, .string ⟨#[]⟩, .string ⟨#[]⟩, .int .i64 0, .slice none 0 0, .slice none 0 0, .bool false] 108 (0, 0)) := by
    rw [hg2.block (w.heap.size + 1) (by simp) (by simp)]
    have := World.alloc_heap_new (w.alloc (.map #[] 0)) (.cells #[.int .u64 0, .int .i64 1, .string ⟨#[]⟩, .string ⟨#[]⟩, .int .i64 0, .slice none 0 0, .slice none 0 0, .bool false] 108)
    simpa using this
  have hB2 : Below w.heap.size w w2 := (((Below.refl _ w).alloc (Nat.le_refl _) _).alloc (by simp) _).grown hg2 (by simp; omega) (fun k hk => by cases hk; exact Nat.le_refl _)
  have HP : PSt (fun g => w.heap.size ≤ g ∧ g < w2.heap.size + 1) B (w2.alloc (.cells #[.pointer (some ⟨w2.heap.size, 0, none⟩), .int .i64 1, .int .u64 0, .map (some w.heap.size)] 112)) w2.heap.size w.heap.size (0 + 1) ((DataW.map []).put (kI 1) (.held (.slice (some ⟨w.heap.size + 1, 0, none⟩) 1 1))) (V1 (.slice (some ⟨w.heap.size + 1, 0, none⟩) 1 1)) X1 1 0 := by
    refine ⟨World.alloc_heap_new w2 _, hown2.alloc _, fun id => ?_, fun id => ?_, fun id => ?_, fun id x hx => ?_, fun id x hx => ?_, fun i j g hi hj => ?_, fun g hg => ?_, fun g hg => ⟨by omega, by simp; omega⟩, fun id hid => ?_, fun id => ?_⟩
    · rw [has_put Maps.isMap_empty]
      unfold X1
      split
      · rfl
      · rfl
    · rw [val_put Maps.isMap_empty]
      unfold V1
      split
      · rfl
      · exact Maps.atKey_of_not_has rfl _
    · unfold V1 X1
      split
      · refine ⟨rfl, .inr ⟨w.heap.size + 1, 1, _, rfl, by omega, (Below.heap_alloc w2 _ _ (by omega)).trans hr, Nat.le_refl _, by unfold maxLen; omega, rfl, rfl⟩⟩
      · exact OwnsVe.nil _ _
    · unfold X1 at hx
      split at hx
      · rw [List.mem_singleton] at hx
        subst hx
        exact ⟨IntsOn.nil _ _ _ _, IntsOn.nil _ _ _ _⟩
      · cases hx
    · unfold X1 at hx
      split at hx
      · rw [List.mem_singleton] at hx
        subst hx
        exact ⟨by decide, by decide⟩
      · cases hx
    · unfold V1 at hi hj
      split at hi
      · split at hj
        · omega
        · cases hj
      · cases hi
    · rcases hg with rfl | rfl | ⟨i, hi⟩
      · omega
      · omega
      · unfold V1 at hi
        split at hi
        · obtain rfl : w.heap.size + 1 = g := by simpa [Value.ownBlock] using hi
          omega
        · cases hi
    · unfold X1 at hid
      split at hid
      · rename_i h; subst h; omega
      · exact absurd rfl hid
    · unfold X1
      split
      · exact List.pairwise_singleton _ _
      · exact List.Pairwise.nil
  go_ret
  exact ⟨w2.heap.size, w.heap.size, _, _, _, rfl, by simpa using HP, hB2.alloc (by omega) _⟩
end Go.Proofs.Ytkackejipgabfaa.Char

/- The store when one node's row has turned. -/
namespace Go.Proofs.Ytkackejipgabfaa.Char
open Go.RowKit Go.Lib

def setF {α : Type} (f : Int → α) (id : Int) (a : α) : Int → α := fun i => if i = id then a else f i
theorem setF_at {α : Type} (f : Int → α) (id : Int) (a : α) : setF f id a id = a := if_pos rfl
theorem setF_ne {α : Type} {f : Int → α} {id i : Int} {a : α} (h : i ≠ id) : setF f id a i = f i := if_neg h
theorem PSt.turn {Z Z' : Nat → Prop} {B : Nat} {w : World} {b mb n : Nat} {D : DataW Value} {V : Int → Value} {X : Int → List VeV} {gv lt : Nat} (h : PSt Z B w b mb n D V X gv lt) {w1 w2 : World} {id : Int} {v1 : Value} {ys : List VeV} {n' : Nat} {D' : DataW Value}
    (ho : OwnsVe B w1 v1 ys) (hk : ∀ k, k < w.heap.size → some k ≠ (V id).ownBlock → w1.heap[k]? = w.heap[k]?) (hs1 : w.heap.size ≤ w1.heap.size) (hn : ∀ g, v1.ownBlock = some g → (V id).ownBlock = some g ∨ (w.heap.size ≤ g ∧ Z' g)) (hZ1 : ∀ g, Z g → Z' g) (hZ2 : ∀ g, Z' g → B ≤ g ∧ g < w2.heap.size)
    (hy : ∀ x, x ∈ ys → x ∈ X id ∨ (RcOn w1 (fun g => w.heap.size ≤ g ∧ Z' g ∧ v1.ownBlock ≠ some g) x.2 ∧ RcSm x.2.1)) (hup : upX ys) (hid : ys ≠ [] → 1 ≤ id ∧ id ≤ (gv : Int))
    (how : w2.ownsMap Try.prog 3 heldE mb n' D') (hh : ∀ j, Maps.has D' (kI j) = if j = id then !ys.isEmpty else Maps.has D (kI j)) (hv : ∀ j, D'.atKey (kI j) (.held nilV) = if j = id then .held v1 else D.atKey (kI j) (.held nilV))
    (hk2 : ∀ k, k < w1.heap.size → k ≠ mb → w2.heap[k]? = w1.heap[k]?) :
    PSt Z' B w2 b mb n' D' (setF V id v1) (setF X id ys) gv lt := by
  have hbl := h.lt'
  have hml := (h.zB mb (h.zo mb (.inr (.inl rfl)))).2
  -- what no row of its own may be, old or new
  have hown : ∀ g, ownP b mb (setF V id v1) g → ownP b mb V g ∨ w.heap.size ≤ g := fun g hg => by
    rcases hg with rfl | rfl | ⟨i, hi⟩
    · exact .inl (.inl rfl)
    · exact .inl (.inr (.inl rfl))
    · by_cases he : i = id
      · subst he
        rw [setF_at] at hi
        rcases hn g hi with h1 | h1
        · exact .inl (.inr (.inr ⟨i, h1⟩))
        · exact .inr h1.1
      · rw [setF_ne he] at hi
        exact .inl (.inr (.inr ⟨i, hi⟩))
  have stay : ∀ g, g < w.heap.size → g ≠ mb → some g ≠ (V id).ownBlock → w2.heap[g]? = w.heap[g]? := fun g h1 h2 h3 => (hk2 g (by omega) h2).trans (hk g h1 h3)
  have old : ∀ x : RcV, RcOn w (fun g => Z g ∧ ¬ ownP b mb V g) x → RcOn w2 (fun g => Z' g ∧ ¬ ownP b mb (setF V id v1) g) x := fun x hx => hx.move fun g hg hF => ⟨⟨hZ1 g hF.1, fun ho' => by
      rcases hown g ho' with h1 | h1
      · exact hF.2 h1
      · omega⟩, stay g hg (fun e => hF.2 (.inr (.inl e))) (fun e => hF.2 (.inr (.inr ⟨id, e.symm⟩)))⟩
  refine ⟨(stay b hbl h.b_ne_m fun e => h.ne_b id e.symm).trans h.cell, how, fun j => ?_, fun j => ?_, fun j => ?_, fun j x hx => ?_, fun j x hx => ?_, fun i j g hi hj => ?_, fun g hg => ?_, fun g hg => ?_, fun j hj => ?_, fun j => ?_⟩
  · rw [hh j]
    by_cases he : j = id
    · subst he; rw [if_pos rfl, setF_at]
    · rw [if_neg he, setF_ne he]; exact h.has j
  · rw [hv j]
    by_cases he : j = id
    · subst he; rw [if_pos rfl, setF_at]
    · rw [if_neg he, setF_ne he]; exact h.val j
  · by_cases he : j = id
    · subst he
      rw [setF_at, setF_at]
      refine ho.keep fun g hg => hk2 g (ho.blk hg).2 fun e => ?_
      rcases hn g hg with h1 | h1
      · exact h.ne_m j (e ▸ h1)
      · omega
    · rw [setF_ne he, setF_ne he]
      refine (h.row j).keep fun g hg => stay g ((h.row j).blk hg).2 (fun e => h.ne_m j (e ▸ hg)) fun e => he (h.ap j id g hg e.symm)
  · by_cases he : j = id
    · subst he
      rw [setF_at] at hx
      rcases hy x hx with h1 | ⟨h1, _⟩
      · exact old x.2 (h.rcs j x h1)
      · refine h1.move fun g hg hF => ⟨⟨hF.2.1, fun ho' => ?_⟩, hk2 g hg fun e => by have := hF.1; omega⟩
        rcases ho' with rfl | rfl | ⟨i, hi⟩
        · have := hF.1; omega
        · have := hF.1; omega
        · by_cases he : i = j
          · subst he; rw [setF_at] at hi; exact hF.2.2 hi
          · rw [setF_ne he] at hi
            have := ((h.row i).blk hi).2
            have := hF.1
            omega
    · rw [setF_ne he] at hx
      exact old x.2 (h.rcs j x hx)
  · by_cases he : j = id
    · subst he
      rw [setF_at] at hx
      rcases hy x hx with h1 | ⟨_, h1⟩
      · exact h.sm j x h1
      · exact h1
    · rw [setF_ne he] at hx
      exact h.sm j x hx
  · have cross : ∀ i j g, i = id → j ≠ id → v1.ownBlock = some g → (V j).ownBlock = some g → False := fun i j g h1 h2 h3 h4 => by
      rcases hn g h3 with h5 | h5
      · exact h2 (h.ap j id g h4 h5)
      · have := ((h.row j).blk h4).2; omega
    by_cases e1 : i = id
    · by_cases e2 : j = id
      · rw [e1, e2]
      · rw [e1, setF_at] at hi
        rw [setF_ne e2] at hj
        exact (cross i j g e1 e2 hi hj).elim
    · by_cases e2 : j = id
      · rw [e2, setF_at] at hj
        rw [setF_ne e1] at hi
        exact (cross j i g e2 e1 hj hi).elim
      · rw [setF_ne e1] at hi
        rw [setF_ne e2] at hj
        exact h.ap i j g hi hj
  · rcases hg with rfl | rfl | ⟨i, hi⟩
    · exact hZ1 _ (h.zo _ (.inl rfl))
    · exact hZ1 _ (h.zo _ (.inr (.inl rfl)))
    · by_cases he : i = id
      · subst he
        rw [setF_at] at hi
        rcases hn g hi with h1 | h1
        · exact hZ1 _ (h.zo _ (.inr (.inr ⟨i, h1⟩)))
        · exact h1.2
      · rw [setF_ne he] at hi
        exact hZ1 _ (h.zo _ (.inr (.inr ⟨i, hi⟩)))
  · exact hZ2 g hg
  · by_cases he : j = id
    · subst he
      rw [setF_at] at hj
      exact hid hj
    · rw [setF_ne he] at hj
      exact h.ids j hj
  · by_cases he : j = id
    · subst he
      rw [setF_at]; exact hup
    · rw [setF_ne he]; exact h.ups j
/-- fewer blocks of its own suffice, where no new ones are -/
theorem PSt.shrink {Z Z' : Nat → Prop} {B : Nat} {w : World} {b mb n : Nat} {D : DataW Value} {V : Int → Value} {X : Int → List VeV} {gv lt : Nat} (h : PSt Z B w b mb n D V X gv lt) (hz : ∀ g, Z g → Z' g) (hB : ∀ g, Z' g → B ≤ g ∧ g < w.heap.size) : PSt Z' B w b mb n D V X gv lt :=
  ⟨h.cell, h.own, h.has, h.val, h.row, fun id x hx => (h.rcs id x hx).move fun _ _ hF => ⟨⟨hz _ hF.1, hF.2⟩, rfl⟩, h.sm, h.ap, fun g hg => hz g (h.zo g hg), hB, h.ids, h.ups⟩
/-- the bound on the map's entries, as low as it can be -/
theorem PSt.tight {Z : Nat → Prop} {B : Nat} {w : World} {b mb n : Nat} {D : DataW Value} {V : Int → Value} {X : Int → List VeV} {gv lt : Nat} (h : PSt Z B w b mb n D V X gv lt) : PSt Z B w b mb gv D V X gv lt := by
  have hs := h.size
  refine { h with own := ?_ }
  obtain ⟨es, clock, hb, F, q1, q2⟩ := h.own
  refine ⟨es, clock, hb, F, ?_, q2⟩
  rw [q2] at hs
  have : Maps.size (DataW.map ((es.toList.map (Go.WideElems.rg Try.prog 3 heldE)).foldr DataW.insert [])) = es.size := length_read es
  omega
end Go.Proofs.Ytkackejipgabfaa.Char

/- A record in a box of its own: its cells, a store of a whole record, results that are records. -/
namespace Go.Proofs.Ytkackejipgabfaa.Char
open Go.RowKit Go.Lib

def rcB (x : RcV) : Obj := .cells #[.int .i64 x.1.kd, .string (bs x.1.nm), .string (bs x.1.tx), .int .i64 x.1.pa, x.2.1, x.2.2, .bool x.1.gone] 34
theorem rc_blk {w : World} {b : Nat} {x : RcV} (h : w.heap[b]? = some (rcB x)) :
    (w.cell? ⟨b, 0, none⟩ = some (.int .i64 x.1.kd) ∧ w.cell? ⟨b, 1, none⟩ = some (.string (bs x.1.nm)) ∧ w.cell? ⟨b, 2, none⟩ = some (.string (bs x.1.tx)) ∧ w.cell? ⟨b, 3, none⟩ = some (.int .i64 x.1.pa) ∧ w.cell? ⟨b, 4, none⟩ = some x.2.1 ∧ w.cell? ⟨b, 5, none⟩ = some x.2.2 ∧ w.cell? ⟨b, 6, none⟩ = some (.bool x.1.gone)) ∧ ∀ i, w.frozen? ⟨b, i, none⟩ = false := by
  unfold rcB at h
  exact ⟨⟨by simp [World.cell?, h], by simp [World.cell?, h], by simp [World.cell?, h], by simp [World.cell?, h], by simp [World.cell?, h], by simp [World.cell?, h], by simp [World.cell?, h]⟩, fun i => by simp [World.frozen?, h]⟩
/-- a store of a whole record -/
def set7 (w : World) (b : Nat) (x : RcV) : World :=
  ((((((w.setCell ⟨b, 0, none⟩ (.int .i64 x.1.kd)).setCell ⟨b, 1, none⟩ (.string (bs x.1.nm))).setCell ⟨b, 2, none⟩ (.string (bs x.1.tx))).setCell ⟨b, 3, none⟩ (.int .i64 x.1.pa)).setCell ⟨b, 4, none⟩ x.2.1).setCell ⟨b, 5, none⟩ x.2.2).setCell ⟨b, 6, none⟩ (.bool x.1.gone)
theorem set7_at {w : World} {b : Nat} {x y : RcV} (h : w.heap[b]? = some (rcB y)) : (set7 w b x).heap[b]? = some (rcB x) := by
  unfold set7
  unfold rcB at h ⊢
  have h1 := heap_set_at (i := 0) (u := .int .i64 x.1.kd) h
  have h2 := heap_set_at (i := 1) (u := .string (bs x.1.nm)) h1
  have h3 := heap_set_at (i := 2) (u := .string (bs x.1.tx)) h2
  have h4 := heap_set_at (i := 3) (u := .int .i64 x.1.pa) h3
  have h5 := heap_set_at (i := 4) (u := x.2.1) h4
  have h6 := heap_set_at (i := 5) (u := x.2.2) h5
  have h7 := heap_set_at (i := 6) (u := .bool x.1.gone) h6
  exact h7.trans (by simp)
theorem set7_ne {w : World} {b k : Nat} {x : RcV} (h : k ≠ b) : (set7 w b x).heap[k]? = w.heap[k]? := by
  unfold set7
  rw [heap_set_ne (a := ⟨b, 6, none⟩) h, heap_set_ne (a := ⟨b, 5, none⟩) h, heap_set_ne (a := ⟨b, 4, none⟩) h, heap_set_ne (a := ⟨b, 3, none⟩) h, heap_set_ne (a := ⟨b, 2, none⟩) h, heap_set_ne (a := ⟨b, 1, none⟩) h, heap_set_ne (a := ⟨b, 0, none⟩) h]
theorem set7_size {w : World} {b : Nat} {x : RcV} : (set7 w b x).heap.size = w.heap.size := by simp [set7]
theorem set7_below {B b : Nat} {w w' : World} {x : RcV} (h : Below B w w') (hb : B ≤ b) : Below B w (set7 w' b x) :=
  ((((((h.setCell (p := ⟨b, 0, none⟩) hb _).setCell (p := ⟨b, 1, none⟩) hb _).setCell (p := ⟨b, 2, none⟩) hb _).setCell (p := ⟨b, 3, none⟩) hb _).setCell (p := ⟨b, 4, none⟩) hb _).setCell (p := ⟨b, 5, none⟩) hb _).setCell (p := ⟨b, 6, none⟩) hb _
/-- two results, the first a record in a box -/
theorem end_rc2 {fn : Func} {p q : Tmp} (h : fn.results = #[.cell p 34, .tmp q]) {a : Act} {R : Ending → World → Prop} (w1 : World) (g : Nat) {x : RcV} {c : Value} (hk : w1.heap[g]? = some (rcB x)) (hv : ∃ o i j o' i' j', x.2.1 = .slice o i j ∧ x.2.2 = .slice o' i' j')
    (hp : a.tmps.getD p undef = .pointer (some ⟨g, 0, none⟩)) (hq : a.tmps.getD q undef = c) (hd : a.defers = []) (hR : R (.returned (.tuple #[rcV x, c])) w1) : bodyPost Try.prog fn R .ret a w1 := by
  have hp' : a.tmps[p]?.getD undef = .pointer (some ⟨g, 0, none⟩) := by simpa using hp
  have hq' : a.tmps[q]?.getD undef = c := by simpa using hq
  obtain ⟨r, va, vb⟩ := x
  obtain ⟨_, _, _, _, _, _, e1, e2⟩ := hv
  dsimp only at e1 e2
  subst e1 e2
  obtain ⟨⟨a0, a1, a2, a3, a4, a5, a6⟩, _⟩ := rc_blk hk
  dsimp only at a0 a1 a2 a3 a4 a5 a6
  unfold rcV at hR
  exact bodyPost_ret (by simp [results, h, hp', hq', go_sem, a0, a1, a2, a3, a4, a5, a6]) hd hR
theorem RcOn.slices {w : World} {F : Nat → Prop} {x : RcV} (h : RcOn w F x) : ∃ o i j o' i' j', x.2.1 = .slice o i j ∧ x.2.2 = .slice o' i' j' := by
  obtain ⟨ok, jk, oa, ja, e1, e2⟩ := h.form
  exact ⟨_, _, _, _, _, _, e1, e2⟩
end Go.Proofs.Ytkackejipgabfaa.Char

/- The walk of copied: a record that shares no list with another one. -/
namespace Go.Proofs.Ytkackejipgabfaa.Char
open Go.RowKit Go.Lib

theorem info_i64 : (Try.prog.info? 3).map (fun i => (i.zero, i.size, i.bytes)) = some (some (.int .i64 0), 1, 8) := by kernel_rfl
set_option maxRecDepth 100000 in
/-- all of a row of numbers behind nothing: a row of its own -/
theorem wpList_dup {ops : Array Oper} {rest : List Oper} {o : Oper} {a : Act} {Q : Exit → Act → World → Prop} (B : Nat) (W : World) (hB : B ≤ W.heap.size) (zs : List Int) (F : Nat → Prop) (q : Option Addr) (j : Nat) (h : IntsOn W F (.slice q zs.length j) zs) (hlen : zs.length ≤ 2 ^ 44)
    (hgd : o.guard = none) (s x : Operand) (ho : o.op = .call { callee := .builtin .append, args := #[s, x], argTypes := #[27, 27] }) (hs : a.eval s = .slice none 0 0) (hx : a.eval x = .slice q zs.length j)
    (hK : ∀ q' j' w', IntsOn w' (fun g => W.heap.size ≤ g) (.slice q' zs.length j') zs → Below B W w' → (∀ k, k < W.heap.size → w'.heap[k]? = W.heap[k]?) → wpList Try.prog ops Q rest (a.put o.dst (.slice q' zs.length j')) w') :
    wpList Try.prog ops Q (o :: rest) a W := by
  obtain ⟨i0, hi, hz0, hz1, hz2⟩ := info_parts info_i64
  by_cases h0 : zs = []
  · subst h0
    refine wpList_plain hgd fun K hK' => ?_
    have hr : ∀ ty, (Builtin.append_ #[27, 27] ty #[.slice none 0 0, .slice q 0 j]).run Try.prog W = .ok (.slice none 0 0) W := fun ty => by
      cases q <;> simp [Builtin.append_, run_underlying Try.underlying27, sizeOf, typeInfo, hi, Builtin.lenOf, Builtin.firstCells, loadCells, loadCellsFrom]
    unfold Oper.wp execOp
    rw [show ([] : List Int).length = 0 from rfl] at hx
    simp only [ho, resolve, invoke, builtin, Sem.run_bind, Sem.run_pure, Result.andThen_ok, List.map_toArray, List.map_cons, List.map_nil, hs, hx, hr]
    exact hK' _ _ (hK none 0 W (IntsOn.nil _ _ _ _) (Below.refl _ _) (fun _ _ => rfl))
  · obtain ⟨o', i', j', e1, e2, e3⟩ := h
    cases e1
    rcases e3 with rfl | ⟨g, off, rfl, _, hc⟩
    · exact absurd rfl h0
    · refine wpList_append_own_at W hgd s x 27 ho W.heap.size 3 i0 (.int .i64 0) 1 8 Try.underlying27 hi hz0 hz1 hz2 rfl (by omega) (.slice none 0 0) 0 [] hs (World.ownsRow_nil _ _ _ _) ⟨g, off, none⟩ zs.length j (zs.map (Value.int .i64)) hx (by simp) ?_ (ints_oneCell _ _) ?_ ?_ (Nat.le_refl _) ?_
      · intro k u hk
        rw [List.getElem?_map] at hk
        have hkl : k < zs.length := by
          by_cases hkl : k < zs.length
          · exact hkl
          · rw [List.getElem?_eq_none (by omega)] at hk; cases hk
        have := hc k hkl
        rw [List.getD_eq_getElem?_getD, List.getElem?_eq_getElem hkl] at this
        rw [List.getElem?_eq_getElem hkl] at hk
        rw [Addr.add_lit, this]
        simpa using hk
      · unfold maxLen; omega
      · omega
      · intro v' w' hown hgrow hnil hat
        have hpos : 0 < zs.length := List.length_pos_iff.2 h0
        rw [List.nil_append, Nat.zero_add] at hown
        have hcells := fun g => hown.cells (g := g)
        rcases hown.2 with ⟨rfl, hz⟩ | ⟨g', cap, cur, rfl, hg', _⟩
        · omega
        · refine hK _ _ w' ⟨_, _, _, rfl, rfl, .inr ⟨g', 0, rfl, hg', fun k hk => ?_⟩⟩ ((Below.refl B W).grown hgrow hB (fun k hk => by simp [Value.ownBlock] at hk)) (fun k hk => hgrow.block k hk (by simp [Value.ownBlock]))
          have := hcells g' rfl k (.int .i64 (zs.getD k 0)) (by rw [List.getElem?_map, List.getElem?_eq_getElem hk, List.getD_eq_getElem?_getD, List.getElem?_eq_getElem hk]; rfl)
          rwa [Addr.add_lit] at this
/-- one result, a record in a box -/
theorem end_rc1 {fn : Func} {p : Tmp} (h : fn.results = #[.cell p 34]) {a : Act} {R : Ending → World → Prop} (w1 : World) (g : Nat) {x : RcV} (hk : w1.heap[g]? = some (rcB x)) (hv : ∃ o i j o' i' j', x.2.1 = .slice o i j ∧ x.2.2 = .slice o' i' j')
    (hp : a.tmps.getD p undef = .pointer (some ⟨g, 0, none⟩)) (hd : a.defers = []) (hR : R (.returned (rcV x)) w1) : bodyPost Try.prog fn R .ret a w1 := by
  have hp' : a.tmps[p]?.getD undef = .pointer (some ⟨g, 0, none⟩) := by simpa using hp
  obtain ⟨r, va, vb⟩ := x
  obtain ⟨_, _, _, _, _, _, e1, e2⟩ := hv
  dsimp only at e1 e2
  subst e1 e2
  obtain ⟨⟨a0, a1, a2, a3, a4, a5, a6⟩, _⟩ := rc_blk hk
  dsimp only at a0 a1 a2 a3 a4 a5 a6
  unfold rcV at hR
  exact bodyPost_ret (by simp [results, h, hp', go_sem, a0, a1, a2, a3, a4, a5, a6]) hd hR
theorem rcB_set4 {w : World} {b : Nat} {x : RcV} (h : w.heap[b]? = some (rcB x)) (v : Value) : (w.setCell ⟨b, 4, none⟩ v).heap[b]? = some (rcB (x.1, v, x.2.2)) := by
  unfold rcB at h ⊢
  exact (heap_set_at (i := 4) (u := v) h).trans (by simp)
theorem rcB_set5 {w : World} {b : Nat} {x : RcV} (h : w.heap[b]? = some (rcB x)) (v : Value) : (w.setCell ⟨b, 5, none⟩ v).heap[b]? = some (rcB (x.1, x.2.1, v)) := by
  unfold rcB at h ⊢
  exact (heap_set_at (i := 5) (u := v) h).trans (by simp)
/-- what copied hands back -/
def CopPost (w : World) (r : Rc) : Ending → World → Prop := fun e w' => ∃ x' : RcV, x'.1 = r ∧ e = .returned (rcV x') ∧ RcOn w' (fun g => w.heap.size ≤ g) x' ∧ Below w.heap.size w w'
set_option maxRecDepth 100000 in
set_option maxHeartbeats 4000000 in
theorem copied_any (x : RcV) (F : Nat → Prop) (w : World) (h : RcOn w F x) (hs : RcSm x.1) :
    Calls Try.prog 57 #[rcV x] w (CopPost w x.1) := by
  obtain ⟨r, va, vb⟩ := x
  obtain ⟨ok, jk, oa, ja, e1, e2⟩ := h.form
  dsimp only at e1 e2
  subst e1 e2
  obtain ⟨W0, hW0⟩ : ∃ W0, W0 = (w.alloc (rcB (r, .slice ok r.ks.length jk, .slice oa r.ats.length ja))).alloc (rcB rcV0) := ⟨_, rfl⟩
  have b0 : Below w.heap.size w W0 := by rw [hW0]; exact ((Below.refl _ _).alloc (Nat.le_refl _) _).alloc (by simp) _
  have s0 : W0.heap.size = w.heap.size + 2 := by rw [hW0]; simp
  have k1 : W0.heap[w.heap.size]? = some (rcB (r, .slice ok r.ks.length jk, .slice oa r.ats.length ja)) := by
    rw [hW0, Below.heap_alloc _ _ _ (by simp)]; exact World.alloc_heap_new w _
  have k2 : W0.heap[w.heap.size + 1]? = some (rcB rcV0) := by
    rw [hW0]; have := World.alloc_heap_new (w.alloc (rcB (r, .slice ok r.ks.length jk, .slice oa r.ats.length ja))) (rcB rcV0); simpa using this
  have HW0 := Lib.hid hW0
  have i1 : IntsOn W0 F (.slice ok r.ks.length jk) r.ks := h.1.move fun b hb hF => ⟨hF, b0.block b hb⟩
  have HI2 := Lib.hid (fun (W : World) (hb : Below w.heap.size w W) => (h.2.move fun b hb' hF => ⟨hF, hb.block b hb'⟩ : IntsOn W F (.slice oa r.ats.length ja) r.ats))
  have hs1 := hs.1
  have hs2 := hs.2
  dsimp only at hs1 hs2
  have HI1 := Lib.hid i1
  have HK1 := Lib.hid k1
  have HK2 := Lib.hid k2
  have HB0 := Lib.hid b0
  clear h hs i1 k1 k2 b0 hW0
  unfold rcB rcV0 rc0 at HW0
  dsimp only at HW0
  unfold rcV
  dsimp only
  go_enter Try.func57, Try.ntmps57
  go_wp2_with (first
    | (refine wpList_dup w.heap.size _ (by simp; omega) r.ks F ok jk (HW0.out ▸ HI1.out) hs1 rfl (.const (.slice none 0 0)) (.tmp 4) rfl rfl rfl ?_
       rw [show (⟨#[]⟩ : ByteArray) = bs [] from rfl, ← HW0.out]
       intro q1 j1 w1 g1 b1 m1
       have n1 := (m1 _ (by omega)).trans HK1.out
       have n2 := (m1 _ (by omega)).trans HK2.out
       have hb1 := HB0.out.trans b1
       obtain ⟨⟨_, _, _, _, x4, x5, _⟩, xf⟩ := rc_blk n1
       dsimp only at x4 x5
       have z4 := xf 4
       obtain ⟨W2, hW2⟩ : ∃ W2, W2 = w1.setCell ⟨w.heap.size, 4, none⟩ (.slice q1 r.ks.length j1) := ⟨_, rfl⟩
       have p1 : W2.heap[w.heap.size]? = some (rcB (r, .slice q1 r.ks.length j1, .slice oa r.ats.length ja)) := by rw [hW2]; exact rcB_set4 n1 _
       have p2 : W2.heap[w.heap.size + 1]? = some (rcB rcV0) := by rw [hW2, heap_set_ne (by simp)]; exact n2
       have pb : Below w.heap.size w W2 := by rw [hW2]; exact hb1.setCell (p := ⟨w.heap.size, 4, none⟩) (Nat.le_refl _) _
       have pi := HI2.out W2 pb
       have pg : IntsOn W2 (fun g => w.heap.size + 2 ≤ g) (.slice q1 r.ks.length j1) r.ks := g1.move fun b hb hF => by
         have hF' : W0.heap.size ≤ b := hF
         exact ⟨(by omega : w.heap.size + 2 ≤ b), by rw [hW2]; exact heap_set_ne (by simp; omega)⟩
       have s1 : w.heap.size + 2 ≤ W2.heap.size := by rw [hW2, World.size_setCell, ← s0]; exact b1.size
       obtain ⟨⟨_, _, _, _, _, y5, _⟩, _⟩ := rc_blk p1
       dsimp only at y5
       have HW2 := Lib.hid hW2
       have HP1 := Lib.hid p1
       have HP2 := Lib.hid p2
       have HPB := Lib.hid pb
       have HPI := Lib.hid pi
       have HPG := Lib.hid pg
       clear hW2 p1 p2 pb pi pg g1 b1 m1 n1 n2 hb1 xf)
    | (refine wpList_dup w.heap.size _ (by rw [World.size_setCell]; have := HPB.out.size; rw [HW2.out, World.size_setCell] at this; exact this) r.ats F oa ja (HW2.out ▸ HPI.out) hs2 rfl (.const (.slice none 0 0)) (.tmp 8) rfl rfl rfl ?_
       rw [← HW2.out]
       intro q2 j2 w3 g2 b2 m2
       have n1 := (m2 _ (by omega)).trans HP1.out
       have n2 := (m2 _ (by omega)).trans HP2.out
       have hb2 := HPB.out.trans b2
       obtain ⟨⟨c0, c1, c2, c3, c4, c5, c6⟩, xf⟩ := rc_blk n1
       dsimp only at c0 c1 c2 c3 c4 c5 c6
       have z5 := xf 5
       obtain ⟨W4, hW4⟩ : ∃ W4, W4 = w3.setCell ⟨w.heap.size, 5, none⟩ (.slice q2 r.ats.length j2) := ⟨_, rfl⟩
       have p1 : W4.heap[w.heap.size]? = some (rcB (r, .slice q1 r.ks.length j1, .slice q2 r.ats.length j2)) := by rw [hW4]; exact rcB_set5 n1 _
       have p2 : W4.heap[w.heap.size + 1]? = some (rcB rcV0) := by rw [hW4, heap_set_ne (by simp)]; exact n2
       have pb : Below w.heap.size w W4 := by rw [hW4]; exact hb2.setCell (p := ⟨w.heap.size, 5, none⟩) (Nat.le_refl _) _
       have pg : IntsOn W4 (fun g => w.heap.size + 2 ≤ g) (.slice q2 r.ats.length j2) r.ats := g2.move fun b hb hF => by
         have hF' : W2.heap.size ≤ b := hF
         exact ⟨(by omega : w.heap.size + 2 ≤ b), by rw [hW4]; exact heap_set_ne (by simp; omega)⟩
       have pg1 : IntsOn W4 (fun g => w.heap.size + 2 ≤ g) (.slice q1 r.ks.length j1) r.ks := HPG.out.move fun b hb hF => by
         have hF' : w.heap.size + 2 ≤ b := hF
         exact ⟨hF', by rw [hW4]; exact (heap_set_ne (by simp; omega)).trans (m2 _ hb)⟩
       obtain ⟨⟨d0, d1, d2, d3, d4, d5, d6⟩, df⟩ := rc_blk n2
       have f0 := df 0
       have f1 := df 1
       have f2 := df 2
       have f3 := df 3
       have f4 := df 4
       have f5 := df 5
       have f6 := df 6
       dsimp only [rcV0, rc0] at d0 d1 d2 d3 d4 d5 d6
       have HW4 := Lib.hid hW4
       have HQ2 := Lib.hid p2
       have HQB := Lib.hid pb
       have HQG := Lib.hid pg
       have HQG1 := Lib.hid pg1
       clear hW4 p1 p2 pb pg pg1 g2 b2 m2 n1 n2 hb2 xf df)
    | fail)
  rw [← HW4.out]
  have hq : (set7 W4 (w.heap.size + 1) (r, .slice q1 r.ks.length j1, .slice q2 r.ats.length j2)).heap[w.heap.size + 1]? = some (rcB (r, .slice q1 r.ks.length j1, .slice q2 r.ats.length j2)) := set7_at (x := (r, .slice q1 r.ks.length j1, .slice q2 r.ats.length j2)) HQ2.out
  refine end_rc1 Try.results57 _ (w.heap.size + 1) (x := (r, .slice q1 r.ks.length j1, .slice q2 r.ats.length j2)) hq ⟨_, _, _, _, _, _, rfl, rfl⟩ rfl rfl ?_
  refine ⟨(r, .slice q1 r.ks.length j1, .slice q2 r.ats.length j2), rfl, rfl, ⟨HQG1.out.move fun b _ hF => ?_, HQG.out.move fun b _ hF => ?_⟩, set7_below (x := (r, .slice q1 r.ks.length j1, .slice q2 r.ats.length j2)) HQB.out (Nat.le_succ _)⟩
  · have hF' : w.heap.size + 2 ≤ b := hF
    exact ⟨(by omega : w.heap.size ≤ b), set7_ne (x := (r, .slice q1 r.ks.length j1, .slice q2 r.ats.length j2)) (by omega)⟩
  · have hF' : w.heap.size + 2 ≤ b := hF
    exact ⟨(by omega : w.heap.size ≤ b), set7_ne (x := (r, .slice q1 r.ks.length j1, .slice q2 r.ats.length j2)) (by omega)⟩
end Go.Proofs.Ytkackejipgabfaa.Char

/- A struct of eight cells in a box (a version, a change): its cells, a store of a whole one; one version more behind a row, in a region that draws its order. -/
namespace Go.Proofs.Ytkackejipgabfaa.Char
open Go.RowKit Go.Lib

def vB (T : TypeId) (u : Value) (x : RcV) : Obj := .cells #[u, .int .i64 x.1.kd, .string (bs x.1.nm), .string (bs x.1.tx), .int .i64 x.1.pa, x.2.1, x.2.2, .bool x.1.gone] T
theorem vB_blk {w : World} {b : Nat} {T : TypeId} {u : Value} {x : RcV} (h : w.heap[b]? = some (vB T u x)) :
    (w.cell? ⟨b, 0, none⟩ = some u ∧ w.cell? ⟨b, 1, none⟩ = some (.int .i64 x.1.kd) ∧ w.cell? ⟨b, 2, none⟩ = some (.string (bs x.1.nm)) ∧ w.cell? ⟨b, 3, none⟩ = some (.string (bs x.1.tx)) ∧ w.cell? ⟨b, 4, none⟩ = some (.int .i64 x.1.pa) ∧ w.cell? ⟨b, 5, none⟩ = some x.2.1 ∧ w.cell? ⟨b, 6, none⟩ = some x.2.2 ∧ w.cell? ⟨b, 7, none⟩ = some (.bool x.1.gone)) ∧ ∀ i, w.frozen? ⟨b, i, none⟩ = false := by
  unfold vB at h
  exact ⟨⟨by simp [World.cell?, h], by simp [World.cell?, h], by simp [World.cell?, h], by simp [World.cell?, h], by simp [World.cell?, h], by simp [World.cell?, h], by simp [World.cell?, h], by simp [World.cell?, h]⟩, fun i => by simp [World.frozen?, h]⟩
/-- a store of a whole one -/
def set8 (w : World) (b : Nat) (u : Value) (x : RcV) : World :=
  (((((((w.setCell ⟨b, 0, none⟩ u).setCell ⟨b, 1, none⟩ (.int .i64 x.1.kd)).setCell ⟨b, 2, none⟩ (.string (bs x.1.nm))).setCell ⟨b, 3, none⟩ (.string (bs x.1.tx))).setCell ⟨b, 4, none⟩ (.int .i64 x.1.pa)).setCell ⟨b, 5, none⟩ x.2.1).setCell ⟨b, 6, none⟩ x.2.2).setCell ⟨b, 7, none⟩ (.bool x.1.gone)
theorem set8_at {w : World} {b : Nat} {T : TypeId} {u v : Value} {x y : RcV} (h : w.heap[b]? = some (vB T v y)) : (set8 w b u x).heap[b]? = some (vB T u x) := by
  unfold set8
  unfold vB at h ⊢
  have h0 := heap_set_at (i := 0) (u := u) h
  have h1 := heap_set_at (i := 1) (u := .int .i64 x.1.kd) h0
  have h2 := heap_set_at (i := 2) (u := .string (bs x.1.nm)) h1
  have h3 := heap_set_at (i := 3) (u := .string (bs x.1.tx)) h2
  have h4 := heap_set_at (i := 4) (u := .int .i64 x.1.pa) h3
  have h5 := heap_set_at (i := 5) (u := x.2.1) h4
  have h6 := heap_set_at (i := 6) (u := x.2.2) h5
  have h7 := heap_set_at (i := 7) (u := .bool x.1.gone) h6
  exact h7.trans (by simp)
theorem set8_ne {w : World} {b k : Nat} {u : Value} {x : RcV} (h : k ≠ b) : (set8 w b u x).heap[k]? = w.heap[k]? := by
  unfold set8
  rw [heap_set_ne (a := ⟨b, 7, none⟩) h, heap_set_ne (a := ⟨b, 6, none⟩) h, heap_set_ne (a := ⟨b, 5, none⟩) h, heap_set_ne (a := ⟨b, 4, none⟩) h, heap_set_ne (a := ⟨b, 3, none⟩) h, heap_set_ne (a := ⟨b, 2, none⟩) h, heap_set_ne (a := ⟨b, 1, none⟩) h, heap_set_ne (a := ⟨b, 0, none⟩) h]
theorem set8_size {w : World} {b : Nat} {u : Value} {x : RcV} : (set8 w b u x).heap.size = w.heap.size := by simp [set8]
theorem set8_below {B b : Nat} {w w' : World} {u : Value} {x : RcV} (h : Below B w w') (hb : B ≤ b) : Below B w (set8 w' b u x) :=
  (((((((h.setCell (p := ⟨b, 0, none⟩) hb _).setCell (p := ⟨b, 1, none⟩) hb _).setCell (p := ⟨b, 2, none⟩) hb _).setCell (p := ⟨b, 3, none⟩) hb _).setCell (p := ⟨b, 4, none⟩) hb _).setCell (p := ⟨b, 5, none⟩) hb _).setCell (p := ⟨b, 6, none⟩) hb _).setCell (p := ⟨b, 7, none⟩) hb _
/-- a loop's variable in its box -/
def box8 (w : World) (T : TypeId) (z u : Value) (x : RcV) : World := set8 (w.alloc (vB T z rcV0)) w.heap.size u x
theorem box8_at {w : World} {T : TypeId} {z u : Value} {x : RcV} : (box8 w T z u x).heap[w.heap.size]? = some (vB T u x) := set8_at (World.alloc_heap_new w _)
theorem box8_below {w : World} {T : TypeId} {z u : Value} {x : RcV} : Below w.heap.size w (box8 w T z u x) := set8_below ((Below.refl _ _).alloc (Nat.le_refl _) _) (Nat.le_refl _)
theorem box8_size {w : World} {T : TypeId} {z u : Value} {x : RcV} : (box8 w T z u x).heap.size = w.heap.size + 1 := by unfold box8; rw [set8_size]; simp
theorem step_pushVe {ops : Array Oper} {o : Oper} {a : Act} {K : Act → World → Prop} {Q : Exit → Act → World → Prop} {E : Prop} {B : Nat} {W : World} {v : Value} {xs : List VeV}
    (hgd : o.guard = none) (s x : Operand) (ho : o.op = .call { callee := .builtin .append, args := #[s, x], argTypes := #[109, 109] })
    (t : Nat) (y : RcV) (hy : ∃ o i j o' i' j', y.2.1 = .slice o i j ∧ y.2.2 = .slice o' i' j') (H : Nat) (hH : W.heap[H]? = some (vB 108 (.int .u64 (t : Int)) y))
    (hown : OwnsVe B W v xs) (hs : a.eval s = v) (hx : a.eval x = .slice (some ⟨H, 0, none⟩) 1 1) (hB : B ≤ W.heap.size) (hlen : xs.length ≤ 100000000)
    (h : ∀ g cap w1, OwnsVe B w1 (.slice (some ⟨g, 0, none⟩) (xs.length + 1) cap) (xs ++ [(t, y)]) → Below B W w1 → (∀ k, k < W.heap.size → some k ≠ v.ownBlock → w1.heap[k]? = W.heap[k]?) → (v.ownBlock = some g ∨ W.heap.size ≤ g) → K (a.put o.dst (.slice (some ⟨g, 0, none⟩) (xs.length + 1) cap)) w1) :
    if Region.wanted o (yielded ops a.tmps) = true then Oper.wp Try.prog o a W K Q else E := by
  obtain ⟨r, va, vb⟩ := y
  obtain ⟨_, _, _, _, _, _, e1, e2⟩ := hy
  dsimp only at e1 e2
  subst e1 e2
  refine step_push info_ve Try.underlying109 rfl (by decide) (by decide) hgd s x ho (veC (t, r, _, _)) rfl ?_ H hH hown hs hx hB (by omega) fun g cap w1 h1 h2 h3 h4 => ?_
  · intro u hu
    simp [veC, rcC] at hu
    rcases hu with rfl | rfl | rfl | rfl | rfl | rfl | rfl | rfl <;> rfl
  · refine h g cap w1 ?_ h2 h3 h4
    unfold OwnsVe
    rw [List.length_append, vesC_snoc]
    exact h1
end Go.Proofs.Ytkackejipgabfaa.Char

/- Changes in memory, in a slice that came in. -/
namespace Go.Proofs.Ytkackejipgabfaa.Char
open Go.RowKit Go.Lib

/-- a change, and the values of its record's slices -/
abbrev ChV := Int × RcV
def toCh (x : ChV) : Int × Rc := (x.1, x.2.1)
def ChAt (w : World) (g off : Nat) (x : ChV) : Prop := w.cell? ⟨g, off, none⟩ = some (.int .i64 x.1) ∧ RcAt w g (off + 1) x.2
theorem ChAt.cells {w : World} {g off : Nat} {x : ChV} (h : ChAt w g off x) : w.cell? ⟨g, off, none⟩ = some (.int .i64 x.1) ∧ w.cell? ⟨g, off + 1, none⟩ = some (.int .i64 x.2.1.kd) ∧ w.cell? ⟨g, off + 2, none⟩ = some (.string (bs x.2.1.nm)) ∧ w.cell? ⟨g, off + 3, none⟩ = some (.string (bs x.2.1.tx)) ∧
    w.cell? ⟨g, off + 4, none⟩ = some (.int .i64 x.2.1.pa) ∧ w.cell? ⟨g, off + 5, none⟩ = some x.2.2.1 ∧ w.cell? ⟨g, off + 6, none⟩ = some x.2.2.2 ∧ w.cell? ⟨g, off + 7, none⟩ = some (.bool x.2.1.gone) := h
theorem ChAt.move {w w' : World} {g off : Nat} (h : w'.heap[g]? = w.heap[g]?) {x : ChV} (hn : ChAt w g off x) : ChAt w' g off x := ⟨(World.cell?_of_block (w := w) h).trans hn.1, hn.2.move h⟩
/-- changes in a slice, in blocks of which F holds -/
def ChsOn (w : World) (F : Nat → Prop) (v : Value) (xs : List ChV) : Prop := (∃ o i j, v = .slice o i j ∧ i = xs.length ∧ (xs = [] ∨ ∃ g off, o = some ⟨g, off, none⟩ ∧ F g ∧ ∀ k (h : k < xs.length), ChAt w g (off + k * 8) xs[k])) ∧ ∀ x, x ∈ xs → RcOn w F x.2
theorem ChsOn.move {w w' : World} {F F' : Nat → Prop} (h : ∀ b, b < w.heap.size → F b → F' b ∧ w'.heap[b]? = w.heap[b]?) {v : Value} {xs : List ChV} (ha : ChsOn w F v xs) : ChsOn w' F' v xs := by
  obtain ⟨⟨o, i, j, e1, e2, e3⟩, e9⟩ := ha
  refine ⟨⟨o, i, j, e1, e2, ?_⟩, fun x hx => (e9 x hx).move h⟩
  rcases e3 with e3 | ⟨g, off, e4, e5, e6⟩
  · exact .inl e3
  · by_cases hq : xs = []
    · exact .inl hq
    · obtain ⟨k1, k2⟩ := h g (cell_lt (e6 0 (List.length_pos_iff.2 hq)).1) e5
      exact .inr ⟨g, off, e4, k1, fun k hk => (e6 k hk).move k2⟩
theorem ChsOn.reads {w : World} {F : Nat → Prop} {o : Option Addr} {i j : Nat} {xs : List ChV} (h : ChsOn w F (.slice o i j) xs) (k : Nat) (hk : k < xs.length) :
    ∃ g off, o = some ⟨g, off, none⟩ ∧ F g ∧ ChAt w g (off + k * 8) xs[k] ∧ RcOn w F xs[k].2 := by
  obtain ⟨⟨o', i', j', e1, e2, e3⟩, e9⟩ := h
  cases e1
  rcases e3 with e3 | ⟨g, off, e4, e5, e6⟩
  · rw [e3] at hk; cases hk
  · exact ⟨g, off, e4, e5, e6 k hk, e9 _ (List.getElem_mem hk)⟩
theorem ChsOn.form {w : World} {F : Nat → Prop} {v : Value} {xs : List ChV} (h : ChsOn w F v xs) : ∃ o j, v = .slice o xs.length j := by
  obtain ⟨⟨o, i, j, e1, e2, _⟩, _⟩ := h
  exact ⟨o, j, by rw [e1, e2]⟩
/-- what came in, below B: it stays -/
theorem ChsOn.below {B : Nat} {w w' : World} {v : Value} {xs : List ChV} (h : ChsOn w (fun g => g < B) v xs) (hb : Below B w w') : ChsOn w' (fun g => g < B) v xs := h.move fun k _ hk => ⟨hk, hb.block k hk⟩
theorem RcOn.low {B : Nat} {w w' : World} {x : RcV} (h : RcOn w (fun g => g < B) x) (hb : Below B w w') : RcOn w' (fun g => g < B) x := h.move fun k _ hk => ⟨hk, hb.block k hk⟩
/-- bad changes: round by round -/
theorem badC_step {gv : Nat} {cs : List ChV} {k : Nat} (h : k < cs.length) : badC gv ((cs.take k).map (·.1)) ((cs.drop k).map toCh) = ((decide (cs[k].1 < 1) || decide ((gv : Int) < cs[k].1) || !rightR cs[k].2.1 || ((cs.take k).map (·.1)).contains cs[k].1) || badC gv ((cs.take (k + 1)).map (·.1)) ((cs.drop (k + 1)).map toCh)) := by
  rw [List.drop_eq_getElem_cons h, List.map_cons, badC, List.take_succ_eq_append_getElem h, List.map_append]
  rfl
/-- what may be laid is no more than there are numbers -/
theorem ids_le : ∀ (g : Nat) (l : List Int), (∀ x, x ∈ l → 1 ≤ x ∧ x ≤ (g : Int)) → l.Pairwise (· ≠ ·) → l.length ≤ g
  | 0, [], _, _ => Nat.le_refl _
  | 0, x :: l, h, _ => by have := h x List.mem_cons_self; omega
  | g + 1, l, h, hp => by
    have h1 := ids_le g (l.filter fun x => decide (x ≠ ((g + 1 : Nat) : Int))) (fun x hx => by
      obtain ⟨a, b⟩ := List.mem_filter.1 hx
      have := h x a
      have hb := of_decide_eq_true b
      omega) (hp.sublist List.filter_sublist)
    have h2 : ∀ m : List Int, m.Pairwise (· ≠ ·) → m.length ≤ (m.filter fun x => decide (x ≠ ((g + 1 : Nat) : Int))).length + 1 := by
      intro m
      induction m with
      | nil => intro _; simp
      | cons x m ih =>
        intro hm
        obtain ⟨q1, q2⟩ := List.pairwise_cons.1 hm
        by_cases hx : x = ((g + 1 : Nat) : Int)
        · have e3 : (m.filter fun x => decide (x ≠ ((g + 1 : Nat) : Int))) = m := List.filter_eq_self.2 fun y hy => decide_eq_true (fun e : y = ((g + 1 : Nat) : Int) => q1 y hy (hx.trans e.symm))
          rw [List.filter_cons, if_neg (by simpa using hx), List.length_cons, e3]
          exact Nat.le_refl _
        · have := ih q2
          rw [List.filter_cons, if_pos (by simpa using hx), List.length_cons, List.length_cons]
          omega
    have := h2 l hp
    omega
theorem bad_len {gv : Nat} {cs : List (Int × Rc)} (h : badC gv [] cs = false) : cs.length ≤ gv := by
  obtain ⟨h1, h2⟩ := bad_no h
  have := ids_le gv (cs.map (·.1)) (fun x hx => by
    obtain ⟨c, hc, rfl⟩ := List.mem_map.1 hx
    exact ⟨(h1 c hc).1, (h1 c hc).2.1⟩) (List.pairwise_map.2 h2)
  simpa using this
end Go.Proofs.Ytkackejipgabfaa.Char

/- The walk of the program's Right (by gen_right.py). -/
namespace Go.Proofs.Ytkackejipgabfaa.Char
open Go.RowKit Go.Lib

set_option maxRecDepth 100000 in
set_option maxHeartbeats 8000000 in
theorem right_any (r : Rc) (ok : Option Addr) (jk : Nat) (oa : Option Addr) (ja : Nat) (w : World) (F : Nat → Prop) (hk : IntsOn w F (.slice ok r.ks.length jk) r.ks) (ha : IntsOn w F (.slice oa r.ats.length ja) r.ats) (hz : r.ks.length ≤ 2 ^ 62) (hz2 : r.ats.length ≤ 2 ^ 62) :
    Calls Try.prog 53 #[.agg #[.int .i64 r.kd, .string (bs r.nm), .string (bs r.tx), .int .i64 r.pa, .slice ok r.ks.length jk, .slice oa r.ats.length ja, .bool r.gone]] w fun e w' => e = .returned (.bool (rightR r)) ∧ Below w.heap.size w w' := by
  obtain ⟨W1, hW1⟩ : ∃ W1, W1 = w.alloc (.cells #[.int .i64 r.kd, .string (bs r.nm), .string (bs r.tx), .int .i64 r.pa, .slice ok r.ks.length jk, .slice oa r.ats.length ja, .bool r.gone] 34) := ⟨_, rfl⟩
  have hb1 : Below w.heap.size w W1 := by rw [hW1]; exact (Below.refl _ _).alloc (Nat.le_refl _) _
  have HL := Lib.hid (numbers_any r.ks F ok jk W1 hz (hk.move fun b hb hF => ⟨hF, hb1.block b hb⟩))
  have HM := fun n => Lib.hid (numbers_any r.ats F oa ja (W1.drewN n) hz2 (ha.move fun b hb hF => ⟨hF, hb1.block b hb⟩))
  have hbk : W1.heap[w.heap.size]? = some (.cells #[.int .i64 r.kd, .string (bs r.nm), .string (bs r.tx), .int .i64 r.pa, .slice ok r.ks.length jk, .slice oa r.ats.length ja, .bool r.gone] 34 (0, 0)) := by rw [hW1]; exact World.alloc_heap_new w _
  have z0 : W1.cell? ⟨w.heap.size, 0, none⟩ = some (.int .i64 r.kd) := by simp [World.cell?, hbk]
  have z1 : W1.cell? ⟨w.heap.size, 1, none⟩ = some (.string (bs r.nm)) := by simp [World.cell?, hbk]
  have z2 : W1.cell? ⟨w.heap.size, 2, none⟩ = some (.string (bs r.tx)) := by simp [World.cell?, hbk]
  have z3 : W1.cell? ⟨w.heap.size, 3, none⟩ = some (.int .i64 r.pa) := by simp [World.cell?, hbk]
  have z4 : W1.cell? ⟨w.heap.size, 4, none⟩ = some (.slice ok r.ks.length jk) := by simp [World.cell?, hbk]
  have z5 : W1.cell? ⟨w.heap.size, 5, none⟩ = some (.slice oa r.ats.length ja) := by simp [World.cell?, hbk]
  have z6 : W1.cell? ⟨w.heap.size, 6, none⟩ = some (.bool r.gone) := by simp [World.cell?, hbk]
  have HB1 := Lib.hid hb1
  have HW1 := Lib.hid hW1
  clear hW1 hb1 hbk hk ha
  have hdef : rightR r = if r.gone then decide (r.kd = 0) && r.nm.isEmpty && r.tx.isEmpty && decide (r.pa = 0) && r.ks.isEmpty && r.ats.isEmpty
    else decide (1 ≤ r.kd) && decide (r.kd ≤ 6) && decide (0 ≤ r.pa) && !(lowL r.ks) && !(lowL r.ats) := rfl
  have hn1 : ((bs r.nm).toList == []) = r.nm.isEmpty := by rw [bs_tl]; cases r.nm <;> rfl
  have hx1 : ((bs r.tx).toList == []) = r.tx.isEmpty := by rw [bs_tl]; cases r.tx <;> rfl
  have hn0 : (bs r.nm).toList.isEmpty = r.nm.isEmpty := by rw [bs_tl]
  have hx0 : (bs r.tx).toList.isEmpty = r.tx.isEmpty := by rw [bs_tl]
  have hki : r.ks.isEmpty = decide (r.ks.length = 0) := by cases r.ks <;> rfl
  have hai : r.ats.isEmpty = decide (r.ats.length = 0) := by cases r.ats <;> rfl
  rw [hki, hai] at hdef
  clear hki hai
  obtain ⟨R, hR⟩ : ∃ R, rightR r = R := ⟨_, rfl⟩
  rw [hR] at hdef ⊢
  clear hR
  generalize lowL r.ks = b_lk at *
  generalize lowL r.ats = b_la at *
  generalize r.nm.isEmpty = b_n at *
  generalize r.tx.isEmpty = b_x at *
  cases hg : r.gone with
  | true =>
    rw [hg] at hdef z6 HW1
    by_cases h0 : r.kd = 0
    · rw [decide_eq_true h0] at hdef
      have k0 : (r.kd == 0) = true := by rw [h0]; rfl
      clear h0
      cases b_n with
      | true =>
        cases b_x with
        | true =>
          by_cases h3 : r.pa = 0
          · rw [decide_eq_true h3] at hdef
            have k3 : (r.pa == 0) = true := by rw [h3]; rfl
            clear h3
            by_cases h4 : r.ks.length = 0
            · rw [decide_eq_true h4] at hdef
              have k4 : ((r.ks.length : Int) == 0) = true := by rw [h4]; rfl
              clear h4
              by_cases h5 : r.ats.length = 0
              · rw [decide_eq_true h5] at hdef
                have k5 : ((r.ats.length : Int) == 0) = true := by rw [h5]; rfl
                clear h5
                have HD := Lib.hid hdef
                clear hdef
                go_enter Try.func53, Try.ntmps53
                go_wp2_with fail
                go_ret
                exact ⟨by rw [HD.out]; rfl, by rw [← HW1.out]; exact HB1.out⟩
              · rw [decide_eq_false h5] at hdef
                have k5 : ((r.ats.length : Int) == 0) = false := by rw [beq_eq_false_iff_ne]; omega
                clear h5
                have HD := Lib.hid hdef
                clear hdef
                go_enter Try.func53, Try.ntmps53
                go_wp2_with fail
                go_ret
                exact ⟨by rw [HD.out]; rfl, by rw [← HW1.out]; exact HB1.out⟩
            · rw [decide_eq_false h4] at hdef
              have k4 : ((r.ks.length : Int) == 0) = false := by rw [beq_eq_false_iff_ne]; omega
              clear h4
              have HD := Lib.hid hdef
              clear hdef
              go_enter Try.func53, Try.ntmps53
              go_wp2_with fail
              go_ret
              exact ⟨by rw [HD.out]; rfl, by rw [← HW1.out]; exact HB1.out⟩
          · rw [decide_eq_false h3] at hdef
            have k3 : (r.pa == 0) = false := by rw [beq_eq_false_iff_ne]; exact h3
            clear h3
            have HD := Lib.hid hdef
            clear hdef
            go_enter Try.func53, Try.ntmps53
            go_wp2_with fail
            go_ret
            exact ⟨by rw [HD.out]; rfl, by rw [← HW1.out]; exact HB1.out⟩
        | false =>
          have HD := Lib.hid hdef
          clear hdef
          go_enter Try.func53, Try.ntmps53
          go_wp2_with fail
          go_ret
          exact ⟨by rw [HD.out]; rfl, by rw [← HW1.out]; exact HB1.out⟩
      | false =>
        have HD := Lib.hid hdef
        clear hdef
        go_enter Try.func53, Try.ntmps53
        go_wp2_with fail
        go_ret
        exact ⟨by rw [HD.out]; rfl, by rw [← HW1.out]; exact HB1.out⟩
    · rw [decide_eq_false h0] at hdef
      have k0 : (r.kd == 0) = false := by rw [beq_eq_false_iff_ne]; exact h0
      clear h0
      have HD := Lib.hid hdef
      clear hdef
      go_enter Try.func53, Try.ntmps53
      go_wp2_with fail
      go_ret
      exact ⟨by rw [HD.out]; rfl, by rw [← HW1.out]; exact HB1.out⟩
  | false =>
    rw [hg] at hdef z6 HW1
    by_cases h0 : 1 ≤ r.kd
    · rw [decide_eq_true h0] at hdef
      by_cases h1 : r.kd ≤ 6
      · rw [decide_eq_true h1] at hdef
        by_cases h2 : 0 ≤ r.pa
        · rw [decide_eq_true h2] at hdef
          cases b_lk with
          | true =>
            have HD := Lib.hid hdef
            clear hdef
            go_enter Try.func53, Try.ntmps53
            go_wp2_with fail
            rw [← HW1.out]
            refine HL.out.mono ?_
            rintro e w1 ⟨rfl, n1, rfl⟩
            go_wp2_with fail
            go_ret
            exact ⟨by rw [HD.out]; rfl, HB1.out.trans (below_drewN _ _ _)⟩
          | false =>
            cases b_la with
            | true =>
              have HD := Lib.hid hdef
              clear hdef
              go_enter Try.func53, Try.ntmps53
              go_wp2_with fail
              rw [← HW1.out]
              refine HL.out.mono ?_
              rintro e w1 ⟨rfl, n1, rfl⟩
              go_wp2_with fail
              refine (HM n1).out.mono ?_
              rintro e w1 ⟨rfl, n2, rfl⟩
              go_wp2_with fail
              go_ret
              exact ⟨by rw [HD.out]; rfl, HB1.out.trans (below_drewN _ _ _)⟩
            | false =>
              have HD := Lib.hid hdef
              clear hdef
              go_enter Try.func53, Try.ntmps53
              go_wp2_with fail
              rw [← HW1.out]
              refine HL.out.mono ?_
              rintro e w1 ⟨rfl, n1, rfl⟩
              go_wp2_with fail
              refine (HM n1).out.mono ?_
              rintro e w1 ⟨rfl, n2, rfl⟩
              go_wp2_with fail
              go_ret
              exact ⟨by rw [HD.out]; rfl, HB1.out.trans (below_drewN _ _ _)⟩
        · rw [decide_eq_false h2] at hdef
          have HD := Lib.hid hdef
          clear hdef
          go_enter Try.func53, Try.ntmps53
          go_wp2_with fail
          go_ret
          exact ⟨by rw [HD.out]; rfl, by rw [← HW1.out]; exact HB1.out⟩
      · rw [decide_eq_false h1] at hdef
        have HD := Lib.hid hdef
        clear hdef
        go_enter Try.func53, Try.ntmps53
        go_wp2_with fail
        go_ret
        exact ⟨by rw [HD.out]; rfl, by rw [← HW1.out]; exact HB1.out⟩
    · rw [decide_eq_false h0] at hdef
      have HD := Lib.hid hdef
      clear hdef
      go_enter Try.func53, Try.ntmps53
      go_wp2_with fail
      go_ret
      exact ⟨by rw [HD.out]; rfl, by rw [← HW1.out]; exact HB1.out⟩
end Go.Proofs.Ytkackejipgabfaa.Char
