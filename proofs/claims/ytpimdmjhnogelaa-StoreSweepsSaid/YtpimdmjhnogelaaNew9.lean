/- The walk of the program's New. -/
import Derived.Test.YtpimdmjhnogelaaPStM
namespace Go.Proofs.Ytpimdmjhnogelaa.Char
open Go.RowKit Go.Lib

theorem wpList_insert_in {w : World} {ops : Array Oper} {rest : List Oper} {o : Oper} {a : Act} {Q : Exit → Act → World → Prop} {P : Program} (hg : o.guard = none) (m x v : Operand) (t : TypeId) (hop : o.op = Op.insert t m x v)
    (k e : TypeId) (K : Maps.Keyed P k) (ht : P.underlying t = some (.map k e)) (R : Value → Option (DataW Value × List MemPlace)) (b n : Nat) (D : DataW Value)
    (hm : a.eval m = .map (some b)) (hown : w.ownsMap P k R b n D) (hn : n < maxLen) (key val : Value) (kl : Lit) (hx : a.eval x = key) (hv : a.eval v = val) (hkey : keyOf P k key = some kl)
    (d : DataW Value) (ps : List MemPlace) (hval : R val = some (d, ps))
    (hK : ∀ w', w'.ownsMap P k R b (n + 1) (D.put kl d) → w.mapTurned w' b → wpList P ops Q rest (a.put o.dst undef) w') :
    wpList P ops Q (o :: rest) a w := by
  refine wpList_plain hg fun K' hK' => ?_
  obtain ⟨w', hrun, r1, r2⟩ := hown.store K ht hn hkey hval
  unfold Oper.wp
  simp [execOp, hop, hm, hx, hv, hrun, Result.andThen]
  exact hK' _ _ (hK w' r1 r2)
theorem has_put {D : DataW Value} (hD : Maps.IsMap D) (i j : Int) (v : Value) : Maps.has (D.put (kI i) (.held v)) (kI j) = if j = i then true else Maps.has D (kI j) := by
  by_cases h : j = i
  · subst h; rw [if_pos rfl]; exact Maps.has_put_same hD (kI_key j) _
  · rw [if_neg h]; exact Maps.has_put_other (kI_ne h) _
theorem val_put {D : DataW Value} (hD : Maps.IsMap D) (i j : Int) (v : Value) (z : DataW Value) : (D.put (kI i) (.held v)).atKey (kI j) z = if j = i then .held v else D.atKey (kI j) z := by
  by_cases h : j = i
  · subst h; rw [if_pos rfl]; exact Maps.atKey_put_same hD (kI_key j) _ _
  · rw [if_neg h]; exact Maps.atKey_put_other (kI_ne h) _ _
theorem has_del (D : DataW Value) (i j : Int) : Maps.has (D.del (kI i)) (kI j) = if j = i then false else Maps.has D (kI j) := by
  by_cases h : j = i
  · subst h; rw [if_pos rfl]; exact Maps.has_del_same
  · rw [if_neg h]; exact Maps.has_del_other (kI_ne h)
theorem val_del (D : DataW Value) (i j : Int) (z : DataW Value) : (D.del (kI i)).atKey (kI j) z = if j = i then z else D.atKey (kI j) z := by
  by_cases h : j = i
  · subst h; rw [if_pos rfl]; exact Maps.atKey_del_same _
  · rw [if_neg h]; exact Maps.atKey_del_other (kI_ne h) _
/-- the root alone -/
def rootVe : VeV := (0, rootR, .slice none 0 0, .slice none 0 0)
def V1 (v : Value) : Int → Value := fun i => if i = 1 then v else nilV
def X1 : Int → List VeV := fun i => if i = 1 then [rootVe] else []
set_option maxRecDepth 100000 in
set_option maxHeartbeats 4000000 in
theorem new_any (B : Nat) (w : World) (hB : B ≤ w.heap.size) :
    Calls Try.prog 8 #[] w fun e w' => ∃ b mb n D V, e = .returned (.pointer (some ⟨b, 0, none⟩)) ∧ PSt (fun g => w.heap.size ≤ g ∧ g < w'.heap.size) B w' b mb n D V X1 1 0 ∧ Below w.heap.size w w' := by
  have hmk : ∀ w, (Instr.makeMap 88 none).run Try.prog w = .ok (.map (some w.heap.size)) (w.alloc (.map #[] 0)) := fun w => run_makeMap _ w
  have hmap : ∀ o, (((w.alloc (.map #[] 0)).alloc o)).ownsMap Try.prog 3 heldE w.heap.size 0 (.map []) := fun o => World.ownsMap.alloc (World.ownsMap_made w _ _ _) o
  have HM := Lib.hid hmap
  clear hmap
  go_enter Try.func8, Try.ntmps8
  go_wp2_with (first
    | (refine wpList_insert_in rfl (.tmp 2) (.const (.int .i64 1)) (.tmp 5) 88 rfl 3 42 law_int Try.underlying88 heldE w.heap.size 0 (.map []) rfl (HM.out _) (by unfold maxLen; omega) _ _ (kI 1) rfl rfl (key_int (by decide)) (.held _) [] rfl ?_; intro w2 hown2 hturn2)
    | fail)
  have hg2 := hturn2.grown
  have hs2 := hg2.size
  simp only [World.size_alloc] at hs2
  have hr : w2.heap[w.heap.size + 1]? = some (.cells #[.int .u64 0, .int .i64 1, .string ⟨#[]⟩, .string ⟨#[]⟩, .int .i64 0, .slice none 0 0, .slice none 0 0, .bool false] 45 (0, 0)) := by
    rw [hg2.block (w.heap.size + 1) (by simp) (by simp)]
    have := World.alloc_heap_new (w.alloc (.map #[] 0)) (.cells #[.int .u64 0, .int .i64 1, .string ⟨#[]⟩, .string ⟨#[]⟩, .int .i64 0, .slice none 0 0, .slice none 0 0, .bool false] 45)
    simpa using this
  have hB2 : Below w.heap.size w w2 := (((Below.refl _ w).alloc (Nat.le_refl _) _).alloc (by simp) _).grown hg2 (by simp; omega) (fun k hk => by cases hk; exact Nat.le_refl _)
  have HP : PSt (fun g => w.heap.size ≤ g ∧ g < w2.heap.size + 1) B (w2.alloc (.cells #[.pointer (some ⟨w2.heap.size, 0, none⟩), .int .i64 1, .int .u64 0, .map (some w.heap.size)] 90)) w2.heap.size w.heap.size (0 + 1) ((DataW.map []).put (kI 1) (.held (.slice (some ⟨w.heap.size + 1, 0, none⟩) 1 1))) (V1 (.slice (some ⟨w.heap.size + 1, 0, none⟩) 1 1)) X1 1 0 := by
    refine ⟨World.alloc_heap_new w2 _, hown2.alloc _, fun id => ?_, fun id => ?_, fun id => ?_, fun id x hx => ?_, fun id x hx => ?_, fun i j g hi hj => ?_, fun g hg => ?_, fun g hg => ⟨by omega, by simp; omega⟩, fun id hid => ?_, fun id => ?_⟩
    · rw [has_put Maps.isMap_empty]
      unfold X1
      split
      · rfl
      · rfl
    · rw [val_put Maps.isMap_empty]
      unfold V1
      split
      · rfl
      · exact Maps.atKey_of_not_has rfl _
    · unfold V1 X1
      split
      · refine ⟨rfl, .inr ⟨w.heap.size + 1, 1, _, rfl, by omega, (Below.heap_alloc w2 _ _ (by omega)).trans hr, Nat.le_refl _, by unfold maxLen; omega, rfl, rfl⟩⟩
      · exact OwnsVe.nil _ _
    · unfold X1 at hx
      split at hx
      · rw [List.mem_singleton] at hx
        subst hx
        exact ⟨IntsOn.nil _ _ _ _, IntsOn.nil _ _ _ _⟩
      · cases hx
    · unfold X1 at hx
      split at hx
      · rw [List.mem_singleton] at hx
        subst hx
        exact ⟨by decide, by decide⟩
      · cases hx
    · unfold V1 at hi hj
      split at hi
      · split at hj
        · omega
        · cases hj
      · cases hi
    · rcases hg with rfl | rfl | ⟨i, hi⟩
      · omega
      · omega
      · unfold V1 at hi
        split at hi
        · obtain rfl : w.heap.size + 1 = g := by simpa [Value.ownBlock] using hi
          omega
        · cases hi
    · unfold X1 at hid
      split at hid
      · rename_i h; subst h; omega
      · exact absurd rfl hid
    · unfold X1
      split
      · exact List.pairwise_singleton _ _
      · exact List.Pairwise.nil
  go_ret
  exact ⟨w2.heap.size, w.heap.size, _, _, _, rfl, by simpa using HP, hB2.alloc (by omega) _⟩
end Go.Proofs.Ytpimdmjhnogelaa.Char
