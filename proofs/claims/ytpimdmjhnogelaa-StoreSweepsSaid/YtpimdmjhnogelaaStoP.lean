/- Mathematics without a program: the document's own store, and what holds of it behind any calls. -/
import Derived.Test.YtpimdmjhnogelaaStoM
namespace Go.Proofs.Ytpimdmjhnogelaa.Char

/-- a record that may be -/
def rightR (r : Rc) : Bool :=
  if r.gone then decide (r.kd = 0) && r.nm.isEmpty && r.tx.isEmpty && decide (r.pa = 0) && r.ks.isEmpty && r.ats.isEmpty
  else decide (1 ≤ r.kd) && decide (r.kd ≤ 6) && decide (0 ≤ r.pa) && !(r.ks.any fun k => decide (k < 1)) && !(r.ats.any fun k => decide (k < 1))
def rootR : Rc := ⟨1, [], [], 0, [], [], false⟩
/-- the document's own store -/
structure Sto where
  L : List On
  given : Nat
  last : Nat
def newS : Sto := ⟨[⟨1, ⟨0, rootR⟩⟩], 1, 0⟩
def freshS (s : Sto) : Sto := { s with given := s.given + 1 }
/-- changes that may not be laid: behind those whose numbers stand in 'seen' -/
def badC (given : Nat) (seen : List Int) : List (Int × Rc) → Bool
  | [] => false
  | c :: r => (decide (c.1 < 1) || decide ((given : Int) < c.1) || !rightR c.2 || seen.contains c.1) || badC given (seen ++ [c.1]) r
/-- what Install tells -/
def instE (s : Sto) (time : Nat) (cs : List (Int × Rc)) : Nat := if time ≤ s.last then 43 else if badC s.given [] cs then 2 else 0
/-- the changes laid -/
def layC (time : Nat) (cs : List (Int × Rc)) : List On := cs.map fun c => ⟨c.1, ⟨time, c.2⟩⟩
def instS (s : Sto) (time : Nat) (cs : List (Int × Rc)) : Sto := if instE s time cs = 0 then ⟨s.L ++ layC time cs, s.given, time⟩ else s
def sweepS (s : Sto) (o : Nat) : Sto := { s with L := sweepL o s.L }
/-- the numbers of the nodes that have a version -/
def idsS (s : Sto) : List Nat := (List.range' 1 s.given).filter fun id => !(versL s.L (id : Int)).isEmpty

/-- what holds of it behind any calls -/
structure InvS (s : Sto) : Prop where
  ids : ∀ x, x ∈ s.L → 1 ≤ x.id ∧ x.id ≤ (s.given : Int)
  tms : ∀ x, x ∈ s.L → x.v.time ≤ s.last
  rgt : ∀ x, x ∈ s.L → rightR x.v.r = true
  up : s.L.Pairwise fun a b => a.id = b.id → a.v.time < b.v.time
theorem InvS.new : InvS newS := by
  refine ⟨fun x hx => ?_, fun x hx => ?_, fun x hx => ?_, ?_⟩
  · rw [show x = ⟨1, ⟨0, rootR⟩⟩ by simpa [newS] using hx]; exact ⟨Int.le_refl _, Int.le_refl _⟩
  · rw [show x = ⟨1, ⟨0, rootR⟩⟩ by simpa [newS] using hx]; exact Nat.le_refl _
  · rw [show x = ⟨1, ⟨0, rootR⟩⟩ by simpa [newS] using hx]; rfl
  · exact List.pairwise_singleton _ _
theorem InvS.fresh {s : Sto} (h : InvS s) : InvS (freshS s) :=
  ⟨fun x hx => by
    have := h.ids x hx
    show 1 ≤ x.id ∧ x.id ≤ ((s.given + 1 : Nat) : Int)
    omega, h.tms, h.rgt, h.up⟩
theorem InvS.sweep {s : Sto} (h : InvS s) (o : Nat) : InvS (sweepS s o) :=
  ⟨fun x hx => h.ids x ((sweepL_sub o s.L).subset hx), fun x hx => h.tms x ((sweepL_sub o s.L).subset hx), fun x hx => h.rgt x ((sweepL_sub o s.L).subset hx), h.up.sublist (sweepL_sub o s.L)⟩
theorem bad_no {given : Nat} : ∀ {cs : List (Int × Rc)} {seen : List Int}, badC given seen cs = false →
    (∀ c, c ∈ cs → 1 ≤ c.1 ∧ c.1 ≤ (given : Int) ∧ rightR c.2 = true ∧ c.1 ∉ seen) ∧ cs.Pairwise fun a b => a.1 ≠ b.1
  | [], _, _ => ⟨fun c hc => (by cases hc), List.Pairwise.nil⟩
  | c :: r, seen, h => by
    rw [badC, Bool.or_eq_false_iff, Bool.or_eq_false_iff, Bool.or_eq_false_iff, Bool.or_eq_false_iff] at h
    obtain ⟨⟨⟨⟨h1, h2⟩, h3⟩, h4⟩, h5⟩ := h
    obtain ⟨i1, i2⟩ := bad_no h5
    have k1 := of_decide_eq_false h1
    have k2 := of_decide_eq_false h2
    have k3 : rightR c.2 = true := by simpa using h3
    have k4 : c.1 ∉ seen := by simpa using h4
    refine ⟨fun x hx => ?_, List.pairwise_cons.2 ⟨fun x hx => ?_, i2⟩⟩
    · rcases List.mem_cons.1 hx with rfl | hx
      · exact ⟨by omega, by omega, k3, k4⟩
      · obtain ⟨a, b, d, e⟩ := i1 x hx
        exact ⟨a, b, d, fun hs => e (List.mem_append_left _ hs)⟩
    · have := (i1 x hx).2.2.2
      intro e
      exact this (List.mem_append_right _ (by rw [e]; exact List.mem_singleton.2 rfl))
theorem instE_ok {s : Sto} {time : Nat} {cs : List (Int × Rc)} (h : instE s time cs = 0) : s.last < time ∧ badC s.given [] cs = false := by
  unfold instE at h
  split at h
  · cases h
  · split at h
    · cases h
    · rename_i h1 h2
      exact ⟨by omega, by simpa using h2⟩
theorem InvS.inst {s : Sto} (h : InvS s) (time : Nat) (cs : List (Int × Rc)) : InvS (instS s time cs) := by
  unfold instS
  split
  · rename_i he
    obtain ⟨ht, hb⟩ := instE_ok he
    obtain ⟨h1, h2⟩ := bad_no hb
    have hl : ∀ x, x ∈ layC time cs → ∃ c, c ∈ cs ∧ x = ⟨c.1, ⟨time, c.2⟩⟩ := fun x hx => by
      obtain ⟨c, hc, e⟩ := List.mem_map.1 hx
      exact ⟨c, hc, e.symm⟩
    refine ⟨fun x hx => ?_, fun x hx => ?_, fun x hx => ?_, ?_⟩
    · rcases List.mem_append.1 hx with hx | hx
      · exact h.ids x hx
      · obtain ⟨c, hc, rfl⟩ := hl x hx
        exact ⟨(h1 c hc).1, (h1 c hc).2.1⟩
    · rcases List.mem_append.1 hx with hx | hx
      · exact Nat.le_of_lt (Nat.lt_of_le_of_lt (h.tms x hx) ht)
      · obtain ⟨c, hc, rfl⟩ := hl x hx
        exact Nat.le_refl _
    · rcases List.mem_append.1 hx with hx | hx
      · exact h.rgt x hx
      · obtain ⟨c, hc, rfl⟩ := hl x hx
        exact (h1 c hc).2.2.1
    · refine List.pairwise_append.2 ⟨h.up, ?_, fun a ha b hb _ => ?_⟩
      · exact List.pairwise_map.2 (h2.imp fun hne e => absurd e hne)
      · obtain ⟨c, hc, rfl⟩ := hl b hb
        exact Nat.lt_of_le_of_lt (h.tms a ha) ht
  · exact h
/-- a node's versions rise -/
theorem InvS.vers {s : Sto} (h : InvS s) (id : Int) : upV (versL s.L id) := by
  have key : ∀ L : List On, (L.Pairwise fun a b => a.id = b.id → a.v.time < b.v.time) → upV (versL L id) := by
    intro L
    induction L with
    | nil => intro _; exact List.Pairwise.nil
    | cons x L ih =>
      intro hp
      obtain ⟨h1, h2⟩ := List.pairwise_cons.1 hp
      rw [versL_cons]
      split
      · rename_i hx
        refine upV_cons.2 ⟨fun y hy => ?_, ih h2⟩
        obtain ⟨z, hz, rfl⟩ := List.mem_map.1 hy
        obtain ⟨hz1, hz2⟩ := List.mem_filter.1 hz
        exact h1 z hz1 (hx.trans (by simpa using hz2 : z.id = id).symm)
      · exact ih h2
  exact key s.L h.up
/-- what a node's versions become when changes are laid -/
theorem vers_lay {time : Nat} {cs : List (Int × Rc)} (h : cs.Pairwise fun a b => a.1 ≠ b.1) (id : Int) : versL (layC time cs) id = match cs.find? fun c => c.1 == id with
    | none => []
    | some c => [⟨time, c.2⟩] := by
  induction cs with
  | nil => rfl
  | cons c r ih =>
    obtain ⟨h1, h2⟩ := List.pairwise_cons.1 h
    rw [show layC time (c :: r) = ⟨c.1, ⟨time, c.2⟩⟩ :: layC time r from rfl, versL_cons, ih h2, List.find?_cons]
    by_cases hc : c.1 = id
    · subst hc
      rw [if_pos rfl, beq_self_eq_true]
      rw [show (r.find? fun x => x.1 == c.1) = none from List.find?_eq_none.2 fun x hx => by simpa using (h1 x hx).symm]
    · rw [if_neg hc, beq_eq_false_iff_ne.2 hc]
/-- how many versions there are, node by node -/
theorem count_range (g : Nat) : ∀ L : List On, (∀ x, x ∈ L → 1 ≤ x.id ∧ x.id ≤ (g : Int)) → ((List.range' 1 g).map fun id : Nat => (versL L (id : Int)).length).sum = L.length
  | [], _ => by
    have : ∀ n s : Nat, ((List.range' s n).map fun id : Nat => (versL [] (id : Int)).length).sum = 0 := by
      intro n
      induction n with
      | zero => intro s; rfl
      | succ n ih => intro s; rw [List.range'_succ, List.map_cons, List.sum_cons, ih]; rfl
    exact this g 1
  | x :: L, h => by
    have ih := count_range g L fun y hy => h y (List.mem_cons_of_mem _ hy)
    obtain ⟨h1, h2⟩ := h x List.mem_cons_self
    have key : ∀ n s : Nat, ((List.range' s n).map fun id : Nat => (versL (x :: L) (id : Int)).length).sum = ((List.range' s n).map fun id : Nat => (versL L (id : Int)).length).sum + (if (s : Int) ≤ x.id ∧ x.id < ((s + n : Nat) : Int) then 1 else 0) := by
      intro n
      induction n with
      | zero =>
        intro s
        rw [if_neg (by omega)]
        rfl
      | succ n ihn =>
        intro s
        rw [List.range'_succ, List.map_cons, List.sum_cons, List.map_cons, List.sum_cons, ihn, versL_cons]
        by_cases hx : x.id = (s : Int)
        · rw [if_pos hx, if_neg (by omega), if_pos (by omega), List.length_cons]; omega
        · rw [if_neg hx]
          by_cases hr : ((s + 1 : Nat) : Int) ≤ x.id ∧ x.id < ((s + 1 + n : Nat) : Int)
          · rw [if_pos hr, if_pos (by omega)]; omega
          · rw [if_neg hr, if_neg (by omega)]; omega
    rw [key, ih, if_pos (by omega), List.length_cons]
end Go.Proofs.Ytpimdmjhnogelaa.Char
