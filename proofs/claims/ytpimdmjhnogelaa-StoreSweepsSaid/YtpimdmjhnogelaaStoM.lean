/- Mathematics without a program: versions of nodes in one list, and what a sweep leaves of them. -/
import Derived.Lib.Hide
namespace Go.Proofs.Ytpimdmjhnogelaa.Char

/-- a record -/
structure Rc where
  kd : Int
  nm : List UInt8
  tx : List UInt8
  pa : Int
  ks : List Int
  ats : List Int
  gone : Bool
/-- a version: from when on, and what -/
structure Ve where
  time : Nat
  r : Rc
/-- a node's version -/
structure On where
  id : Int
  v : Ve
/-- the versions of one node -/
def versL (L : List On) (id : Int) : List Ve := (L.filter fun x => x.id == id).map (·.v)
theorem versL_nil (id : Int) : versL [] id = [] := rfl
theorem versL_cons (x : On) (L : List On) (id : Int) : versL (x :: L) id = if x.id = id then x.v :: versL L id else versL L id := by
  unfold versL
  rw [List.filter_cons]
  by_cases h : x.id = id
  · rw [if_pos (by simpa using h), if_pos h]; rfl
  · rw [if_neg (by simpa using h), if_neg h]
theorem versL_app (L M : List On) (id : Int) : versL (L ++ M) id = versL L id ++ versL M id := by simp [versL]
/-- what a node was at a time -/
def atV (l : List Ve) (t : Nat) : Option Rc := match (l.filter fun x => decide (x.time ≤ t)).getLast? with
  | none => none
  | some x => if x.r.gone = true then none else some x.r
/-- what a sweep leaves -/
def sweepL (o : Nat) : List On → List On
  | [] => []
  | x :: r => if decide (x.v.time ≤ o) && (x.v.r.gone || r.any fun y => y.id == x.id && decide (y.v.time ≤ o)) then sweepL o r else x :: sweepL o r
/-- .. of one node's versions -/
def sweepV (o : Nat) : List Ve → List Ve
  | [] => []
  | x :: r => if decide (x.time ≤ o) && (x.r.gone || r.any fun y => decide (y.time ≤ o)) then sweepV o r else x :: sweepV o r
theorem any_vers (o : Nat) (id : Int) : ∀ L : List On, (L.any fun y => y.id == id && decide (y.v.time ≤ o)) = (versL L id).any fun y => decide (y.time ≤ o)
  | [] => rfl
  | x :: L => by
    rw [versL_cons, List.any_cons, any_vers o id L]
    by_cases h : x.id = id
    · rw [if_pos h, List.any_cons, beq_iff_eq.2 h, Bool.true_and]
    · rw [if_neg h, beq_eq_false_iff_ne.2 h, Bool.false_and, Bool.false_or]
theorem vers_sweep (o : Nat) (id : Int) : ∀ L : List On, versL (sweepL o L) id = sweepV o (versL L id)
  | [] => rfl
  | x :: L => by
    have ih := vers_sweep o id L
    by_cases h : x.id = id
    · subst h
      rw [versL_cons, if_pos rfl, sweepL, sweepV, any_vers]
      split
      · exact ih
      · rw [versL_cons, if_pos rfl, ih]
    · rw [versL_cons, if_neg h, sweepL]
      split
      · exact ih
      · rw [versL_cons, if_neg h, ih]
theorem sweepL_sub (o : Nat) : ∀ L : List On, (sweepL o L).Sublist L
  | [] => List.Sublist.slnil
  | x :: L => by
    rw [sweepL]
    split
    · exact (sweepL_sub o L).cons _
    · exact (sweepL_sub o L).cons_cons _
theorem sweepV_sub (o : Nat) : ∀ l : List Ve, (sweepV o l).Sublist l
  | [] => List.Sublist.slnil
  | x :: l => by
    rw [sweepV]
    split
    · exact (sweepV_sub o l).cons _
    · exact (sweepV_sub o l).cons_cons _
theorem any_sub {α : Type} {p : α → Bool} {a b : List α} (h : a.Sublist b) (hb : b.any p = false) : a.any p = false := by
  rw [List.any_eq_false] at hb ⊢
  exact fun x hx => hb x (h.subset hx)
/-- a sweep behind a sweep of the same time leaves all -/
theorem sweepL_again (o : Nat) : ∀ L : List On, sweepL o (sweepL o L) = sweepL o L
  | [] => rfl
  | x :: L => by
    have ih := sweepL_again o L
    rw [sweepL]
    split
    · exact ih
    · rename_i h
      have h1 : (decide (x.v.time ≤ o) && (x.v.r.gone || L.any fun y => y.id == x.id && decide (y.v.time ≤ o))) = false := by simpa using h
      have h2 : (decide (x.v.time ≤ o) && (x.v.r.gone || (sweepL o L).any fun y => y.id == x.id && decide (y.v.time ≤ o))) = false := by
        rw [Bool.and_eq_false_iff] at h1 ⊢
        rcases h1 with h1 | h1
        · exact .inl h1
        · rw [Bool.or_eq_false_iff] at h1
          exact .inr (by rw [h1.1, any_sub (sweepL_sub o L) h1.2]; rfl)
      rw [sweepL, h2, if_neg (by simp), ih]
theorem sweepV_again (o : Nat) : ∀ l : List Ve, sweepV o (sweepV o l) = sweepV o l
  | [] => rfl
  | x :: L => by
    have ih := sweepV_again o L
    rw [sweepV]
    split
    · exact ih
    · rename_i h
      have h1 : (decide (x.time ≤ o) && (x.r.gone || L.any fun y => decide (y.time ≤ o))) = false := by simpa using h
      have h2 : (decide (x.time ≤ o) && (x.r.gone || (sweepV o L).any fun y => decide (y.time ≤ o))) = false := by
        rw [Bool.and_eq_false_iff] at h1 ⊢
        rcases h1 with h1 | h1
        · exact .inl h1
        · rw [Bool.or_eq_false_iff] at h1
          exact .inr (by rw [h1.1, any_sub (sweepV_sub o L) h1.2]; rfl)
      rw [sweepV, h2, if_neg (by simp), ih]
/-- behind a sweep a node has at most one version that is not above -/
theorem sweepV_low (o : Nat) : ∀ l : List Ve, ((sweepV o l).filter fun x => decide (x.time ≤ o)).length ≤ 1
  | [] => by simp [sweepV]
  | x :: l => by
    have ih := sweepV_low o l
    rw [sweepV]
    split
    · exact ih
    · rename_i h
      rw [List.filter_cons]
      split
      · rename_i h2
        have h1 : (decide (x.time ≤ o) && (x.r.gone || l.any fun y => decide (y.time ≤ o))) = false := by simpa using h
        rw [h2, Bool.true_and, Bool.or_eq_false_iff] at h1
        have h3 := any_sub (sweepV_sub o l) h1.2
        rw [List.any_eq_false] at h3
        rw [List.filter_eq_nil_iff.2 h3]
        simp
      · exact ih
/-- versions that rise -/
def upV (l : List Ve) : Prop := l.Pairwise fun a b => a.time < b.time
theorem upV_cons {x : Ve} {l : List Ve} : upV (x :: l) ↔ (∀ y, y ∈ l → x.time < y.time) ∧ upV l := List.pairwise_cons
theorem upV_sweep {o : Nat} {l : List Ve} (h : upV l) : upV (sweepV o l) := List.Pairwise.sublist (sweepV_sub o l) h
theorem filter_none {o : Nat} {l : List Ve} (h : (l.any fun y => decide (y.time ≤ o)) = false) : (l.filter fun x => decide (x.time ≤ o)) = [] := by
  rw [List.any_eq_false] at h
  exact List.filter_eq_nil_iff.2 h
/-- a sweep turns no answer for times that are not below it -/
theorem atV_sweep {o t : Nat} (hot : o ≤ t) : ∀ {l : List Ve}, upV l → atV (sweepV o l) t = atV l t
  | [], _ => rfl
  | x :: l, h => by
    obtain ⟨h1, h2⟩ := upV_cons.1 h
    have ih := atV_sweep hot h2
    by_cases hx : x.time ≤ o
    · have hxt : decide (x.time ≤ t) = true := decide_eq_true (by omega)
      by_cases ha : (l.any fun y => decide (y.time ≤ o)) = true
      · rw [sweepV, ha, Bool.or_true, decide_eq_true hx, if_pos (by rfl), ih]
        unfold atV
        rw [List.filter_cons, if_pos hxt]
        obtain ⟨y, hy, hyo⟩ := List.any_eq_true.1 ha
        have hne : (l.filter fun x => decide (x.time ≤ t)) ≠ [] := List.ne_nil_of_mem (List.mem_filter.2 ⟨hy, by have := of_decide_eq_true hyo; exact decide_eq_true (by omega)⟩)
        rw [List.getLast?_cons_of_ne_nil hne]
      · have ha' : (l.any fun y => decide (y.time ≤ o)) = false := by simpa using ha
        cases hg : x.r.gone with
        | true =>
          rw [sweepV, hg, Bool.true_or, decide_eq_true hx, if_pos (by rfl), ih]
          unfold atV
          rw [List.filter_cons, if_pos hxt]
          cases hf : (l.filter fun x => decide (x.time ≤ t)) with
          | nil => simp [hg]
          | cons a r => rw [List.getLast?_cons_cons]
        | false =>
          rw [sweepV, hg, ha', Bool.or_false, Bool.and_false, if_neg (by simp)]
          unfold atV at ih ⊢
          rw [List.filter_cons, if_pos hxt, List.filter_cons, if_pos hxt]
          have hs : sweepV o l = l := by
            have key : ∀ m : List Ve, (m.any fun y => decide (y.time ≤ o)) = false → sweepV o m = m := by
              intro m
              induction m with
              | nil => intro _; rfl
              | cons a m ihm =>
                intro hm
                rw [List.any_cons, Bool.or_eq_false_iff] at hm
                rw [sweepV, hm.1, Bool.false_and, if_neg (by simp), ihm hm.2]
            exact key l ha'
          rw [hs]
    · rw [sweepV, decide_eq_false hx, Bool.false_and, if_neg (by simp)]
      have key : ∀ m : List Ve, (∀ y, y ∈ m → ¬ y.time ≤ o) → sweepV o m = m := by
        intro m
        induction m with
        | nil => intro _; rfl
        | cons a m ihm =>
          intro hm
          rw [sweepV, decide_eq_false (hm a List.mem_cons_self), Bool.false_and, if_neg (by simp), ihm fun y hy => hm y (List.mem_cons_of_mem _ hy)]
      rw [key l fun y hy => by have := h1 y hy; omega]
/-- those at the beginning that are not above -/
def lowV (o : Nat) (l : List Ve) : List Ve := l.takeWhile fun x => decide (x.time ≤ o)
/-- a sweep of versions that rise, by how many are not above -/
def cutV (o : Nat) (l : List Ve) : List Ve := match (lowV o l).getLast? with
  | none => l
  | some x => if x.r.gone = true then l.drop (lowV o l).length else l.drop ((lowV o l).length - 1)
theorem lowV_cons {o : Nat} {x : Ve} {l : List Ve} : lowV o (x :: l) = if x.time ≤ o then x :: lowV o l else [] := by
  unfold lowV
  rw [List.takeWhile_cons]
  by_cases h : x.time ≤ o
  · rw [if_pos (decide_eq_true h), if_pos h]
  · rw [if_neg (by simpa using h), if_neg h]
theorem sweepV_high {o : Nat} : ∀ m : List Ve, (∀ y, y ∈ m → ¬ y.time ≤ o) → sweepV o m = m
  | [], _ => rfl
  | a :: m, hm => by
    rw [sweepV, decide_eq_false (hm a List.mem_cons_self), Bool.false_and, if_neg (by simp), sweepV_high m fun y hy => hm y (List.mem_cons_of_mem _ hy)]
theorem lowV_any {o : Nat} : ∀ {l : List Ve}, upV l → (l.any fun y => decide (y.time ≤ o)) = !(lowV o l).isEmpty
  | [], _ => rfl
  | x :: l, h => by
    obtain ⟨h1, h2⟩ := upV_cons.1 h
    rw [List.any_cons, lowV_cons]
    by_cases hx : x.time ≤ o
    · rw [if_pos hx, decide_eq_true hx]; rfl
    · rw [if_neg hx, decide_eq_false hx, Bool.false_or, List.any_eq_false.2 (fun y hy => by have := h1 y hy; simp; omega)]; rfl
theorem sweepV_cut {o : Nat} : ∀ {l : List Ve}, upV l → sweepV o l = cutV o l
  | [], _ => rfl
  | x :: l, h => by
    obtain ⟨h1, h2⟩ := upV_cons.1 h
    have ih := sweepV_cut (o := o) h2
    rw [sweepV, lowV_any h2]
    unfold cutV at ih ⊢
    rw [lowV_cons]
    by_cases hx : x.time ≤ o
    · rw [if_pos hx, decide_eq_true hx, Bool.true_and]
      cases hl : lowV o l with
      | nil =>
        have hs : sweepV o l = l := by rw [ih, hl]; rfl
        cases hg : x.r.gone with
        | true => rw [if_pos (by simp), hs]; simp [hg]
        | false => rw [if_neg (by simp), hs]; simp [hg]
      | cons a r =>
        rw [hl] at ih
        rw [if_pos (by simp), ih, List.getLast?_cons_cons]
        cases hla : (a :: r).getLast? with
        | none => simp at hla
        | some y =>
          dsimp only
          split
          · simp
          · simp
    · rw [if_neg hx, decide_eq_false hx, Bool.false_and, if_neg (by simp)]
      rw [sweepV_high l fun y hy => by have := h1 y hy; omega]
      rfl
end Go.Proofs.Ytpimdmjhnogelaa.Char
