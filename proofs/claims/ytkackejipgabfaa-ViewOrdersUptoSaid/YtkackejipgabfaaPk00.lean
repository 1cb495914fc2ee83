/- Lay9 StoM Plain Bs RecOn IntsW VsOn StoP -/
import Derived.Shelf.SlIterI.Nil
import Derived.Shelf.SortM.Plain
import Derived.Shelf.SortM.SortNone
import Derived.Shelf.SlSorted.Search
import Derived.Shelf.SlicesE.IndexFunc
import Derived.Shelf.SlGeneric
import Derived.Test.YtkackejipgabfaaProg
import Derived.Lib.Hide
import Derived.Lib.ValidLaws
import Derived.Lib.TrimUEq
import Derived.Lib.MapLaws
import Derived.WalkKit
import Derived.Below
import Derived.Outline
import Derived.Laws.Strings3
import Derived.WideShapes
import Derived.Deep.QuietTactic
import Derived.BigQuiet
import Derived.RangeFuncRecord
/- The library's contracts at this program's numbers: maps.Keys, slices.Sorted, slices.Sort, sort.Search, slices.ContainsFunc. -/
namespace Go.Proofs.Ytkackejipgabfaa.Char
open Go.Shelf Go.RowKit
def keysA_ren : Go.Shelf.Ren := ⟨fun | 7 => 88 | 10 => 114 | n => n, fun | 23 => 110 | 26 => 3 | 3 => 109 | 28 => 115 | 0 => 0 | 27 => 114 | 33 => 83 | 4 => 4 | n => n, fun | n => n⟩
theorem keysA : Go.Proofs.SlLaysZI.n7 Try.prog keysA_ren := {
  mixed := by kernel_rfl
  f7 := ⟨Try.f88.name, by decide, Try.func88.trans (congrArg some (by kernel_rfl))⟩
  f10 := ⟨Try.f114.name, by decide, Try.func114.trans (congrArg some (by kernel_rfl))⟩
  t0 := Try.underlying0
  a0 := Try.isAgg0
  z0 := Try.sizeOf0
  v0 := Try.zeroValue0
  t4 := Try.underlying4
  a4 := Try.isAgg4
  z4 := Try.sizeOf4
  v4 := Try.zeroValue4
  t23 := Try.underlying110
  a23 := Try.isAgg110
  z23 := Try.sizeOf110
  v23 := Try.zeroValue110
  t26 := Try.underlying3
  a26 := Try.isAgg3
  z26 := Try.sizeOf3
  v26 := Try.zeroValue3
  t27 := Try.underlying114
  a27 := Try.isAgg114
  z27 := Try.sizeOf114
  v27 := Try.zeroValue114
  t28 := Try.underlying115
  a28 := Try.isAgg115
  z28 := Try.sizeOf115
  v28 := Try.zeroValue115
  t33 := Try.underlying83
  a33 := Try.isAgg83
  z33 := Try.sizeOf83
  v33 := Try.zeroValue83 }
def sortedA_ren : Go.Shelf.Ren := ⟨fun | 6 => 50 | 8 => 83 | 9 => 84 | 11 => 110 | 13 => 112 | 12 => 111 | 23 => 133 | 24 => 134 | 14 => 124 | 15 => 125 | 16 => 126 | 17 => 127 | 18 => 128 | 19 => 129 | 20 => 130 | 21 => 131 | 22 => 132 | 25 => 139 | 26 => 140 | 27 => 141 | 28 => 142 | 29 => 143 | 30 => 144 | 31 => 145 | n => n, fun | 26 => 3 | 28 => 115 | 24 => 27 | 0 => 0 | 3 => 3 | 37 => 172 | 48 => 191 | 50 => 48 | 4 => 4 | 40 => 183 | 39 => 182 | 45 => 188 | 5 => 5 | 9 => 9 | 51 => 195 | 55 => 88 | 57 => 199 | 58 => 200 | 33 => 83 | n => n, fun | n => n⟩
theorem sortedA : Go.Proofs.SlLaysZI.n6 Try.prog sortedA_ren := {
  mixed := by kernel_rfl
  f6 := ⟨Try.f50.name, by decide, Try.func50.trans (congrArg some (by kernel_rfl))⟩
  f8 := ⟨Try.f83.name, by decide, Try.func83.trans (congrArg some (by kernel_rfl))⟩
  f11 := ⟨Try.f110.name, by decide, Try.func110.trans (congrArg some (by kernel_rfl))⟩
  t0 := Try.underlying0
  a0 := Try.isAgg0
  z0 := Try.sizeOf0
  v0 := Try.zeroValue0
  t24 := Try.underlying27
  a24 := Try.isAgg27
  z24 := Try.sizeOf27
  v24 := Try.zeroValue27
  t26 := Try.underlying3
  a26 := Try.isAgg3
  z26 := Try.sizeOf3
  v26 := Try.zeroValue3
  t28 := Try.underlying115
  a28 := Try.isAgg115
  z28 := Try.sizeOf115
  v28 := Try.zeroValue115
  i26 := by kernel_rfl }
def sortA_ren : Go.Shelf.Ren := ⟨fun | 5 => 84 | 8 => 112 | 7 => 111 | 19 => 133 | 20 => 134 | 10 => 124 | 11 => 125 | 12 => 126 | 13 => 127 | 14 => 128 | 15 => 129 | 16 => 130 | 17 => 131 | 18 => 132 | 30 => 139 | 31 => 140 | 32 => 141 | 33 => 142 | 34 => 143 | 35 => 144 | 40 => 145 | n => n, fun | 23 => 27 | 25 => 3 | 3 => 3 | 32 => 172 | 22 => 27 | 0 => 0 | 44 => 191 | 46 => 48 | 4 => 4 | 36 => 183 | 35 => 182 | 41 => 188 | 5 => 5 | 9 => 9 | 53 => 195 | 57 => 88 | 63 => 199 | 64 => 200 | n => n, fun | n => n⟩
theorem sortA : Go.Proofs.SlLaysM.n5 Try.prog sortA_ren := {
  mixed := by kernel_rfl
  f5 := ⟨Try.f84.name, by decide, Try.func84.trans (congrArg some (by kernel_rfl))⟩
  f7 := ⟨Try.f111.name, by decide, Try.func111.trans (congrArg some (by kernel_rfl))⟩
  f8 := Try.func112.trans (congrArg some (by kernel_rfl))
  f10 := ⟨Try.f124.name, by decide, Try.func124.trans (congrArg some (by kernel_rfl))⟩
  f11 := ⟨Try.f125.name, by decide, Try.func125.trans (congrArg some (by kernel_rfl))⟩
  f12 := ⟨Try.f126.name, by decide, Try.func126.trans (congrArg some (by kernel_rfl))⟩
  f13 := ⟨Try.f127.name, by decide, Try.func127.trans (congrArg some (by kernel_rfl))⟩
  f14 := ⟨Try.f128.name, by decide, Try.func128.trans (congrArg some (by kernel_rfl))⟩
  f15 := ⟨Try.f129.name, by decide, Try.func129.trans (congrArg some (by kernel_rfl))⟩
  f16 := ⟨Try.f130.name, by decide, Try.func130.trans (congrArg some (by kernel_rfl))⟩
  f17 := ⟨Try.f131.name, by decide, Try.func131.trans (congrArg some (by kernel_rfl))⟩
  f18 := ⟨Try.f132.name, by decide, Try.func132.trans (congrArg some (by kernel_rfl))⟩
  f19 := Try.func133.trans (congrArg some (by kernel_rfl))
  f20 := Try.func134.trans (congrArg some (by kernel_rfl))
  f30 := ⟨Try.f139.name, by decide, Try.func139.trans (congrArg some (by kernel_rfl))⟩
  f31 := Try.func140.trans (congrArg some (by kernel_rfl))
  f32 := Try.func141.trans (congrArg some (by kernel_rfl))
  f33 := ⟨Try.f142.name, by decide, Try.func142.trans (congrArg some (by kernel_rfl))⟩
  f34 := ⟨Try.f143.name, by decide, Try.func143.trans (congrArg some (by kernel_rfl))⟩
  f35 := ⟨Try.f144.name, by decide, Try.func144.trans (congrArg some (by kernel_rfl))⟩
  f40 := ⟨Try.f145.name, by decide, Try.func145.trans (congrArg some (by kernel_rfl))⟩
  t0 := Try.underlying0
  a0 := Try.isAgg0
  z0 := Try.sizeOf0
  v0 := Try.zeroValue0
  t3 := Try.underlying3
  a3 := Try.isAgg3
  z3 := Try.sizeOf3
  v3 := Try.zeroValue3
  t4 := Try.underlying4
  a4 := Try.isAgg4
  z4 := Try.sizeOf4
  v4 := Try.zeroValue4
  t5 := Try.underlying5
  a5 := Try.isAgg5
  z5 := Try.sizeOf5
  v5 := Try.zeroValue5
  t9 := Try.underlying9
  a9 := Try.isAgg9
  z9 := Try.sizeOf9
  v9 := Try.zeroValue9
  t22 := Try.underlying27
  a22 := Try.isAgg27
  z22 := Try.sizeOf27
  v22 := Try.zeroValue27
  t23 := Try.underlying27
  a23 := Try.isAgg27
  z23 := Try.sizeOf27
  v23 := Try.zeroValue27
  t25 := Try.underlying3
  a25 := Try.isAgg3
  z25 := Try.sizeOf3
  v25 := Try.zeroValue3
  t32 := Try.underlying172
  a32 := Try.isAgg172
  z32 := Try.sizeOf172
  v32 := Try.zeroValue172
  t35 := Try.underlying182
  a35 := Try.isAgg182
  z35 := Try.sizeOf182
  v35 := Try.zeroValue182
  t36 := Try.underlying183
  a36 := Try.isAgg183
  z36 := Try.sizeOf183
  v36 := Try.zeroValue183
  t41 := Try.underlying188
  a41 := Try.isAgg188
  z41 := Try.sizeOf188
  v41 := Try.zeroValue188
  t44 := Try.underlying191
  a44 := Try.isAgg191
  z44 := Try.sizeOf191
  v44 := Try.zeroValue191
  t46 := Try.underlying48
  a46 := Try.isAgg48
  z46 := Try.sizeOf48
  v46 := Try.zeroValue48
  t53 := Try.underlying195
  a53 := Try.isAgg195
  z53 := Try.sizeOf195
  v53 := Try.zeroValue195
  t57 := Try.underlying88
  a57 := Try.isAgg88
  z57 := Try.sizeOf88
  v57 := Try.zeroValue88
  t63 := Try.underlying199
  a63 := Try.isAgg199
  z63 := Try.sizeOf199
  v63 := Try.zeroValue199
  t64 := Try.underlying200
  a64 := Try.isAgg200
  z64 := Try.sizeOf200
  v64 := Try.zeroValue200 }
def searchA_ren : Go.Shelf.Ren := ⟨fun | 16 => 135 | n => n, fun | 3 => 3 | 35 => 83 | 4 => 4 | 38 => 172 | n => n, fun | n => n⟩
theorem searchA : Go.Proofs.SlLaysO.n16 Try.prog searchA_ren := {
  mixed := by kernel_rfl
  f16 := Try.func135.trans (congrArg some (by kernel_rfl))
  t3 := Try.underlying3
  a3 := Try.isAgg3
  z3 := Try.sizeOf3
  v3 := Try.zeroValue3
  t4 := Try.underlying4
  a4 := Try.isAgg4
  z4 := Try.sizeOf4
  v4 := Try.zeroValue4
  t35 := Try.underlying83
  a35 := Try.isAgg83
  z35 := Try.sizeOf83
  v35 := Try.zeroValue83
  t38 := Try.underlying172
  a38 := Try.isAgg172
  z38 := Try.sizeOf172
  v38 := Try.zeroValue172 }
def containsA_ren : Go.Shelf.Ren := ⟨fun | 8 => 108 | 6 => 123 | n => n, fun | 22 => 27 | 23 => 3 | 25 => 83 | 4 => 4 | 3 => 3 | 0 => 0 | n => n, fun | n => n⟩
theorem containsA : Go.Proofs.SlLaysH.n8 Try.prog containsA_ren := {
  mixed := by kernel_rfl
  f6 := ⟨Try.f123.name, by decide, Try.func123.trans (congrArg some (by kernel_rfl))⟩
  f8 := ⟨Try.f108.name, by decide, Try.func108.trans (congrArg some (by kernel_rfl))⟩
  t0 := Try.underlying0
  a0 := Try.isAgg0
  z0 := Try.sizeOf0
  v0 := Try.zeroValue0
  t3 := Try.underlying3
  a3 := Try.isAgg3
  z3 := Try.sizeOf3
  v3 := Try.zeroValue3
  t4 := Try.underlying4
  a4 := Try.isAgg4
  z4 := Try.sizeOf4
  v4 := Try.zeroValue4
  t22 := Try.underlying27
  a22 := Try.isAgg27
  z22 := Try.sizeOf27
  v22 := Try.zeroValue27
  a23 := Try.isAgg3
  z23 := Try.sizeOf3
  t25 := Try.underlying83
  a25 := Try.isAgg83
  z25 := Try.sizeOf83
  v25 := Try.zeroValue83 }
end Go.Proofs.Ytkackejipgabfaa.Char

/- Mathematics without a program: versions of nodes in one list, and what a sweep leaves of them. -/
namespace Go.Proofs.Ytkackejipgabfaa.Char

/-- a record -/
structure Rc where
  kd : Int
  nm : List UInt8
  tx : List UInt8
  pa : Int
  ks : List Int
  ats : List Int
  gone : Bool
/-- a version: from when on, and what -/
structure Ve where
  time : Nat
  r : Rc
/-- a node's version -/
structure On where
  id : Int
  v : Ve
/-- the versions of one node -/
def versL (L : List On) (id : Int) : List Ve := (L.filter fun x => x.id == id).map (·.v)
theorem versL_nil (id : Int) : versL [] id = [] := rfl
theorem versL_cons (x : On) (L : List On) (id : Int) : versL (x :: L) id = if x.id = id then x.v :: versL L id else versL L id := by
  unfold versL
  rw [List.filter_cons]
  by_cases h : x.id = id
  · rw [if_pos (by simpa using h), if_pos h]; rfl
  · rw [if_neg (by simpa using h), if_neg h]
theorem versL_app (L M : List On) (id : Int) : versL (L ++ M) id = versL L id ++ versL M id := by simp [versL]
/-- what a node was at a time -/
def atV (l : List Ve) (t : Nat) : Option Rc := match (l.filter fun x => decide (x.time ≤ t)).getLast? with
  | none => none
  | some x => if x.r.gone = true then none else some x.r
/-- what a sweep leaves -/
def sweepL (o : Nat) : List On → List On
  | [] => []
  | x :: r => if decide (x.v.time ≤ o) && (x.v.r.gone || r.any fun y => y.id == x.id && decide (y.v.time ≤ o)) then sweepL o r else x :: sweepL o r
/-- .. of one node's versions -/
def sweepV (o : Nat) : List Ve → List Ve
  | [] => []
  | x :: r => if decide (x.time ≤ o) && (x.r.gone || r.any fun y => decide (y.time ≤ o)) then sweepV o r else x :: sweepV o r
theorem any_vers (o : Nat) (id : Int) : ∀ L : List On, (L.any fun y => y.id == id && decide (y.v.time ≤ o)) = (versL L id).any fun y => decide (y.time ≤ o)
  | [] => rfl
  | x :: L => by
    rw [versL_cons, List.any_cons, any_vers o id L]
    by_cases h : x.id = id
    · rw [if_pos h, List.any_cons, beq_iff_eq.2 h, Bool.true_and]
    · rw [if_neg h, beq_eq_false_iff_ne.2 h, Bool.false_and, Bool.false_or]
theorem vers_sweep (o : Nat) (id : Int) : ∀ L : List On, versL (sweepL o L) id = sweepV o (versL L id)
  | [] => rfl
  | x :: L => by
    have ih := vers_sweep o id L
    by_cases h : x.id = id
    · subst h
      rw [versL_cons, if_pos rfl, sweepL, sweepV, any_vers]
      split
      · exact ih
      · rw [versL_cons, if_pos rfl, ih]
    · rw [versL_cons, if_neg h, sweepL]
      split
      · exact ih
      · rw [versL_cons, if_neg h, ih]
theorem sweepL_sub (o : Nat) : ∀ L : List On, (sweepL o L).Sublist L
  | [] => List.Sublist.slnil
  | x :: L => by
    rw [sweepL]
    split
    · exact (sweepL_sub o L).cons _
    · exact (sweepL_sub o L).cons_cons _
theorem sweepV_sub (o : Nat) : ∀ l : List Ve, (sweepV o l).Sublist l
  | [] => List.Sublist.slnil
  | x :: l => by
    rw [sweepV]
    split
    · exact (sweepV_sub o l).cons _
    · exact (sweepV_sub o l).cons_cons _
theorem any_sub {α : Type} {p : α → Bool} {a b : List α} (h : a.Sublist b) (hb : b.any p = false) : a.any p = false := by
  rw [List.any_eq_false] at hb ⊢
  exact fun x hx => hb x (h.subset hx)
/-- a sweep behind a sweep of the same time leaves all -/
theorem sweepL_again (o : Nat) : ∀ L : List On, sweepL o (sweepL o L) = sweepL o L
  | [] => rfl
  | x :: L => by
    have ih := sweepL_again o L
    rw [sweepL]
    split
    · exact ih
    · rename_i h
      have h1 : (decide (x.v.time ≤ o) && (x.v.r.gone || L.any fun y => y.id == x.id && decide (y.v.time ≤ o))) = false := by simpa using h
      have h2 : (decide (x.v.time ≤ o) && (x.v.r.gone || (sweepL o L).any fun y => y.id == x.id && decide (y.v.time ≤ o))) = false := by
        rw [Bool.and_eq_false_iff] at h1 ⊢
        rcases h1 with h1 | h1
        · exact .inl h1
        · rw [Bool.or_eq_false_iff] at h1
          exact .inr (by rw [h1.1, any_sub (sweepL_sub o L) h1.2]; rfl)
      rw [sweepL, h2, if_neg (by simp), ih]
theorem sweepV_again (o : Nat) : ∀ l : List Ve, sweepV o (sweepV o l) = sweepV o l
  | [] => rfl
  | x :: L => by
    have ih := sweepV_again o L
    rw [sweepV]
    split
    · exact ih
    · rename_i h
      have h1 : (decide (x.time ≤ o) && (x.r.gone || L.any fun y => decide (y.time ≤ o))) = false := by simpa using h
      have h2 : (decide (x.time ≤ o) && (x.r.gone || (sweepV o L).any fun y => decide (y.time ≤ o))) = false := by
        rw [Bool.and_eq_false_iff] at h1 ⊢
        rcases h1 with h1 | h1
        · exact .inl h1
        · rw [Bool.or_eq_false_iff] at h1
          exact .inr (by rw [h1.1, any_sub (sweepV_sub o L) h1.2]; rfl)
      rw [sweepV, h2, if_neg (by simp), ih]
/-- behind a sweep a node has at most one version that is not above -/
theorem sweepV_low (o : Nat) : ∀ l : List Ve, ((sweepV o l).filter fun x => decide (x.time ≤ o)).length ≤ 1
  | [] => by simp [sweepV]
  | x :: l => by
    have ih := sweepV_low o l
    rw [sweepV]
    split
    · exact ih
    · rename_i h
      rw [List.filter_cons]
      split
      · rename_i h2
        have h1 : (decide (x.time ≤ o) && (x.r.gone || l.any fun y => decide (y.time ≤ o))) = false := by simpa using h
        rw [h2, Bool.true_and, Bool.or_eq_false_iff] at h1
        have h3 := any_sub (sweepV_sub o l) h1.2
        rw [List.any_eq_false] at h3
        rw [List.filter_eq_nil_iff.2 h3]
        simp
      · exact ih
/-- versions that rise -/
def upV (l : List Ve) : Prop := l.Pairwise fun a b => a.time < b.time
theorem upV_cons {x : Ve} {l : List Ve} : upV (x :: l) ↔ (∀ y, y ∈ l → x.time < y.time) ∧ upV l := List.pairwise_cons
theorem upV_sweep {o : Nat} {l : List Ve} (h : upV l) : upV (sweepV o l) := List.Pairwise.sublist (sweepV_sub o l) h
theorem filter_none {o : Nat} {l : List Ve} (h : (l.any fun y => decide (y.time ≤ o)) = false) : (l.filter fun x => decide (x.time ≤ o)) = [] := by
  rw [List.any_eq_false] at h
  exact List.filter_eq_nil_iff.2 h
/-- a sweep turns no answer for times that are not below it -/
theorem atV_sweep {o t : Nat} (hot : o ≤ t) : ∀ {l : List Ve}, upV l → atV (sweepV o l) t = atV l t
  | [], _ => rfl
  | x :: l, h => by
    obtain ⟨h1, h2⟩ := upV_cons.1 h
    have ih := atV_sweep hot h2
    by_cases hx : x.time ≤ o
    · have hxt : decide (x.time ≤ t) = true := decide_eq_true (by omega)
      by_cases ha : (l.any fun y => decide (y.time ≤ o)) = true
      · rw [sweepV, ha, Bool.or_true, decide_eq_true hx, if_pos (by rfl), ih]
        unfold atV
        rw [List.filter_cons, if_pos hxt]
        obtain ⟨y, hy, hyo⟩ := List.any_eq_true.1 ha
        have hne : (l.filter fun x => decide (x.time ≤ t)) ≠ [] := List.ne_nil_of_mem (List.mem_filter.2 ⟨hy, by have := of_decide_eq_true hyo; exact decide_eq_true (by omega)⟩)
        rw [List.getLast?_cons_of_ne_nil hne]
      · have ha' : (l.any fun y => decide (y.time ≤ o)) = false := by simpa using ha
        cases hg : x.r.gone with
        | true =>
          rw [sweepV, hg, Bool.true_or, decide_eq_true hx, if_pos (by rfl), ih]
          unfold atV
          rw [List.filter_cons, if_pos hxt]
          cases hf : (l.filter fun x => decide (x.time ≤ t)) with
          | nil => simp [hg]
          | cons a r => rw [List.getLast?_cons_cons]
        | false =>
          rw [sweepV, hg, ha', Bool.or_false, Bool.and_false, if_neg (by simp)]
          unfold atV at ih ⊢
          rw [List.filter_cons, if_pos hxt, List.filter_cons, if_pos hxt]
          have hs : sweepV o l = l := by
            have key : ∀ m : List Ve, (m.any fun y => decide (y.time ≤ o)) = false → sweepV o m = m := by
              intro m
              induction m with
              | nil => intro _; rfl
              | cons a m ihm =>
                intro hm
                rw [List.any_cons, Bool.or_eq_false_iff] at hm
                rw [sweepV, hm.1, Bool.false_and, if_neg (by simp), ihm hm.2]
            exact key l ha'
          rw [hs]
    · rw [sweepV, decide_eq_false hx, Bool.false_and, if_neg (by simp)]
      have key : ∀ m : List Ve, (∀ y, y ∈ m → ¬ y.time ≤ o) → sweepV o m = m := by
        intro m
        induction m with
        | nil => intro _; rfl
        | cons a m ihm =>
          intro hm
          rw [sweepV, decide_eq_false (hm a List.mem_cons_self), Bool.false_and, if_neg (by simp), ihm fun y hy => hm y (List.mem_cons_of_mem _ hy)]
      rw [key l fun y hy => by have := h1 y hy; omega]
/-- those at the beginning that are not above -/
def lowV (o : Nat) (l : List Ve) : List Ve := l.takeWhile fun x => decide (x.time ≤ o)
/-- a sweep of versions that rise, by how many are not above -/
def cutV (o : Nat) (l : List Ve) : List Ve := match (lowV o l).getLast? with
  | none => l
  | some x => if x.r.gone = true then l.drop (lowV o l).length else l.drop ((lowV o l).length - 1)
theorem lowV_cons {o : Nat} {x : Ve} {l : List Ve} : lowV o (x :: l) = if x.time ≤ o then x :: lowV o l else [] := by
  unfold lowV
  rw [List.takeWhile_cons]
  by_cases h : x.time ≤ o
  · rw [if_pos (decide_eq_true h), if_pos h]
  · rw [if_neg (by simpa using h), if_neg h]
theorem sweepV_high {o : Nat} : ∀ m : List Ve, (∀ y, y ∈ m → ¬ y.time ≤ o) → sweepV o m = m
  | [], _ => rfl
  | a :: m, hm => by
    rw [sweepV, decide_eq_false (hm a List.mem_cons_self), Bool.false_and, if_neg (by simp), sweepV_high m fun y hy => hm y (List.mem_cons_of_mem _ hy)]
theorem lowV_any {o : Nat} : ∀ {l : List Ve}, upV l → (l.any fun y => decide (y.time ≤ o)) = !(lowV o l).isEmpty
  | [], _ => rfl
  | x :: l, h => by
    obtain ⟨h1, h2⟩ := upV_cons.1 h
    rw [List.any_cons, lowV_cons]
    by_cases hx : x.time ≤ o
    · rw [if_pos hx, decide_eq_true hx]; rfl
    · rw [if_neg hx, decide_eq_false hx, Bool.false_or, List.any_eq_false.2 (fun y hy => by have := h1 y hy; simp; omega)]; rfl
theorem sweepV_cut {o : Nat} : ∀ {l : List Ve}, upV l → sweepV o l = cutV o l
  | [], _ => rfl
  | x :: l, h => by
    obtain ⟨h1, h2⟩ := upV_cons.1 h
    have ih := sweepV_cut (o := o) h2
    rw [sweepV, lowV_any h2]
    unfold cutV at ih ⊢
    rw [lowV_cons]
    by_cases hx : x.time ≤ o
    · rw [if_pos hx, decide_eq_true hx, Bool.true_and]
      cases hl : lowV o l with
      | nil =>
        have hs : sweepV o l = l := by rw [ih, hl]; rfl
        cases hg : x.r.gone with
        | true => rw [if_pos (by simp), hs]; simp [hg]
        | false => rw [if_neg (by simp), hs]; simp [hg]
      | cons a r =>
        rw [hl] at ih
        rw [if_pos (by simp), ih, List.getLast?_cons_cons]
        cases hla : (a :: r).getLast? with
        | none => simp at hla
        | some y =>
          dsimp only
          split
          · simp
          · simp
    · rw [if_neg hx, decide_eq_false hx, Bool.false_and, if_neg (by simp)]
      rw [sweepV_high l fun y hy => by have := h1 y hy; omega]
      rfl
end Go.Proofs.Ytkackejipgabfaa.Char

/- Plain mathematics of runes and bytes: no program stands in it. -/
namespace Go.Proofs.Ytkackejipgabfaa.Char
open Go.Lib

/-- all the runes that a range over these bytes gives are such -/
def allN (p : Int → Bool) : Nat → List UInt8 → Bool
  | 0, _ => true
  | n + 1, l => if l = [] then true else p ((decodeL l).1 : Int) && allN p n (l.drop (decodeL l).2)
def allR (p : Int → Bool) (l : List UInt8) : Bool := allN p l.length l

theorem allN_nil (p : Int → Bool) : ∀ n, allN p n [] = true
  | 0 => rfl
  | _ + 1 => by simp [allN]
theorem allN_fuel (p : Int → Bool) : ∀ (n m : Nat) (l : List UInt8), l.length ≤ n → l.length ≤ m → allN p n l = allN p m l
  | 0, m, l, hn, _ => by
    obtain rfl : l = [] := List.eq_nil_of_length_eq_zero (by omega)
    rw [allN_nil, allN_nil]
  | n + 1, 0, l, _, hm => by
    obtain rfl : l = [] := List.eq_nil_of_length_eq_zero (by omega)
    rw [allN_nil, allN_nil]
  | n + 1, m + 1, l, hn, hm => by
    unfold allN
    by_cases hne : l = []
    · simp [hne]
    · have hw := decodeL_width l
      have hl : 0 < l.length := List.length_pos_iff.2 hne
      rw [if_neg hne, if_neg hne, allN_fuel p n m (l.drop (decodeL l).2) (by rw [List.length_drop]; omega) (by rw [List.length_drop]; omega)]
theorem allR_nil (p : Int → Bool) : allR p [] = true := rfl
theorem allR_step (p : Int → Bool) (l : List UInt8) (hne : l ≠ []) : allR p l = (p ((decodeL l).1 : Int) && allR p (l.drop (decodeL l).2)) := by
  have hl : 0 < l.length := List.length_pos_iff.2 hne
  have hw := decodeL_width l
  obtain ⟨n, hn⟩ : ∃ n, l.length = n + 1 := ⟨l.length - 1, by omega⟩
  unfold allR
  rw [hn]
  show (if l = [] then true else _) = _
  rw [if_neg hne, allN_fuel p n (l.drop (decodeL l).2).length _ (by rw [List.length_drop]; omega) (Nat.le_refl _)]

theorem allR_and (p q : Int → Bool) : ∀ (n : Nat) (l : List UInt8), l.length ≤ n → (allR (fun r => p r && q r) l = (allR p l && allR q l))
  | 0, l, h => by
    obtain rfl : l = [] := List.eq_nil_of_length_eq_zero (by omega)
    rfl
  | n + 1, l, h => by
    by_cases hne : l = []
    · subst hne; rfl
    · have hw := decodeL_width l
      rw [allR_step _ l hne, allR_step p l hne, allR_step q l hne, allR_and p q n _ (by rw [List.length_drop]; omega)]
      cases p ((decodeL l).1 : Int) <;> cases q ((decodeL l).1 : Int) <;> simp
theorem allR_imp (p q : Int → Bool) (h : ∀ r, p r = true → q r = true) : ∀ (n : Nat) (l : List UInt8), l.length ≤ n → allR p l = true → allR q l = true
  | 0, l, hl, _ => by
    obtain rfl : l = [] := List.eq_nil_of_length_eq_zero (by omega)
    rfl
  | n + 1, l, hl, ha => by
    by_cases hne : l = []
    · subst hne; rfl
    · have hw := decodeL_width l
      rw [allR_step p l hne, Bool.and_eq_true] at ha
      rw [allR_step q l hne, Bool.and_eq_true]
      exact ⟨h _ ha.1, allR_imp p q h n _ (by rw [List.length_drop]; omega) ha.2⟩

/-- the rune at a place of a string is that of the bytes from there on -/
theorem decode_drop (s : ByteArray) (pos : Nat) : Utf8.decode s pos = decodeL (s.data.toList.drop pos) := (decodeL_drop s pos).symm
theorem drop_ne (s : ByteArray) (pos : Nat) (h : pos < s.size) : s.data.toList.drop pos ≠ [] := by
  have e : s.data.toList.length = s.size := by rw [Array.length_toList]; rfl
  intro h0
  have := congrArg List.length h0
  simp at this
  have e2 : s.data.size = s.size := rfl
  omega
theorem drop_end (s : ByteArray) (pos : Nat) (h : ¬ pos < s.size) : s.data.toList.drop pos = [] := by
  apply List.drop_eq_nil_of_le
  have e : s.data.toList.length = s.size := by rw [Array.length_toList]; rfl
  omega
theorem allR_at (p : Int → Bool) (s : ByteArray) (pos : Nat) (h : pos < s.size) :
    allR p (s.data.toList.drop pos) = (p ((Utf8.decode s pos).1 : Int) && allR p (s.data.toList.drop (pos + (Utf8.decode s pos).2))) := by
  rw [allR_step p _ (drop_ne s pos h), decode_drop, List.drop_drop]
theorem int32_lo {a : Int} (h : (Lit.int .i32 a).wf = true) : -2147483648 ≤ a := by
  have : -2147483648 ≤ a ∧ a ≤ 2147483647 := by simpa [Lit.wf, IntKind.min, IntKind.max, IntKind.signed, IntKind.bits] using h
  exact this.1
theorem int32_hi {a : Int} (h : (Lit.int .i32 a).wf = true) : a ≤ 2147483647 := by
  have : -2147483648 ≤ a ∧ a ≤ 2147483647 := by simpa [Lit.wf, IntKind.min, IntKind.max, IntKind.signed, IntKind.bits] using h
  exact this.2
end Go.Proofs.Ytkackejipgabfaa.Char

/- Texts as lists of bytes, and what the walk asks of them. -/
namespace Go.Proofs.Ytkackejipgabfaa.Char
open Go.RowKit Go.Lib

def bs (l : List UInt8) : ByteArray := ⟨l.toArray⟩
theorem bs_list (l : List UInt8) : (bs l).data.toList = l := rfl
theorem bs_of (s : ByteArray) : bs s.data.toList = s := rfl
theorem bs_size (l : List UInt8) : (bs l).size = l.length := by show l.toArray.size = _; rw [List.size_toArray]
theorem bs_ext (l : List UInt8) (i j : Nat) : (bs l).extract i j = bs ((l.drop i).take (j - i)) := by
  rw [← bs_of ((bs l).extract i j), extract_data]
  rfl
theorem bs_add (a b : List UInt8) : bs a ++ bs b = bs (a ++ b) := by
  rw [← bs_of (bs a ++ bs b), ByteArray.data_append, Array.toList_append]
  rfl
theorem bs_get (l : List UInt8) (i : Nat) (h : i < (bs l).size) : (bs l)[i] = l.getD i 0 := by
  have h' : i < l.length := by rw [← bs_size]; exact h
  have e : l.getD i 0 = l[i] := by simp [List.getD, List.getElem?_eq_getElem h']
  rw [e]
  rfl
theorem ret_str {a b : List UInt8} (h : a = b) : Ending.returned (.string (bs a)) = .returned (.string (bs b)) := by rw [h]
theorem bs_tl (l : List UInt8) : (bs l).toList = l := by rw [toList_data]; rfl
theorem drop_cons (l : List UInt8) (k : Nat) (h : k < l.length) : l.drop k = l.getD k 0 :: l.drop (k + 1) := by
  have hg : l.getD k 0 = l[k] := by simp [List.getD, List.getElem?_eq_getElem h]
  rw [List.drop_eq_getElem_cons h, hg]
/-- c == ".." of one byte -/
theorem eq_one (b x : UInt8) (v : Bool) (h : (b == x) = v) : ((bs [b]).toList == [x]) = v := by
  rw [bs_tl, ← h]
  simp
theorem ne_one (b x : UInt8) (h : b ≠ x) : ((bs [b]).toList == [x]) = false := eq_one b x false (beq_eq_false_iff_ne.2 h)
/-- s[k : k+1] -/
theorem bs_one (l : List UInt8) (k : Nat) (h : k < l.length) : (bs l).extract k (k + 1) = bs [l.getD k 0] := by
  rw [bs_ext, drop_cons l k h, Nat.add_sub_cancel_left]
  rfl
theorem slice_one (l : List UInt8) (k : Nat) (h : k < l.length) (wx : World) : (Instr.slice 9 (.string (bs l)) (some (.int .i64 (k : Int))) (some (.int .i64 ((k : Int) + 1))) none).run Try.prog wx = .ok (.string (bs [l.getD k 0])) wx := by
  have := run_slice_string (P := Try.prog) wx 9 (bs l) .i64 .i64 (k : Int) ((k : Int) + 1) Try.underlying9 (by omega) (by omega) (by rw [bs_size]; omega)
  rw [show (k : Int).toNat = k by omega, show ((k : Int) + 1).toNat = k + 1 by omega, bs_one l k h] at this
  exact this
/-- a + b -/
theorem add_bs (a b : List UInt8) (ha : a.length ≤ 1048576) (hb : b.length ≤ 1048576) (wx : World) : (Op.stringOp .add (bs a) (bs b)).run Try.prog wx = .ok (.string (bs (a ++ b))) wx := by
  have h1 := bs_size a
  have h2 := bs_size b
  rw [run_string_add wx (bs a) (bs b) (by omega) (by omega), bs_add]
end Go.Proofs.Ytkackejipgabfaa.Char

/- Records in memory: rows of numbers, and a record's seven cells. -/
namespace Go.Proofs.Ytkackejipgabfaa.Char
open Go.RowKit Go.Lib

/-- numbers in a slice, in blocks of which F holds -/
def IntsOn (w : World) (F : Nat → Prop) (v : Value) (zs : List Int) : Prop := ∃ o i j, v = .slice o i j ∧ i = zs.length ∧ (zs = [] ∨ ∃ g off, o = some ⟨g, off, none⟩ ∧ F g ∧
  ∀ k, k < zs.length → w.cell? ⟨g, off + k, none⟩ = some (.int .i64 (zs.getD k 0)))
theorem cell_lt {w : World} {a : Addr} {v : Value} (h : w.cell? a = some v) : a.block < w.heap.size := by
  unfold World.cell? at h
  split at h
  · rename_i hh; exact (Array.getElem?_eq_some_iff.1 hh).1
  · cases h
theorem IntsOn.move {w w' : World} {F F' : Nat → Prop} (h : ∀ b, b < w.heap.size → F b → F' b ∧ w'.heap[b]? = w.heap[b]?) {v : Value} {zs : List Int} (ha : IntsOn w F v zs) : IntsOn w' F' v zs := by
  obtain ⟨o, i, j, e1, e2, e3⟩ := ha
  refine ⟨o, i, j, e1, e2, ?_⟩
  rcases e3 with e3 | ⟨g, off, e4, e5, e6⟩
  · exact .inl e3
  · by_cases hq : zs = []
    · exact .inl hq
    · obtain ⟨k1, k2⟩ := h g (cell_lt (e6 0 (List.length_pos_iff.2 hq))) e5
      exact .inr ⟨g, off, e4, k1, fun k hk => (World.cell?_of_block (w := w) k2).trans (e6 k hk)⟩
theorem IntsOn.reads {w : World} {F : Nat → Prop} {o : Option Addr} {i j : Nat} {zs : List Int} (h : IntsOn w F (.slice o i j) zs) (k : Nat) (hk : k < zs.length) :
    ∃ g off, o = some ⟨g, off, none⟩ ∧ F g ∧ w.cell? ⟨g, off + k, none⟩ = some (.int .i64 zs[k]) := by
  obtain ⟨o', i', j', e1, e2, e3⟩ := h
  cases e1
  rcases e3 with e3 | ⟨g, off, e4, e5, e6⟩
  · rw [e3] at hk; cases hk
  · have := e6 k hk
    rw [List.getD_eq_getElem?_getD, List.getElem?_eq_getElem hk] at this
    exact ⟨g, off, e4, e5, this⟩
theorem IntsOn.form {w : World} {F : Nat → Prop} {v : Value} {zs : List Int} (h : IntsOn w F v zs) : ∃ o j, v = .slice o zs.length j := by
  obtain ⟨o, i, j, e1, e2, _⟩ := h
  exact ⟨o, j, by rw [e1, e2]⟩
theorem IntsOn.nil (w : World) (F : Nat → Prop) (o : Option Addr) (j : Nat) : IntsOn w F (.slice o 0 j) [] := ⟨o, 0, j, rfl, rfl, .inl rfl⟩

/-- a record, and the values that its two slices are -/
abbrev RcV := Rc × Value × Value
def rcC (x : RcV) : List Value := [.int .i64 x.1.kd, .string (bs x.1.nm), .string (bs x.1.tx), .int .i64 x.1.pa, x.2.1, x.2.2, .bool x.1.gone]
/-- a record as a value -/
def rcV (x : RcV) : Value := .agg #[.int .i64 x.1.kd, .string (bs x.1.nm), .string (bs x.1.tx), .int .i64 x.1.pa, x.2.1, x.2.2, .bool x.1.gone]
/-- its two slices, in blocks of which F holds -/
def RcOn (w : World) (F : Nat → Prop) (x : RcV) : Prop := IntsOn w F x.2.1 x.1.ks ∧ IntsOn w F x.2.2 x.1.ats
theorem RcOn.move {w w' : World} {F F' : Nat → Prop} (h : ∀ b, b < w.heap.size → F b → F' b ∧ w'.heap[b]? = w.heap[b]?) {x : RcV} (ha : RcOn w F x) : RcOn w' F' x := ⟨ha.1.move h, ha.2.move h⟩
theorem RcOn.below {w w' : World} {F : Nat → Prop} {x : RcV} (h : RcOn w F x) (hb : Below w.heap.size w w') : RcOn w' F x := h.move fun b hb0 hF => ⟨hF, hb.block b hb0⟩
/-- no record at all -/
def rc0 : Rc := ⟨0, [], [], 0, [], [], false⟩
def rcV0 : RcV := (rc0, .slice none 0 0, .slice none 0 0)
theorem RcOn.none (w : World) (F : Nat → Prop) : RcOn w F rcV0 := ⟨IntsOn.nil _ _ _ _, IntsOn.nil _ _ _ _⟩
deriving instance DecidableEq for Rc
theorem below_drewN (B : Nat) (w : World) (n : Nat) : Below B w (w.drewN n) := ⟨rfl, rfl, rfl, Nat.le_refl _, fun _ _ => rfl⟩
theorem take_eq_succ {α : Type} {a b : List α} {j : Nat} (ha : j < a.length) (hb : j < b.length) (h : a.take j = b.take j) (he : a[j] = b[j]) : a.take (j + 1) = b.take (j + 1) := by
  rw [List.take_succ_eq_append_getElem ha, List.take_succ_eq_append_getElem hb, h, he]
end Go.Proofs.Ytkackejipgabfaa.Char

/- The walks of the document's own low and Ints. -/
namespace Go.Proofs.Ytkackejipgabfaa.Char
open Go.RowKit Go.Lib

/-- has a row a number below 1? -/
def lowL (zs : List Int) : Bool := zs.any fun k => decide (k < 1)
theorem lowL_drop {zs : List Int} {k : Nat} (h : k < zs.length) : lowL (zs.drop k) = (decide (zs[k] < 1) || lowL (zs.drop (k + 1))) := by
  rw [List.drop_eq_getElem_cons h]; rfl
set_option maxRecDepth 100000 in
set_option maxHeartbeats 4000000 in
theorem low_any (zs : List Int) (F : Nat → Prop) (o : Option Addr) (j : Nat) (w : World) (hz : zs.length ≤ 2 ^ 62) (h : IntsOn w F (.slice o zs.length j) zs) :
    Calls Try.prog 107 #[.slice o zs.length j] w fun e w' => e = .returned (.bool (lowL zs)) ∧ w' = w := by
  have H := Lib.hid h
  clear h
  obtain ⟨R, hR⟩ : ∃ R, lowL zs = R := ⟨_, rfl⟩
  rw [hR]
  have HR := Lib.hid hR
  clear hR
  go_enter Try.func107, Try.ntmps107
  go_wp2_with fail
  go_loop [3] (fun v => ∃ k : Nat, v = .int .i64 (k : Int) ∧ k ≤ zs.length ∧ Hid (lowL (zs.drop k) = R)) (fun v => zs.length - (RowKit.intOf v).toNat)
  case atStart => exact ⟨0, rfl, Nat.zero_le _, HR⟩
  case round =>
    obtain ⟨k, rfl, hk, HK⟩ := hrel
    by_cases hlt : k < zs.length
    · obtain ⟨g, off, rfl, hg, r0⟩ := H.out.reads k hlt
      have HK2 := Lib.hid ((lowL_drop hlt).symm.trans HK.out)
      generalize zs[k] = x at *
      clear HK
      by_cases hx : x < 1
      · have HX : Hid (true = R) := Lib.hid (by rw [← HK2.out, decide_eq_true hx]; rfl)
        go_wp2_with fail
        go_ret
        exact ⟨by rw [← HX.out]; rfl, rfl⟩
      · have HX : Hid (lowL (zs.drop (k + 1)) = R) := Lib.hid (by rw [← HK2.out, decide_eq_false hx]; rfl)
        go_wp2_with fail
        go_round
        case rel => exact ⟨k + 1, by go_num, by omega, HX⟩
        case measure => simp [RowKit.intOf]; omega
    · have HX : Hid (false = R) := Lib.hid (by rw [← HK.out, List.drop_eq_nil_of_le (by omega)]; rfl)
      go_wp2_with fail
      go_ret
      exact ⟨by rw [← HX.out]; rfl, rfl⟩

set_option maxRecDepth 100000 in
set_option maxHeartbeats 4000000 in
theorem ints_any (qs rs : List Int) (F1 F2 : Nat → Prop) (o1 : Option Addr) (j1 : Nat) (o2 : Option Addr) (j2 : Nat) (w : World) (hq : qs.length ≤ 2 ^ 62) (h1 : IntsOn w F1 (.slice o1 qs.length j1) qs) (h2 : IntsOn w F2 (.slice o2 rs.length j2) rs) :
    Calls Try.prog 14 #[.slice o1 qs.length j1, .slice o2 rs.length j2] w fun e w' => e = .returned (.bool (decide (qs = rs))) ∧ ∃ n, w' = w.drewN n := by
  have H1 := Lib.hid h1
  have H2 := Lib.hid h2
  clear h1 h2
  by_cases hlen : qs.length = rs.length
  · have k0 : ((qs.length : Int) != (rs.length : Int)) = false := by rw [hlen]; simp
    go_enter Try.func14, Try.ntmps14
    go_wp2_with fail
    go_loopw [5] (fun v wr => ∃ j : Nat, v = .int .i64 (j : Int) ∧ j ≤ qs.length ∧ qs.take j = rs.take j ∧ ∃ n, wr = w.drewN n) (fun v _ => qs.length - (RowKit.intOf v).toNat)
    case atStart => exact ⟨0, rfl, Nat.zero_le _, by simp, 0, rfl⟩
    case round =>
      obtain ⟨j, rfl, hj, htk, n, rfl⟩ := hrel
      by_cases hlt : j < qs.length
      · obtain ⟨g1, f1, rfl, hg1, r0⟩ := H1.out.reads j hlt
        obtain ⟨g2, f2, rfl, hg2, s0⟩ := H2.out.reads j (by omega)
        have hts := take_eq_succ hlt (by omega : j < rs.length) htk
        have hxy : qs[j] ≠ rs[j]'(by omega) → qs ≠ rs := fun h e => h (by subst e; rfl)
        generalize qs[j] = x at *
        generalize rs[j]'(by omega) = y at *
        by_cases hx : x = y
        · have kx : (x != y) = false := by simp [hx]
          have HT := Lib.hid (hts hx)
          clear hts hxy htk hx
          go_wp2_with fail
          go_quiet (fail)
          go_wp2_with fail
          exact ⟨⟨j + 1, by go_num, by omega, HT.out, _, rfl⟩, by simp [RowKit.intOf]; omega⟩
        · have kx : (x != y) = true := by simp [hx]
          have HT := Lib.hid (hxy hx)
          clear hts hxy htk hx
          go_wp2_with fail
          go_quiet (fail)
          go_wp2_with fail
          go_ret
          exact ⟨by rw [decide_eq_false HT.out]; rfl, _, World.drewN_drewN _ _ _⟩
      · have e : j = qs.length := by omega
        subst e
        rw [List.take_length, hlen, List.take_length] at htk
        have HT := Lib.hid htk
        clear htk
        go_wp2_with fail
        go_ret
        exact ⟨by rw [decide_eq_true HT.out]; rfl, n, rfl⟩
  · have k0 : ((qs.length : Int) != (rs.length : Int)) = true := by simp; omega
    go_enter Try.func14, Try.ntmps14
    go_wp2_with fail
    go_ret
    exact ⟨by rw [decide_eq_false (fun e => hlen (by rw [e]))]; rfl, 0, rfl⟩
end Go.Proofs.Ytkackejipgabfaa.Char

/- Versions in memory, in a slice. -/
namespace Go.Proofs.Ytkackejipgabfaa.Char
open Go.RowKit Go.Lib

/-- the cells of a record in memory -/
def RcAt (w : World) (g off : Nat) (x : RcV) : Prop :=
  w.cell? ⟨g, off, none⟩ = some (.int .i64 x.1.kd) ∧ w.cell? ⟨g, off + 1, none⟩ = some (.string (bs x.1.nm)) ∧ w.cell? ⟨g, off + 2, none⟩ = some (.string (bs x.1.tx)) ∧ w.cell? ⟨g, off + 3, none⟩ = some (.int .i64 x.1.pa) ∧
    w.cell? ⟨g, off + 4, none⟩ = some x.2.1 ∧ w.cell? ⟨g, off + 5, none⟩ = some x.2.2 ∧ w.cell? ⟨g, off + 6, none⟩ = some (.bool x.1.gone)
theorem RcAt.move {w w' : World} {g off : Nat} (h : w'.heap[g]? = w.heap[g]?) {x : RcV} (hn : RcAt w g off x) : RcAt w' g off x := by
  obtain ⟨h0, h1, h2, h3, h4, h5, h6⟩ := hn
  have mv : ∀ k v, w.cell? ⟨g, k, none⟩ = some v → w'.cell? ⟨g, k, none⟩ = some v := fun k v hv => (World.cell?_of_block (w := w) h).trans hv
  exact ⟨mv _ _ h0, mv _ _ h1, mv _ _ h2, mv _ _ h3, mv _ _ h4, mv _ _ h5, mv _ _ h6⟩
theorem RcOn.form {w : World} {F : Nat → Prop} {x : RcV} (h : RcOn w F x) : ∃ ok jk oa ja, x.2.1 = .slice ok x.1.ks.length jk ∧ x.2.2 = .slice oa x.1.ats.length ja := by
  obtain ⟨ok, jk, e1⟩ := h.1.form
  obtain ⟨oa, ja, e2⟩ := h.2.form
  exact ⟨ok, jk, oa, ja, e1, e2⟩
/-- a version, and the values of its record's slices -/
abbrev VeV := Nat × RcV
def toVe (x : VeV) : Ve := ⟨x.1, x.2.1⟩
def veC (x : VeV) : List Value := .int .u64 (x.1 : Int) :: rcC x.2
def vesC (xs : List VeV) : List Value := xs.flatMap veC
theorem vesC_len (xs : List VeV) : (vesC xs).length = xs.length * 8 := by
  induction xs with
  | nil => rfl
  | cons x r ih =>
    show (veC x ++ vesC r).length = _
    rw [List.length_append, ih, List.length_cons]
    show 8 + _ = _
    omega
theorem vesC_snoc (xs : List VeV) (x : VeV) : vesC (xs ++ [x]) = vesC xs ++ veC x := by simp [vesC]
theorem vesC_at : ∀ (xs : List VeV) (k i : Nat) (h : k < xs.length) (_ : i < 8), (vesC xs)[k * 8 + i]? = (veC xs[k])[i]?
  | [], k, _, h, _ => by simp at h
  | x :: r, 0, i, _, hi => by
    show (veC x ++ vesC r)[0 * 8 + i]? = _
    rw [show 0 * 8 + i = i by omega, List.getElem?_append_left (by show i < 8; exact hi)]
    rfl
  | x :: r, k + 1, i, h, hi => by
    have ih := vesC_at r k i (by simpa using h) hi
    show (veC x ++ vesC r)[(k + 1) * 8 + i]? = _
    rw [List.getElem?_append_right (by show 8 ≤ _; omega), show (k + 1) * 8 + i - (veC x).length = k * 8 + i by show (k + 1) * 8 + i - 8 = _; omega, ih]
    rfl
def VeAt (w : World) (g off : Nat) (x : VeV) : Prop := w.cell? ⟨g, off, none⟩ = some (.int .u64 (x.1 : Int)) ∧ RcAt w g (off + 1) x.2
theorem VeAt.cells {w : World} {g off : Nat} {x : VeV} (h : VeAt w g off x) : w.cell? ⟨g, off, none⟩ = some (.int .u64 (x.1 : Int)) ∧ w.cell? ⟨g, off + 1, none⟩ = some (.int .i64 x.2.1.kd) ∧ w.cell? ⟨g, off + 2, none⟩ = some (.string (bs x.2.1.nm)) ∧ w.cell? ⟨g, off + 3, none⟩ = some (.string (bs x.2.1.tx)) ∧
    w.cell? ⟨g, off + 4, none⟩ = some (.int .i64 x.2.1.pa) ∧ w.cell? ⟨g, off + 5, none⟩ = some x.2.2.1 ∧ w.cell? ⟨g, off + 6, none⟩ = some x.2.2.2 ∧ w.cell? ⟨g, off + 7, none⟩ = some (.bool x.2.1.gone) := h
theorem VeAt.move {w w' : World} {g off : Nat} (h : w'.heap[g]? = w.heap[g]?) {x : VeV} (hn : VeAt w g off x) : VeAt w' g off x := ⟨(World.cell?_of_block (w := w) h).trans hn.1, hn.2.move h⟩
/-- versions in a slice, in blocks of which F holds -/
def VsOn (w : World) (F : Nat → Prop) (v : Value) (xs : List VeV) : Prop := (∃ o i j, v = .slice o i j ∧ i = xs.length ∧ (xs = [] ∨ ∃ g off, o = some ⟨g, off, none⟩ ∧ F g ∧ ∀ k (h : k < xs.length), VeAt w g (off + k * 8) xs[k])) ∧ ∀ x, x ∈ xs → RcOn w F x.2
theorem VsOn.move {w w' : World} {F F' : Nat → Prop} (h : ∀ b, b < w.heap.size → F b → F' b ∧ w'.heap[b]? = w.heap[b]?) {v : Value} {xs : List VeV} (ha : VsOn w F v xs) : VsOn w' F' v xs := by
  obtain ⟨⟨o, i, j, e1, e2, e3⟩, e9⟩ := ha
  refine ⟨⟨o, i, j, e1, e2, ?_⟩, fun x hx => (e9 x hx).move h⟩
  rcases e3 with e3 | ⟨g, off, e4, e5, e6⟩
  · exact .inl e3
  · by_cases hq : xs = []
    · exact .inl hq
    · obtain ⟨k1, k2⟩ := h g (cell_lt (e6 0 (List.length_pos_iff.2 hq)).1) e5
      exact .inr ⟨g, off, e4, k1, fun k hk => (e6 k hk).move k2⟩
theorem VsOn.below {w w' : World} {F : Nat → Prop} {v : Value} {xs : List VeV} (h : VsOn w F v xs) (hb : Below w.heap.size w w') : VsOn w' F v xs := h.move fun b hb0 hF => ⟨hF, hb.block b hb0⟩
theorem VsOn.reads {w : World} {F : Nat → Prop} {o : Option Addr} {i j : Nat} {xs : List VeV} (h : VsOn w F (.slice o i j) xs) (k : Nat) (hk : k < xs.length) :
    ∃ g off, o = some ⟨g, off, none⟩ ∧ F g ∧ VeAt w g (off + k * 8) xs[k] ∧ RcOn w F xs[k].2 := by
  obtain ⟨⟨o', i', j', e1, e2, e3⟩, e9⟩ := h
  cases e1
  rcases e3 with e3 | ⟨g, off, e4, e5, e6⟩
  · rw [e3] at hk; cases hk
  · exact ⟨g, off, e4, e5, e6 k hk, e9 _ (List.getElem_mem hk)⟩
theorem VsOn.form {w : World} {F : Nat → Prop} {v : Value} {xs : List VeV} (h : VsOn w F v xs) : ∃ o j, v = .slice o xs.length j := by
  obtain ⟨⟨o, i, j, e1, e2, _⟩, _⟩ := h
  exact ⟨o, j, by rw [e1, e2]⟩
theorem VsOn.nil (w : World) (F : Nat → Prop) (o : Option Addr) (j : Nat) : VsOn w F (.slice o 0 j) [] := ⟨⟨o, 0, j, rfl, rfl, .inl rfl⟩, fun _ h => by cases h⟩
/-- no row of numbers is longer than this -/
def RcSm (r : Rc) : Prop := r.ks.length ≤ 2 ^ 44 ∧ r.ats.length ≤ 2 ^ 44
end Go.Proofs.Ytkackejipgabfaa.Char

/- Mathematics without a program: the document's own store, and what holds of it behind any calls. -/
namespace Go.Proofs.Ytkackejipgabfaa.Char

/-- a record that may be -/
def rightR (r : Rc) : Bool :=
  if r.gone then decide (r.kd = 0) && r.nm.isEmpty && r.tx.isEmpty && decide (r.pa = 0) && r.ks.isEmpty && r.ats.isEmpty
  else decide (1 ≤ r.kd) && decide (r.kd ≤ 6) && decide (0 ≤ r.pa) && !(r.ks.any fun k => decide (k < 1)) && !(r.ats.any fun k => decide (k < 1))
def rootR : Rc := ⟨1, [], [], 0, [], [], false⟩
/-- the document's own store -/
structure Sto where
  L : List On
  given : Nat
  last : Nat
def newS : Sto := ⟨[⟨1, ⟨0, rootR⟩⟩], 1, 0⟩
def freshS (s : Sto) : Sto := { s with given := s.given + 1 }
/-- changes that may not be laid: behind those whose numbers stand in 'seen' -/
def badC (given : Nat) (seen : List Int) : List (Int × Rc) → Bool
  | [] => false
  | c :: r => (decide (c.1 < 1) || decide ((given : Int) < c.1) || !rightR c.2 || seen.contains c.1) || badC given (seen ++ [c.1]) r
/-- what Install tells -/
def instE (s : Sto) (time : Nat) (cs : List (Int × Rc)) : Nat := if time ≤ s.last then 43 else if badC s.given [] cs then 2 else 0
/-- the changes laid -/
def layC (time : Nat) (cs : List (Int × Rc)) : List On := cs.map fun c => ⟨c.1, ⟨time, c.2⟩⟩
def instS (s : Sto) (time : Nat) (cs : List (Int × Rc)) : Sto := if instE s time cs = 0 then ⟨s.L ++ layC time cs, s.given, time⟩ else s
def sweepS (s : Sto) (o : Nat) : Sto := { s with L := sweepL o s.L }
/-- the numbers of the nodes that have a version -/
def idsS (s : Sto) : List Nat := (List.range' 1 s.given).filter fun id => !(versL s.L (id : Int)).isEmpty

/-- what holds of it behind any calls -/
structure InvS (s : Sto) : Prop where
  ids : ∀ x, x ∈ s.L → 1 ≤ x.id ∧ x.id ≤ (s.given : Int)
  tms : ∀ x, x ∈ s.L → x.v.time ≤ s.last
  rgt : ∀ x, x ∈ s.L → rightR x.v.r = true
  up : s.L.Pairwise fun a b => a.id = b.id → a.v.time < b.v.time
theorem InvS.new : InvS newS := by
  refine ⟨fun x hx => ?_, fun x hx => ?_, fun x hx => ?_, ?_⟩
  · rw [show x = ⟨1, ⟨0, rootR⟩⟩ by simpa [newS] using hx]; exact ⟨Int.le_refl _, Int.le_refl _⟩
  · rw [show x = ⟨1, ⟨0, rootR⟩⟩ by simpa [newS] using hx]; exact Nat.le_refl _
  · rw [show x = ⟨1, ⟨0, rootR⟩⟩ by simpa [newS] using hx]; rfl
  · exact List.pairwise_singleton _ _
theorem InvS.fresh {s : Sto} (h : InvS s) : InvS (freshS s) :=
  ⟨fun x hx => by
    have := h.ids x hx
    show 1 ≤ x.id ∧ x.id ≤ ((s.given + 1 : Nat) : Int)
    omega, h.tms, h.rgt, h.up⟩
theorem InvS.sweep {s : Sto} (h : InvS s) (o : Nat) : InvS (sweepS s o) :=
  ⟨fun x hx => h.ids x ((sweepL_sub o s.L).subset hx), fun x hx => h.tms x ((sweepL_sub o s.L).subset hx), fun x hx => h.rgt x ((sweepL_sub o s.L).subset hx), h.up.sublist (sweepL_sub o s.L)⟩
theorem bad_no {given : Nat} : ∀ {cs : List (Int × Rc)} {seen : List Int}, badC given seen cs = false →
    (∀ c, c ∈ cs → 1 ≤ c.1 ∧ c.1 ≤ (given : Int) ∧ rightR c.2 = true ∧ c.1 ∉ seen) ∧ cs.Pairwise fun a b => a.1 ≠ b.1
  | [], _, _ => ⟨fun c hc => (by cases hc), List.Pairwise.nil⟩
  | c :: r, seen, h => by
    rw [badC, Bool.or_eq_false_iff, Bool.or_eq_false_iff, Bool.or_eq_false_iff, Bool.or_eq_false_iff] at h
    obtain ⟨⟨⟨⟨h1, h2⟩, h3⟩, h4⟩, h5⟩ := h
    obtain ⟨i1, i2⟩ := bad_no h5
    have k1 := of_decide_eq_false h1
    have k2 := of_decide_eq_false h2
    have k3 : rightR c.2 = true := by simpa using h3
    have k4 : c.1 ∉ seen := by simpa using h4
    refine ⟨fun x hx => ?_, List.pairwise_cons.2 ⟨fun x hx => ?_, i2⟩⟩
    · rcases List.mem_cons.1 hx with rfl | hx
      · exact ⟨by omega, by omega, k3, k4⟩
      · obtain ⟨a, b, d, e⟩ := i1 x hx
        exact ⟨a, b, d, fun hs => e (List.mem_append_left _ hs)⟩
    · have := (i1 x hx).2.2.2
      intro e
      exact this (List.mem_append_right _ (by rw [e]; exact List.mem_singleton.2 rfl))
theorem instE_ok {s : Sto} {time : Nat} {cs : List (Int × Rc)} (h : instE s time cs = 0) : s.last < time ∧ badC s.given [] cs = false := by
  unfold instE at h
  split at h
  · cases h
  · split at h
    · cases h
    · rename_i h1 h2
      exact ⟨by omega, by simpa using h2⟩
theorem InvS.inst {s : Sto} (h : InvS s) (time : Nat) (cs : List (Int × Rc)) : InvS (instS s time cs) := by
  unfold instS
  split
  · rename_i he
    obtain ⟨ht, hb⟩ := instE_ok he
    obtain ⟨h1, h2⟩ := bad_no hb
    have hl : ∀ x, x ∈ layC time cs → ∃ c, c ∈ cs ∧ x = ⟨c.1, ⟨time, c.2⟩⟩ := fun x hx => by
      obtain ⟨c, hc, e⟩ := List.mem_map.1 hx
      exact ⟨c, hc, e.symm⟩
    refine ⟨fun x hx => ?_, fun x hx => ?_, fun x hx => ?_, ?_⟩
    · rcases List.mem_append.1 hx with hx | hx
      · exact h.ids x hx
      · obtain ⟨c, hc, rfl⟩ := hl x hx
        exact ⟨(h1 c hc).1, (h1 c hc).2.1⟩
    · rcases List.mem_append.1 hx with hx | hx
      · exact Nat.le_of_lt (Nat.lt_of_le_of_lt (h.tms x hx) ht)
      · obtain ⟨c, hc, rfl⟩ := hl x hx
        exact Nat.le_refl _
    · rcases List.mem_append.1 hx with hx | hx
      · exact h.rgt x hx
      · obtain ⟨c, hc, rfl⟩ := hl x hx
        exact (h1 c hc).2.2.1
    · refine List.pairwise_append.2 ⟨h.up, ?_, fun a ha b hb _ => ?_⟩
      · exact List.pairwise_map.2 (h2.imp fun hne e => absurd e hne)
      · obtain ⟨c, hc, rfl⟩ := hl b hb
        exact Nat.lt_of_le_of_lt (h.tms a ha) ht
  · exact h
/-- a node's versions rise -/
theorem InvS.vers {s : Sto} (h : InvS s) (id : Int) : upV (versL s.L id) := by
  have key : ∀ L : List On, (L.Pairwise fun a b => a.id = b.id → a.v.time < b.v.time) → upV (versL L id) := by
    intro L
    induction L with
    | nil => intro _; exact List.Pairwise.nil
    | cons x L ih =>
      intro hp
      obtain ⟨h1, h2⟩ := List.pairwise_cons.1 hp
      rw [versL_cons]
      split
      · rename_i hx
        refine upV_cons.2 ⟨fun y hy => ?_, ih h2⟩
        obtain ⟨z, hz, rfl⟩ := List.mem_map.1 hy
        obtain ⟨hz1, hz2⟩ := List.mem_filter.1 hz
        exact h1 z hz1 (hx.trans (by simpa using hz2 : z.id = id).symm)
      · exact ih h2
  exact key s.L h.up
/-- what a node's versions become when changes are laid -/
theorem vers_lay {time : Nat} {cs : List (Int × Rc)} (h : cs.Pairwise fun a b => a.1 ≠ b.1) (id : Int) : versL (layC time cs) id = match cs.find? fun c => c.1 == id with
    | none => []
    | some c => [⟨time, c.2⟩] := by
  induction cs with
  | nil => rfl
  | cons c r ih =>
    obtain ⟨h1, h2⟩ := List.pairwise_cons.1 h
    rw [show layC time (c :: r) = ⟨c.1, ⟨time, c.2⟩⟩ :: layC time r from rfl, versL_cons, ih h2, List.find?_cons]
    by_cases hc : c.1 = id
    · subst hc
      rw [if_pos rfl, beq_self_eq_true]
      rw [show (r.find? fun x => x.1 == c.1) = none from List.find?_eq_none.2 fun x hx => by simpa using (h1 x hx).symm]
    · rw [if_neg hc, beq_eq_false_iff_ne.2 hc]
/-- how many versions there are, node by node -/
theorem count_range (g : Nat) : ∀ L : List On, (∀ x, x ∈ L → 1 ≤ x.id ∧ x.id ≤ (g : Int)) → ((List.range' 1 g).map fun id : Nat => (versL L (id : Int)).length).sum = L.length
  | [], _ => by
    have : ∀ n s : Nat, ((List.range' s n).map fun id : Nat => (versL [] (id : Int)).length).sum = 0 := by
      intro n
      induction n with
      | zero => intro s; rfl
      | succ n ih => intro s; rw [List.range'_succ, List.map_cons, List.sum_cons, ih]; rfl
    exact this g 1
  | x :: L, h => by
    have ih := count_range g L fun y hy => h y (List.mem_cons_of_mem _ hy)
    obtain ⟨h1, h2⟩ := h x List.mem_cons_self
    have key : ∀ n s : Nat, ((List.range' s n).map fun id : Nat => (versL (x :: L) (id : Int)).length).sum = ((List.range' s n).map fun id : Nat => (versL L (id : Int)).length).sum + (if (s : Int) ≤ x.id ∧ x.id < ((s + n : Nat) : Int) then 1 else 0) := by
      intro n
      induction n with
      | zero =>
        intro s
        rw [if_neg (by omega)]
        rfl
      | succ n ihn =>
        intro s
        rw [List.range'_succ, List.map_cons, List.sum_cons, List.map_cons, List.sum_cons, ihn, versL_cons]
        by_cases hx : x.id = (s : Int)
        · rw [if_pos hx, if_neg (by omega), if_pos (by omega), List.length_cons]; omega
        · rw [if_neg hx]
          by_cases hr : ((s + 1 : Nat) : Int) ≤ x.id ∧ x.id < ((s + 1 + n : Nat) : Int)
          · rw [if_pos hr, if_pos (by omega)]; omega
          · rw [if_neg hr, if_neg (by omega)]; omega
    rw [key, ih, if_pos (by omega), List.length_cons]
end Go.Proofs.Ytkackejipgabfaa.Char
