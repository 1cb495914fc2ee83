/- SpotX WayX NameX RevX RightT -/
import Derived.Test.YtkackejipgabfaaPk15
import Derived.Test.YtkackejipgabfaaPk11
import Derived.Laws.EntriesVeiled
import Derived.Test.YtkackejipgabfaaPk00
import Derived.Deep.WholeRow
import Derived.Great.BuildSlice
import Derived.WalkLawsBesides
/- The walks of a node in its view: is another one there; its children, its attributes, itself. -/
namespace Go.Proofs.Ytkackejipgabfaa.Char
open Go.RowKit Go.Lib Go.Shelf

/-- a node in its view, with its record -/
def spV (vp : Option Addr) (id : Int) (r : Rc) (ok : Option Addr) (jk : Nat) (oa : Option Addr) (ja : Nat) : Value :=
  .agg #[.pointer vp, .int .i64 id, .int .i64 r.kd, .string (bs r.nm), .string (bs r.tx), .int .i64 r.pa, .slice ok r.ks.length jk, .slice oa r.ats.length ja, .bool r.gone]
section
variable {Z : Nat → Prop} {w : World} {vp : Option Addr} {look : Int → Option Rc}
theorem VH.one (h : VH Z w vp look) (ob : Obj) : VH Z (w.alloc ob) vp look := h.below ((Below.refl _ w).alloc (Nat.le_refl _) ob)
set_option maxRecDepth 100000 in
set_option maxHeartbeats 2000000 in
theorem there_any (h : VH Z w vp look) (id : Int) (r : Rc) (ok : Option Addr) (jk : Nat) (oa : Option Addr) (ja : Nat) (z : Int) (hz : (Lit.int .i64 z).wf = true) :
    Calls Try.prog 118 #[spV vp id r ok jk oa ja, .int .i64 z] w fun e w' => e = .returned (.bool (look z).isSome) ∧ Below w.heap.size w w' := by
  have HG := Lib.hid fun ob => getV_gen (h.one ob) z hz
  have HB := Lib.hid fun ob => (Below.refl _ w).alloc (Nat.le_refl _) ob
  clear h hz
  unfold spV
  go_enter Try.func118, Try.ntmps118
  go_wp2_with (first
    | (go_at_call 27
       refine (HG.out _).mono ?_
       rintro e w2 ⟨⟨r2, va, vb⟩, rfl, q1, q2, q3⟩
       obtain ⟨ok2, jk2, oa2, ja2, e1, e2⟩ := q2.form
       dsimp only at e1 e2
       subst e1 e2
       have HQ3 := Lib.hid q3
       clear q1 q2 q3
       unfold rcV
       dsimp only))
  go_ret
  refine ⟨rfl, ((HB.out _).trans (HQ3.out.mono ?_)).alloc ?_ _⟩
  · simp
  · have := HQ3.out.size; simp at this; omega
/-- a list of the record's, each that is there -/
theorem once_there (h : VH Z w vp look) (id : Int) (r : Rc) (ok : Option Addr) (jk : Nat) (oa : Option Addr) (ja : Nat) {K : Nat → Prop} (oz : Option Addr) (jz : Nat) (zs : List Int) (hz : IntsOn w K (.slice oz zs.length jz) zs) (hK : ∀ g, K g → g < w.heap.size) (hzl : zs.length ≤ 100000000) (hzw : ∀ z, z ∈ zs → (Lit.int .i64 z).wf = true) :
    Calls Try.prog 117 #[.slice oz zs.length jz, .func (.func 118) #[spV vp id r ok jk oa ja] #[]] w (OncP w (onceL (fun z => (look z).isSome) zs)) :=
  once_m (enters_of Try.func118 (by kernel_rfl) rfl) _ _ oz jz zs hz hK hzl hzw fun W hW z hzm => there_any (h.below hW) id r ok jk oa ja z (hzw z hzm)
theorem OncP.grow {w w1 : World} {l : List Int} (hb : Below w.heap.size w w1) {e : Ending} {w' : World} (h : OncP w1 l e w') : OncP w l e w' := by
  obtain ⟨u, h1, h2, h3⟩ := h
  exact ⟨u, h1, h2.weak hb.size, hb.trans (h3.mono hb.size)⟩
theorem IntsOn.below {K : Nat → Prop} {w w' : World} {v : Value} {zs : List Int} (h : IntsOn w K v zs) (hb : Below w.heap.size w w') : IntsOn w' K v zs := h.move fun g hg hF => ⟨hF, hb.block g hg⟩
set_option maxRecDepth 100000 in
set_option maxHeartbeats 2000000 in
theorem children_any (h : VH Z w vp look) (id : Int) (r : Rc) (ok : Option Addr) (jk : Nat) (oa : Option Addr) (ja : Nat) {K : Nat → Prop} (hz : IntsOn w K (.slice ok r.ks.length jk) r.ks) (hK : ∀ g, K g → g < w.heap.size) (hzl : r.ks.length ≤ 100000000) (hzw : ∀ z, z ∈ r.ks → (Lit.int .i64 z).wf = true) :
    Calls Try.prog 94 #[spV vp id r ok jk oa ja] w (OncP w (onceL (fun z => (look z).isSome) r.ks)) := by
  have HB := Lib.hid fun ob => (Below.refl _ w).alloc (Nat.le_refl _) ob
  have HO := Lib.hid fun ob => once_there (h.one ob) id r ok jk oa ja (K := K) ok jk r.ks (hz.below ((Below.refl _ w).alloc (Nat.le_refl _) ob)) (fun g hg => by have := hK g hg; simp; omega) hzl hzw
  have hmf : ∀ (fn : Fn) (first cap : Array Value) (w : World), (Instr.makeFunc fn first cap).run Try.prog w = .ok (.func fn first cap) w := fun _ _ _ _ => rfl
  clear h hz hK hzl hzw
  unfold spV at *
  obtain ⟨P, hP⟩ : ∃ P, OncP w (onceL (fun z => (look z).isSome) r.ks) = P := ⟨_, rfl⟩
  rw [hP]
  have HP := Lib.hid hP
  clear hP
  go_enter Try.func94, Try.ntmps94
  go_wp2_with (first
    | (go_at_call 117
       refine (HO.out _).mono ?_
       intro e w2 hq
       have hq2 := OncP.grow (HB.out _) hq
       rw [HP.out] at hq2
       obtain ⟨u, rfl, _⟩ := hq
       have HQ := Lib.hid hq2
       clear hq2))
  exact HQ.out
set_option maxRecDepth 100000 in
set_option maxHeartbeats 2000000 in
theorem attributes_any (h : VH Z w vp look) (id : Int) (r : Rc) (ok : Option Addr) (jk : Nat) (oa : Option Addr) (ja : Nat) {K : Nat → Prop} (hz : IntsOn w K (.slice oa r.ats.length ja) r.ats) (hK : ∀ g, K g → g < w.heap.size) (hzl : r.ats.length ≤ 100000000) (hzw : ∀ z, z ∈ r.ats → (Lit.int .i64 z).wf = true) :
    Calls Try.prog 102 #[spV vp id r ok jk oa ja] w (OncP w (onceL (fun z => (look z).isSome) r.ats)) := by
  have HB := Lib.hid fun ob => (Below.refl _ w).alloc (Nat.le_refl _) ob
  have HO := Lib.hid fun ob => once_there (h.one ob) id r ok jk oa ja (K := K) oa ja r.ats (hz.below ((Below.refl _ w).alloc (Nat.le_refl _) ob)) (fun g hg => by have := hK g hg; simp; omega) hzl hzw
  have hmf : ∀ (fn : Fn) (first cap : Array Value) (w : World), (Instr.makeFunc fn first cap).run Try.prog w = .ok (.func fn first cap) w := fun _ _ _ _ => rfl
  clear h hz hK hzl hzw
  unfold spV at *
  obtain ⟨P, hP⟩ : ∃ P, OncP w (onceL (fun z => (look z).isSome) r.ats) = P := ⟨_, rfl⟩
  rw [hP]
  have HP := Lib.hid hP
  clear hP
  go_enter Try.func102, Try.ntmps102
  go_wp2_with (first
    | (go_at_call 117
       refine (HO.out _).mono ?_
       intro e w2 hq
       have hq2 := OncP.grow (HB.out _) hq
       rw [HP.out] at hq2
       obtain ⟨u, rfl, _⟩ := hq
       have HQ := Lib.hid hq2
       clear hq2))
  exact HQ.out
end
end Go.Proofs.Ytkackejipgabfaa.Char

/- The walk of an axis's way: a method value of a node in its view; and of Nodes, by what that tells. -/
namespace Go.Proofs.Ytkackejipgabfaa.Char
open Go.RowKit Go.Lib Go.Shelf

/-- the method of an axis -/
def wayN (a : Int) : Option FuncId :=
  if a = 1 then some 94
  else if a = 2 then some 95
  else if a = 3 then some 96
  else if a = 4 then some 97
  else if a = 5 then some 98
  else if a = 6 then some 99
  else if a = 7 then some 100
  else if a = 8 then some 101
  else if a = 9 then some 102
  else if a = 10 then some 103
  else if a = 11 then some 104
  else if a = 12 then some 105
  else none
theorem wayN_none {a : Int} (h : ¬ (1 ≤ a ∧ a ≤ 12)) : wayN a = none := by
  unfold wayN
  rw [if_neg (by omega), if_neg (by omega), if_neg (by omega), if_neg (by omega), if_neg (by omega), if_neg (by omega), if_neg (by omega), if_neg (by omega), if_neg (by omega), if_neg (by omega), if_neg (by omega), if_neg (by omega)]
/-- what is behind way -/
def WayP (w : World) (sv : Value) (a : Int) : Ending → World → Prop := fun e w' => e = .returned (match wayN a with | some g => .func (.func g) #[sv] #[] | none => .nilFunc) ∧ Below w.heap.size w w'
set_option maxRecDepth 100000 in
set_option maxHeartbeats 8000000 in
theorem wayX_any (vp : Option Addr) (id : Int) (r : Rc) (ok : Option Addr) (jk : Nat) (oa : Option Addr) (ja : Nat) (a : Int) (w : World) :
    Calls Try.prog 67 #[spV vp id r ok jk oa ja, .int .i64 a] w (WayP w (spV vp id r ok jk oa ja) a) := by
  have HB := Lib.hid fun ob => (Below.refl _ w).alloc (Nat.le_refl _) ob
  have hmf : ∀ (fn : Fn) (first cap : Array Value) (w : World), (Instr.makeFunc fn first cap).run Try.prog w = .ok (.func fn first cap) w := fun _ _ _ _ => rfl
  unfold spV
  by_cases h : 1 ≤ a ∧ a ≤ 12
  · have h : a = 1 ∨ a = 2 ∨ a = 3 ∨ a = 4 ∨ a = 5 ∨ a = 6 ∨ a = 7 ∨ a = 8 ∨ a = 9 ∨ a = 10 ∨ a = 11 ∨ a = 12 := by omega
    rcases h with rfl | rfl | rfl | rfl | rfl | rfl | rfl | rfl | rfl | rfl | rfl | rfl <;>
    · go_enter Try.func67, Try.ntmps67
      go_wp2_with fail
      go_ret
      exact ⟨rfl, HB.out _⟩
  · have k1 : (a == 1) = false := beq_eq_false_iff_ne.2 (by omega)
    have k2 : (a == 2) = false := beq_eq_false_iff_ne.2 (by omega)
    have k3 : (a == 3) = false := beq_eq_false_iff_ne.2 (by omega)
    have k4 : (a == 4) = false := beq_eq_false_iff_ne.2 (by omega)
    have k5 : (a == 5) = false := beq_eq_false_iff_ne.2 (by omega)
    have k6 : (a == 6) = false := beq_eq_false_iff_ne.2 (by omega)
    have k7 : (a == 7) = false := beq_eq_false_iff_ne.2 (by omega)
    have k8 : (a == 8) = false := beq_eq_false_iff_ne.2 (by omega)
    have k9 : (a == 9) = false := beq_eq_false_iff_ne.2 (by omega)
    have k10 : (a == 10) = false := beq_eq_false_iff_ne.2 (by omega)
    have k11 : (a == 11) = false := beq_eq_false_iff_ne.2 (by omega)
    have k12 : (a == 12) = false := beq_eq_false_iff_ne.2 (by omega)
    have HW := Lib.hid (wayN_none h)
    clear h
    go_enter Try.func67, Try.ntmps67
    go_wp2_with fail
    go_ret
    refine ⟨?_, HB.out _⟩
    rw [HW.out]
    rfl
section
variable {Z : Nat → Prop} {w : World} {vp : Option Addr} {look : Int → Option Rc}
set_option maxRecDepth 100000 in
set_option maxHeartbeats 4000000 in
/-- of no node, and of no axis -/
theorem nodes_no (h : VH Z w vp look) (id a : Int) (hid : (Lit.int .i64 id).wf = true) (hno : look id = none ∨ wayN a = none) :
    Calls Try.prog 38 #[.pointer vp, .int .i64 id, .int .i64 a] w (OncP w []) := by
  have hG := getV_gen h id hid
  obtain ⟨R, hR⟩ : ∃ R, look id = R := ⟨_, rfl⟩
  rw [hR] at hG hno
  obtain ⟨V, hV⟩ : ∃ V : Value → Value, V = fun sv => match wayN a with | some g => .func (.func g) #[sv] #[] | none => .nilFunc := ⟨_, rfl⟩
  have HG := Lib.hid hG
  have HWY := Lib.hid fun (r : Rc) ok jk oa ja (W : World) => (wayX_any vp id r ok jk oa ja a W)
  clear h hid hG hR hV
  cases hr : R with
  | none =>
    rw [hr] at HG
    clear hno hr
    unfold WayP spV at HWY
    cases hw : wayN a with
    | none =>
      rw [hw] at HWY
      go_enter Try.func38, Try.ntmps38
      go_wp2_with (first
        | (go_at_call 27
           refine HG.out.mono ?_
           rintro e w2 ⟨⟨r2, va, vb⟩, rfl, q1, q2, q3⟩
           obtain ⟨ok2, jk2, oa2, ja2, e1, e2⟩ := q2.form
           dsimp only at e1 e2
           subst e1 e2
           have HQ3 := Lib.hid q3
           have hs2 := q3.size
           clear q1 q2 q3
           unfold rcV
           dsimp only)
        | (go_at_call 67
           refine (HWY.out _ _ _ _ _ _).mono ?_
           rintro e w3 ⟨rfl, q3⟩
           have HQ4 := Lib.hid q3
           clear q3))
      go_ret
      exact ⟨_, rfl, OwnsInt.nil _ _, (HQ3.out.alloc hs2 _).trans (HQ4.out.mono (by simp; omega))⟩
    | some g =>
      rw [hw] at HWY
      go_enter Try.func38, Try.ntmps38
      go_wp2_with (first
        | (go_at_call 27
           refine HG.out.mono ?_
           rintro e w2 ⟨⟨r2, va, vb⟩, rfl, q1, q2, q3⟩
           obtain ⟨ok2, jk2, oa2, ja2, e1, e2⟩ := q2.form
           dsimp only at e1 e2
           subst e1 e2
           have HQ3 := Lib.hid q3
           have hs2 := q3.size
           clear q1 q2 q3
           unfold rcV
           dsimp only)
        | (go_at_call 67
           refine (HWY.out _ _ _ _ _ _).mono ?_
           rintro e w3 ⟨rfl, q3⟩
           have HQ4 := Lib.hid q3
           clear q3))
      go_ret
      exact ⟨_, rfl, OwnsInt.nil _ _, (HQ3.out.alloc hs2 _).trans (HQ4.out.mono (by simp; omega))⟩
  | some r =>
    rw [hr] at HG hno
    have hw : wayN a = none := hno.resolve_left (fun e => by cases e)
    clear hno hr
    unfold WayP spV at HWY
    rw [hw] at HWY
    have hnn : ∀ w, (binOp .eql 42 .nilFunc .nilFunc).run Try.prog w = .ok (.bool true) w := fun _ => rfl
    go_enter Try.func38, Try.ntmps38
    go_wp2_with (first
      | (go_at_call 27
         refine HG.out.mono ?_
         rintro e w2 ⟨⟨r2, va, vb⟩, rfl, q1, q2, q3⟩
         obtain ⟨ok2, jk2, oa2, ja2, e1, e2⟩ := q2.form
         dsimp only at e1 e2
         subst e1 e2
         have HQ3 := Lib.hid q3
         have hs2 := q3.size
         clear q1 q2 q3
         unfold rcV
         dsimp only)
      | (go_at_call 67
         refine (HWY.out _ _ _ _ _ _).mono ?_
         rintro e w3 ⟨rfl, q3⟩
         have HQ4 := Lib.hid q3
         clear q3))
    go_ret
    exact ⟨_, rfl, OwnsInt.nil _ _, (HQ3.out.alloc hs2 _).trans (HQ4.out.mono (by simp; omega))⟩
set_option maxRecDepth 100000 in
set_option maxHeartbeats 4000000 in
/-- of a node that is there, by what its method tells -/
theorem nodes_yes (h : VH Z w vp look) (id a : Int) (hid : (Lit.int .i64 id).wf = true) {r : Rc} (hr : look id = some r) {g : FuncId} (hw : wayN a = some g) (hE : Enters Try.prog g) {l : List Int}
    (hM : ∀ (W : World) ok jk oa ja, Below w.heap.size w W → RcOn W (fun k => k < W.heap.size) (r, .slice ok r.ks.length jk, .slice oa r.ats.length ja) → Calls Try.prog g #[spV vp id r ok jk oa ja] W (OncP W l)) :
    Calls Try.prog 38 #[.pointer vp, .int .i64 id, .int .i64 a] w (OncP w l) := by
  have hG := getV_gen h id hid
  rw [hr] at hG
  have HG := Lib.hid hG
  have HWY := Lib.hid fun (r : Rc) ok jk oa ja (W : World) => (wayX_any vp id r ok jk oa ja a W)
  unfold WayP at HWY
  rw [hw] at HWY
  have HM := Lib.hid hM
  have hE2 : ∀ (args : Array Value) (w : World), (callFunc g args).run Try.prog w = .ok (.enter g args) w := hE
  have hnn : ∀ (sv : Value) (w : World), (binOp .eql 42 (.func (.func g) #[sv] #[]) .nilFunc).run Try.prog w = .ok (.bool false) w := fun _ _ => rfl
  obtain ⟨P, hP⟩ : ∃ P, OncP w l = P := ⟨_, rfl⟩
  rw [hP]
  have HP := Lib.hid hP
  clear h hid hG hr hw hM hP
  unfold spV at HWY
  go_enter Try.func38, Try.ntmps38
  go_wp2_with (first
    | (go_at_call 27
       refine HG.out.mono ?_
       rintro e w2 ⟨⟨r2, va, vb⟩, rfl, q1, q2, q3⟩
       obtain ⟨ok2, jk2, oa2, ja2, e1, e2⟩ := q2.form
       dsimp only [Option.getD] at e1 e2 q1
       subst e1 e2 q1
       have HQ2 := Lib.hid q2
       have HQ3 := Lib.hid q3
       have hs2 := q3.size
       clear q2 q3
       unfold rcV
       dsimp only)
    | (go_at_call 67
       refine (HWY.out _ _ _ _ _ _).mono ?_
       rintro e w3 ⟨rfl, q3⟩
       have HB3 := Lib.hid ((HQ3.out.alloc hs2 _).trans (q3.mono (by simp; omega)))
       have HR3 := Lib.hid (HQ2.out.move (F' := fun k => k < w3.heap.size) fun k hk _ => ⟨Nat.lt_of_lt_of_le hk (by have := q3.size; simp at this; omega), (q3.block k (by simp; omega)).trans (Below.heap_alloc _ _ _ hk)⟩)
       have HC := Lib.hid (HM.out w3 _ _ _ _ HB3.out HR3.out)
       unfold spV at HC
       clear q3)
    | (go_at_fn g
       refine HC.out.mono ?_
       intro e w4 hq
       have hq2 := OncP.grow HB3.out hq
       rw [HP.out] at hq2
       obtain ⟨u, rfl, _⟩ := hq
       have HQ := Lib.hid hq2
       clear hq2))
  exact HQ.out
end
end Go.Proofs.Ytkackejipgabfaa.Char

/- The names of the axes: the program's and the document's. -/
namespace Go.Proofs.Ytkackejipgabfaa.Char
open Go.RowKit Go.Lib

def nmA : List (List UInt8) := [[], [99, 104, 105, 108, 100], [100, 101, 115, 99, 101, 110, 100, 97, 110, 116], [112, 97, 114, 101, 110, 116], [97, 110, 99, 101, 115, 116, 111, 114], [102, 111, 108, 108, 111, 119, 105, 110, 103, 45, 115, 105, 98, 108, 105, 110, 103], [112, 114, 101, 99, 101, 100, 105, 110, 103, 45, 115, 105, 98, 108, 105, 110, 103], [102, 111, 108, 108, 111, 119, 105, 110, 103], [112, 114, 101, 99, 101, 100, 105, 110, 103], [97, 116, 116, 114, 105, 98, 117, 116, 101], [115, 101, 108, 102], [100, 101, 115, 99, 101, 110, 100, 97, 110, 116, 45, 111, 114, 45, 115, 101, 108, 102], [97, 110, 99, 101, 115, 116, 111, 114, 45, 111, 114, 45, 115, 101, 108, 102]]
/-- an axis's name; empty of no axis -/
def nmX (a : Int) : List UInt8 := if a < 0 then [] else nmA.getD a.toNat []
def nmC : Array Value := (nmA.map fun l => Value.string (bs l)).toArray
def nmD : Array Value := (nmA.tail.map fun l => Value.string (bs l)).toArray
theorem nmX_no {a : Int} (h : a < 0 ∨ 13 ≤ a) : nmX a = [] := by
  unfold nmX
  split
  · rfl
  · rw [List.getD_eq_getElem?_getD, List.getElem?_eq_none (by show 13 ≤ _; omega)]
    rfl
theorem nmC_at {a : Int} (h0 : 0 ≤ a) (h1 : a < 13) : nmC[a.toNat]? = some (.string (bs (nmX a))) := by
  have hl : a.toNat < nmA.length := by show _ < 13; omega
  unfold nmC nmX
  rw [if_neg (by omega), List.getElem?_toArray, List.getElem?_map, List.getElem?_eq_getElem hl, List.getD_eq_getElem?_getD, List.getElem?_eq_getElem hl]
  rfl
theorem nmD_at {a : Int} (h0 : 1 ≤ a) (h1 : a ≤ 12) : nmD[(a - 1).toNat]? = some (.string (bs (nmX a))) := by
  have hl : a.toNat < nmA.length := by show _ < 13; omega
  have ht : (a - 1).toNat + 1 = a.toNat := by omega
  unfold nmD nmX
  rw [if_neg (by omega), List.getElem?_toArray, List.getElem?_map, List.getElem?_tail, ht, List.getElem?_eq_getElem hl, List.getD_eq_getElem?_getD, List.getElem?_eq_getElem hl]
  rfl
set_option maxRecDepth 100000 in
set_option maxHeartbeats 4000000 in
theorem nameX_any (a : Int) (w : World) :
    Calls Try.prog 65 #[.int .i64 a] w fun e w' => e = .returned (.string (bs (nmX a))) ∧ Below w.heap.size w w' := by
  have hb := (Below.refl w.heap.size w).alloc (Nat.le_refl _) (.cells nmC 167)
  have HB := Lib.hid hb
  clear hb
  by_cases h0 : a < 0
  · have k0 : decide (a < 0) = true := decide_eq_true h0
    have HX := Lib.hid (nmX_no (.inl h0))
    go_enter Try.func65, Try.ntmps65
    go_wp2_with (first
      | ((with_reducible refine wpList_buildTo rfl 167 _ rfl _ rfl nmC (by kernel_rfl) ?_))
      | ((with_reducible refine wpList_store_row rfl 167 _ _ rfl w.heap.size nmC rfl rfl 167 _ (heap_alloc_last w _) (by kernel_rfl) rfl (by kernel_rfl) ?_); rw [World.setRow_alloc_new]))
    go_ret
    exact ⟨by rw [HX.out]; rfl, HB.out⟩
  · have k0 : decide (a < 0) = false := decide_eq_false h0
    by_cases h1 : 13 ≤ a
    · have k1 : decide (13 ≤ a) = true := decide_eq_true h1
      have HX := Lib.hid (nmX_no (.inr h1))
      go_enter Try.func65, Try.ntmps65
      go_wp2_with (first
        | ((with_reducible refine wpList_buildTo rfl 167 _ rfl _ rfl nmC (by kernel_rfl) ?_))
        | ((with_reducible refine wpList_store_row rfl 167 _ _ rfl w.heap.size nmC rfl rfl 167 _ (heap_alloc_last w _) (by kernel_rfl) rfl (by kernel_rfl) ?_); rw [World.setRow_alloc_new]))
      go_ret
      exact ⟨by rw [HX.out]; rfl, HB.out⟩
    · have k1 : decide (13 ≤ a) = false := decide_eq_false h1
      have hc : (w.alloc (.cells nmC 167)).cell? ⟨w.heap.size, a.toNat, none⟩ = some (.string (bs (nmX a))) := by
        rw [World.cell?_alloc_new]
        exact nmC_at (by omega) (by omega)
      have hz : 0 ≤ a := by omega
      have hz1 : a < 13 := by omega
      generalize nmX a = X at *
      go_enter Try.func65, Try.ntmps65
      go_wp2_with (first
        | ((with_reducible refine wpList_buildTo rfl 167 _ rfl _ rfl nmC (by kernel_rfl) ?_))
        | ((with_reducible refine wpList_store_row rfl 167 _ _ rfl w.heap.size nmC rfl rfl 167 _ (heap_alloc_last w _) (by kernel_rfl) rfl (by kernel_rfl) ?_); rw [World.setRow_alloc_new]))
      go_ret
      exact ⟨rfl, HB.out⟩
end Go.Proofs.Ytkackejipgabfaa.Char

/- The walk of whether an axis goes back. -/
namespace Go.Proofs.Ytkackejipgabfaa.Char
open Go.RowKit Go.Lib

theorem bs_eqv (a b : List UInt8) (v : Bool) (h : decide (a = b) = v) : ((bs a).toList == (bs b).toList) = v := by
  rw [bs_tl, bs_tl, ← h, Bool.eq_iff_iff, beq_iff_eq, decide_eq_true_eq]
/-- whether an axis goes back -/
def revX (a : Int) : Bool := decide (a = 3) || decide (a = 4) || decide (a = 6) || decide (a = 8) || decide (a = 12)
set_option maxRecDepth 100000 in
set_option maxHeartbeats 4000000 in
theorem revX_any (a : Int) (w : World) :
    Calls Try.prog 40 #[.int .i64 a] w fun e w' => e = .returned (.bool (revX a)) ∧ w' = w := by
  by_cases h3 : a = 3
  · subst h3
    go_enter Try.func40, Try.ntmps40
    go_wp2_with fail
    go_ret
    exact ⟨rfl, rfl⟩
  · by_cases h4 : a = 4
    · subst h4
      go_enter Try.func40, Try.ntmps40
      go_wp2_with fail
      go_ret
      exact ⟨rfl, rfl⟩
    · by_cases h6 : a = 6
      · subst h6
        go_enter Try.func40, Try.ntmps40
        go_wp2_with fail
        go_ret
        exact ⟨rfl, rfl⟩
      · by_cases h8 : a = 8
        · subst h8
          go_enter Try.func40, Try.ntmps40
          go_wp2_with fail
          go_ret
          exact ⟨rfl, rfl⟩
        · by_cases hc : a = 12
          · subst hc
            go_enter Try.func40, Try.ntmps40
            go_wp2_with fail
            go_ret
            exact ⟨rfl, rfl⟩
          · have k3 : (a == 3) = false := beq_eq_false_iff_ne.2 h3
            have k4 : (a == 4) = false := beq_eq_false_iff_ne.2 h4
            have k6 : (a == 6) = false := beq_eq_false_iff_ne.2 h6
            have k8 : (a == 8) = false := beq_eq_false_iff_ne.2 h8
            have kc : (a == 12) = false := beq_eq_false_iff_ne.2 hc
            have HX : Hid (revX a = false) := Lib.hid (by unfold revX; simp [h3, h4, h6, h8, hc])
            clear h3 h4 h6 h8 hc
            go_enter Try.func40, Try.ntmps40
            go_wp2_with fail
            go_ret
            exact ⟨by rw [HX.out]; rfl, rfl⟩
end Go.Proofs.Ytkackejipgabfaa.Char

/- Tests of nodes: which may be. -/
namespace Go.Proofs.Ytkackejipgabfaa.Char
open Go.RowKit Go.Lib

/-- a test as a value -/
def teV (k : Int) (nm : List UInt8) (hs : Bool) : Value := .agg #[.int .i64 k, .string (bs nm), .bool hs]
/-- whether a test may be -/
def rightT (k : Int) (nm : List UInt8) (hs : Bool) : Bool :=
  if k = 1 then !nm.isEmpty && !hs else if k = 6 then nm.isEmpty || hs else if 2 ≤ k ∧ k ≤ 5 then nm.isEmpty && !hs else false
theorem bs_emp (a : List UInt8) (v : Bool) (h : a.isEmpty = v) : (bs a).toList.isEmpty = v := by rw [bs_tl, h]
set_option maxRecDepth 100000 in
set_option maxHeartbeats 4000000 in
theorem rightT_any (k : Int) (nm : List UInt8) (hs : Bool) (w : World) :
    Calls Try.prog 93 #[teV k nm hs] w fun e w' => e = .returned (.bool (rightT k nm hs)) ∧ Below w.heap.size w w' := by
  have HB := Lib.hid fun ob => (Below.refl _ w).alloc (Nat.le_refl _) ob
  unfold teV
  obtain ⟨R, hR⟩ : ∃ R, rightT k nm hs = R := ⟨_, rfl⟩
  rw [hR]
  unfold rightT at hR
  obtain ⟨E, hE⟩ : ∃ E, nm.isEmpty = E := ⟨_, rfl⟩
  rw [hE] at hR
  have he := bs_emp _ _ hE
  clear hE
  by_cases h1 : k = 1
  · subst h1
    rw [if_pos rfl] at hR
    have HR := Lib.hid hR
    clear hR
    cases E <;> cases hs <;>
    · go_enter Try.func93, Try.ntmps93
      go_wp2_with fail
      go_ret
      exact ⟨by rw [← HR.out]; rfl, HB.out _⟩
  · rw [if_neg h1] at hR
    have k1 : (k == 1) = false := beq_eq_false_iff_ne.2 h1
    by_cases h6 : k = 6
    · subst h6
      rw [if_pos rfl] at hR
      have HR := Lib.hid hR
      clear hR h1 k1
      cases E <;> cases hs <;>
      · go_enter Try.func93, Try.ntmps93
        go_wp2_with fail
        go_ret
        exact ⟨by rw [← HR.out]; rfl, HB.out _⟩
    · rw [if_neg h6] at hR
      have k6 : (k == 6) = false := beq_eq_false_iff_ne.2 h6
      by_cases h25 : 2 ≤ k ∧ k ≤ 5
      · rw [if_pos h25] at hR
        have HR := Lib.hid hR
        have h : k = 2 ∨ k = 3 ∨ k = 4 ∨ k = 5 := by omega
        clear hR h1 k1 h6 k6 h25
        rcases h with rfl | rfl | rfl | rfl <;> cases E <;> cases hs <;>
        · go_enter Try.func93, Try.ntmps93
          go_wp2_with fail
          go_ret
          exact ⟨by rw [← HR.out]; rfl, HB.out _⟩
      · rw [if_neg h25] at hR
        have k2 : (k == 2) = false := beq_eq_false_iff_ne.2 (by omega)
        have k3 : (k == 3) = false := beq_eq_false_iff_ne.2 (by omega)
        have k4 : (k == 4) = false := beq_eq_false_iff_ne.2 (by omega)
        have k5 : (k == 5) = false := beq_eq_false_iff_ne.2 (by omega)
        have HR := Lib.hid hR
        clear hR h1 h6 h25
        go_enter Try.func93, Try.ntmps93
        go_wp2_with fail
        go_ret
        exact ⟨by rw [← HR.out]; rfl, HB.out _⟩
end Go.Proofs.Ytkackejipgabfaa.Char
