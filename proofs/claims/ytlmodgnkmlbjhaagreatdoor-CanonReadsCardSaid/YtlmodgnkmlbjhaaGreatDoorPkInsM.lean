import Derived.Test.YtlmodgnkmlbjhaaGreatDoorPkFew
import Derived.Test.YtlmodgnkmlbjhaaGreatDoorPkTrM
import Derived.Laws.AppendOwnNone
import Derived.Deep.CutRange
import Derived.Test.YtlmodgnkmlbjhaaGreatDoorPkReader
import Derived.Test.YtlmodgnkmlbjhaaGreatDoorPkGrE
import Derived.StillTailTactics
namespace Go.Proofs.YtlmodgnkmlbjhaaGreatDoor
set_option maxHeartbeats 4000000
set_option maxRecDepth 1000000
namespace Char
open Go.Lib
theorem topT_cons (t : Tr) (r : List Tr) : topT (t :: r) = t := rfl
theorem putT_cons (n t : Tr) (r : List Tr) : putT n (t :: r) = t.put n :: r := rfl
def InsOk (ts : List Tk) (at0 deep sz : Nat) (n : Tr) (at1 sz1 : Nat) : Prop := ∀ os : List Tr, os.length = deep + 1 → (deep = 0 → (topT os).ks = []) → runT (ts.drop at0) os sz = runT (ts.drop at1) (putT n os) sz1
def InsNo (ts : List Tk) (at0 deep sz e : Nat) : Prop := ∀ os : List Tr, os.length = deep + 1 → (deep = 0 → (topT os).ks = []) → runT (ts.drop at0) os sz = .inl e
def InsAt (ts : List Tk) (at0 deep sz : Nat) (n : Tr) (at1 sz1 : Nat) : Prop := ∀ os : List Tr, os.length = deep + 1 → (deep = 0 → (topT os).ks = []) → runT (ts.drop at0) os sz = runT (ts.drop at1) (n :: os) sz1
theorem left_start {p : Tk} {os : List Tr} (h : p.kd = 1) : leftT p os = false := by unfold leftT; rw [h]; rfl
theorem left_in {p : Tk} {n : Tr} {os : List Tr} {deep : Nat} (ho : os.length = deep + 1) : leftT p (n :: os) = (p.kd == 3 && p.tx.isEmpty) := by
 unfold leftT
 have : ((n :: os).length == 1) = false := by rw [List.length_cons, ho, beq_eq_false_iff_ne]; omega
 rw [this, Bool.false_and, Bool.or_false]
theorem ins_deep {ts : List Tk} {at0 sz : Nat} (hl : at0 < ts.length) (hk : ts[at0].kd = 1) : InsNo ts at0 12 sz 18 := by
 intro os ho h0
 have e1 : faultT ts[at0] os (sz + moreT ts[at0] (topT os)) = 18 := by unfold faultT; simp [hk, ho]
 rw [List.drop_eq_getElem_cons hl, run_fault (left_start hk) (by rw [e1]; decide), e1]
theorem fault_start {p : Tk} {os : List Tr} {deep sz : Nat} (hk : p.kd = 1) (ho : os.length = deep + 1) (hd : deep < 12) (h0 : deep = 0 → (topT os).ks = []) : faultT p os sz = if 120 < sz then 19 else 0 := by
 unfold faultT
 have a1 : ¬ (os.length = 1 ∧ (p.kd ≠ 1 ∨ (topT os).ks ≠ [])) := by
  rintro ⟨a, b | b⟩
  ·exact b hk
  ·exact b (h0 (by omega))
 rw [if_neg (by rw [hk]; rintro ⟨h, _⟩; cases h), if_neg (by rw [hk]; decide), if_neg a1, if_neg (by rw [ho]; omega)]
theorem more_start {p : Tk} {t : Tr} (hk : p.kd = 1) : moreT p t = 1 + p.ats.length := by unfold moreT; rw [if_pos hk]
theorem ins_many {ts : List Tk} {at0 deep sz : Nat} (hl : at0 < ts.length) (hk : ts[at0].kd = 1) (hd : deep < 12) (hs : 120 < sz + 1 + ts[at0].ats.length) : InsNo ts at0 deep sz 19 := by
 intro os ho h0
 have e1 : faultT ts[at0] os (sz + moreT ts[at0] (topT os)) = 19 := by rw [fault_start hk ho hd h0, more_start hk, if_pos (by omega)]
 rw [List.drop_eq_getElem_cons hl, run_fault (left_start hk) (by rw [e1]; decide), e1]
theorem run_start {ts : List Tk} {at0 deep sz : Nat} (hl : at0 < ts.length) (hk : ts[at0].kd = 1) (hd : deep < 12) (hs : sz + 1 + ts[at0].ats.length ≤ 120) (os : List Tr) (ho : os.length = deep + 1) (h0 : deep = 0 → (topT os).ks = []) :
  runT (ts.drop at0) os sz = runT (ts.drop (at0 + 1)) (if ts[at0].em then endT (beginT ts[at0] :: os) else beginT ts[at0] :: os) (sz + 1 + ts[at0].ats.length) := by
 have e1 : faultT ts[at0] os (sz + moreT ts[at0] (topT os)) = 0 := by rw [fault_start hk ho hd h0, more_start hk, if_neg (by omega)]
 rw [List.drop_eq_getElem_cons hl, run_next (left_start hk) e1, more_start hk]
 unfold nextT
 rw [if_pos hk]
 congr 1
 omega
theorem ins_empty {ts : List Tk} {at0 deep sz : Nat} (hl : at0 < ts.length) (hk : ts[at0].kd = 1) (hd : deep < 12) (hs : sz + 1 + ts[at0].ats.length ≤ 120) (he : ts[at0].em = true) : InsOk ts at0 deep sz (beginT ts[at0]) (at0 + 1) (sz + 1 + ts[at0].ats.length) := by
 intro os ho h0
 rw [run_start hl hk hd hs os ho h0, he, if_pos rfl]
 rfl
theorem ins_open {ts : List Tk} {at0 deep sz : Nat} (hl : at0 < ts.length) (hk : ts[at0].kd = 1) (hd : deep < 12) (hs : sz + 1 + ts[at0].ats.length ≤ 120) (he : ts[at0].em = false) : InsAt ts at0 deep sz (beginT ts[at0]) (at0 + 1) (sz + 1 + ts[at0].ats.length) := by
 intro os ho h0
 rw [run_start hl hk hd hs os ho h0, he]
 rfl
theorem at_out {ts : List Tk} {at0 deep sz at1 sz1 : Nat} {n : Tr} (h : InsAt ts at0 deep sz n at1 sz1) (hl : ts.length ≤ at1) : InsNo ts at0 deep sz 16 := by
 intro os ho h0
 rw [h os ho h0, List.drop_of_length_le hl, runT]
 unfold finT
 rw [if_pos (by rw [List.length_cons, ho]; omega)]
theorem at_match {ts : List Tk} {at0 deep sz at1 sz1 : Nat} {n : Tr} (h : InsAt ts at0 deep sz n at1 sz1) (hl : at1 < ts.length) (hk : ts[at1].kd = 2) (hn : ts[at1].nm ≠ n.nm) : InsNo ts at0 deep sz 14 := by
 intro os ho h0
 have e1 : faultT ts[at1] (n :: os) (sz1 + moreT ts[at1] (topT (n :: os))) = 14 := by unfold faultT; rw [if_pos ⟨hk, hn⟩]
 rw [h os ho h0, List.drop_eq_getElem_cons hl, run_fault (by rw [left_in ho, hk]; rfl) (by rw [e1]; decide), e1]
theorem at_end {ts : List Tk} {at0 deep sz at1 sz1 : Nat} {n : Tr} (h : InsAt ts at0 deep sz n at1 sz1) (hl : at1 < ts.length) (hk : ts[at1].kd = 2) (hn : ts[at1].nm = n.nm) : InsOk ts at0 deep sz n (at1 + 1) sz1 := by
 intro os ho h0
 have e1 : ∀ s, faultT ts[at1] (n :: os) s = 0 := fun s => by unfold faultT; rw [if_neg (by rintro ⟨_, h⟩; exact h hn), if_pos hk]
 have e2 : moreT ts[at1] (topT (n :: os)) = 0 := by unfold moreT; rw [if_neg (by rw [hk]; decide), if_pos (.inl hk)]
 rw [h os ho h0, List.drop_eq_getElem_cons hl, run_next (by rw [left_in ho, hk]; rfl) (e1 _), e2]
 unfold nextT
 rw [if_neg (by rw [hk]; decide), if_pos hk]
 rfl
theorem at_kid {ts : List Tk} {at0 deep sz at1 sz1 at2 sz2 : Nat} {n k : Tr} (h : InsAt ts at0 deep sz n at1 sz1) (hi : InsOk ts at1 (deep + 1) sz1 k at2 sz2) (hk : k.kd ≠ 4) : InsAt ts at0 deep sz (.mk n.kd n.nm n.tx n.ats (n.ks ++ [k])) at2 sz2 := by
 intro os ho h0
 rw [h os ho h0, hi (n :: os) (by rw [List.length_cons, ho]) (fun e => by cases e), putT_cons]
 unfold Tr.put
 have : putK n.ks k = n.ks ++ [k] := by
  unfold putK
  cases n.ks.getLast? with
  | none => rfl
  | some t => dsimp only; rw [if_neg (by simp [hk])]
 rw [this]
theorem at_kid_no {ts : List Tk} {at0 deep sz at1 sz1 e : Nat} {n : Tr} (h : InsAt ts at0 deep sz n at1 sz1) (hi : InsNo ts at1 (deep + 1) sz1 e) : InsNo ts at0 deep sz e := by
 intro os ho h0
 rw [h os ho h0, hi (n :: os) (by rw [List.length_cons, ho]) (fun e => by cases e)]
theorem at_left {ts : List Tk} {at0 deep sz at1 sz1 : Nat} {n : Tr} (h : InsAt ts at0 deep sz n at1 sz1) (hl : at1 < ts.length) (hk : ts[at1].kd = 3) (ht : ts[at1].tx = []) : InsAt ts at0 deep sz n (at1 + 1) sz1 := by
 intro os ho h0
 rw [h os ho h0, List.drop_eq_getElem_cons hl, run_left (by rw [left_in ho, hk, ht]; rfl)]
theorem fault_put {p : Tk} {n : Tr} {os : List Tr} {deep sz : Nat} (ho : os.length = deep + 1) (h1 : p.kd ≠ 1) (h2 : p.kd ≠ 2) : faultT p (n :: os) sz = if 120 < sz then 19 else 0 := by
 unfold faultT
 rw [if_neg (by rintro ⟨h, _⟩; exact h2 h), if_neg h2, if_neg (by rw [List.length_cons, ho]; omega), if_neg (by rintro ⟨h, _⟩; exact h1 h)]
theorem at_text {ts : List Tk} {at0 deep sz at1 sz1 : Nat} {n : Tr} (h : InsAt ts at0 deep sz n at1 sz1) (hl : at1 < ts.length) (hk : ts[at1].kd = 3) (ht : ts[at1].tx ≠ []) (hs : sz1 ≤ 120) (h4 : lastTx n.ks = true) : InsAt ts at0 deep sz (n.put (leafT ts[at1])) (at1 + 1) sz1 := by
 intro os ho h0
 have e2 : moreT ts[at1] (topT (n :: os)) = 0 := by unfold moreT; rw [if_neg (by rw [hk]; decide), if_pos (.inr ⟨hk, h4⟩)]
 have e1 : faultT ts[at1] (n :: os) (sz1 + moreT ts[at1] (topT (n :: os))) = 0 := by rw [fault_put ho (by rw [hk]; decide) (by rw [hk]; decide), e2, if_neg (by omega)]
 have e3 : leftT ts[at1] (n :: os) = false := by
  rw [left_in ho, hk]
  cases hx : ts[at1].tx with
  | nil => exact absurd hx ht
  | cons _ _ => rfl
 rw [h os ho h0, List.drop_eq_getElem_cons hl, run_next e3 e1, e2]
 unfold nextT
 rw [if_neg (by rw [hk]; decide), if_neg (by rw [hk]; decide), putT_cons]
 rfl
theorem left_leaf {p : Tk} {n : Tr} {os : List Tr} {deep : Nat} (ho : os.length = deep + 1) (h : p.kd = 3 → p.tx ≠ []) : leftT p (n :: os) = false := by
 rw [left_in ho]
 cases hk : (p.kd == 3) with
 | false => rfl
 | true =>
  cases hx : p.tx with
  | nil => exact absurd hx (h (by simpa using hk))
  | cons _ _ => rfl
theorem more_leaf {p : Tk} {n : Tr} (h1 : p.kd ≠ 1) (h2 : p.kd ≠ 2) (h3 : p.kd = 3 → lastTx n.ks = false) : moreT p n = 1 := by
 unfold moreT
 rw [if_neg h1, if_neg]
 rintro (h | ⟨h, h'⟩)
 ·exact h2 h
 ·rw [h3 h] at h'; cases h'
theorem at_leaf {ts : List Tk} {at0 deep sz at1 sz1 : Nat} {n : Tr} (h : InsAt ts at0 deep sz n at1 sz1) (hl : at1 < ts.length) (h1 : ts[at1].kd ≠ 1) (h2 : ts[at1].kd ≠ 2) (ht : ts[at1].kd = 3 → ts[at1].tx ≠ []) (h3 : ts[at1].kd = 3 → lastTx n.ks = false) (hs : sz1 + 1 ≤ 120) :
  InsAt ts at0 deep sz (.mk n.kd n.nm n.tx n.ats (n.ks ++ [leafT ts[at1]])) (at1 + 1) (sz1 + 1) := by
 intro os ho h0
 have e2 : moreT ts[at1] (topT (n :: os)) = 1 := more_leaf h1 h2 h3
 have e1 : faultT ts[at1] (n :: os) (sz1 + moreT ts[at1] (topT (n :: os))) = 0 := by rw [fault_put ho h1 h2, e2, if_neg (by omega)]
 rw [h os ho h0, List.drop_eq_getElem_cons hl, run_next (left_leaf ho ht) e1, e2]
 unfold nextT
 rw [if_neg h1, if_neg h2, putT_cons]
 unfold Tr.put
 have : putK n.ks (leafT ts[at1]) = n.ks ++ [leafT ts[at1]] := by
  unfold putK
  cases hg : n.ks.getLast? with
  | none => rfl
  | some t =>
   dsimp only
   rw [if_neg]
   rintro he
   simp only [Bool.and_eq_true, beq_iff_eq] at he
   have e3 : ts[at1].kd = 3 := by
    have h8 := he.2
    have h9 : (leafT ts[at1]).kd = ts[at1].kd + 1 := rfl
    omega
   have := h3 e3
   unfold lastTx at this
   rw [hg] at this
   dsimp only at this
   rw [he.1] at this
   cases this
 rw [this]
theorem at_leaf_no {ts : List Tk} {at0 deep sz at1 sz1 : Nat} {n : Tr} (h : InsAt ts at0 deep sz n at1 sz1) (hl : at1 < ts.length) (h1 : ts[at1].kd ≠ 1) (h2 : ts[at1].kd ≠ 2) (ht : ts[at1].kd = 3 → ts[at1].tx ≠ []) (h3 : ts[at1].kd = 3 → lastTx n.ks = false) (hs : 120 < sz1 + 1) : InsNo ts at0 deep sz 19 := by
 intro os ho h0
 have e2 : moreT ts[at1] (topT (n :: os)) = 1 := more_leaf h1 h2 h3
 have e1 : faultT ts[at1] (n :: os) (sz1 + moreT ts[at1] (topT (n :: os))) = 19 := by rw [fault_put ho h1 h2, e2, if_pos (by omega)]
 rw [h os ho h0, List.drop_eq_getElem_cons hl, run_fault (left_leaf ho ht) (by rw [e1]; decide), e1]
theorem out_end {ts : List Tk} {at1 sz : Nat} {g : Tr} (hl : at1 < ts.length) (hk : ts[at1].kd = 2) (hn : ts[at1].nm ≠ g.nm) : runT (ts.drop at1) [g] sz = .inl 14 := by
 have e1 : ∀ s, faultT ts[at1] [g] s = 14 := fun s => by unfold faultT; rw [if_pos ⟨hk, hn⟩]
 rw [List.drop_eq_getElem_cons hl, run_fault (by unfold leftT; rw [hk]; rfl) (by rw [e1]; decide), e1]
theorem out_blank {ts : List Tk} {at1 sz : Nat} {g : Tr} (hl : at1 < ts.length) (hk : ts[at1].kd = 3) (hb : (ts[at1].tx.all fun c => spC (c.toNat : Int)) = true) : runT (ts.drop at1) [g] sz = runT (ts.drop (at1 + 1)) [g] sz := by
 rw [List.drop_eq_getElem_cons hl, run_left (by unfold leftT; rw [hk, hb]; simp)]
theorem out_no {ts : List Tk} {at1 sz : Nat} {g : Tr} (hl : at1 < ts.length) (h2 : ts[at1].kd ≠ 2) (h1 : ts[at1].kd = 1 → g.ks ≠ []) (h3 : ts[at1].kd = 3 → (ts[at1].tx.all fun c => spC (c.toNat : Int)) = false) : runT (ts.drop at1) [g] sz = .inl 17 := by
 have e0 : leftT ts[at1] [g] = false := by
  unfold leftT
  cases hk : (ts[at1].kd == 3) with
  | false => rfl
  | true =>
   have hb := h3 (by simpa using hk)
   rw [hb]
   cases hx : ts[at1].tx with
   | nil => rw [hx] at hb; cases hb
   | cons _ _ => rfl
 have e1 : ∀ s, faultT ts[at1] [g] s = 17 := fun s => by
  unfold faultT
  rw [if_neg (by rintro ⟨h, _⟩; exact h2 h), if_neg h2, if_pos]
  refine ⟨rfl, ?_⟩
  by_cases hk : ts[at1].kd = 1
  ·exact .inr (h1 hk)
  ·exact .inl hk
 rw [List.drop_eq_getElem_cons hl, run_fault e0 (by rw [e1]; decide), e1]
theorem out_fin {ts : List Tk} {at1 sz : Nat} {g : Tr} (hl : ts.length ≤ at1) : runT (ts.drop at1) [g] sz = match g.ks with
  | [] => .inl 17
  | k :: _ => .inr k := by
 rw [List.drop_of_length_le hl, runT]
 unfold finT
 rw [if_neg (by simp)]
 rfl
def cntS : List Tr → Nat
 | [] => 0
 | t :: r => cntT t + cntS r
def mxS (os : List Tr) : Prop := ∀ t, t ∈ os → mxT t ≤ 120
theorem cntK_app : ∀ a b : List Tr, cntK (a ++ b) = cntK a + cntK b
 | [], b => by rw [List.nil_append, cntK]; omega
 | x :: r, b => by rw [List.cons_append, cntK, cntK, cntK_app r b]; omega
theorem mxK_app : ∀ a b : List Tr, mxK (a ++ b) = max (mxK a) (mxK b)
 | [], b => by rw [List.nil_append, mxK]; omega
 | x :: r, b => by rw [List.cons_append, mxK, mxK, mxK_app r b]; omega
theorem last_split {ks : List Tr} {t : Tr} (h : ks.getLast? = some t) : ks = ks.dropLast ++ [t] := by
 rw [List.getLast?_eq_some_iff] at h
 obtain ⟨r, rfl⟩ := h
 simp
theorem put_cnt (ks : List Tr) (n : Tr) : cntK (putK ks n) ≤ cntK ks + cntT n := by
 unfold putK
 cases hg : ks.getLast? with
 | none => dsimp only; rw [cntK_app, cntK, cntK]; omega
 | some t =>
  dsimp only
  split
  ·have e := last_split hg
   have h2 : cntK ks = cntK ks.dropLast + cntT t := by
    have := congrArg cntK e
    rw [cntK_app, cntK, cntK] at this
    omega
   rw [cntK_app, cntK, cntK, cntT]
   have := cnt_eq t
   omega
  ·rw [cntK_app, cntK, cntK]; omega
theorem put_mrg (ks : List Tr) (n : Tr) (hl : lastTx ks = true) (hn : n.kd = 4) : cntK (putK ks n) = cntK ks := by
 unfold lastTx at hl
 unfold putK
 cases hg : ks.getLast? with
 | none => rw [hg] at hl; cases hl
 | some t =>
  rw [hg] at hl
  dsimp only at hl ⊢
  rw [if_pos (by rw [hl, hn]; rfl)]
  have e := last_split hg
  have h2 : cntK ks = cntK ks.dropLast + cntT t := by
   have := congrArg cntK e
   rw [cntK_app, cntK, cntK] at this
   omega
  rw [cntK_app, cntK, cntK, cntT]
  have := cnt_eq t
  omega
theorem put_mx (ks : List Tr) (n : Tr) (c : Nat) (h1 : mxK ks ≤ c) (h2 : mxT n ≤ c) : mxK (putK ks n) ≤ c := by
 unfold putK
 cases hg : ks.getLast? with
 | none => dsimp only; rw [mxK_app, mxK, mxK]; omega
 | some t =>
  have e := last_split hg
  have h3 : max (mxK ks.dropLast) (mxT t) ≤ c := by
   have := congrArg mxK e
   rw [mxK_app, mxK, mxK] at this
   omega
  have h4 := mxT_def t
  dsimp only
  split
  ·rw [mxK_app, mxK, mxK, mxT]; omega
  ·rw [mxK_app, mxK, mxK]; omega
theorem putT_cnt (n : Tr) : ∀ os, cntS (putT n os) ≤ cntS os + cntT n
 | [] => by rw [putT, cntS]; omega
 | t :: r => by
  have := put_cnt t.ks n
  have h2 := cnt_eq t
  rw [putT, cntS, cntS, Tr.put, cntT]
  omega
theorem putT_mx (n : Tr) (hn : mxT n ≤ 120) : ∀ os, mxS os → mxS (putT n os)
 | [], h => h
 | t :: r, h => by
  intro u hu
  rw [putT, List.mem_cons] at hu
  rcases hu with rfl | hu
  ·have h1 := h t (by simp)
   rw [mxT_def] at h1
   have := put_mx t.ks n 120 (by omega) hn
   rw [Tr.put, mxT]
   omega
  ·exact h u (by simp [hu])
theorem next_cnt (p : Tk) (os : List Tr) : cntS (nextT p os) ≤ cntS os + moreT p (topT os) := by
 unfold nextT moreT
 by_cases h1 : p.kd = 1
 ·rw [if_pos h1, if_pos h1]
  have hc : cntT (beginT p) = 1 := by unfold beginT; rw [cntT, cntK]
  split
  ·have := putT_cnt (beginT p) os
   rw [endT]
   omega
  ·rw [cntS]; omega
 ·rw [if_neg h1, if_neg h1]
  by_cases h2 : p.kd = 2
  ·rw [if_pos h2, if_pos (.inl h2)]
   cases os with
   | nil => rw [endT, cntS]; omega
   | cons t r =>
    have := putT_cnt t r
    rw [endT, cntS]
    omega
  ·rw [if_neg h2]
   have hc : cntT (leafT p) = 1 := by unfold leafT; rw [cntT, cntK]
   split
   ·rename_i h
    rcases h with h | ⟨h3, h4⟩
    ·exact absurd h h2
    ·cases os with
     | nil => rw [putT]; omega
     | cons t r =>
      have := put_mrg t.ks (leafT p) h4 (by unfold leafT Tr.kd; rw [h3]; rfl)
      have h5 := cnt_eq t
      rw [putT, cntS, cntS, Tr.put, cntT]
      omega
   ·have := putT_cnt (leafT p) os
    omega
theorem next_mx (p : Tk) (os : List Tr) (h : mxS os) (hp : p.kd = 1 → p.ats.length ≤ 120) : mxS (nextT p os) := by
 unfold nextT
 by_cases h1 : p.kd = 1
 ·have hb : mxT (beginT p) ≤ 120 := by unfold beginT; rw [mxT, mxK, sortA_len]; have := hp h1; omega
  rw [if_pos h1]
  split
  ·rw [endT]; exact putT_mx _ hb _ h
  ·intro u hu
   rcases List.mem_cons.1 hu with rfl | hu
   ·exact hb
   ·exact h u hu
 ·rw [if_neg h1]
  split
  ·cases os with
   | nil => exact h
   | cons t r => rw [endT]; exact putT_mx _ (h t (by simp)) _ (fun u hu => h u (by simp [hu]))
  ·refine putT_mx _ ?_ _ h
   unfold leafT
   rw [mxT, mxK]
   simp
theorem run_cnt : ∀ (ts : List Tk) (os : List Tr) (sz : Nat) (t : Tr), cntS os ≤ sz + 1 → sz ≤ 120 → mxS os → runT ts os sz = .inr t → cntT t ≤ 121 ∧ mxT t ≤ 120
 | [], os, sz, t, hc, hs, hm, h => by
  rw [runT] at h
  unfold finT at h
  split at h
  ·cases h
  ·cases os with
   | nil => cases h
   | cons a r =>
    rw [topT_cons] at h
    have ha := cnt_eq a
    have hma := hm a (by simp)
    rw [mxT_def] at hma
    cases hk : a.ks with
    | nil => rw [hk] at h; cases h
    | cons k l =>
     rw [hk] at h ha hma
     cases h
     rw [cntK] at ha
     rw [mxK] at hma
     rw [cntS] at hc
     omega
 | p :: r, os, sz, t, hc, hs, hm, h => by
  cases hl : leftT p os with
  | true =>
   rw [run_left hl] at h
   exact run_cnt r os sz t hc hs hm h
  | false =>
   by_cases hf : faultT p os (sz + moreT p (topT os)) = 0
   ·rw [run_next hl hf] at h
    have h1 := next_cnt p os
    have hmore : moreT p (topT os) = 0 ∨ sz + moreT p (topT os) ≤ 120 := by
     unfold faultT at hf
     by_cases h2 : p.kd = 2
     ·left
      unfold moreT
      rw [if_neg (by rw [h2]; decide), if_pos (.inl h2)]
     ·right
      rw [if_neg (by rintro ⟨h, _⟩; exact h2 h), if_neg h2] at hf
      split at hf
      ·cases hf
      ·split at hf
       ·cases hf
       ·split at hf
        ·cases hf
        ·omega
    refine run_cnt r _ _ t (by omega) (by omega) (next_mx p os hm fun h1 => ?_) h
    rw [more_start h1] at hmore
    omega
   ·rw [run_fault hl hf] at h
    cases h
theorem parse_cnt {s : List UInt8} {t : Tr} (h : parseL s = .inr t) : cntT t ≤ 121 ∧ mxT t ≤ 120 := by
 unfold parseL at h
 split at h
 ·cases h
 ·refine run_cnt _ [grd0] 0 t ?_ (by omega) ?_ h
  ·rw [cntS, cntS, grd0, cntT, cntK]; omega
  ·intro u hu
   rw [List.mem_singleton] at hu
   subst hu
   rw [grd0, mxT, mxK]
   simp
end Char
namespace Char
open Go.RowKit Go.Lib
theorem insA_at (a : At2) : ∀ (l : List At2) (k : Nat), k ≤ l.length → (∀ i (h : i < l.length), i < k → Op.bytesLess l[i].1 a.1 = true) → (∀ h : k < l.length, Op.bytesLess l[k].1 a.1 = false) → insA a l = l.take k ++ a :: l.drop k
 | [], k, hk, _, _ => by
  have : k = 0 := by simpa using hk
  subst this
  rfl
 | x :: r, 0, _, _, h => by
  have := h (by simp)
  unfold insA
  rw [if_neg (by simpa using this)]
  rfl
 | x :: r, k + 1, hk, h1, h2 => by
  have h0 := h1 0 (by simp) (by omega)
  have ih := insA_at a r k (by simpa using hk) (fun i hi hik => h1 (i + 1) (by simpa using hi) (by omega)) (fun hk2 => h2 (by simpa using hk2))
  unfold insA
  rw [if_pos (by simpa using h0), ih]
  rfl
theorem sortA_take (l : List At2) (k : Nat) (h : k < l.length) : sortA (l.take (k + 1)) = insA l[k] (sortA (l.take k)) := by
 unfold sortA
 rw [List.take_succ_eq_append_getElem h, List.foldl_append]
 rfl
def SrcAt (w : World) (v : Value) (ps : List At2) : Prop := (ps = [] ∧ v = .slice none 0 0) ∨ ∃ g off cap, v = .slice (some ⟨g, off, none⟩) ps.length cap ∧ ∀ j u, (atsC ps)[j]? = some u → w.cell? ⟨g, off + j, none⟩ = some u
theorem SrcAt.keep {w w' : World} {v : Value} {ps : List At2} (h : SrcAt w v ps) (hk : ∀ g, v.ownBlock = some g → w'.heap[g]? = w.heap[g]?) : SrcAt w' v ps := by
 rcases h with h | ⟨g, off, cap, rfl, h⟩
 ·exact .inl h
 ·exact .inr ⟨g, off, cap, rfl, fun j u hj => (World.cell?_of_block (w := w) (hk g rfl)).trans (h j u hj)⟩
theorem SrcAt.nils (w : World) : SrcAt w (.slice none 0 0) [] := .inl ⟨rfl, rfl⟩
theorem OwnsAt.cells {B : Nat} {w : World} {g i j : Nat} {qs : List At2} (h : OwnsAt B w (.slice (some ⟨g, 0, none⟩) i j) qs) : ∀ k u, (atsC qs)[k]? = some u → w.cell? ⟨g, k, none⟩ = some u := fun k u hu => by
 have := World.ownsRow.cells h (g := g) rfl k u hu
 rwa [Addr.add_lit, Nat.zero_add] at this
theorem atsC_app (a b : List At2) : atsC (a ++ b) = atsC a ++ atsC b := by simp [atsC]
theorem atsC_one (ps : List At2) : ∀ u ∈ atsC ps, u.oneCell' = true := by
 intro u hu
 unfold atsC at hu
 rw [List.mem_flatMap] at hu
 obtain ⟨x, _, hx⟩ := hu
 simp at hx
 rcases hx with rfl | rfl <;> rfl
theorem OwnsAt.blkS {B : Nat} {w : World} {v : Value} {qs : List At2} (h : OwnsAt B w v qs) {g : Nat} (hg : v.ownBlock = some g) : B ≤ g ∧ g < w.heap.size := by
 rcases h.2 with ⟨h0, _⟩ | ⟨g', cap, cur, e1, e2, hb, _⟩
 ·rw [h0] at hg; cases hg
 ·rw [e1] at hg
  simp [Value.ownBlock] at hg
  subst hg
  exact ⟨e2, (Array.getElem?_eq_some_iff.1 hb).1⟩
theorem wpList_appAts {ops : Array Oper} {rest : List Oper} {o : Oper} {a : Act} {Q : Exit → Act → World → Prop} {B : Nat} {w : World} {v vx : Value} {qs ps : List At2}
  (hgd : o.guard = none) (s x : Operand) (ho : o.op = .call { callee := .builtin .append, args := #[s, x], argTypes := #[22, 22] })
  (hown : OwnsAt B w v qs) (hsrc : SrcAt w vx ps) (hs : a.eval s = v) (hx : a.eval x = vx) (hB : B ≤ w.heap.size) (hlen : qs.length + ps.length ≤ 1000)
  (h : ∀ ov iv jv w1, OwnsAt B w1 (.slice ov iv jv) (qs ++ ps) → Below B w w1 → (∀ k, k < w.heap.size → some k ≠ v.ownBlock → w1.heap[k]? = w.heap[k]?) → w.heap.size ≤ w1.heap.size → wpList Tryz.prog ops Q rest (a.put o.dst (.slice ov iv jv)) w1) :
  wpList Tryz.prog ops Q (o :: rest) a w := by
 obtain ⟨i0, hi, hz0, hz1, hz2⟩ := info_parts info_at
 rcases hsrc with ⟨rfl, rfl⟩ | ⟨g, off, cap, rfl, hc⟩
 ·obtain ⟨o', i', j', rfl⟩ := hown.form
  refine wpList_append_own_none hgd s x 22 ho B 40 i0 2 Tryz.underlying22 hi _ qs.length (atsC qs) hs hown hx ?_
  exact h _ _ _ w (by rw [List.append_nil]; exact hown) (Below.refl B w) (fun _ _ _ => rfl) (Nat.le_refl _)
 ·refine wpList_append_own w hgd s x 22 ho B 40 i0 (.agg #[.string ⟨#[]⟩, .string ⟨#[]⟩]) 2 32 Tryz.underlying22 hi hz0 hz1 hz2 rfl (by decide) v qs.length (atsC qs) hs hown ⟨g, off, none⟩ ps.length cap (atsC ps) hx (atsC_len ps) ?_ (atsC_one ps) ?_ ?_ hB ?_
  ·intro j u hj
   rw [Addr.add_lit]
   exact hc j u hj
  ·unfold maxLen; omega
  ·omega
  ·intro v' w1 hown' hgrow _
   have hown2 : OwnsAt B w1 v' (qs ++ ps) := by
    unfold OwnsAt
    rw [List.length_append, atsC_app]
    exact hown'
   obtain ⟨o', i', j', rfl⟩ := hown2.form
   exact h _ _ _ w1 hown2 ((Below.refl B w).grown hgrow hB (fun k hk => (OwnsAt.blkS hown hk).1)) (fun k hk hne => hgrow.block k hk hne) hgrow.size
theorem ats_to {B : Nat} {W : World} {g jm : Nat} {m : List At2} (hown : OwnsAt B W (.slice (some ⟨g, 0, none⟩) m.length jm) m) (k : Nat) (hk : k ≤ m.length) : SrcAt W (.slice (some ⟨g, 0, none⟩) k jm) (m.take k) := by
 refine .inr ⟨g, 0, jm, by rw [List.length_take, Nat.min_eq_left hk], fun j u hj => ?_⟩
 rw [Nat.zero_add]
 refine hown.cells j u ?_
 have e : atsC m = atsC (m.take k) ++ atsC (m.drop k) := by rw [← atsC_app, List.take_append_drop]
 rw [e, List.getElem?_append_left (by have := List.getElem?_eq_some_iff.1 hj; exact this.1)]
 exact hj
theorem ats_from {B : Nat} {W : World} {g jm : Nat} {m : List At2} (hown : OwnsAt B W (.slice (some ⟨g, 0, none⟩) m.length jm) m) (k : Nat) (hk : k ≤ m.length) (c : Nat) : SrcAt W (.slice (some ⟨g, k * 2, none⟩) (m.length - k) c) (m.drop k) := by
 refine .inr ⟨g, k * 2, c, by rw [List.length_drop], fun j u hj => ?_⟩
 refine hown.cells _ u ?_
 have e : atsC m = atsC (m.take k) ++ atsC (m.drop k) := by rw [← atsC_app, List.take_append_drop]
 have hl : (atsC (m.take k)).length = k * 2 := by rw [atsC_len, List.length_take, Nat.min_eq_left hk]
 rw [e, List.getElem?_append_right (by omega), hl, Nat.add_sub_cancel_left]
 exact hj
theorem ats_end {W : World} {g : Nat} {m : List At2} (k : Nat) (hk : m.length ≤ k) (c : Nat) : SrcAt W (.slice (some ⟨g, 0, none⟩) 0 c) (m.drop k) := by
 refine .inr ⟨g, 0, c, by rw [List.length_drop, Nat.sub_eq_zero_of_le hk], fun j u hj => ?_⟩
 rw [List.drop_of_length_le hk] at hj
 simp [atsC] at hj
theorem below_drS (B : Nat) (w : World) (n : Nat) : Below B w (w.drewN n) := ⟨rfl, rfl, rfl, Nat.le_refl _, fun _ _ => rfl⟩
def SoPost (qs : List At2) (w : World) (e : Ending) (w' : World) : Prop := ∃ o i j, e = .returned (.slice o i j) ∧ OwnsAt w.heap.size w' (.slice o i j) (sortA qs) ∧ Below w.heap.size w w'
theorem sorted_any (qs : List At2) (o : Option Addr) (j : Nat) (F : Nat → Prop) (w : World) (hq : AtsOn w F (.slice o qs.length j) qs) (hl : qs.length ≤ 100) :
  Calls Tryz.prog 67 #[.slice o qs.length j] w (SoPost qs w) := by
 have HP := hid (fun o i j W (h1 : OwnsAt w.heap.size W (.slice o i j) (sortA qs)) (h2 : Below w.heap.size w W) => (show SoPost qs w (.returned (.slice o i j)) W from ⟨o, i, j, rfl, h1, h2⟩))
 generalize SoPost qs w = P at HP ⊢
 have HQ := hid hq
 clear hq
 go_enter Tryz.func67, Tryz.ntmps67
 go_wp2_with fail
 go_loopw [3, 4] (fun v u wr => ∃ (k : Nat) (om : Option Addr) (im jm : Nat), v = .slice om im jm ∧ u = .int .i64 (k : Int) ∧ k ≤ qs.length ∧ OwnsAt w.heap.size wr (.slice om im jm) (sortA (qs.take k)) ∧ Below w.heap.size w wr) (fun _ u _ => qs.length - (RowKit.intOf u).toNat)
 case atStart => exact ⟨0, none, 0, 0, rfl, rfl, Nat.zero_le _, OwnsAt.nil _ _, Below.refl _ _⟩
 case round =>
  obtain ⟨k, om, im, jm, rfl, rfl, hk, hown, hbw⟩ := hrel
  obtain rfl := hown.len
  have hml : (sortA (qs.take k)).length = k := by rw [sortA_len, List.length_take, Nat.min_eq_left hk]
  by_cases hlt : k < qs.length
  ·have hq2 : AtsOn wr F (.slice o qs.length j) qs := AtsOn.move (fun b hb hF => ⟨hF, hbw.block b hb⟩) HQ.out
   obtain ⟨gq, fq, rfl, _, q0, q1⟩ := hq2.reads k hlt
   have hnx := sortA_take qs k hlt
   generalize sortA (qs.take k) = m at *
   generalize qs[k] = a at *
   have HNX := hid hnx
   have HML := hid hml
   have HBW := hid hbw
   have HOWN := hid hown
   have hml1 : m.length ≤ 100 := by omega
   have hsz := hbw.size
   clear hnx hml hq2 hbw hown
   go_wp2_with fail
   go_loopw [5] (fun v wr' => ∃ (p n : Nat), v = .int .i64 (p : Int) ∧ wr' = wr.drewN n ∧ p ≤ m.length ∧ ∀ i (h : i < m.length), i < p → Op.bytesLess m[i].1 a.1 = true) (fun v _ => m.length - (RowKit.intOf v).toNat)
   case atStart => exact ⟨0, 0, rfl, rfl, Nat.zero_le _, fun i _ hi => by omega⟩
   case round =>
    obtain ⟨p, n, rfl, rfl, hp, hless⟩ := hrel
    have HLESS := hid hless
    clear hless
    have hgl := cell_lt q0
    have hform : (om = none ∧ jm = 0 ∧ m = []) ∨ ∃ g, om = some ⟨g, 0, none⟩ ∧ g < wr.heap.size ∧ m.length ≤ jm := by
     rcases HOWN.out.2 with ⟨h0, h1⟩ | ⟨g, cap, cur, e1, _, hg, hc, _⟩
     ·simp only [Value.slice.injEq] at h0
      exact .inl ⟨h0.1, h0.2.2, List.eq_nil_of_length_eq_zero h1⟩
     ·simp only [Value.slice.injEq] at e1
      exact .inr ⟨g, e1.1, (Array.getElem?_eq_some_iff.1 hg).1, by omega⟩
    rcases hform with ⟨rfl, rfl, rfl⟩ | ⟨gm, rfl, hgm, hmj⟩
    ·have hp0 : p = 0 := by simpa using hp
     subst hp0
     have HI := hid (insA_at a [] 0 hp HLESS.out (fun h => absurd h (by simp)))
     go_wp2_with fail
     go_quiet (fail)
     go_wp2_with (with_reducible refine wpList_appAts (B := wr.heap.size) (ps := []) rfl (.tmp 32) (.tmp 35) rfl (OwnsAt.nil _ _) (SrcAt.nils _) rfl rfl ?_ ?_ ?_)
     ·exact Nat.le_refl _
     ·simp
     intro o3 i3 j3 w1 ho1 hb1 hk1 hs1
     obtain rfl := ho1.len
     have hgb := hk1 gq hgl (by simp [Value.ownBlock])
     have c0 := (World.cell?_of_block (w := wr) (a := ⟨gq, fq + k * 2, none⟩) hgb).trans q0
     have c1 := (World.cell?_of_block (w := wr) (a := ⟨gq, fq + k * 2 + 1, none⟩) hgb).trans q1
     have HB1 := hid hb1
     have HO1 := hid ho1
     clear hb1 ho1 hk1 hgb
     go_wp2_with (with_reducible refine wpList_pushAt rfl (.tmp 37) (.tmp 42) rfl a.1 a.2 HO1.out rfl rfl hs1 (Below.refl _ _) ?_ ?_)
     ·simp
     intro v4 w2 ho2 hb2 hk2 hs2
     obtain ⟨o4, i4, j4, rfl⟩ := ho2.form
     obtain rfl := ho2.len
     have HB2 := hid hb2
     have HO2 := hid ho2
     clear hb2 hk2 ho2
     go_wp2_with (with_reducible refine wpList_appAts (ps := []) rfl (.tmp 44) (.tmp 47) rfl HO2.out (SrcAt.nils _) rfl rfl ?_ ?_ ?_)
     ·exact Nat.le_trans hs1 hs2
     ·simp
     intro o5 i5 j5 w3 ho3 hb3 hk3 hs3
     have HE := hid (show OwnsAt w.heap.size w3 (.slice o5 i5 j5) (sortA (qs.take (k + 1))) by rw [HNX.out, HI.out]; simpa using ho3.low hsz)
     have HBE := hid (show Below w.heap.size w w3 from HBW.out.trans ((below_drS _ _ _).trans (((HB1.out.trans HB2.out).trans hb3).mono hsz)))
     clear ho3 hb3 hk3
     go_wp2_with fail
     go_roundw
     case rel => exact ⟨k + 1, _, _, _, rfl, by go_num, by omega, HE.out, HBE.out⟩
     case measure => simp [RowKit.intOf]; omega
    have hgd : ∀ h : p < m.length, m.getD p ([], []) = m[p] := fun h => by simp [List.getD, h]
    have HRD := hid (fun h : p < m.length => HOWN.out.reads p h)
    by_cases hjk : jm = p
    case' pos =>
     have hpl : ¬ p < m.length := by omega
     have hd : decide (p < m.length) = false := by simpa using hpl
     have HI := hid (insA_at a m p hp HLESS.out (fun h => absurd h hpl))
     have hml2 : m.length ≤ p := by omega
     subst hjk
     have HS2 := hid (fun c => ats_end (W := wr) (g := gm) (m := m) jm hml2 c)
     clear hgd
     go_wp2_with fail
     go_quiet (fail)
     clear hd
    case' neg =>
     have HS2 := hid (fun c => ats_from HOWN.out p hp c)
     by_cases hpl : p < m.length
     case' pos =>
      obtain ⟨_, e0, _, _, m0, m1⟩ := HRD.out hpl
      cases e0
      rw [hgd hpl] at m0 m1
      clear hgd
      have hpb : Op.bytesLess m[p].1 a.1 = true → ∀ i (h : i < m.length), i < p + 1 → Op.bytesLess m[i].1 a.1 = true := fun hb i hi hip => by
       by_cases e : i = p
       ·subst e; exact hb
       ·exact HLESS.out i hi (by omega)
      have hins : Op.bytesLess m[p].1 a.1 = false → insA a m = m.take p ++ a :: m.drop p := fun hb => insA_at a m p hp HLESS.out (fun _ => hb)
      generalize m[p] = x at *
      cases hb : Op.bytesLess x.1 a.1
      case' true =>
       have hbl : Op.bytesLess (bs x.1).toList (bs a.1).toList = true := by rw [bs_tl, bs_tl]; exact hb
       have HT := hid (hpb hb)
       clear hpb hins hb
       go_wp2_with fail
       go_quiet (fail)
       go_wp2_with fail
       go_roundw
       case rel => exact ⟨p + 1, _, by go_num, rfl, by omega, HT.out⟩
       case measure => simp [RowKit.intOf]; omega
      case' false =>
       have hbl : Op.bytesLess (bs x.1).toList (bs a.1).toList = false := by rw [bs_tl, bs_tl]; exact hb
       have HI := hid (hins hb)
       clear hpb hins hb
       go_wp2_with fail
       go_quiet (fail)
       clear hbl m0 m1
     case' neg =>
      have hd : decide (p < m.length) = false := by simpa using hpl
      have HI := hid (insA_at a m p hp HLESS.out (fun h => absurd h hpl))
      clear hgd
      go_wp2_with fail
      go_quiet (fail)
      clear hd
    all_goals
     have HT := hid (fun z : Nat => (show (m.take z).length ≤ 100 by rw [List.length_take]; omega))
     have HD := hid (fun z : Nat => (show (m.drop z).length ≤ 100 by rw [List.length_drop]; omega))
     go_wp2_with (with_reducible refine wpList_appAts (B := wr.heap.size) rfl (.tmp 32) (.tmp 35) rfl (OwnsAt.nil _ _) ((ats_to HOWN.out _ hp).keep (fun _ _ => rfl)) rfl rfl ?_ ?_ ?_)
     ·exact Nat.le_refl _
     ·simp only [List.length_nil, Nat.zero_add]; exact Nat.le_trans (HT.out _) (by omega)
     intro o3 i3 j3 w1 ho1 hb1 hk1 hs1
     try rw [List.nil_append] at ho1
     have hgb := hk1 gq hgl (by simp [Value.ownBlock])
     have c0 := (World.cell?_of_block (w := wr) (a := ⟨gq, fq + k * 2, none⟩) hgb).trans q0
     have c1 := (World.cell?_of_block (w := wr) (a := ⟨gq, fq + k * 2 + 1, none⟩) hgb).trans q1
     have HB1 := hid hb1
     have HO1 := hid ho1
     have HK1 := hid (hk1 gm hgm (by simp [Value.ownBlock]))
     clear hb1 ho1 hk1 hgb
     go_wp2_with (with_reducible refine wpList_pushAt rfl (.tmp 37) (.tmp 42) rfl a.1 a.2 HO1.out rfl rfl hs1 (Below.refl _ _) ?_ ?_)
     ·exact Nat.le_trans (HT.out _) (by omega)
     intro v4 w2 ho2 hb2 hk2 hs2
     obtain ⟨o4, i4, j4, rfl⟩ := ho2.form
     have HB2 := hid hb2
     have HO2 := hid ho2
     have HK2 := hid ((hk2 gm (Nat.lt_of_lt_of_le hgm hs1) (fun e => by have := (HO1.out.blkS e.symm).1; omega)).trans HK1.out)
     have HSK := fun c => hid ((HS2.out c).keep (w' := w2) (fun g hg => by cases hg; exact HK2.out))
     clear hb2 hk2 ho2
     go_wp2_with (with_reducible refine wpList_appAts rfl (.tmp 44) (.tmp 47) rfl HO2.out (HSK _).out rfl rfl ?_ ?_ ?_)
     ·exact Nat.le_trans hs1 hs2
     ·simp only [List.length_append, List.length_cons, List.length_nil]; exact Nat.le_trans (Nat.add_le_add (Nat.add_le_add (HT.out _) (Nat.le_refl _)) (HD.out _)) (by omega)
     intro o5 i5 j5 w3 ho3 hb3 hk3 hs3
     have HE := hid (show OwnsAt w.heap.size w3 (.slice o5 i5 j5) (sortA (qs.take (k + 1))) by rw [HNX.out, HI.out]; simpa using ho3.low hsz)
     have HBE := hid (show Below w.heap.size w w3 from HBW.out.trans ((below_drS _ _ _).trans (((HB1.out.trans HB2.out).trans hb3).mono hsz)))
     clear ho3 hb3 hk3
     go_wp2_with fail
     go_roundw
     case rel => exact ⟨k + 1, _, _, _, rfl, by go_num, by omega, HE.out, HBE.out⟩
     case measure => simp [RowKit.intOf]; omega
  ·have e : k = qs.length := by omega
   subst e
   rw [List.take_length] at hown ⊢
   have HOWN := hid hown
   have HBW := hid hbw
   clear hown hbw hml
   go_wp2_with fail
   exact HP.out _ _ _ _ HOWN.out HBW.out
end Char
namespace Char
open Go.RowKit Go.Lib
def OkE (B N : Nat) (vk : Value) (b : Nat) : Prop := B ≤ b ∧ b ≠ N ∧ vk.ownBlock ≠ some b
structure El (B : Nat) (w : World) (N : Nat) (va vk : Value) (n : Tr) : Prop where
 bx : w.heap[N]? = some (.cells #[.int .i64 n.kd, .string (bs n.nm), .string (bs n.tx), va, vk] 25 (0, 0))
 lo : B ≤ N
 ne : vk.ownBlock ≠ some N
 ats : AtsOn w (OkE B N vk) va n.ats
 ks : OwnsNd B w (OkE B N vk) vk n.ks
theorem OwnsNd.blk {B : Nat} {w : World} {F : Nat → Prop} {v : Value} {ks : List Tr} (h : OwnsNd B w F v ks) {g : Nat} (hg : v.ownBlock = some g) : B ≤ g ∧ g < w.heap.size := by
 obtain ⟨xs, _, h2, _⟩ := h
 obtain ⟨h3, cur, h4⟩ := ownsRow_block h2 hg
 exact ⟨h3, block_of_heap h4⟩
theorem El.keep {B : Nat} {w w' : World} {N : Nat} {va vk : Value} {n : Tr} (h : El B w N va vk n) (hk : ∀ b, B ≤ b → b < w.heap.size → w'.heap[b]? = w.heap[b]?) : El B w' N va vk n :=
 ⟨(hk N h.lo (block_of_heap h.bx)).trans h.bx, h.lo, h.ne, h.ats.move (fun b hb hF => ⟨hF, hk b hF.1 hb⟩), h.ks.move (fun b hb hF => ⟨hF, hk b hF.1 hb⟩) (fun g hg => hk g (h.ks.blk hg).1 (h.ks.blk hg).2)⟩
theorem El.but {B S : Nat} {w w' : World} {N : Nat} {va vk : Value} {n : Tr} (h : El B w N va vk n) (hb : But S w w') (hS : S < B) : El B w' N va vk n :=
 h.keep (fun b h1 h2 => hb.2 b h2 (by omega))
theorem El.below {B : Nat} {w w' : World} {N : Nat} {va vk : Value} {n : Tr} (h : El B w N va vk n) (hb : Below w.heap.size w w') : El B w' N va vk n :=
 h.keep (fun b _ h2 => hb.block b h2)
theorem El.cells {B : Nat} {w : World} {N : Nat} {va vk : Value} {n : Tr} (h : El B w N va vk n) : NdAt w N 0 n va vk := by
 have := h.bx
 refine ⟨?_, ?_, ?_, ?_, ?_⟩ <;> simp [World.cell?, this]
theorem El.free {B : Nat} {w : World} {N : Nat} {va vk : Value} {n : Tr} (h : El B w N va vk n) (i : Nat) : w.frozen? ⟨N, i, none⟩ = false := by
 simp [World.frozen?, h.bx]
theorem El.on {B : Nat} {w : World} {N : Nat} {va vk : Value} {n : Tr} (h : El B w N va vk n) : NdOn w (fun b => B ≤ b) n va vk :=
 NdOn.of (h.ats.move (fun _ _ hF => ⟨hF.1, rfl⟩)) (h.ks.on (fun _ _ hF => hF.1) (fun _ hg => (h.ks.blk hg).1))
theorem El.form {B : Nat} {w : World} {N : Nat} {va vk : Value} {n : Tr} (h : El B w N va vk n) : ∃ oa ja ok jk, va = .slice oa n.ats.length ja ∧ vk = .slice ok n.ks.length jk := by
 obtain ⟨oa, ja, h1⟩ := h.ats.form
 obtain ⟨ok, jk, h2⟩ := h.ks.form
 exact ⟨oa, ja, ok, jk, h1, h2⟩
theorem El.new {B : Nat} {w : World} {n : Tr} {va : Value} (hB : B ≤ w.heap.size) (ha : AtsOn w (fun b => B ≤ b) va n.ats) (hk : n.ks = []) :
  El B (w.alloc (.cells #[.int .i64 n.kd, .string (bs n.nm), .string (bs n.tx), va, .slice none 0 0] 25)) w.heap.size va (.slice none 0 0) n := by
 refine ⟨World.alloc_heap_new w _, hB, by simp [Value.ownBlock], ha.move (fun b hb hF => ⟨⟨hF, by omega, by simp [Value.ownBlock]⟩, Below.heap_alloc w _ b hb⟩), ?_⟩
 rw [hk]
 exact OwnsNd.nil _ _ _
theorem El.fill {B N : Nat} {w3 : World} {n : Tr} {va : Value} (hN : w3.heap[N]? = some (.cells #[.int .i64 0, .string ⟨#[]⟩, .string ⟨#[]⟩, .slice none 0 0, .slice none 0 0] 25 (0, 0))) (hB : B ≤ N) (ha : AtsOn w3 (fun b => B ≤ b ∧ b ≠ N) va n.ats) (hk : n.ks = []) :
  El B (((((w3.setCell ⟨N, 0, none⟩ (.int .i64 n.kd)).setCell ⟨N, 1, none⟩ (.string (bs n.nm))).setCell ⟨N, 2, none⟩ (.string (bs n.tx))).setCell ⟨N, 3, none⟩ va).setCell ⟨N, 4, none⟩ (.slice none 0 0)) N va (.slice none 0 0) n := by
 refine ⟨(heap_set (heap_set (heap_set (heap_set (heap_set hN))))).trans rfl, hB, by simp [Value.ownBlock], ha.move (fun b _ hF => ⟨⟨hF.1, hF.2, by simp [Value.ownBlock]⟩, ?_⟩), ?_⟩
 ·rw [heap_set_ne hF.2, heap_set_ne hF.2, heap_set_ne hF.2, heap_set_ne hF.2, heap_set_ne hF.2]
 ·rw [hk]
  exact OwnsNd.nil _ _ _
theorem El.push {B : Nat} {w w1 : World} {N : Nat} {va vk : Value} {n : Tr} (h : El B w N va vk n) {k : Tr} {ka kk : Value} (hn : NdOn w (OkE B N vk) k ka kk) {g cap : Nat} {xs : List NdV}
  (hx : xs.map (·.1) = n.ks) (hnd : ∀ x, x ∈ xs → NdOn w (OkE B N vk) x.1 x.2.1 x.2.2) (ho : w1.ownsRow B 25 5 (.slice (some ⟨g, 0, none⟩) (n.ks.length + 1) cap) (n.ks.length + 1) (ndsC xs ++ ndC (k, ka, kk)))
  (hbl : ∀ b, b < w.heap.size → some b ≠ vk.ownBlock → w1.heap[b]? = w.heap[b]?) (hg : vk.ownBlock = some g ∨ w.heap.size ≤ g) :
  El B (w1.setCell ⟨N, 4, none⟩ (.slice (some ⟨g, 0, none⟩) (n.ks.length + 1) cap)) N va (.slice (some ⟨g, 0, none⟩) (n.ks.length + 1) cap) (.mk n.kd n.nm n.tx n.ats (n.ks ++ [k])) := by
 have hNl := block_of_heap h.bx
 have hgN : g ≠ N := by
  rcases hg with hg | hg
  ·intro e; exact h.ne (by rw [hg, e])
  ·omega
 have hb1 : w1.heap[N]? = _ := (hbl N hNl (fun e => h.ne e.symm)).trans h.bx
 have hmv : ∀ b, b < w.heap.size → OkE B N vk b → OkE B N (.slice (some ⟨g, 0, none⟩) (n.ks.length + 1) cap) b ∧ (w1.setCell ⟨N, 4, none⟩ (.slice (some ⟨g, 0, none⟩) (n.ks.length + 1) cap)).heap[b]? = w.heap[b]? := fun b hb hF => by
  refine ⟨⟨hF.1, hF.2.1, ?_⟩, (heap_set_ne hF.2.1).trans (hbl b hb (fun e => hF.2.2 e.symm))⟩
  simp only [Value.ownBlock, ne_eq, Option.some.injEq]
  rintro rfl
  rcases hg with hg | hg
  ·exact hF.2.2 hg
  ·omega
 refine ⟨(heap_set hb1).trans rfl, h.lo, by simp [Value.ownBlock, hgN], h.ats.move hmv, ?_⟩
 have hxl : xs.length = n.ks.length := by rw [← hx, List.length_map]
 refine ⟨xs ++ [(k, ka, kk)], by rw [List.map_append, hx]; rfl, ?_, fun x hx2 => ?_⟩
 ·rw [List.length_append, ndsC_snoc, hxl]
  exact ownsRow_keep ho (fun g' hg' => by
   simp [Value.ownBlock] at hg'
   subst hg'
   exact heap_set_ne hgN)
 ·rw [List.mem_append, List.mem_singleton] at hx2
  rcases hx2 with hx2 | rfl
  ·exact NdOn.move hmv _ _ _ (hnd x hx2)
  ·exact NdOn.move hmv _ _ _ hn
theorem El.merge {B : Nat} {w : World} {N : Nat} {va vk : Value} {n : Tr} (h : El B w N va vk n) {k : Tr} (hl : n.ks.getLast? = some k) (hk : k.kd = 4) (m : Tr) (hm : m.kd = 4) :
  ∃ g cap, vk = .slice (some ⟨g, 0, none⟩) n.ks.length cap ∧ B ≤ g ∧ g < w.heap.size ∧ w.cell? ⟨g, (n.ks.length - 1) * 5, none⟩ = some (.int .i64 4) ∧ w.cell? ⟨g, (n.ks.length - 1) * 5 + 2, none⟩ = some (.string (bs k.tx)) ∧ (∀ i, w.frozen? ⟨g, i, none⟩ = false) ∧
   (∀ w', w' = w.setCell ⟨g, (n.ks.length - 1) * 5 + 2, none⟩ (.string (bs (k.tx ++ m.tx))) → El B w' N va vk (n.put m)) := by
 obtain ⟨xs, hx, hown, hnd⟩ := h.ks
 have hne : n.ks ≠ [] := by intro e; rw [e] at hl; cases hl
 have hxl : xs.length = n.ks.length := by rw [← hx, List.length_map]
 have hpos : 0 < n.ks.length := List.length_pos_iff.2 hne
 rcases hown.2 with ⟨_, h1⟩ | ⟨g, cap, cur, e1, e2, hg, e3, e4, e5, e6⟩
 ·omega
 rw [e1] at hown
 obtain ⟨g', hg', hc⟩ := ownsNd_cells hown (xs.length - 1) (by omega)
 simp only [Option.some.injEq, Addr.mk.injEq, and_true] at hg'
 subst hg'
 have hlast : xs[xs.length - 1].1 = k := by
  have : n.ks.getLast? = some xs[xs.length - 1].1 := by
   rw [← hx, List.getLast?_map, List.getLast?_eq_getElem?, List.getElem?_eq_getElem (by omega)]
   rfl
  rw [this] at hl
  exact Option.some.inj hl
 rw [hlast] at hc
 obtain ⟨c0, c1, c2, c3, c4⟩ := hc
 rw [hk, hxl] at c0
 rw [hxl] at c2
 refine ⟨g, cap, by rw [e1, hxl], e2, block_of_heap hg, c0, c2, fun i => by simp [World.frozen?, hg], fun w' hw => ?_⟩
 have hbl : ∀ b, b ≠ g → w'.heap[b]? = w.heap[b]? := fun b hb => by rw [hw]; exact heap_set_ne hb
 have hgN : N ≠ g := fun e => h.ne (by rw [e1, e]; rfl)
 have hmv : ∀ b, b < w.heap.size → OkE B N vk b → OkE B N vk b ∧ w'.heap[b]? = w.heap[b]? := fun b _ hF => ⟨hF, hbl b (fun e => hF.2.2 (by rw [e1, e]; rfl))⟩
 have hpk : putK n.ks m = n.ks.dropLast ++ [.mk k.kd k.nm (k.tx ++ m.tx) k.ats k.ks] := by
  unfold putK
  rw [hl]
  simp [hk, hm]
 let y : NdV := (.mk k.kd k.nm (k.tx ++ m.tx) k.ats k.ks, xs[xs.length - 1].2.1, xs[xs.length - 1].2.2)
 refine ⟨(hbl N hgN).trans h.bx, h.lo, h.ne, h.ats.move hmv, xs.dropLast ++ [y], ?_, ?_, ?_⟩
 ·show _ = putK n.ks m
  rw [hpk, List.map_append, List.map_dropLast, hx]
  rfl
 ·have hlen : (xs.dropLast ++ [y]).length = xs.length := by simp; omega
  rw [hlen]
  refine ⟨by rw [ndsC_len, hlen], .inr ⟨g, cap, cur.setIfInBounds ((n.ks.length - 1) * 5 + 2) (.string (bs (k.tx ++ m.tx))), by rw [e1], e2, ?_, e3, e4, by simpa using e5, ?_⟩⟩
  ·rw [hw]; exact heap_set hg
  ·rw [Array.toList_setIfInBounds, List.take_set, e6]
   have hsp : xs = xs.dropLast ++ [xs[xs.length - 1]] := by
    have := (List.dropLast_concat_getLast (l := xs) (by intro e; rw [e] at hxl; simp at hxl; omega)).symm
    rwa [List.getLast_eq_getElem] at this
   generalize hz : xs[xs.length - 1] = z at *
   rw [show ndsC xs = ndsC xs.dropLast ++ ndC z by rw [← ndsC_snoc, ← hsp], ndsC_snoc]
   have hdl : (ndsC xs.dropLast).length = (n.ks.length - 1) * 5 := by rw [ndsC_len, List.length_dropLast, hxl]
   rw [List.set_append_right _ _ (by omega), show (n.ks.length - 1) * 5 + 2 - (ndsC xs.dropLast).length = 2 by omega]
   simp only [ndC, y, hlast, List.set_cons_succ, List.set_cons_zero, Tr.kd, Tr.nm, Tr.tx, hz]
 ·intro x hx2
  rw [List.mem_append, List.mem_singleton] at hx2
  rcases hx2 with hx2 | rfl
  ·exact NdOn.move hmv _ _ _ (hnd x (List.dropLast_subset _ hx2))
  ·have h0 := hnd _ (List.getElem_mem (show xs.length - 1 < xs.length by omega))
   have h2 := NdOn.move hmv _ _ _ h0
   rw [hlast] at h2
   exact NdOn.of h2.ats h2.kids
theorem El.last {B : Nat} {w : World} {N : Nat} {va vk : Value} {n : Tr} (h : El B w N va vk n) {m : Nat} (hm : n.ks.length = m + 1) :
  ∃ g cap k, vk = .slice (some ⟨g, 0, none⟩) (m + 1) cap ∧ n.ks.getLast? = some k ∧ w.cell? ⟨g, m * 5, none⟩ = some (.int .i64 k.kd) ∧ B ≤ g ∧ g < w.heap.size ∧ m + 1 ≤ cap := by
 obtain ⟨xs, hx, hown, hnd⟩ := h.ks
 have hxl : xs.length = m + 1 := by rw [← hm, ← hx, List.length_map]
 rcases hown.2 with ⟨_, h1⟩ | ⟨g, cap, cur, e1, e2, hg, e3, _⟩
 ·omega
 have hown2 := hown
 rw [e1] at hown2
 obtain ⟨g', hg', hc⟩ := ownsNd_cells hown2 m (by omega)
 simp only [Option.some.injEq, Addr.mk.injEq, and_true] at hg'
 subst hg'
 refine ⟨g, cap, xs[m].1, by rw [e1, hxl], ?_, hc.1, e2, block_of_heap hg, by omega⟩
 have e9 : xs.length - 1 = m := by omega
 rw [← hx, List.getLast?_map, List.getLast?_eq_getElem?, e9, List.getElem?_eq_getElem (by omega)]
 rfl
theorem wpList_pushNd {ops : Array Oper} {rest : List Oper} {o : Oper} {a : Act} {Q : Exit → Act → World → Prop} {B N : Nat} {W : World} {va vk : Value} {n : Tr}
  (hgd : o.guard = none) (s x : Operand) (ho : o.op = .call { callee := .builtin .append, args := #[s, x], argTypes := #[23, 23] })
  (k : Tr) (oa : Option Addr) (ia ja : Nat) (ok : Option Addr) (ik jk : Nat) (hE : El B W N va vk n) (hn : NdOn W (OkE B N vk) k (.slice oa ia ja) (.slice ok ik jk)) (hs : a.eval s = vk) (hx : a.eval x = .slice (some ⟨W.heap.size, 0, none⟩) 1 1) (hB : B ≤ W.heap.size) (hlen : n.ks.length ≤ 100000)
  (h : ∀ g cap w1, w1.heap[N]? = W.heap[N]? → El B (w1.setCell ⟨N, 4, none⟩ (.slice (some ⟨g, 0, none⟩) (n.ks.length + 1) cap)) N va (.slice (some ⟨g, 0, none⟩) (n.ks.length + 1) cap) (.mk n.kd n.nm n.tx n.ats (n.ks ++ [k])) → Below B W w1 → wpList Tryz.prog ops Q rest (a.put o.dst (.slice (some ⟨g, 0, none⟩) (n.ks.length + 1) cap)) w1) :
  wpList Tryz.prog ops Q (o :: rest) a (W.alloc (.cells #[.int .i64 k.kd, .string (bs k.nm), .string (bs k.tx), .slice oa ia ja, .slice ok ik jk] 25)) := by
 obtain ⟨i0, hi, hz0, hz1, hz2⟩ := info_parts info_nd
 obtain ⟨xs, hxm, hown, hnd⟩ := hE.ks
 have hxl : xs.length = n.ks.length := by rw [← hxm, List.length_map]
 refine wpList_append_lies _ hgd s x 23 ho B 25 i0 (.agg #[.int .i64 0, .string ⟨#[]⟩, .string ⟨#[]⟩, .slice none 0 0, .slice none 0 0]) 5 88 Tryz.underlying23 hi hz0 hz1 hz2 rfl (by decide) vk xs.length (ndsC xs) hs (World.ownsRow.alloc hown _) ⟨W.heap.size, 0, none⟩ 1 1 (ndC (k, .slice oa ia ja, .slice ok ik jk)) hx rfl ?_ ?_ (by decide) ?_ ?_ ?_ (W.heap.size + 1) (by simp) ?_
 ·intro j u hj
  rw [Addr.add_lit, Nat.zero_add]
  exact nd_cells W k _ _ j u hj
 ·intro u hu
  simp [ndC] at hu
  rcases hu with rfl | rfl | rfl | rfl | rfl <;> rfl
 ·unfold maxLen; omega
 ·omega
 ·simp; omega
 ·intro g cap w1 ho1 hg1 hgg _
  rw [hxl] at ho1 ⊢
  have hbl : ∀ b, b < W.heap.size → some b ≠ vk.ownBlock → w1.heap[b]? = W.heap[b]? := fun b hb hne => (hg1.block b (by simp; omega) hne).trans (Below.heap_alloc W _ b hb)
  exact h g cap w1 (hbl N (block_of_heap hE.bx) (fun e => hE.ne e.symm)) (hE.push hn hxm hnd ho1 hbl (hgg.imp id (fun e => by omega))) (((Below.refl B W).alloc hB _).grown hg1 (by simp; omega) (fun k hk => (hE.ks.blk hk).1))
theorem wpList_pushLf {ops : Array Oper} {rest : List Oper} {o : Oper} {a : Act} {Q : Exit → Act → World → Prop} {B N : Nat} {W : World} {va vk : Value} {n : Tr}
  (hgd : o.guard = none) (s x : Operand) (ho : o.op = .call { callee := .builtin .append, args := #[s, x], argTypes := #[23, 23] })
  (c : Int) (cn ct : List UInt8) (hE : El B W N va vk n) (hs : a.eval s = vk) (hx : a.eval x = .slice (some ⟨W.heap.size, 0, none⟩) 1 1) (hB : B ≤ W.heap.size) (hlen : n.ks.length ≤ 100000)
  (h : ∀ g cap w1, w1.heap[N]? = W.heap[N]? → El B (w1.setCell ⟨N, 4, none⟩ (.slice (some ⟨g, 0, none⟩) (n.ks.length + 1) cap)) N va (.slice (some ⟨g, 0, none⟩) (n.ks.length + 1) cap) (.mk n.kd n.nm n.tx n.ats (n.ks ++ [.mk c cn ct [] []])) → Below B W w1 → wpList Tryz.prog ops Q rest (a.put o.dst (.slice (some ⟨g, 0, none⟩) (n.ks.length + 1) cap)) w1) :
  wpList Tryz.prog ops Q (o :: rest) a (W.alloc (.cells #[.int .i64 c, .string (bs cn), .string (bs ct), .slice none 0 0, .slice none 0 0] 25)) :=
 wpList_pushNd hgd s x ho (.mk c cn ct [] []) none 0 0 none 0 0 hE (NdOn.of ⟨none, 0, 0, rfl, rfl, .inl rfl⟩ ⟨none, 0, 0, rfl, rfl, .inl rfl⟩) hs hx hB hlen h
def TkOn (w : World) (S : Nat) (v : Value) (xs : List TkV) : Prop := ∃ o j, v = .slice o xs.length j ∧ ∀ k (h : k < xs.length), ∃ g, o = some ⟨g, 0, none⟩ ∧ g ≠ S ∧
 (w.cell? ⟨g, k * 5, none⟩ = some (.int .i64 xs[k].1.kd) ∧ w.cell? ⟨g, k * 5 + 1, none⟩ = some (.string (bs xs[k].1.nm)) ∧ w.cell? ⟨g, k * 5 + 2, none⟩ = some (.string (bs xs[k].1.tx)) ∧ w.cell? ⟨g, k * 5 + 3, none⟩ = some xs[k].2 ∧ w.cell? ⟨g, k * 5 + 4, none⟩ = some (.bool xs[k].1.em)) ∧
 AtsOn w (fun b => b ≠ S) xs[k].2 xs[k].1.ats
theorem TkOn.but {S : Nat} {w w' : World} {v : Value} {xs : List TkV} (h : TkOn w S v xs) (hb : But S w w') : TkOn w' S v xs := by
 obtain ⟨o, j, e, h⟩ := h
 refine ⟨o, j, e, fun k hk => ?_⟩
 obtain ⟨g, e1, e2, ⟨c0, c1, c2, c3, c4⟩, ha⟩ := h k hk
 have hg := hb.2 g (cell_lt c0) e2
 exact ⟨g, e1, e2, ⟨(cell_of_block hg _).trans c0, (cell_of_block hg _).trans c1, (cell_of_block hg _).trans c2, (cell_of_block hg _).trans c3, (cell_of_block hg _).trans c4⟩, ha.move (fun b hb0 hF => ⟨hF, hb.2 b hb0 hF⟩)⟩
theorem TkOn.of {B S : Nat} {w w' : World} {o : Option Addr} {i j : Nat} {xs : List TkV} (h : OwnsTk B w (.slice o i j) xs) (hb : Below w.heap.size w w') (hS : w.heap.size ≤ S) : TkOn w' S (.slice o i j) xs := by
 obtain rfl := h.len
 refine ⟨o, j, rfl, fun k hk => ?_⟩
 obtain ⟨g, e1, _, e3, c0, c1, c2, c3, c4⟩ := h.reads k hk
 have hg := hb.block g e3
 refine ⟨g, e1, by omega, ⟨(cell_of_block hg _).trans c0, (cell_of_block hg _).trans c1, (cell_of_block hg _).trans c2, (cell_of_block hg _).trans c3, (cell_of_block hg _).trans c4⟩, ?_⟩
 have ha := h.2 _ (List.getElem_mem hk)
 have := OwnsAt.on ha (F := fun b => b < w.heap.size) (fun g hg => (ha.block hg).2)
 exact this.move (fun b hb0 _ => ⟨by omega, hb.block b hb0⟩)
theorem But.drew {S : Nat} {w W : World} (h : But S w W) : But S w W.drew := ⟨h.1.drew, h.2⟩
theorem But.low {S B : Nat} {w W w1 : World} (h : But S w W) (hB : B = w.heap.size) (hS : S < B) (hb : Below B W w1) : But S w w1 :=
 ⟨h.1.trans (hb.mono (by omega)), fun k hk hr => (hb.block k (by omega)).trans (h.2 k hk hr)⟩
end Char
namespace Char
open Go.RowKit Go.Lib
def StAt (w : World) (S : Nat) (tv : Value) (p sz : Nat) : Prop := w.heap[S]? = some (.cells #[tv, .int .i64 (p : Int), .int .i64 (sz : Int)] 70 (0, 0))
theorem StAt.cells {w : World} {S : Nat} {tv : Value} {p sz : Nat} (h : StAt w S tv p sz) : w.cell? ⟨S, 0, none⟩ = some tv ∧ w.cell? ⟨S, 1, none⟩ = some (.int .i64 (p : Int)) ∧ w.cell? ⟨S, 2, none⟩ = some (.int .i64 (sz : Int)) ∧ (∀ i, w.frozen? ⟨S, i, none⟩ = false) := by
 unfold StAt at h
 exact ⟨by simp [World.cell?, h], by simp [World.cell?, h], by simp [World.cell?, h], fun i => by simp [World.frozen?, h]⟩
theorem StAt.block {w w' : World} {S : Nat} {tv : Value} {p sz : Nat} (h : StAt w S tv p sz) (hb : w'.heap[S]? = w.heap[S]?) : StAt w' S tv p sz := hb.trans h
theorem StAt.below {w w' : World} {S : Nat} {tv : Value} {p sz : Nat} (h : StAt w S tv p sz) (hb : Below w.heap.size w w') : StAt w' S tv p sz := h.block (hb.block S (block_of_heap h))
theorem StAt.at {w : World} {S : Nat} {tv : Value} {p sz : Nat} (h : StAt w S tv p sz) (p' : Nat) : StAt (w.setCell ⟨S, 1, none⟩ (.int .i64 (p' : Int))) S tv p' sz := heap_set h
theorem StAt.many {w : World} {S : Nat} {tv : Value} {p sz : Nat} (h : StAt w S tv p sz) (sz' : Nat) : StAt (w.setCell ⟨S, 2, none⟩ (.int .i64 (sz' : Int))) S tv p sz' := heap_set h
def InsPost (xs : List TkV) (S : Nat) (tv : Value) (p deep sz : Nat) (w : World) (e : Ending) (w' : World) : Prop :=
 (∃ err : Nat, err ≠ 0 ∧ e = .returned (.tuple #[zeroNd, .int .i64 (err : Int)]) ∧ But S w w' ∧ InsNo (xs.map (·.1)) p deep sz err) ∨
 (∃ (n : Tr) (va vk : Value) (p' sz' : Nat), e = .returned (.tuple #[ndV n va vk, .int .i64 0]) ∧ NdOn w' (fun b => w.heap.size ≤ b) n va vk ∧ n.kd = 2 ∧ n.tx = [] ∧ StAt w' S tv p' sz' ∧ But S w w' ∧ InsOk (xs.map (·.1)) p deep sz n p' sz' ∧ sz' ≤ 120 ∧ p < p' ∧ p' ≤ xs.length)
theorem InsPost.no {xs : List TkV} {S : Nat} {tv : Value} {p deep sz : Nat} {w w' : World} (err : Nat) (h0 : err ≠ 0) (hb : But S w w') (h : InsNo (xs.map (·.1)) p deep sz err) : InsPost xs S tv p deep sz w (.returned (.tuple #[zeroNd, .int .i64 (err : Int)])) w' := .inl ⟨err, h0, rfl, hb, h⟩
def leftS (S L : Nat) (w : World) : Nat := match w.cell? ⟨S, 1, none⟩ with
 | some (.int _ v) => L - v.toNat
 | _ => 0
theorem leftS_of {S L : Nat} {w : World} {tv : Value} {p sz : Nat} (h : StAt w S tv p sz) : leftS S L w = L - p := by
 unfold leftS
 rw [h.cells.2.1]
 simp
structure InsK (w : World) (xs : List TkV) (S : Nat) (tv : Value) (p deep sz N p' sz' : Nat) (va vk : Value) (n : Tr) (wr : World) : Prop where
 st : StAt wr S tv p' sz'
 el : El (w.heap.size + 2) wr N va vk n
 ia : InsAt (xs.map (·.1)) p deep sz n p' sz'
 sl : sz' ≤ 120
 lt : p < p'
 le : p' ≤ xs.length
 bt : But S w wr
 rs : wr.heap[w.heap.size]? = some (.cells #[.int .i64 0, .string ⟨#[]⟩, .string ⟨#[]⟩, .slice none 0 0, .slice none 0 0] 25 (0, 0))
 hs : w.heap.size + 2 ≤ wr.heap.size
 kd : n.kd = 2
 tx : n.tx = []
 kl : n.ks.length ≤ p'
 kt : ∀ kid, kid ∈ n.ks → kid.tx.length ≤ 16000 * p'
theorem InsK.below {w : World} {xs : List TkV} {S : Nat} {tv : Value} {p deep sz N p' sz' : Nat} {va vk : Value} {n : Tr} {wr w' : World} (h : InsK w xs S tv p deep sz N p' sz' va vk n wr) (hS : S < w.heap.size) (hb : Below wr.heap.size wr w') : InsK w xs S tv p deep sz N p' sz' va vk n w' :=
 ⟨h.st.below hb, h.el.below hb, h.ia, h.sl, h.lt, h.le, h.bt.trans (But.of hb (by have := h.hs; omega)), (hb.block _ (by have := h.hs; omega)).trans h.rs, Nat.le_trans h.hs hb.size, h.kd, h.tx, h.kl, h.kt⟩
def firstLoop : Code → Option Code
 | .loop c => some c
 | .seq a b => match firstLoop a with
  | some c => some c
  | none => firstLoop b
 | .block _ c => firstLoop c
 | .scope c => firstLoop c
 | .cond _ a b => match firstLoop a with
  | some c => some c
  | none => firstLoop b
 | _ => none
noncomputable def insBody : Code := ((Tryz.f33.body.bind firstLoop).getD .skip)
def InsWI (w : World) (xs : List TkV) (S : Nat) (tv : Value) (p deep sz N : Nat) (c2 c3 c6 Aa Ab Ac Ad Ae Af Ag Ah Ai Aj Ak Al Am Ao Ap Aq Ar As Au Av Aw Ax Ay Az Ba Bb Bc Bd Be Bf Bg Bh Bi Bj Bk Bl Bm Bn Bo Bp Bq Br Bs Bt Bu Bv Bw Bx : Value) (a : Act) (wr : World) : Prop :=
 ∃ u5 u8 u9 By Bz Ca Cb Cc Cd Ce Cf Cg Ch Ci Cj Ck Cl Cm Cn Co Cp Cq Cr Cs Ct Cu Cv Cw Cx Cy Cz Da Db Dc Dd De Df Dg Dh Di Dj Dk Dl Dm Dn Dp Dq Dr Ds Dt Du Dv Dw Dx Dy Dz Ea Eb Ec Ed Ee Ef Eg Eh Ei Ej Ek Em En Eo Ep Er Es Et Eu Ev Ew Ex Ey Ez Fa Fb Fc Fd Fe Ff Fg Fh Fi Fj Fk Fl Fm Fn Fo Fp Fq Fr Fs Ft Fu Fv Fw Fx Fy Fz Ga Gb Gc Gd Ge Gf Gg Gh Gi Gj Gk Gl Gm Gn Gp Gq Gr Gs Gt Gu Gv Gw Gx Gy Gz Ha Hb Hc Hd He Hf Hg : Value, (∃ (p' sz' : Nat) (va vk : Value) (n : Tr), InsK w xs S tv p deep sz N p' sz' va vk n wr) ∧ a = ⟨#[.pointer (some ⟨S, 0, none⟩), .int .i64 (deep : Int), c2, c3, .pointer (some ⟨w.heap.size, 0, none⟩), u5, c6, .pointer (some ⟨N, 0, none⟩), u8, u9, By, Bz, Aa, Ab, Ac, Ad, Ae, Af, Ag, Ah, Ai, Aj, Ak, Al, Am, Ao, Ap, Aq, Ar, As, Au, Av, Aw, Ax, Ay, Az, Ba, Bb, Bc, Bd, Be, Bf, Bg, Bh, Bi, Bj, Bk, Bl, Bm, Bn, Bo, Bp, Bq, Br, Bs, Bt, Bu, Bv, Bw, Ca, Cb, Cc, Cd, Ce, Cf, Cg, Ch, Ci, Cj, Ck, Cl, Cm, Cn, Co, Cp, Cq, Cr, Cs, Ct, Cu, Cv, Cw, Cx, Cy, Cz, Da, Db, Dc, Dd, De, Df, Dg, Dh, Di, Dj, Dk, Dl, Dm, Dn, Dp, Dq, Dr, Ds, Dt, Du, Dv, Dw, Dx, Dy, Dz, Ea, Eb, Ec, Ed, Ee, Ef, Eg, Eh, Ei, Ej, Ek, Em, En, Eo, Ep, Er, Es, Et, Eu, Ev, Ew, Ex, Ey, Ez, Fa, Fb, Fc, Fd, Fe, Ff, Fg, Fh, Fi, Fj, Fk, Fl, Fm, Fn, Fo, Fp, Fq, Fr, Fs, Ft, Fu, Fv, Fw, Fx, Fy, Fz, Ga, Gb, Gc, Gd, Ge, Gf, Gg, Gh, Gi, Gj, Gk, Gl, Gm, Gn, Gp, Gq, Gr, Gs, Gt, Gu, Gv, Gw, Gx, Gy, Gz, Ha, Hb, Hc, Hd, He, Hf, Hg, Bx], []⟩
def InsWX (w : World) (xs : List TkV) (S : Nat) (tv : Value) (p deep sz N : Nat) (c2 c3 c6 Aa Ab Ac Ad Ae Af Ag Ah Ai Aj Ak Al Am Ao Ap Aq Ar As Au Av Aw Ax Ay Az Ba Bb Bc Bd Be Bf Bg Bh Bi Bj Bk Bl Bm Bn Bo Bp Bq Br Bs Bt Bu Bv Bw Bx : Value) (a : Act) (wr : World) : Prop :=
 ∃ u5 u8 u9 By Bz Ca Cb Cc Cd Ce Cf Cg Ch Ci Cj Ck Cl Cm Cn Co Cp Cq Cr Cs Ct Cu Cv Cw Cx Cy Cz Da Db Dc Dd De Df Dg Dh Di Dj Dk Dl Dm Dn Dp Dq Dr Ds Dt Du Dv Dw Dx Dy Dz Ea Eb Ec Ed Ee Ef Eg Eh Ei Ej Ek Em En Eo Ep Er Es Et Eu Ev Ew Ex Ey Ez Fa Fb Fc Fd Fe Ff Fg Fh Fi Fj Fk Fl Fm Fn Fo Fp Fq Fr Fs Ft Fu Fv Fw Fx Fy Fz Ga Gb Gc Gd Ge Gf Gg Gh Gi Gj Gk Gl Gm Gn Gp Gq Gr Gs Gt Gu Gv Gw Gx Gy Gz Ha Hb Hc Hd He Hf Hg : Value, (∃ (p' sz' : Nat) (va vk : Value) (n : Tr), InsK w xs S tv p deep sz N p' sz' va vk n wr ∧ xs.length ≤ p') ∧ a = ⟨#[.pointer (some ⟨S, 0, none⟩), .int .i64 (deep : Int), c2, c3, .pointer (some ⟨w.heap.size, 0, none⟩), u5, c6, .pointer (some ⟨N, 0, none⟩), u8, u9, By, Bz, Aa, Ab, Ac, Ad, Ae, Af, Ag, Ah, Ai, Aj, Ak, Al, Am, Ao, Ap, Aq, Ar, As, Au, Av, Aw, Ax, Ay, Az, Ba, Bb, Bc, Bd, Be, Bf, Bg, Bh, Bi, Bj, Bk, Bl, Bm, Bn, Bo, Bp, Bq, Br, Bs, Bt, Bu, Bv, Bw, Ca, Cb, Cc, Cd, Ce, Cf, Cg, Ch, Ci, Cj, Ck, Cl, Cm, Cn, Co, Cp, Cq, Cr, Cs, Ct, Cu, Cv, Cw, Cx, Cy, Cz, Da, Db, Dc, Dd, De, Df, Dg, Dh, Di, Dj, Dk, Dl, Dm, Dn, Dp, Dq, Dr, Ds, Dt, Du, Dv, Dw, Dx, Dy, Dz, Ea, Eb, Ec, Ed, Ee, Ef, Eg, Eh, Ei, Ej, Ek, Em, En, Eo, Ep, Er, Es, Et, Eu, Ev, Ew, Ex, Ey, Ez, Fa, Fb, Fc, Fd, Fe, Ff, Fg, Fh, Fi, Fj, Fk, Fl, Fm, Fn, Fo, Fp, Fq, Fr, Fs, Ft, Fu, Fv, Fw, Fx, Fy, Fz, Ga, Gb, Gc, Gd, Ge, Gf, Gg, Gh, Gi, Gj, Gk, Gl, Gm, Gn, Gp, Gq, Gr, Gs, Gt, Gu, Gv, Gw, Gx, Gy, Gz, Ha, Hb, Hc, Hd, He, Hf, Hg, Bx], []⟩
theorem InsWI.mk {w : World} {xs : List TkV} {S : Nat} {tv : Value} {p deep sz N : Nat} {c2 c3 c6 Aa Ab Ac Ad Ae Af Ag Ah Ai Aj Ak Al Am Ao Ap Aq Ar As Au Av Aw Ax Ay Az Ba Bb Bc Bd Be Bf Bg Bh Bi Bj Bk Bl Bm Bn Bo Bp Bq Br Bs Bt Bu Bv Bw Bx u5 u8 u9 By Bz Ca Cb Cc Cd Ce Cf Cg Ch Ci Cj Ck Cl Cm Cn Co Cp Cq Cr Cs Ct Cu Cv Cw Cx Cy Cz Da Db Dc Dd De Df Dg Dh Di Dj Dk Dl Dm Dn Dp Dq Dr Ds Dt Du Dv Dw Dx Dy Dz Ea Eb Ec Ed Ee Ef Eg Eh Ei Ej Ek Em En Eo Ep Er Es Et Eu Ev Ew Ex Ey Ez Fa Fb Fc Fd Fe Ff Fg Fh Fi Fj Fk Fl Fm Fn Fo Fp Fq Fr Fs Ft Fu Fv Fw Fx Fy Fz Ga Gb Gc Gd Ge Gf Gg Gh Gi Gj Gk Gl Gm Gn Gp Gq Gr Gs Gt Gu Gv Gw Gx Gy Gz Ha Hb Hc Hd He Hf Hg : Value} {wr : World} {p' sz' : Nat} {va vk : Value} {n : Tr} (h : InsK w xs S tv p deep sz N p' sz' va vk n wr) : InsWI w xs S tv p deep sz N c2 c3 c6 Aa Ab Ac Ad Ae Af Ag Ah Ai Aj Ak Al Am Ao Ap Aq Ar As Au Av Aw Ax Ay Az Ba Bb Bc Bd Be Bf Bg Bh Bi Bj Bk Bl Bm Bn Bo Bp Bq Br Bs Bt Bu Bv Bw Bx ⟨#[.pointer (some ⟨S, 0, none⟩), .int .i64 (deep : Int), c2, c3, .pointer (some ⟨w.heap.size, 0, none⟩), u5, c6, .pointer (some ⟨N, 0, none⟩), u8, u9, By, Bz, Aa, Ab, Ac, Ad, Ae, Af, Ag, Ah, Ai, Aj, Ak, Al, Am, Ao, Ap, Aq, Ar, As, Au, Av, Aw, Ax, Ay, Az, Ba, Bb, Bc, Bd, Be, Bf, Bg, Bh, Bi, Bj, Bk, Bl, Bm, Bn, Bo, Bp, Bq, Br, Bs, Bt, Bu, Bv, Bw, Ca, Cb, Cc, Cd, Ce, Cf, Cg, Ch, Ci, Cj, Ck, Cl, Cm, Cn, Co, Cp, Cq, Cr, Cs, Ct, Cu, Cv, Cw, Cx, Cy, Cz, Da, Db, Dc, Dd, De, Df, Dg, Dh, Di, Dj, Dk, Dl, Dm, Dn, Dp, Dq, Dr, Ds, Dt, Du, Dv, Dw, Dx, Dy, Dz, Ea, Eb, Ec, Ed, Ee, Ef, Eg, Eh, Ei, Ej, Ek, Em, En, Eo, Ep, Er, Es, Et, Eu, Ev, Ew, Ex, Ey, Ez, Fa, Fb, Fc, Fd, Fe, Ff, Fg, Fh, Fi, Fj, Fk, Fl, Fm, Fn, Fo, Fp, Fq, Fr, Fs, Ft, Fu, Fv, Fw, Fx, Fy, Fz, Ga, Gb, Gc, Gd, Ge, Gf, Gg, Gh, Gi, Gj, Gk, Gl, Gm, Gn, Gp, Gq, Gr, Gs, Gt, Gu, Gv, Gw, Gx, Gy, Gz, Ha, Hb, Hc, Hd, He, Hf, Hg, Bx], []⟩ wr :=
 ⟨u5, u8, u9, By, Bz, Ca, Cb, Cc, Cd, Ce, Cf, Cg, Ch, Ci, Cj, Ck, Cl, Cm, Cn, Co, Cp, Cq, Cr, Cs, Ct, Cu, Cv, Cw, Cx, Cy, Cz, Da, Db, Dc, Dd, De, Df, Dg, Dh, Di, Dj, Dk, Dl, Dm, Dn, Dp, Dq, Dr, Ds, Dt, Du, Dv, Dw, Dx, Dy, Dz, Ea, Eb, Ec, Ed, Ee, Ef, Eg, Eh, Ei, Ej, Ek, Em, En, Eo, Ep, Er, Es, Et, Eu, Ev, Ew, Ex, Ey, Ez, Fa, Fb, Fc, Fd, Fe, Ff, Fg, Fh, Fi, Fj, Fk, Fl, Fm, Fn, Fo, Fp, Fq, Fr, Fs, Ft, Fu, Fv, Fw, Fx, Fy, Fz, Ga, Gb, Gc, Gd, Ge, Gf, Gg, Gh, Gi, Gj, Gk, Gl, Gm, Gn, Gp, Gq, Gr, Gs, Gt, Gu, Gv, Gw, Gx, Gy, Gz, Ha, Hb, Hc, Hd, He, Hf, Hg, ⟨_, _, _, _, _, h⟩, rfl⟩
end Char
namespace Char
open Go.RowKit Go.Lib
def regionOf (k : Nat) : Code → Option Code
 | .region i ops d => if i = k then some (.region i ops d) else none
 | .loop c => regionOf k c
 | .seq a b => match regionOf k a with
  | some c => some c
  | none => regionOf k b
 | .block _ c => regionOf k c
 | .scope c => regionOf k c
 | .cond _ a b => match regionOf k a with
  | some c => some c
  | none => regionOf k b
 | _ => none
noncomputable def insR : Code := ((Tryz.f33.body.bind (regionOf 27)).getD .skip)
theorem merge_region {W : World} {N X gk mm jk : Nat} {a b c : ByteArray} (n4 : W.cell? ⟨N, 4, none⟩ = some (.slice (some ⟨gk, 0, none⟩) (mm + 1) jk)) (x2 : W.cell? ⟨X, 2, none⟩ = some (.string b)) (c2 : W.cell? ⟨gk, mm * 5 + 2, none⟩ = some (.string a)) (hf : W.frozen? ⟨gk, mm * 5 + 2, none⟩ = false)
  (hm0 : (0 : Int) ≤ (mm : Int)) (hmi : (mm : Int) < (mm : Int) + 1) (hadd : ∀ wx, (Op.stringOp .add a b).run Tryz.prog wx = .ok (.string c) wx) (u0 u1 u2 u3 u4 u5 u6 By Bz Hh Hi Hj Hk Hl Hm Hn Ho Hp Hq Hr Hs Ht Hu Hv Hw Hx Hy Hz Ia Ib Ic Id Ie Ig Ih Ii Ij Ik Il Im In Io Ip Iq Ir It Iu Iv Iw Ix Iy Iz Ja Jb Jc Jd Ca Cb Cc Cd Ce Cf Cg Ch Ci Cj Ck Cl Cm Cn Co Cp Cq Cr Cs Ct Cu Cv Cw Cx Cy Cz Da Db Dc Dd De Df Dg Dh Di Dj Dk Dl Dm Dn Dp Dq Dr Ds Dt Du Dv Dw Dx Dy Dz Ea Eb Ec Ed Ee Ef Eg Eh Ei Ej Ek Em En Eo Ep Er Es Et Eu Ev Ew Ex Ey Ez Fa Fb Fc Fd Fe Ff Fg Fh Fi Fj Fk Fl Fm Fn Fo Fp Fq Fr Fs Ft Fu Fv Fw Fx Fy Fz Ga Gb Gc Gd Ge Gf Gg Gh Gi Gj Gk Gl Gm Gn Gp Gq Gr Gs Gt Gu Gv Gw Gx Gy Gz Ha Hb Hc Hd He Hf Hg Je : Value) (Q : Exit → Act → World → Prop)
  (h : ∀ v151 v152 v153 v154 v155 v156 v157 v158 v159 v160 v161 v162 v163 v164 : Value, Q .normal ⟨#[u0, u1, u2, u3, u4, u5, u6, .pointer (some ⟨N, 0, none⟩), .pointer (some ⟨X, 0, none⟩), .int .i64 (mm : Int), By, Bz, Hh, Hi, Hj, Hk, Hl, Hm, Hn, Ho, Hp, Hq, Hr, Hs, Ht, Hu, Hv, Hw, Hx, Hy, Hz, Ia, Ib, Ic, Id, Ie, Ig, Ih, Ii, Ij, Ik, Il, Im, In, Io, Ip, Iq, Ir, It, Iu, Iv, Iw, Ix, Iy, Iz, Ja, Jb, Jc, Jd, Ca, Cb, Cc, Cd, Ce, Cf, Cg, Ch, Ci, Cj, Ck, Cl, Cm, Cn, Co, Cp, Cq, Cr, Cs, Ct, Cu, Cv, Cw, Cx, Cy, Cz, Da, Db, Dc, Dd, De, Df, Dg, Dh, Di, Dj, Dk, Dl, Dm, Dn, Dp, Dq, Dr, Ds, Dt, Du, Dv, Dw, Dx, Dy, Dz, Ea, Eb, Ec, Ed, Ee, Ef, Eg, Eh, Ei, Ej, Ek, Em, En, Eo, Ep, Er, Es, Et, Eu, Ev, Ew, Ex, Ey, Ez, Fa, Fb, Fc, Fd, Fe, Ff, Fg, Fh, Fi, Fj, Fk, Fl, Fm, Fn, Fo, Fp, Fq, v151, v152, v153, v154, v155, v156, v157, v158, v159, v160, v161, v162, v163, v164, Gf, Gg, Gh, Gi, Gj, Gk, Gl, Gm, Gn, Gp, Gq, Gr, Gs, Gt, Gu, Gv, Gw, Gx, Gy, Gz, Ha, Hb, Hc, Hd, He, Hf, Hg, Je], []⟩ (W.setCell ⟨gk, mm * 5 + 2, none⟩ (.string c)).drew) :
  Code.wp Tryz.prog insR Q ⟨#[u0, u1, u2, u3, u4, u5, u6, .pointer (some ⟨N, 0, none⟩), .pointer (some ⟨X, 0, none⟩), .int .i64 (mm : Int), By, Bz, Hh, Hi, Hj, Hk, Hl, Hm, Hn, Ho, Hp, Hq, Hr, Hs, Ht, Hu, Hv, Hw, Hx, Hy, Hz, Ia, Ib, Ic, Id, Ie, Ig, Ih, Ii, Ij, Ik, Il, Im, In, Io, Ip, Iq, Ir, It, Iu, Iv, Iw, Ix, Iy, Iz, Ja, Jb, Jc, Jd, Ca, Cb, Cc, Cd, Ce, Cf, Cg, Ch, Ci, Cj, Ck, Cl, Cm, Cn, Co, Cp, Cq, Cr, Cs, Ct, Cu, Cv, Cw, Cx, Cy, Cz, Da, Db, Dc, Dd, De, Df, Dg, Dh, Di, Dj, Dk, Dl, Dm, Dn, Dp, Dq, Dr, Ds, Dt, Du, Dv, Dw, Dx, Dy, Dz, Ea, Eb, Ec, Ed, Ee, Ef, Eg, Eh, Ei, Ej, Ek, Em, En, Eo, Ep, Er, Es, Et, Eu, Ev, Ew, Ex, Ey, Ez, Fa, Fb, Fc, Fd, Fe, Ff, Fg, Fh, Fi, Fj, Fk, Fl, Fm, Fn, Fo, Fp, Fq, Fr, Fs, Ft, Fu, Fv, Fw, Fx, Fy, Fz, Ga, Gb, Gc, Gd, Ge, Gf, Gg, Gh, Gi, Gj, Gk, Gl, Gm, Gn, Gp, Gq, Gr, Gs, Gt, Gu, Gv, Gw, Gx, Gy, Gz, Ha, Hb, Hc, Hd, He, Hf, Hg, Je], []⟩ W := by
 conv => arg 2; whnf
 dsimp only at h ⊢
 go_still_tail 14, (by kernel_rfl)
 change wpList _ _ _ _ _ W.drew
 go_wp2_with fail
 exact h _ _ _ _ _ _ _ _ _ _ _ _ _ _
end Char
namespace Char
open Go.RowKit Go.Lib
theorem set5 {B g : Nat} {w w' : World} {v0 v1 v2 v3 v4 : Value} (h : Below B w w') (hg : B ≤ g) : Below B w (((((w'.setCell ⟨g, 0, none⟩ v0).setCell ⟨g, 1, none⟩ v1).setCell ⟨g, 2, none⟩ v2).setCell ⟨g, 3, none⟩ v3).setCell ⟨g, 4, none⟩ v4) :=
 ((((h.setCell (p := ⟨g, 0, none⟩) hg _).setCell (p := ⟨g, 1, none⟩) hg _).setCell (p := ⟨g, 2, none⟩) hg _).setCell (p := ⟨g, 3, none⟩) hg _).setCell (p := ⟨g, 4, none⟩) hg _
end Char
end Go.Proofs.YtlmodgnkmlbjhaaGreatDoor
