import Derived.Test.YtlmodgnkmlbjhaaGreatDoorPkRtM
import Derived.Test.YtlmodgnkmlbjhaaGreatDoorPkInsM
import Derived.Test.YtlmodgnkmlbjhaaGreatDoorPkGrE
namespace Go.Proofs.YtlmodgnkmlbjhaaGreatDoor
namespace Char
open Go.Lib
theorem no_occ {l m : List UInt8} (h : contains l m = false) (j : Nat) (hj : j ≤ l.length) : occAt l m j = false := by
 unfold contains at h
 rcases index_spec l m with ⟨_, g2⟩ | ⟨i, g1, _⟩
 ·exact g2 j hj
 ·rw [g1] at h; simp at h
theorem spc_no {c : UInt8} (r : List UInt8) (h : spC (c.toNat : Int) = false) : spcL (c :: r) = 0 := by rw [spc_cons, h]; rfl
theorem ats_ok : ∀ (l : List At2) (p : Option (List UInt8)), atsK p l = true → (∀ a, a ∈ l → nmD (bs a.1) = true ∧ txD a.2 = true) ∧ upA l ∧ (∀ x, p = some x → ∀ a, a ∈ l → Op.bytesLess x a.1 = true)
 | [], _, _ => ⟨fun _ h => (by cases h), List.Pairwise.nil, fun _ _ _ h => (by cases h)⟩
 | a :: r, p, h => by
  unfold atsK at h
  rw [Bool.and_eq_true, Bool.and_eq_true, Bool.and_eq_true] at h
  obtain ⟨⟨⟨h1, h2⟩, h3⟩, h4⟩ := h
  obtain ⟨i1, i2, i3⟩ := ats_ok r (some a.1) h4
  refine ⟨fun x hx => ?_, List.pairwise_cons.2 ⟨fun x hx => i3 _ rfl x hx, i2⟩, fun x hx y hy => ?_⟩
  ·rcases List.mem_cons.1 hx with rfl | hx
   ·exact ⟨h1, h2⟩
   ·exact i1 x hx
  ·subst hx
   rcases List.mem_cons.1 hy with rfl | hy
   ·exact h3
   ·exact less_trans _ _ _ h3 (i3 _ rfl y hy)
theorem up_nodup {l : List At2} (h : upA l) : (l.map (·.1)).Nodup := by
 rw [List.nodup_iff_pairwise_ne, List.pairwise_map]
 exact List.Pairwise.imp (fun {x y} hxy e => by rw [e, less_irr] at hxy; cases hxy) h
theorem up_sort {l : List At2} (h : upA l) : sortA l = l := (up_unique l (sortA l) (perm_sortA l).symm h (up_sortA l (up_nodup h))).symm
inductive Fit : Tr → Prop
 | el {nm : List UInt8} {ats : List At2} {ks : List Tr} (hn : nmD (bs nm) = true) (hl : ats.length ≤ 8) (ha : ∀ a, a ∈ ats → nmD (bs a.1) = true ∧ txD a.2 = true) (hu : upA ats) : Fit (.mk 2 nm [] ats ks)
 | tx {tx : List UInt8} (ht : txD tx = true) (hne : tx ≠ []) : Fit (.mk 4 [] tx [] [])
 | co {tx : List UInt8} (ht : txD tx = true) (hr : ∀ b, b ∈ tx → b ≠ 13) (hc : contains tx [45, 45] = false) (hl : tx.getLast? ≠ some 45) : Fit (.mk 5 [] tx [] [])
 | ins {nm tx : List UInt8} (ht : txD tx = true) (hr : ∀ b, b ∈ tx → b ≠ 13) (hn : nmD (bs nm) = true) (hc : contains tx [63, 62] = false) (hs : spcL tx = 0) (hx : smallL nm ≠ [120, 109, 108]) : Fit (.mk 6 nm tx [] [])
theorem noCr_mem {l : List UInt8} (h : noCr l = true) : ∀ b, b ∈ l → b ≠ 13 := by
 intro b hb e
 subst e
 obtain ⟨a, r, rfl⟩ := List.append_of_mem hb
 unfold noCr at h
 rw [Bool.not_eq_true'] at h
 have := no_occ h a.length (by simp)
 simp [occAt, List.isPrefixOf] at this
theorem fit_of {t : Tr} (h : oneT t = true) : Fit t := by
 obtain ⟨kd, nm, tx, ats, ks⟩ := t
 unfold oneT chlT at h
 by_cases k2 : (Tr.mk kd nm tx ats ks).kd = 2
 ·rw [if_pos k2] at h
  replace k2 : kd = 2 := k2
  subst k2
  simp only [Tr.nm, Tr.tx, Tr.ats, Bool.and_eq_true, List.isEmpty_iff] at h
  obtain ⟨⟨⟨h1, rfl⟩, h3⟩, h4⟩ := h
  obtain ⟨i1, i2, _⟩ := ats_ok _ _ h4
  exact .el h1 (of_decide_eq_true h3) i1 i2
 ·rw [if_neg k2] at h
  by_cases k4 : (Tr.mk kd nm tx ats ks).kd = 4
  ·rw [if_pos k4] at h
   replace k4 : kd = 4 := k4
   subst k4
   simp only [Tr.nm, Tr.tx, Tr.ats, Tr.ks, Bool.and_eq_true, List.isEmpty_iff, Bool.not_eq_true', List.isEmpty_eq_false_iff] at h
   obtain ⟨⟨⟨⟨rfl, rfl⟩, h2⟩, rfl⟩, h4⟩ := h
   exact .tx h2 h4
  ·rw [if_neg k4] at h
   by_cases k5 : (Tr.mk kd nm tx ats ks).kd = 5
   ·rw [if_pos k5] at h
    replace k5 : kd = 5 := k5
    subst k5
    simp only [Tr.nm, Tr.tx, Tr.ats, Tr.ks, Bool.and_eq_true, List.isEmpty_iff, Bool.not_eq_true', beq_eq_false_iff_ne] at h
    obtain ⟨⟨⟨⟨⟨⟨rfl, rfl⟩, h2⟩, h3⟩, rfl⟩, h5⟩, h6⟩ := h
    exact .co h2 (noCr_mem h3) h5 h6
   ·rw [if_neg k5] at h
    by_cases k6 : (Tr.mk kd nm tx ats ks).kd = 6
    ·rw [if_pos k6] at h
     replace k6 : kd = 6 := k6
     subst k6
     simp only [Tr.nm, Tr.tx, Tr.ats, Tr.ks, Bool.and_eq_true, List.isEmpty_iff, Bool.not_eq_true'] at h
     obtain ⟨⟨⟨⟨⟨⟨⟨rfl, rfl⟩, h2⟩, h3⟩, h4⟩, h5⟩, h6⟩, h7⟩ := h
     refine .ins h2 (noCr_mem h3) h4 h5 ?_ (of_decide_eq_false h7)
     cases tx with
     | nil => rfl
     | cons c r => exact spc_no r h6
    ·rw [if_neg k6] at h
     cases h
end Char
namespace Char
open Go.Lib
theorem atsK_up : ∀ (l : List At2) (p : Option (List UInt8)), upA l → (∀ a, a ∈ l → nmD (bs a.1) = true ∧ txD a.2 = true) → (∀ x, p = some x → ∀ a, a ∈ l → Op.bytesLess x a.1 = true) → atsK p l = true
 | [], p, _, _, _ => by cases p <;> rfl
 | a :: r, p, hu, hg, hp => by
  unfold upA at hu
  rw [List.pairwise_cons] at hu
  have ih := atsK_up r (some a.1) hu.2 (fun x hx => hg x (by simp [hx])) (fun x hx y hy => by cases hx; exact hu.1 y hy)
  obtain ⟨h1, h2⟩ := hg a (by simp)
  unfold atsK
  rw [ih, h1, h2]
  cases p with
  | none => rfl
  | some x => simp [hp x rfl a (by simp)]
theorem meetN_app (k n : Tr) : ∀ r : List Tr, meetN k (r ++ [n]) = if r = [] then decide (k.kd = 4) && decide (n.kd = 4) else meetN k r
 | [] => rfl
 | _ :: _ => rfl
theorem lastTx_snoc (r : List Tr) (t : Tr) : lastTx (r ++ [t]) = (t.kd == 4) := by unfold lastTx; simp
theorem rightK_snoc : ∀ (ks : List Tr) (n : Tr) (d : Nat), rightK (ks ++ [n]) d = (rightK ks d && rightT n d && !(lastTx ks && decide (n.kd = 4)))
 | [], n, d => by
  rw [List.nil_append, rightK, rightK, rightK]
  simp [meetN, lastTx]
 | k :: r, n, d => by
  rw [List.cons_append, rightK, rightK, rightK_snoc r n d, meetN_app]
  cases r with
  | nil =>
   rw [if_pos rfl]
   simp only [meetN, rightK, lastTx, List.getLast?_nil, List.getLast?_singleton, Bool.not_false, Bool.and_true, Bool.false_and, Bool.true_and]
   have e : decide (k.kd = 4) = (k.kd == 4) := rfl
   rw [e]
   cases rightT k d <;> cases rightT n d <;> cases (k.kd == 4) <;> cases decide (n.kd = 4) <;> rfl
  | cons b s =>
   rw [if_neg (by simp)]
   have e : lastTx (k :: b :: s) = lastTx (b :: s) := by unfold lastTx; rw [List.getLast?_cons_cons]
   rw [e]
   cases rightT k d <;> cases rightT n d <;> cases meetN k (b :: s) <;> cases rightK (b :: s) d <;> cases lastTx (b :: s) <;> cases decide (n.kd = 4) <;> rfl
theorem rightT_leaf {t : Tr} {d : Nat} (h : t.kd ≠ 2) (hk : t.ks = []) : rightT t d = oneT t := by
 rw [rightT_def, hk, rightK, decide_eq_false h]
 simp
theorem one_text {t : Tr} (h4 : t.kd = 4) : oneT t = (chlT t && txD t.tx && t.nm.isEmpty && !t.tx.isEmpty) := by
 unfold oneT
 rw [if_neg (by omega), if_pos h4]
theorem put_right {ks : List Tr} {n : Tr} {d : Nat} (h : rightK ks d = true) (hn : rightT n d = true) : rightK (putK ks n) d = true := by
 unfold putK
 cases hg : ks.getLast? with
 | none =>
  have : ks = [] := by simpa using hg
  subst this
  dsimp only
  rw [rightK_snoc, h, hn]
  rfl
 | some t =>
  have e := last_split hg
  have hl : lastTx ks = (t.kd == 4) := by unfold lastTx; rw [hg]
  dsimp only
  split
  ·rename_i hm
   rw [Bool.and_eq_true, beq_iff_eq, beq_iff_eq] at hm
   rw [e, rightK_snoc, Bool.and_eq_true, Bool.and_eq_true] at h
   obtain ⟨⟨h1, h2⟩, h3⟩ := h
   have hk1 : t.ks = [] := by
    rw [rightT_def, Bool.and_eq_true, Bool.and_eq_true] at h2
    exact (one_leaf (by omega) h2.1.2).2
   have hk2 : n.ks = [] := by
    rw [rightT_def, Bool.and_eq_true, Bool.and_eq_true] at hn
    exact (one_leaf (by omega) hn.1.2).2
   rw [rightT_leaf (by omega) hk1, one_text hm.1] at h2
   rw [rightT_leaf (by omega) hk2, one_text hm.2] at hn
   simp only [Bool.and_eq_true] at h2 hn
   rw [rightK_snoc, h1, Bool.true_and, Bool.and_eq_true]
   refine ⟨?_, ?_⟩
   ·rw [rightT_leaf (t := Tr.mk t.kd t.nm (t.tx ++ n.tx) t.ats t.ks) (show t.kd ≠ 2 by omega) hk1, one_text (show (Tr.mk t.kd t.nm (t.tx ++ n.tx) t.ats t.ks).kd = 4 from hm.1)]
    simp only [Bool.and_eq_true]
    refine ⟨⟨⟨?_, ?_⟩, h2.1.2⟩, ?_⟩
    ·exact h2.1.1.1
    ·show txD (t.tx ++ n.tx) = true
     rw [tx_more _ _ h2.1.1.2]
     exact hn.1.1.2
    ·show (!(t.tx ++ n.tx).isEmpty) = true
     have := h2.2
     cases hx : t.tx with
     | nil => rw [hx] at this; cases this
     | cons _ _ => rfl
   ·exact h3
  ·rename_i hm
   rw [rightK_snoc, h, hn, hl]
   have e4 : decide (n.kd = 4) = (n.kd == 4) := rfl
   have hm2 : (t.kd == 4 && n.kd == 4) = false := by simpa only [Bool.not_eq_true] using hm
   rw [e4, hm2]
   rfl
def okE (t : Tr) : Nat → Prop
 | 0 => t.kd = 1 ∧ t.nm = [] ∧ (∀ k, k ∈ t.ks → k.kd = 2) ∧ rightK t.ks 0 = true
 | d + 1 => t.kd = 2 ∧ oneT t = true ∧ d + 1 ≤ 12 ∧ rightK t.ks (d + 1) = true
def okS : List Tr → Prop
 | [] => True
 | t :: r => okE t r.length ∧ okS r
theorem one_elem {a b : Tr} (h2 : a.kd = 2) (e1 : b.kd = a.kd) (e2 : b.nm = a.nm) (e3 : b.tx = a.tx) (e4 : b.ats = a.ats) (h : oneT a = true) : oneT b = true := by
 unfold oneT at h ⊢
 rw [if_pos h2] at h
 rw [if_pos (e1.trans h2), e2, e3, e4]
 exact h
theorem putT_ok {n t : Tr} {r : List Tr} (h : okS (t :: r)) (hn : rightT n r.length = true) (h0 : r = [] → n.kd = 2) : okS (putT n (t :: r)) := by
 obtain ⟨h1, h2⟩ := h
 refine ⟨?_, h2⟩
 cases r with
 | nil =>
  obtain ⟨a1, a2, a3, a4⟩ := h1
  refine ⟨a1, a2, ?_, put_right a4 hn⟩
  have hk := h0 rfl
  have e : putK t.ks n = t.ks ++ [n] := by
   unfold putK
   cases t.ks.getLast? with
   | none => rfl
   | some u => dsimp only; rw [if_neg (by simp [hk])]
  intro k hkm
  have hkm2 : k ∈ putK t.ks n := hkm
  rw [e, List.mem_append, List.mem_singleton] at hkm2
  rcases hkm2 with hkm2 | rfl
  ·exact a3 k hkm2
  ·exact hk
 | cons u s =>
  obtain ⟨a1, a2, a3, a4⟩ := h1
  exact ⟨a1, one_elem (b := t.put n) a1 rfl rfl rfl rfl a2, a3, put_right a4 hn⟩
structure TkG (t : Tk) : Prop where
 kd : t.kd = 1 ∨ t.kd = 2 ∨ t.kd = 3 ∨ t.kd = 4 ∨ t.kd = 5
 al : t.ats.length ≤ 8
 gd : GdT t
 rt : TkR t
theorem begin_one {p : Tk} (h : TkG p) (h1 : p.kd = 1) : oneT (beginT p) = true := by
 have hk : (beginT p).kd = 2 := rfl
 unfold oneT
 rw [if_pos hk]
 have e1 : nmD (bs (beginT p).nm) = true := h.gd.nm (by omega) (by omega)
 have e2 : (beginT p).tx.isEmpty = true := rfl
 have e3 : (beginT p).ats.length ≤ 8 := by show (sortA p.ats).length ≤ 8; rw [sortA_len]; exact h.al
 have e4 : atsK none (beginT p).ats = true := by
  refine atsK_up _ _ (up_sortA _ h.gd.nd) (fun a ha => ?_) (fun x hx => by cases hx)
  have hm : a ∈ p.ats := (perm_sortA p.ats).mem_iff.1 ha
  exact ⟨h.gd.ats a hm, h.rt.an a hm⟩
 rw [e1, e2, e4, decide_eq_true e3]
 rfl
theorem leaf_one {p : Tk} (h : TkG p) (h1 : p.kd ≠ 1) (h2 : p.kd ≠ 2) (h3 : p.kd = 3 → p.tx ≠ []) : oneT (leafT p) = true := by
 have htx := h.gd.tx
 unfold oneT
 have hkd : (leafT p).kd = p.kd + 1 := rfl
 have hc : chlT (leafT p) = true := rfl
 have ht : (leafT p).tx = p.tx := rfl
 have hn : (leafT p).nm = p.nm := rfl
 rw [hkd, hc, ht, hn, htx]
 rcases h.kd with h0 | h0 | h0 | h0 | h0
 ·exact absurd h0 h1
 ·exact absurd h0 h2
 ·rw [h0, if_neg (by decide), if_pos (by decide), h.rt.n3 (.inl h0)]
  cases hx : p.tx with
  | nil => exact absurd hx (h3 h0)
  | cons _ _ => rfl
 ·obtain ⟨a1, a2, a3⟩ := h.rt.c4 h0
  rw [h0, if_neg (by decide), if_neg (by decide), if_pos (by decide), h.rt.n3 (.inr h0), cr_no a1, a2, a3]
  rfl
 ·obtain ⟨a1, a2, a3, a4⟩ := h.rt.c5 h0
  have e : nmD (bs p.nm) = true := h.gd.nm (by omega) (by omega)
  rw [h0, if_neg (by decide), if_neg (by decide), if_neg (by decide), if_pos (by decide), cr_no a1, a2, e, decide_eq_false a4]
  cases hx : p.tx with
  | nil => rfl
  | cons c r =>
   rw [hx] at a3
   have a5 : spC (c.toNat : Int) = false := a3
   dsimp only
   rw [a5]
   rfl
theorem okS_len : ∀ (os : List Tr), okS os → os.length ≤ 13
 | [], _ => by simp
 | [_], _ => by simp
 | t :: u :: s, h => by
  have := h.1.2.2.1
  simp at this ⊢
  omega
theorem begin_right {p : Tk} (h : TkG p) (h1 : p.kd = 1) {d : Nat} (hd : d < 12) : rightT (beginT p) d = true := by
 rw [rightT_def, begin_one h h1]
 have : rightK (beginT p).ks (d + 1) = true := by show rightK [] (d + 1) = true; rw [rightK]
 rw [this]
 have h12 : ¬ 12 ≤ d := by omega
 rw [decide_eq_false h12]
 simp
theorem end_ok {t : Tr} {r : List Tr} (h : okS (t :: r)) (hr : r ≠ []) : okS (endT (t :: r)) := by
 cases r with
 | nil => exact absurd rfl hr
 | cons u s =>
  obtain ⟨⟨a1, a2, a3, a4⟩, h2⟩ := h
  refine putT_ok h2 ?_ (fun _ => a1)
  rw [rightT_def, a2, a4, decide_eq_true a1, decide_eq_false (show ¬ 12 ≤ s.length by simp at a3; omega)]
  rfl
theorem next_ok {p : Tk} {os : List Tr} {sz : Nat} (hg : TkG p) (h : okS os) (hne : os ≠ []) (hl : leftT p os = false) (hf : faultT p os sz = 0) : okS (nextT p os) ∧ nextT p os ≠ [] := by
 have hlen := okS_len os h
 unfold nextT
 by_cases h1 : p.kd = 1
 ·rw [if_pos h1]
  have h13 := fault_len hf h1
  have hb : okS (beginT p :: os) := by
   refine ⟨?_, h⟩
   obtain ⟨t, r, rfl⟩ := List.exists_cons_of_ne_nil hne
   refine ⟨rfl, begin_one hg h1, by simp at hlen h13 ⊢; omega, ?_⟩
   show rightK [] _ = true
   rw [rightK]
  split
  ·refine ⟨end_ok hb hne, ?_⟩
   intro e
   have := congrArg List.length e
   rw [endT_len] at this
   simp at this
   exact hne this
  ·exact ⟨hb, by simp⟩
 ·rw [if_neg h1]
  obtain ⟨t, r, rfl⟩ := List.exists_cons_of_ne_nil hne
  by_cases h2 : p.kd = 2
  ·rw [if_pos h2]
   have hr : r ≠ [] := by
    rintro rfl
    have e1 := fault_end hf h2
    have e2 : t.nm = [] := h.1.2.1
    have e3 := hg.gd.nm (by omega) (by omega)
    rw [e1, topT_cons, e2] at e3
    exact absurd e3 (by decide)
   refine ⟨end_ok h hr, ?_⟩
   intro e
   have := congrArg List.length e
   rw [endT_len] at this
   simp at this
   exact hr this
  ·rw [if_neg h2]
   have hr : r ≠ [] := by
    rintro rfl
    unfold faultT at hf
    rw [if_neg (by rintro ⟨h, _⟩; exact h2 h), if_neg h2, if_pos ⟨rfl, .inl h1⟩] at hf
    cases hf
   refine ⟨putT_ok h ?_ (fun e => absurd e hr), by rw [putT]; simp⟩
   rw [rightT_leaf (by show p.kd + 1 ≠ 2; omega) rfl]
   refine leaf_one hg h1 h2 (fun h3 e => ?_)
   unfold leftT at hl
   rw [h3, e] at hl
   cases hl
def wE (t : Tr) : Nat := (if t.kd = 2 then 1 + t.ats.length else 0) + szK t.ks
def wS : List Tr → Nat
 | [] => 0
 | t :: r => wE t + wS r
theorem szK_app : ∀ a b : List Tr, szK (a ++ b) = szK a + szK b
 | [], b => by rw [List.nil_append, szK]; omega
 | x :: r, b => by rw [List.cons_append, szK, szK, szK_app r b]; omega
theorem szT_text {t : Tr} (h : t.kd = 4) : szT t = 1 := szT_leaf (by omega)
theorem put_sz (ks : List Tr) (n : Tr) : szK (putK ks n) + (if lastTx ks = true ∧ n.kd = 4 then szT n else 0) = szK ks + szT n := by
 unfold putK lastTx
 cases hg : ks.getLast? with
 | none => dsimp only; rw [szK_app, szK, szK]; simp
 | some t =>
  have e := last_split hg
  dsimp only
  by_cases hm : t.kd = 4 ∧ n.kd = 4
  ·rw [if_pos (by simp [hm.1, hm.2]), if_pos (by simp [hm.1, hm.2])]
   have h2 : szK ks = szK ks.dropLast + szT t := by
    have := congrArg szK e
    rw [szK_app, szK, szK] at this
    omega
   rw [szK_app, szK, szK, h2, szT_text hm.1, szT_text (show (Tr.mk t.kd t.nm (t.tx ++ n.tx) t.ats t.ks).kd = 4 from hm.1)]
  ·have e1 : ¬ ((t.kd == 4 && n.kd == 4) = true) := by simpa using hm
   have e2 : ¬ ((t.kd == 4) = true ∧ n.kd = 4) := by simpa using hm
   rw [if_neg e1, if_neg e2, szK_app, szK, szK]
   omega
theorem putT_sz (n t : Tr) (r : List Tr) : wS (putT n (t :: r)) + (if lastTx t.ks = true ∧ n.kd = 4 then szT n else 0) = wS (t :: r) + szT n := by
 have := put_sz t.ks n
 have e1 : wE (t.put n) = (if t.kd = 2 then 1 + t.ats.length else 0) + szK (putK t.ks n) := rfl
 have e2 : wE t = (if t.kd = 2 then 1 + t.ats.length else 0) + szK t.ks := rfl
 rw [putT, wS, wS, e1, e2]
 omega
theorem next_sz {p : Tk} {os : List Tr} {sz : Nat} (h : okS os) (hne : os ≠ []) (hf : faultT p os sz = 0) : wS (nextT p os) ≤ wS os + moreT p (topT os) := by
 obtain ⟨t, r, rfl⟩ := List.exists_cons_of_ne_nil hne
 unfold nextT moreT
 by_cases h1 : p.kd = 1
 ·rw [if_pos h1, if_pos h1]
  have hb : szT (beginT p) = 1 + p.ats.length := by
   rw [szT_elem (show (beginT p).kd = 2 from rfl)]
   show 1 + (sortA p.ats).length + szK [] = _
   rw [sortA_len, szK]; omega
  have hw : wE (beginT p) = 1 + p.ats.length := by
   unfold wE
   rw [if_pos (show (beginT p).kd = 2 from rfl)]
   show 1 + (sortA p.ats).length + szK [] = _
   rw [sortA_len, szK]; omega
  split
  ·rw [endT]
   have := putT_sz (beginT p) t r
   omega
  ·rw [wS, hw]; omega
 ·rw [if_neg h1, if_neg h1, topT_cons]
  by_cases h2 : p.kd = 2
  ·rw [if_pos h2, if_pos (.inl h2), endT]
   cases r with
   | nil => rw [putT, wS]; omega
   | cons u s =>
    have h3 := putT_sz t u s
    have hk : t.kd = 2 := h.1.1
    have hz : szT t = wE t := by rw [szT_elem hk]; unfold wE; rw [if_pos hk]
    rw [wS]
    omega
  ·rw [if_neg h2]
   have hz : szT (leafT p) = 1 := szT_leaf (by show p.kd + 1 ≠ 2; omega)
   have h3 := putT_sz (leafT p) t r
   rw [hz] at h3
   split
   ·rename_i hc
    rcases hc with hc | ⟨hc, hl⟩
    ·exact absurd hc h2
    ·rw [if_pos ⟨hl, by show p.kd + 1 = 4; omega⟩] at h3
     omega
   ·omega
theorem run_right : ∀ (ts : List Tk) (os : List Tr) (sz : Nat) (t : Tr), (∀ p, p ∈ ts → TkG p) → okS os → os ≠ [] → wS os ≤ sz → sz ≤ 120 → runT ts os sz = .inr t → t.kd = 2 ∧ rightT t 0 = true ∧ szT t ≤ 120
 | [], os, sz, t, _, ho, hne, hw, hs, h => by
  rw [runT] at h
  unfold finT at h
  split at h
  ·cases h
  ·rename_i h1
   obtain ⟨g, r, rfl⟩ := List.exists_cons_of_ne_nil hne
   have hr : r = [] := by
    cases r with
    | nil => rfl
    | cons _ _ => simp at h1
   subst hr
   rw [topT_cons] at h
   obtain ⟨⟨a1, a2, a3, a4⟩, _⟩ := ho
   cases hk : g.ks with
   | nil => rw [hk] at h; cases h
   | cons k l =>
    rw [hk] at h a3 a4
    cases h
    rw [rightK] at a4
    simp only [Bool.and_eq_true] at a4
    refine ⟨a3 _ (by simp), a4.1.1, ?_⟩
    rw [wS, wS] at hw
    unfold wE at hw
    rw [if_neg (by omega), hk, szK] at hw
    omega
 | p :: r, os, sz, t, hg, ho, hne, hw, hs, h => by
  have hp := hg p (by simp)
  cases hl : leftT p os with
  | true =>
   rw [run_left hl] at h
   exact run_right r os sz t (fun q hq => hg q (by simp [hq])) ho hne hw hs h
  | false =>
   by_cases hf : faultT p os (sz + moreT p (topT os)) = 0
   ·rw [run_next hl hf] at h
    obtain ⟨n1, n2⟩ := next_ok hp ho hne hl hf
    have n3 := next_sz ho hne hf
    exact run_right r _ _ t (fun q hq => hg q (by simp [hq])) n1 n2 (by omega) (fault_sz hf hs) h
   ·rw [run_fault hl hf] at h
    cases h
theorem parse_right {s : List UInt8} {t : Tr} (h : parseL s = .inr t) : rightD t = true := by
 unfold parseL at h
 cases hs : scanL s with
 | inl e => rw [hs] at h; cases h
 | inr ts =>
  rw [hs] at h
  have hgd := scanL_good hs
  have hrt := scanL_right hs
  have hkd := scanL_kind hs
  obtain ⟨h1, h2, h3⟩ := run_right ts [grd0] 0 t (fun p hp => ⟨(hkd p hp).1, (hkd p hp).2, hgd p hp, hrt p hp⟩) ⟨⟨rfl, rfl, (fun k hk => by cases hk), by show rightK [] 0 = true; rw [rightK]⟩, trivial⟩ (by simp) (by rw [wS, wS]; unfold wE; simp [grd0, Tr.kd, Tr.ks, szK]) (by omega) h
  unfold rightD
  rw [decide_eq_true h1, h2, decide_eq_true h3]
  rfl
end Char
end Go.Proofs.YtlmodgnkmlbjhaaGreatDoor
