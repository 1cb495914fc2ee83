/- EqAtW SlEqW EqTM -/
import Derived.Test.YtognlnjamlhmhaaGreatDoorPkTok
import Derived.Test.YtognlnjamlhmhaaGreatDoorPkFew
/- The walks that compare two lists of attributes: the document's own SameAttrs, and slices.Equal. -/
namespace Go.Proofs.YtognlnjamlhmhaaGreatDoor.Char
open Go.RowKit Go.Lib

theorem ne_attr2 (x y : At2) (w : World) : (binOp .neq 37 (.agg #[.string (bs x.1), .string (bs x.2)]) (.agg #[.string (bs y.1), .string (bs y.2)])).run Tryz.prog w = .ok (.bool (decide (x ≠ y))) w := by
  obtain ⟨a, b⟩ := x
  obtain ⟨c, d⟩ := y
  have u9 := Tryz.underlying9
  have a9 := Tryz.isAgg9
  have z9 := Tryz.sizeOf9
  have hS : Tryz.prog.underlying 37 = some (.struct (Tryz.prog.fieldsOf 37)) := by kernel_rfl
  have hp : Tryz.prog.stoodInHeld 37 = false := by kernel_rfl
  rw [run_neq_struct, show (10000 : Nat) = 9999 + 1 from rfl, run_equalIn_agg w 9999 37 _ _ hS hp]
  simp only [Program.fieldsOf, Tryz.underlying37]
  by_cases h1 : a = c
  · by_cases h2 : b = d
    · subst h1 h2; go_simp
    · subst h1; go_simp; simp [bs_tl, h2]
  · go_simp; simp [bs_tl, h1]
/-- the k-th attribute of a list in a slice -/
theorem AtsOn.reads {w : World} {F : Nat → Prop} {o : Option Addr} {i j : Nat} {qs : List At2} (h : AtsOn w F (.slice o i j) qs) (k : Nat) (hk : k < qs.length) :
    ∃ g off, o = some ⟨g, off, none⟩ ∧ F g ∧ w.cell? ⟨g, off + k * 2, none⟩ = some (.string (bs qs[k].1)) ∧ w.cell? ⟨g, off + k * 2 + 1, none⟩ = some (.string (bs qs[k].2)) := by
  obtain ⟨o', i', j', e1, e2, e3⟩ := h
  cases e1
  rcases e3 with e3 | ⟨g, off, e4, e5, e6⟩
  · rw [e3] at hk; cases hk
  · have := e6 k hk
    rw [List.getD_eq_getElem?_getD, List.getElem?_eq_getElem hk] at this
    exact ⟨g, off, e4, e5, this⟩
theorem take_eq_succ {α : Type} {a b : List α} {j : Nat} (ha : j < a.length) (hb : j < b.length) (h : a.take j = b.take j) (he : a[j] = b[j]) : a.take (j + 1) = b.take (j + 1) := by
  rw [List.take_succ_eq_append_getElem ha, List.take_succ_eq_append_getElem hb, h, he]

set_option maxRecDepth 100000 in
set_option maxHeartbeats 4000000 in
theorem sameAts_any (qs rs : List At2) (F1 F2 : Nat → Prop) (o1 : Option Addr) (j1 : Nat) (o2 : Option Addr) (j2 : Nat) (w : World) (hq : qs.length ≤ 2 ^ 62) (h1 : AtsOn w F1 (.slice o1 qs.length j1) qs) (h2 : AtsOn w F2 (.slice o2 rs.length j2) rs) :
    Calls Tryz.prog 24 #[.slice o1 qs.length j1, .slice o2 rs.length j2] w fun e w' => e = .returned (.bool (decide (qs = rs))) ∧ ∃ n, w' = w.drewN n := by
  have H1 := Lib.hid h1
  have H2 := Lib.hid h2
  clear h1 h2
  by_cases hlen : qs.length = rs.length
  · have k0 : ((qs.length : Int) != (rs.length : Int)) = false := by rw [hlen]; simp
    go_enter Tryz.func24, Tryz.ntmps24
    go_wp2_with fail
    go_loopw [5] (fun v wr => ∃ j : Nat, v = .int .i64 (j : Int) ∧ j ≤ qs.length ∧ qs.take j = rs.take j ∧ ∃ n, wr = w.drewN n) (fun v _ => qs.length - (RowKit.intOf v).toNat)
    case atStart => exact ⟨0, rfl, Nat.zero_le _, by simp, 0, rfl⟩
    case round =>
      obtain ⟨j, rfl, hj, htk, n, rfl⟩ := hrel
      by_cases hlt : j < qs.length
      · obtain ⟨g1, f1, rfl, hg1, r0, r1⟩ := H1.out.reads j hlt
        obtain ⟨g2, f2, rfl, hg2, s0, s1⟩ := H2.out.reads j (by omega)
        have hts := take_eq_succ hlt (by omega : j < rs.length) htk
        have hxy : qs[j] ≠ rs[j]'(by omega) → qs ≠ rs := fun h e => h (by subst e; rfl)
        generalize qs[j] = x at *
        generalize rs[j]'(by omega) = y at *
        have hne := fun wx => ne_attr2 x y wx
        have hgu := fun a b wx => guard_attr a b (bs x.1) (bs x.2) (bs y.1) (bs y.2) wx
        by_cases hx : x = y
        · have kx : decide (x ≠ y) = false := by simp [hx]
          rw [kx] at hne
          have HT := Lib.hid (hts hx)
          clear hts hxy htk hx kx
          go_wp2_with fail
          go_quiet (fail)
          go_wp2_with fail
          exact ⟨⟨j + 1, by go_num, by omega, HT.out, _, rfl⟩, by simp [RowKit.intOf]; omega⟩
        · have kx : decide (x ≠ y) = true := by simp [hx]
          rw [kx] at hne
          have HT := Lib.hid (hxy hx)
          clear hts hxy htk hx kx
          go_wp2_with fail
          go_quiet (fail)
          go_wp2_with fail
          go_ret
          exact ⟨by rw [decide_eq_false HT.out]; rfl, _, World.drewN_drewN _ _ _⟩
      · have e : j = qs.length := by omega
        subst e
        rw [List.take_length, hlen, List.take_length] at htk
        have HT := Lib.hid htk
        clear htk
        go_wp2_with fail
        go_ret
        exact ⟨by rw [decide_eq_true HT.out]; rfl, n, rfl⟩
  · have k0 : ((qs.length : Int) != (rs.length : Int)) = true := by simp; omega
    go_enter Tryz.func24, Tryz.ntmps24
    go_wp2_with fail
    go_ret
    exact ⟨by rw [decide_eq_false (fun e => hlen (by rw [e]))]; rfl, 0, rfl⟩
end Go.Proofs.YtognlnjamlhmhaaGreatDoor.Char

/- The walk of slices.Equal on attributes. -/
namespace Go.Proofs.YtognlnjamlhmhaaGreatDoor.Char
open Go.RowKit Go.Lib

set_option maxRecDepth 100000 in
set_option maxHeartbeats 4000000 in
theorem slicesEqual_any (qs rs : List At2) (F1 F2 : Nat → Prop) (o1 : Option Addr) (j1 : Nat) (o2 : Option Addr) (j2 : Nat) (w : World) (hq : qs.length ≤ 2 ^ 62) (h1 : AtsOn w F1 (.slice o1 qs.length j1) qs) (h2 : AtsOn w F2 (.slice o2 rs.length j2) rs) :
    Calls Tryz.prog 29 #[.slice o1 qs.length j1, .slice o2 rs.length j2] w fun e w' => e = .returned (.bool (decide (qs = rs))) ∧ ∃ n, w' = w.drewN n := by
  have H1 := Lib.hid h1
  have H2 := Lib.hid h2
  clear h1 h2
  by_cases hlen : qs.length = rs.length
  · have k0 : ((qs.length : Int) != (rs.length : Int)) = false := by rw [hlen]; simp
    go_enter Tryz.func29, Tryz.ntmps29
    go_wp2_with fail
    go_loopw [13] (fun v wr => ∃ j : Nat, v = .int .i64 (j : Int) ∧ j ≤ qs.length ∧ qs.take j = rs.take j ∧ ∃ n, wr = w.drewN n) (fun v _ => qs.length - (RowKit.intOf v).toNat)
    case atStart => exact ⟨0, rfl, Nat.zero_le _, by simp, 0, rfl⟩
    case round =>
      obtain ⟨j, rfl, hj, htk, n, rfl⟩ := hrel
      by_cases hlt : j < qs.length
      · obtain ⟨g1, f1, rfl, hg1, r0, r1⟩ := H1.out.reads j hlt
        obtain ⟨g2, f2, rfl, hg2, s0, s1⟩ := H2.out.reads j (by omega)
        have hts := take_eq_succ hlt (by omega : j < rs.length) htk
        have hxy : qs[j] ≠ rs[j]'(by omega) → qs ≠ rs := fun h e => h (by subst e; rfl)
        generalize qs[j] = x at *
        generalize rs[j]'(by omega) = y at *
        have hne := fun wx => ne_attr2 x y wx
        have hgu := fun a b wx => guard_attr a b (bs x.1) (bs x.2) (bs y.1) (bs y.2) wx
        by_cases hx : x = y
        · have kx : decide (x ≠ y) = false := by simp [hx]
          rw [kx] at hne
          have HT := Lib.hid (hts hx)
          clear hts hxy htk hx kx
          go_wp2_with fail
          go_quiet (fail)
          go_wp2_with fail
          exact ⟨⟨j + 1, by go_num, by omega, HT.out, _, rfl⟩, by simp [RowKit.intOf]; omega⟩
        · have kx : decide (x ≠ y) = true := by simp [hx]
          rw [kx] at hne
          have HT := Lib.hid (hxy hx)
          clear hts hxy htk hx kx
          go_wp2_with fail
          go_quiet (fail)
          go_wp2_with fail
          go_ret
          exact ⟨by rw [decide_eq_false HT.out]; rfl, _, World.drewN_drewN _ _ _⟩
      · have e : j = qs.length := by omega
        subst e
        rw [List.take_length, hlen, List.take_length] at htk
        have HT := Lib.hid htk
        clear htk
        go_wp2_with fail
        go_ret
        exact ⟨by rw [decide_eq_true HT.out]; rfl, n, rfl⟩
  · have k0 : ((qs.length : Int) != (rs.length : Int)) = true := by simp; omega
    go_enter Tryz.func29, Tryz.ntmps29
    go_wp2_with fail
    go_ret
    exact ⟨by rw [decide_eq_false (fun e => hlen (by rw [e]))]; rfl, 0, rfl⟩
end Go.Proofs.YtognlnjamlhmhaaGreatDoor.Char

/- When two trees are the same, node by node. -/
namespace Go.Proofs.YtognlnjamlhmhaaGreatDoor.Char
open Go.RowKit Go.Lib

mutual
def eqT : Tr → Tr → Bool
  | .mk kd nm tx ats ks, b => (decide (kd = b.kd) && decide (nm = b.nm) && decide (tx = b.tx) && decide (ats = b.ats)) && eqKs ks b.ks
def eqKs : List Tr → List Tr → Bool
  | [], [] => true
  | [], _ :: _ => false
  | _ :: _, [] => false
  | k :: r, l :: s => eqT k l && eqKs r s
end
theorem eqT_def (a b : Tr) : eqT a b = ((decide (a.kd = b.kd) && decide (a.nm = b.nm) && decide (a.tx = b.tx) && decide (a.ats = b.ats)) && eqKs a.ks b.ks) := by
  cases a
  rw [eqT]
  rfl
theorem eqKs_len : ∀ (k l : List Tr), k.length ≠ l.length → eqKs k l = false
  | [], [], h => absurd rfl h
  | [], _ :: _, _ => by rw [eqKs]
  | _ :: _, [], _ => by rw [eqKs]
  | k :: r, l :: s, h => by
    rw [eqKs, eqKs_len r s (by simpa using h), Bool.and_false]
theorem eqKs_drop : ∀ (k l : List Tr) (j : Nat) (h1 : j < k.length) (h2 : j < l.length), eqKs (k.drop j) (l.drop j) = (eqT k[j] l[j] && eqKs (k.drop (j + 1)) (l.drop (j + 1))) := by
  intro k l j h1 h2
  rw [List.drop_eq_getElem_cons h1, List.drop_eq_getElem_cons h2, eqKs]
theorem eqKs_end (k l : List Tr) (h : k.length = l.length) : eqKs (k.drop k.length) (l.drop k.length) = true := by
  rw [List.drop_length, h, List.drop_length, eqKs]
mutual
theorem eqT_self : ∀ a : Tr, eqT a a = true
  | .mk kd nm tx ats ks => by
    have := eqKs_self ks
    rw [eqT_def]
    simp [Tr.ks, this]
theorem eqKs_self : ∀ k : List Tr, eqKs k k = true
  | [] => by rw [eqKs]
  | k :: r => by rw [eqKs, eqT_self k, eqKs_self r]; rfl
end
mutual
/-- the longest list of attributes -/
def mxT : Tr → Nat
  | .mk _ _ _ ats ks => max ats.length (mxK ks)
def mxK : List Tr → Nat
  | [] => 0
  | k :: r => max (mxT k) (mxK r)
end
theorem mxT_def (t : Tr) : mxT t = max t.ats.length (mxK t.ks) := by cases t; rw [mxT]; rfl
theorem mxK_at : ∀ (ks : List Tr) (j : Nat) (h : j < ks.length), mxT ks[j] ≤ mxK ks
  | [], j, h => by cases h
  | x :: r, 0, _ => by rw [mxK]; simp only [List.getElem_cons_zero]; omega
  | x :: r, j + 1, h => by
    have := mxK_at r j (by simpa using h)
    rw [mxK]
    simp only [List.getElem_cons_succ]
    omega
end Go.Proofs.YtognlnjamlhmhaaGreatDoor.Char
