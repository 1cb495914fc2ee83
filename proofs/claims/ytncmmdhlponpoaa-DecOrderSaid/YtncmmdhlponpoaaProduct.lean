/- The walk of the document's own product. -/
import Derived.Test.YtncmmdhlponpoaaMinus
namespace Go.Proofs.Ytncmmdhlponpoaa.Char
open Go.RowKit

theorem prod_step (a b i j v v' c x s y z : Nat) (h : v + c * 10 ^ (i + j) = (a % 10 ^ i) * b + y * 10 ^ i * (b % 10 ^ j)) (hz : z = b / 10 ^ j % 10) (hs : s = x + y * z + c)
    (hv : v' + 10 ^ (i + j) * x = v + 10 ^ (i + j) * (s % 10)) : v' + s / 10 * 10 ^ (i + (j + 1)) = (a % 10 ^ i) * b + y * 10 ^ i * (b % 10 ^ (j + 1)) := by
  rw [mod_step b j, ← hz, ← Nat.add_assoc i j 1, Nat.pow_succ]
  have e1 : y * 10 ^ i * (b % 10 ^ j + 10 ^ j * z) = y * 10 ^ i * (b % 10 ^ j) + 10 ^ (i + j) * (y * z) := by
    rw [Nat.mul_add, Nat.pow_add]
    congr 1
    simp only [Nat.mul_assoc, Nat.mul_comm, Nat.mul_left_comm]
  rw [e1]
  generalize 10 ^ (i + j) = P at *
  generalize y * z = p at *
  have e2 : P * s = P * (s % 10) + s / 10 * (P * 10) := by
    have := Nat.mod_add_div s 10
    calc P * s = P * (s % 10 + 10 * (s / 10)) := by rw [this]
      _ = _ := by rw [Nat.mul_add]; congr 1; rw [← Nat.mul_assoc, Nat.mul_comm]
  have e3 : P * s = P * x + P * p + P * c := by rw [hs, Nat.mul_add, Nat.mul_add]
  rw [Nat.mul_comm c P] at h
  omega
theorem prod_row (a b i j v : Nat) (h : v + 0 * 10 ^ (i + j) = (a % 10 ^ i) * b + (a / 10 ^ i % 10) * 10 ^ i * (b % 10 ^ j)) (hb : b % 10 ^ j = b) : v = (a % 10 ^ (i + 1)) * b := by
  rw [mod_step a i, Nat.add_mul, Nat.mul_comm (10 ^ i) (a / 10 ^ i % 10)]
  rw [hb] at h
  omega
theorem prod_room (a b i j v c Lb : Nat) (h : v + c * 10 ^ (i + j) = (a % 10 ^ i) * b + (a / 10 ^ i % 10) * 10 ^ i * (b % 10 ^ j)) (hb : b % 10 ^ j = b) (hc : 0 < c) (hl : b < 10 ^ Lb) : j ≤ Lb := by
  have h1 : (a % 10 ^ i) * b + (a / 10 ^ i % 10) * 10 ^ i * b = (a % 10 ^ (i + 1)) * b := by rw [mod_step a i, Nat.add_mul, Nat.mul_comm (10 ^ i) (a / 10 ^ i % 10)]
  rw [hb, h1] at h
  have h2 : (a % 10 ^ (i + 1)) * b ≤ 10 ^ (i + 1) * b := Nat.mul_le_mul_right _ (Nat.le_of_lt (Nat.mod_lt _ (Nat.pow_pos (by omega))))
  have h3 : 10 ^ (i + 1) * b < 10 ^ (i + 1) * 10 ^ Lb := Nat.mul_lt_mul_of_pos_left hl (Nat.pow_pos (by omega))
  have h4 : 1 * 10 ^ (i + j) ≤ c * 10 ^ (i + j) := Nat.mul_le_mul_right _ hc
  rw [← Nat.pow_add] at h3
  have h5 : 10 ^ (i + j) < 10 ^ (i + 1 + Lb) := by omega
  have h6 := (Nat.pow_lt_pow_iff_right (by omega : 1 < 10)).1 h5
  omega

theorem Owns.at_ {n₀ G N cap : Nat} {w : World} {l : List Nat} (h : Owns n₀ w (.slice (some ⟨G, 0, none⟩) N cap) l) (k : Nat) (hk : k < l.length) :
    w.cell? ⟨G, k, none⟩ = some (.int .i64 ((l.getD k 0 : Nat) : Int)) ∧ w.frozen? ⟨G, k, none⟩ = false := by
  have hN : N = l.length := by
    rcases h.2 with ⟨h1, _⟩ | ⟨g, c, cur, h1, _⟩
    · cases h1
    · injection h1
  subst hN
  have h1 := World.ownsRow.cellAt h k (by omega)
  rw [ics_get l k hk] at h1
  exact ⟨h1, World.ownsRow.frozenAt h k⟩
theorem Owns.set_ {n₀ G N cap : Nat} {w : World} {l : List Nat} (h : Owns n₀ w (.slice (some ⟨G, 0, none⟩) N cap) l) (k d : Nat) :
    Owns n₀ (w.setCell ⟨G, k, none⟩ (.int .i64 (d : Int))) (.slice (some ⟨G, 0, none⟩) N cap) (l.set k d) := by
  have hN : N = l.length := by
    rcases h.2 with ⟨h1, _⟩ | ⟨g, c, cur, h1, _⟩
    · cases h1
    · injection h1
  subst hN
  have h1 := (World.ownsRow.stored h k (.int .i64 (d : Int))).1
  rw [ics_set] at h1
  unfold Owns
  rw [List.length_set]
  exact h1
/-- so many noughts -/
theorem wpList_zeros {ops : Array Oper} {rest : List Oper} {o : Oper} {a : Act} {Q : Exit → Act → World → Prop} {w : World} (hg : o.guard = none) (l c : Operand) (hop : o.op = .makeSlice 41 l c)
    (n : Nat) (L C : Int) (hl : a.eval l = .int .i64 L) (hc : a.eval c = .int .i64 C) (hL : L = (n : Int)) (hC : C = (n : Int)) (hn : n ≤ 100000)
    (h : ∀ w', Owns w.heap.size w' (.slice (some ⟨w.heap.size, 0, none⟩) n n) (List.replicate n 0) → Below w.heap.size w w' → wpList Try.prog ops Q rest (a.put o.dst (.slice (some ⟨w.heap.size, 0, none⟩) n n)) w') :
    wpList Try.prog ops Q (o :: rest) a w := by
  obtain ⟨i0, hi, hz0, hz1, hz2⟩ := info_parts info_int
  refine wpList_make_full _ hg l c 41 hop w.heap.size 3 i0 (.int .i64 0) 1 Try.underlying41 hi hz0 hz1 .i64 .i64 L C n hl hc hL hC (by rw [hz2]; omega) (by unfold maxLen; omega) (Nat.le_refl _) ?_
  intro w' hown hgrow
  refine h w' ?_ ((Below.refl _ _).grown hgrow (Nat.le_refl _) (fun k hk => by cases hk))
  have e : (madeCells (Value.int .i64 0).cells (n * 1)).toList = ics (List.replicate n 0) := by
    rw [show (Value.int .i64 0).cells = #[Value.int .i64 0] from rfl, toList_madeCells_one]
    simp [ics]
  rw [e] at hown
  unfold Owns
  rw [List.length_replicate]
  exact hown

set_option maxRecDepth 100000 in
set_option maxHeartbeats 4000000 in
theorem product_any (va vb : Value) (a b : Nat) (w : World) (ha : Holds w va (dg a)) (hb : Holds w vb (dg b)) (hna : (dg a).length ≤ 400) (hnb : (dg b).length ≤ 400) :
    Calls Try.prog 51 #[va, vb] w (NumPost w (a * b)) := by
  have HHB := Lib.hid hb
  obtain ⟨A, capa, rfl, hca, _, hA⟩ := ha
  have HA := Lib.hid hA
  obtain ⟨B, capb, rfl, hcb, _, _⟩ := hb
  have hta := dg_len_lt a
  have htb := dg_len_lt b
  have hob := dg_over b
  generalize hLa : (dg a).length = La at *
  generalize hLb : (dg b).length = Lb at *
  have hda : ∀ j, j < La → (dg a).getD j 0 = a / 10 ^ j % 10 := fun j _ => dg_getD j a
  have HDA := Lib.hid hda
  have TA := Lib.hid hta
  have TB := Lib.hid htb
  have OB := Lib.hid hob
  clear hLa hLb hta htb hob hA hda
  go_enter Try.func51, Try.ntmps51
  go_wp2_with (at_make; refine wpList_zeros rfl _ _ rfl (La + Lb + 1) _ _ rfl rfl (by simp) (by simp) (by omega) ?_)
  intro w0 hown0 hb0
  go_wp2_with fail
  go_loopw [6, 7, 8, 9] (fun i _ _ _ wr => ∃ (k : Nat) (l : List Nat), i = .int .i64 (k : Int) ∧ k ≤ La ∧ l.length = La + Lb + 1 ∧ Hid (∀ d ∈ l, d < 10) ∧
      Owns w.heap.size wr (.slice (some ⟨w.heap.size, 0, none⟩) (La + Lb + 1) (La + Lb + 1)) l ∧ Below w.heap.size w wr ∧ Hid (val l = a % 10 ^ k * b)) (fun i _ _ _ _ => La - (intOf i).toNat)
  case atStart => exact ⟨0, _, rfl, Nat.zero_le _, List.length_replicate, Lib.hid (fun d hd => by rw [List.eq_of_mem_replicate hd]; omega), hown0, hb0, Lib.hid (by rw [val_zeros]; simp [Nat.mod_one])⟩
  case round =>
    obtain ⟨k, l, rfl, hk, hll, HL, hown, hbw, HV⟩ := hrel
    obtain ⟨wo, rfl⟩ : ∃ wo : World, wo = wr := ⟨_, rfl⟩
    by_cases hlt : k < La
    · obtain ⟨g, rfl, hg, hcell⟩ := HA.out k hlt
      rw [HDA.out k hlt] at hcell
      have hy : a / 10 ^ k % 10 < 10 := Nat.mod_lt _ (by omega)
      have hrow := prod_row a b k
      have hroom := prod_room a b k
      have hstep := prod_step a b k
      have HROW := Lib.hid hrow
      have HROOM := Lib.hid hroom
      have HSTEP := Lib.hid hstep
      clear hrow hroom hstep
      generalize hyy : a / 10 ^ k % 10 = y at *
      have HYY := Lib.hid hyy
      clear hyy
      go_wp2_with fail
      go_loopw [7, 8, 9] (fun c j _ wr => ∃ (jj : Nat) (cc : Nat) (l : List Nat), j = .int .i64 (jj : Int) ∧ c = .int .i64 (cc : Int) ∧ jj ≤ Lb + 1 ∧ cc < 10 ∧ l.length = La + Lb + 1 ∧ Hid (∀ d ∈ l, d < 10) ∧
          Owns w.heap.size wr (.slice (some ⟨w.heap.size, 0, none⟩) (La + Lb + 1) (La + Lb + 1)) l ∧ Below w.heap.size w wr ∧ Hid (val l + cc * 10 ^ (k + jj) = a % 10 ^ k * b + y * 10 ^ k * (b % 10 ^ jj))) (fun _ j _ _ => 2000 - (intOf j).toNat)
      case atStart => exact ⟨0, 0, l, rfl, rfl, by omega, by omega, hll, HL, hown, hbw, Lib.hid (by rw [HV.out]; simp [Nat.mod_one])⟩
      case round =>
        obtain ⟨jj, cc, l, rfl, rfl, hjj, hcc, hll, HL, hown, hbw, HV⟩ := hrel
        by_cases hgo : jj < Lb ∨ 0 < cc
        · have hj2 : jj ≤ Lb := by
            rcases Nat.lt_or_ge jj Lb with h | h
            · omega
            · refine HROOM.out jj (val l) cc Lb HV.out (OB.out jj h).1 (by omega) TB.out
          have hx := getD_lt l HL.out (k + jj)
          have hcx := hown.at_ (k + jj) (by omega)
          have hset := hown.set_ (k + jj)
          have hvs := val_set l (k + jj)
          have hz : b / 10 ^ jj % 10 < 10 := Nat.mod_lt _ (by omega)
          have CZ := fun n => at_any _ (dg b) jj (wr.drewN n) ((HHB.out.below hbw).below (kept_drewN (Below.refl _ _) n))
          simp only [dg_getD] at CZ
          have hst := HSTEP.out jj (val l)
          have hca := (hbw.cell (p := ⟨g, k, none⟩) hg).trans hcell
          generalize l.getD (k + jj) 0 = x at *
          generalize hzz : b / 10 ^ jj % 10 = z at *
          obtain ⟨t, ht⟩ : ∃ t, t = k + jj := ⟨_, rfl⟩
          obtain ⟨p, hp⟩ : ∃ p, p = y * z := ⟨_, rfl⟩
          obtain ⟨q, hq⟩ : ∃ q, q = x + p := ⟨_, rfl⟩
          obtain ⟨s, hs⟩ : ∃ s, s = q + cc := ⟨_, rfl⟩
          have hpb : p ≤ 81 := by rw [hp]; exact Nat.mul_le_mul (show y ≤ 9 by omega) (show z ≤ 9 by omega)
          have w1 : IntKind.i64.wrap ((k : Int) + (jj : Int)) = (t : Int) := by rw [IntWalk.i64_in _ (by omega)]; omega
          have w2 : IntKind.i64.wrap ((y : Int) * (z : Int)) = (p : Int) := by rw [← Int.natCast_mul, ← hp, IntWalk.i64_in _ (by omega)]
          have w3 : IntKind.i64.wrap ((x : Int) + (p : Int)) = (q : Int) := by rw [IntWalk.i64_in _ (by omega)]; omega
          have w4 : IntKind.i64.wrap ((q : Int) + (cc : Int)) = (s : Int) := by rw [IntWalk.i64_in _ (by omega)]; omega
          have hsb : s < 100 := by omega
          have hv := hst _ cc x s y z HV.out rfl (by rw [hs, hq, hp]) (hvs (s % 10) (by omega))
          have em : ((s % 10 : Nat) : Int) = (s : Int) % 10 := by omega
          have hown2 := fun n => (hown.drewN n).set_ (k + jj) (s % 10)
          rw [em] at hown2
          have hcxt : wr.cell? ⟨w.heap.size, t, none⟩ = some (.int .i64 (x : Int)) := by rw [ht]; exact hcx.1
          obtain ⟨hcx1, hcx2⟩ := hcx
          have HOWN2 := Lib.hid hown2
          have HV2 := Lib.hid hv
          have HLT : Hid (∀ d ∈ l.set (k + jj) (s % 10), d < 10) := Lib.hid (set_lt HL.out (Nat.mod_lt _ (by omega)))
          have HLEN : Hid ((l.set (k + jj) (s % 10)).length = La + Lb + 1) := Lib.hid (by rw [List.length_set]; exact hll)
          have hb2 := fun n => (kept_drewN hbw n).setCell (p := ⟨w.heap.size, k + jj, none⟩) (Nat.le_refl _) (.int .i64 ((s : Int) % 10))
          have HB2 := Lib.hid hb2
          have t2 : t < La + Lb + 1 := by omega
          have HCZ := Lib.hid CZ
          have HJ := Lib.hid hj2
          have HD : Hid (Value.int .i64 ((s / 10 : Nat) : Int) = Value.int .i64 ((s : Int) / 10)) := Lib.hid (by congr 1)
          have hkk : k ≤ 400 := by omega
          have hjj2 : jj ≤ 401 := by omega
          clear hx hset hvs hst hz hzz ht hp hq hs hpb hv em hown2 hb2 CZ hj2 hcell hown HV HL
          have hgo2 : jj < Lb ∨ (¬ jj < Lb ∧ 0 < cc) := by omega
          clear hgo
          rcases hgo2 with h1 | ⟨h1, h2⟩
          all_goals
            go_wp2_with fail
            go_quiet ((go_at_call 59; exact (HCZ.out _).mono (fun e w' h => ⟨h.1, _, h.2.symm⟩)))
            clear w1 w2 w3 w4
            go_wp2_with fail
            go_roundw
            case rel => exact ⟨jj + 1, s / 10, l.set (k + jj) (s % 10), by go_num, HD.out.symm, by have := HJ.out; omega, by omega, HLEN.out, HLT, HOWN2.out _, HB2.out _, HV2⟩
            case measure => simp [intOf]; omega
        · have hc0 : cc = 0 := by omega
          have h1 : ¬ jj < Lb := by omega
          subst hc0
          have hv := HROW.out jj (val l) HV.out (OB.out jj (by omega)).1
          have HV2 := Lib.hid hv
          clear hv HV hgo
          go_wp2_with fail
          go_roundw
          case rel => exact ⟨k + 1, l, by go_num, by omega, hll, HL, hown, hbw, HV2⟩
          case measure => simp [intOf]; omega
    · have hv : val l = a * b := by
        have h1 := TA.out
        have h2 := Nat.pow_le_pow_right (n := 10) (by omega) (show La ≤ k by omega)
        rw [HV.out, Nat.mod_eq_of_lt (by omega)]
      have hfin := trim_any _ l wo (Owns.holds hown) HL.out (by omega)
      unfold TrimPost at hfin
      rw [hv] at hfin
      have HFIN := Lib.hid hfin
      clear HV hv hfin
      go_wp2_with fail
      refine HFIN.out.mono ?_
      rintro e w1 ⟨v', rfl, hh, hf, rfl⟩
      go_wp2_with fail
      go_ret
      exact ⟨v', rfl, hh, (Owns.fresh hown).of_eq hf, hbw⟩
end Go.Proofs.Ytncmmdhlponpoaa.Char
