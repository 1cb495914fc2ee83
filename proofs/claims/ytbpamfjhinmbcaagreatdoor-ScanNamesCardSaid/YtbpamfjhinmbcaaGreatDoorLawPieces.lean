/- LawPieces -/
import Derived.Test.YtbpamfjhinmbcaaGreatDoorLaws6
/- The walk of the law ScanPieces. -/
namespace Go.Proofs.YtbpamfjhinmbcaaGreatDoor.Char
open Go.RowKit Go.Lib

/-- no tag has more attributes than there are bytes -/
theorem tagN_ats : ∀ (n : Nat) (r : List UInt8) (qs qs' : List At2) (em : Bool) (rest : List UInt8), tagN n r qs = .inr (qs', em, rest) → qs'.length ≤ qs.length + n
  | 0, _, _, _, _, _, h => by cases h
  | n + 1, r, qs, qs', em, rest, h => by
    unfold tagN at h
    cases hd : r.drop (spcL r) with
    | nil => rw [hd] at h; cases h
    | cons c r2 =>
      rw [hd] at h
      dsimp only at h
      split at h
      · simp only [Sum.inr.injEq, Prod.mk.injEq] at h
        rw [← h.1]; omega
      · split at h
        · split at h
          · cases h
          · simp only [Sum.inr.injEq, Prod.mk.injEq] at h
            rw [← h.1]; omega
        · split at h
          · cases h
          · cases ha : attrL (c :: r2) with
            | inl e => rw [ha] at h; cases h
            | inr x =>
              obtain ⟨m, t, k⟩ := x
              rw [ha] at h
              dsimp only at h
              split at h
              · cases h
              · split at h
                · cases h
                · have := tagN_ats n _ _ _ _ _ h
                  rw [List.length_append] at this
                  simp at this
                  omega
theorem oneP_ats {r : List UInt8} {t : Tk} {rest : List UInt8} (h : oneP r = .inr (t, rest)) : t.ats.length ≤ r.length + 1 := by
  unfold oneP at h
  split at h
  · unfold comP at h
    split at h
    · cases h
    · split at h
      · simp only [Sum.inr.injEq, Prod.mk.injEq] at h
        rw [← h.1]; exact Nat.zero_le _
      · cases h
  · split at h
    · unfold datP at h
      split at h
      · cases h
      · simp only [Sum.inr.injEq, Prod.mk.injEq] at h
        rw [← h.1]; exact Nat.zero_le _
    · split at h
      · unfold insP at h
        split at h
        · cases h
        · split at h
          · cases h
          · simp only [Sum.inr.injEq, Prod.mk.injEq] at h
            rw [← h.1]; exact Nat.zero_le _
      · split at h
        · unfold endP at h
          split at h
          · cases h
          · split at h
            · cases h
            · simp only [Sum.inr.injEq, Prod.mk.injEq] at h
              rw [← h.1]; exact Nat.zero_le _
        · split at h
          · cases h
          · split at h
            · unfold staP tagL at h
              split at h
              · cases h
              · rename_i hh
                split at hh
                · cases hh
                · cases hf : tagF ((r.drop 1).drop (runL (r.drop 1))) [] with
                  | inl e => rw [hf] at hh; cases hh
                  | inr y =>
                    obtain ⟨qs1, em1, rest1⟩ := y
                    rw [hf] at hh
                    simp only [Sum.inr.injEq, Prod.mk.injEq] at h hh
                    have := tagN_ats _ _ _ _ _ _ hf
                    rw [← h.1, ← hh.2.1]
                    simp at this ⊢
                    omega
            · unfold txtP at h
              split at h
              · cases h
              · simp only [Sum.inr.injEq, Prod.mk.injEq] at h
                rw [← h.1]; exact Nat.zero_le _
/-- what holds of every piece holds of all -/
theorem scanN_all (p : Tk → Prop) (q : List UInt8 → Prop) (hp : ∀ r t rest, q r → oneP r = .inr (t, rest) → p t ∧ q rest) : ∀ (n : Nat) (r : List UInt8) (acc ts : List Tk), q r → (∀ t, t ∈ acc → p t) → scanN n r acc = .inr ts → ∀ t, t ∈ ts → p t
  | 0, r, acc, ts, _, ha, h => by
    unfold scanN at h
    simp only [Sum.inr.injEq] at h
    rw [← h]; exact ha
  | n + 1, r, acc, ts, hq, ha, h => by
    unfold scanN at h
    split at h
    · simp only [Sum.inr.injEq] at h
      rw [← h]; exact ha
    · cases ho : oneP r with
      | inl e => rw [ho] at h; cases h
      | inr y =>
        obtain ⟨t, rest⟩ := y
        rw [ho] at h
        obtain ⟨k1, k2⟩ := hp r t rest hq ho
        exact scanN_all p q hp n rest _ ts k2 (fun x hx => by
          rw [List.mem_append, List.mem_singleton] at hx
          rcases hx with hx | rfl
          · exact ha x hx
          · exact k1) h
theorem scanN_len : ∀ (n : Nat) (r : List UInt8) (acc ts : List Tk), scanN n r acc = .inr ts → ts.length ≤ acc.length + r.length
  | 0, r, acc, ts, h => by
    unfold scanN at h
    simp only [Sum.inr.injEq] at h
    rw [← h]; omega
  | n + 1, r, acc, ts, h => by
    unfold scanN at h
    split at h
    · simp only [Sum.inr.injEq] at h
      rw [← h]; omega
    · rename_i hne
      cases ho : oneP r with
      | inl e => rw [ho] at h; cases h
      | inr y =>
        obtain ⟨t, rest⟩ := y
        rw [ho] at h
        have := scanN_len n rest _ ts h
        have := oneP_lt hne ho
        simp at *
        omega
theorem scanL_small {s : List UInt8} {ts : List Tk} (h : scanL s = .inr ts) : s.length ≤ 4000 ∧ txD s = true ∧ scanF (linesL s) [] = .inr ts := by
  unfold scanL at h
  split at h
  · cases h
  · split at h
    · cases h
    · rename_i h2
      exact ⟨by omega, by simpa using h2, h⟩
theorem scanL_len {s : List UInt8} {ts : List Tk} (h : scanL s = .inr ts) : ts.length ≤ 4000 ∧ ∀ t, t ∈ ts → t.ats.length ≤ 4001 := by
  obtain ⟨h1, h2, h3⟩ := scanL_small h
  have hll := lines_le _ s (Nat.le_refl _)
  refine ⟨by have := scanN_len _ _ _ _ h3; simp at this; omega, ?_⟩
  refine scanN_all (fun t => t.ats.length ≤ 4001) (fun r => r.length ≤ 4000) ?_ _ _ _ _ (by omega) (fun t ht => by cases ht) h3
  intro r t rest hr ho
  have := oneP_ats ho
  refine ⟨by omega, ?_⟩
  by_cases hne : r = []
  · subst hne
    have : oneP [] = .inr (⟨3, [], [], [], false⟩, []) := by rfl
    rw [this] at ho
    cases ho
    simp
  · have := oneP_lt hne ho
    omega

set_option maxRecDepth 100000 in
set_option maxHeartbeats 8000000 in
theorem pieces_law (s : ByteArray) (w : World) (hG : Gl6 w) :
    Calls Tryz.prog 3 #[.string s] w fun e w' => e = .returned (.bool true) ∧ Below w.heap.size w w' := by
  obtain ⟨l, rfl⟩ : ∃ l, s = bs l := ⟨s.data.toList, (bs_of s).symm⟩
  have hsz := bs_size l
  have HG := Lib.hid hG
  have CW := fun W hW => Lib.hid (works_any W hW)
  clear hG
  by_cases hl : l.length ≤ 4100
  · obtain ⟨G, hF⟩ : ∃ G, scanL l = G := ⟨_, rfl⟩
    have C1 := fun W (hW : Gl6 W) => scan_any l W (by omega) hW
    have C2 := fun W => refScan_any l W (by omega)
    unfold ScPost at C1 C2
    rw [hF] at C1 C2
    cases G with
    | inl err =>
      have D1 : ∀ W, Gl6 W → Hid (Calls Tryz.prog 8 #[.string (bs l)] W fun e w' => e = .returned (.tuple #[.slice none 0 0, .int .i64 (err : Int)]) ∧ Below W.heap.size W w') := fun W hW => Lib.hid (C1 W hW)
      have D2 : ∀ W, Hid (Calls Tryz.prog 9 #[.string (bs l)] W fun e w' => e = .returned (.tuple #[.slice none 0 0, .int .i64 (err : Int)]) ∧ Below W.heap.size W w') := fun W => Lib.hid (C2 W)
      have D3 : ∀ W, Hid (Calls Tryz.prog 10 #[.slice none 0 0, .slice none 0 0] W fun e w' => e = .returned (.bool true) ∧ ∃ n, w' = W.drewN n) := fun W => Lib.hid (same_any [] [] rfl 0 0 none 0 0 none 0 0 W (by simp) (fun x hx => by cases hx) (OwnsTk.nil _ _) (OwnsTk.nil _ _))
      clear C1 C2 hF
      go_enter Tryz.func3, Tryz.ntmps3
      go_wp2_with fail
      refine (D1 _ HG.out).out.mono ?_
      rintro e w1 ⟨rfl, h1⟩
      have G1 := Lib.hid (HG.out.below h1)
      clear D1
      go_wp2_with fail
      refine (D2 _).out.mono ?_
      rintro e w2 ⟨rfl, h2⟩
      have G2 := Lib.hid (G1.out.below h2)
      clear D2
      go_wp2_with fail
      refine (D3 _).out.mono ?_
      rintro e w3 ⟨rfl, n, rfl⟩
      have B3 : Below w2.heap.size w2 (w2.drewN n) := below_drewN5 w2 n
      have G3 := Lib.hid (G2.out.below B3)
      clear D3
      go_wp2_with fail
      refine (CW _ G3.out).out.mono ?_
      rintro e w5 ⟨rfl, h5⟩
      go_wp2_with fail
      go_ret
      exact ⟨rfl, ((h1.trans (h2.mono h1.size)).trans (B3.mono (Nat.le_trans h1.size h2.size))).trans (h5.mono (Nat.le_trans (Nat.le_trans h1.size h2.size) B3.size))⟩
    | inr ts =>
      obtain ⟨hz1, hz2⟩ := scanL_len hF
      have D1 : ∀ W, Gl6 W → Hid (Calls Tryz.prog 8 #[.string (bs l)] W fun e w' => ∃ (xs : List TkV) (o : Option Addr) (i j : Nat), xs.map (·.1) = ts ∧ e = .returned (.tuple #[.slice o i j, .int .i64 0]) ∧ OwnsTk W.heap.size w' (.slice o i j) xs ∧ Below W.heap.size W w') := fun W hW => Lib.hid (C1 W hW)
      have D2 : ∀ W, Hid (Calls Tryz.prog 9 #[.string (bs l)] W fun e w' => ∃ (xs : List TkV) (o : Option Addr) (i j : Nat), xs.map (·.1) = ts ∧ e = .returned (.tuple #[.slice o i j, .int .i64 0]) ∧ OwnsTk W.heap.size w' (.slice o i j) xs ∧ Below W.heap.size W w') := fun W => Lib.hid (C2 W)
      have HZ := Lib.hid hz2
      clear C1 C2 hF hz2
      go_enter Tryz.func3, Tryz.ntmps3
      go_wp2_with fail
      refine (D1 _ HG.out).out.mono ?_
      rintro e w1 ⟨xs, o1, i1, j1, hx1, rfl, ho1, h1⟩
      have G1 := Lib.hid (HG.out.below h1)
      have O1 := Lib.hid ho1
      have X1 := Lib.hid hx1
      clear D1 ho1 hx1
      go_wp2_with fail
      refine (D2 _).out.mono ?_
      rintro e w2 ⟨ys, o2, i2, j2, hx2, rfl, ho2, h2⟩
      have G2 := Lib.hid (G1.out.below h2)
      have D3 := Lib.hid (same_any xs ys (X1.out.trans hx2.symm) w.heap.size w1.heap.size o1 i1 j1 o2 i2 j2 w2 (by have := congrArg List.length X1.out; simp at this; omega) (fun x hx => by
        have := HZ.out x.1 (by rw [← X1.out]; exact List.mem_map_of_mem hx)
        omega) (O1.out.below h2) ho2)
      clear D2 ho2 hx2 O1 X1 HZ
      go_wp2_with fail
      refine D3.out.mono ?_
      rintro e w3 ⟨rfl, n, rfl⟩
      have B3 : Below w2.heap.size w2 (w2.drewN n) := below_drewN5 w2 n
      have G3 := Lib.hid (G2.out.below B3)
      clear D3
      go_wp2_with fail
      refine (CW _ G3.out).out.mono ?_
      rintro e w5 ⟨rfl, h5⟩
      go_wp2_with fail
      go_ret
      exact ⟨rfl, ((h1.trans (h2.mono h1.size)).trans (B3.mono (Nat.le_trans h1.size h2.size))).trans (h5.mono (Nat.le_trans (Nat.le_trans h1.size h2.size) B3.size))⟩
  · go_enter Tryz.func3, Tryz.ntmps3
    go_wp2_with fail
    refine (CW _ HG.out).out.mono ?_
    rintro e w1 ⟨rfl, h1⟩
    go_wp2_with fail
    go_ret
    exact ⟨rfl, h1⟩
end Go.Proofs.YtbpamfjhinmbcaaGreatDoor.Char
