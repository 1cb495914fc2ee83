import Derived.Test.YtlmodgnkmlbjhaaGreatDoorPkRefA
import Derived.Test.YtlmodgnkmlbjhaaGreatDoorPkTok
import Derived.Test.YtlmodgnkmlbjhaaGreatDoorPkLines
import Derived.Test.YtlmodgnkmlbjhaaGreatDoorPkRef
import Derived.Deep.CutRange
import Derived.Test.YtlmodgnkmlbjhaaGreatDoorPkPieces
import Derived.Test.YtlmodgnkmlbjhaaGreatDoorPkShelf
import Derived.Test.YtlmodgnkmlbjhaaGreatDoorPkIs
namespace Go.Proofs.YtlmodgnkmlbjhaaGreatDoor
namespace Char
open Go.RowKit Go.Lib
theorem refOne_any (l : List UInt8) (p : Nat) (w : World) (hl : l.length ≤ 60000) (hp : p < l.length) :
  Calls Tryz.prog 66 #[.string (bs l), .int .i64 (p : Int)] w (OnPost l p w) := by
 cases h60 : [60].isPrefixOf (l.drop p) with
 | false => exact one_txt l p w hl hp h60
 | true =>
  cases h1 : [60, 33, 45, 45].isPrefixOf (l.drop p) with
  | true => exact one_com l p w hl hp h1
  | false =>
   cases h2 : [60, 33, 91, 67, 68, 65, 84, 65, 91].isPrefixOf (l.drop p) with
   | true => exact one_dat l p w hl hp h1 h2
   | false =>
    cases h3 : [60, 63].isPrefixOf (l.drop p) with
    | true => exact one_pi l p w hl hp h1 h2 h3
    | false =>
     cases h4 : [60, 47].isPrefixOf (l.drop p) with
     | true => exact one_end l p w hl hp h1 h2 h3 h4
     | false =>
      cases h5 : [60, 33].isPrefixOf (l.drop p) with
      | true => exact one_no l p w hl hp h1 h2 h3 h4 h5
      | false => exact one_sta l p w hl hp h1 h2 h3 h4 h5 h60
def ScPost (s : List UInt8) (w : World) (e : Ending) (w' : World) : Prop := match scanL s with
 | .inl err => e = .returned (.tuple #[.slice none 0 0, .int .i64 (err : Int)]) ∧ Below w.heap.size w w'
 | .inr ts => ∃ (xs : List TkV) (o : Option Addr) (i j : Nat), xs.map (·.1) = ts ∧ e = .returned (.tuple #[.slice o i j, .int .i64 0]) ∧ OwnsTk w.heap.size w' (.slice o i j) xs ∧ Below w.heap.size w w'
def FinS (w : World) (P : Ending → World → Prop) : Nat ⊕ List Tk → Prop
 | .inl err => ∀ W, Below w.heap.size w W → P (.returned (.tuple #[.slice none 0 0, .int .i64 (err : Int)])) W
 | .inr ts => ∀ (W : World) (xs : List TkV) (o : Option Addr) (i j : Nat), xs.map (·.1) = ts → OwnsTk w.heap.size W (.slice o i j) xs → Below w.heap.size w W → P (.returned (.tuple #[.slice o i j, .int .i64 0])) W
theorem finS_of {s : List UInt8} {w : World} {G : Nat ⊕ List Tk} (hG : scanL s = G) : FinS w (ScPost s w) G := by
 cases G with
 | inl err =>
  intro W hW
  unfold ScPost
  rw [hG]
  exact ⟨rfl, hW⟩
 | inr ts =>
  intro W xs o i j h1 h2 h3
  unfold ScPost
  rw [hG]
  exact ⟨xs, o, i, j, h1, rfl, h2, h3⟩
def ScK (w : World) (L : List UInt8) (G : Nat ⊕ List Tk) (p : Nat) (v : Value) (xs : List TkV) (wr : World) : Prop :=
 p ≤ L.length ∧ xs.length ≤ p ∧ OwnsTk w.heap.size wr v xs ∧ Below w.heap.size w wr ∧ scanF (L.drop p) (xs.map (·.1)) = G
theorem oneP_err {r : List UInt8} {e : Nat} (h : oneP r = .inl e) : e ≠ 0 := by
 unfold oneP at h
 split at h
 ·unfold comP at h
  split at h
  ·cases h; omega
  ·split at h
   ·cases h
   ·cases h; omega
 ·split at h
  ·unfold datP at h
   split at h
   ·cases h; omega
   ·cases h
  ·split at h
   ·unfold insP at h
    split at h
    ·cases h; omega
    ·split at h
     ·rename_i hp
      unfold piL at hp
      split at hp
      ·cases hp; cases h; omega
      ·split at hp
       ·cases hp; cases h; omega
       ·cases hp
     ·cases h
   ·split at h
    ·unfold endP at h
     split at h
     ·rename_i h0; cases h; exact h0
     ·split at h
      ·rename_i h0; cases h; exact h0
      ·cases h
    ·split at h
     ·cases h; omega
     ·split at h
      ·unfold staP at h
       split at h
       ·rename_i e2 ht
        have e3 : e2 ≠ 0 := by
         unfold tagL at ht
         split at ht
         ·rename_i h0; cases ht; exact h0
         ·split at ht
          ·rename_i hf
           have key : ∀ (n : Nat) (r : List UInt8) (qs : List At2) (e : Nat), tagN n r qs = .inl e → e ≠ 0 := by
            intro n
            induction n with
            | zero => intro r qs e h; cases h; omega
            | succ n ih =>
             intro r qs e h
             unfold tagN at h
             split at h
             ·cases h; omega
             ·split at h
              ·cases h
              ·split at h
               ·split at h
                ·rename_i h0; cases h; exact h0
                ·cases h
               ·split at h
                ·cases h; omega
                ·split at h
                 ·rename_i ha; cases h; exact attrL_err ha
                 ·split at h
                  ·cases h; omega
                  ·split at h
                   ·cases h; omega
                   ·exact ih _ _ _ h
           cases ht
           exact key _ _ _ _ hf
          ·cases ht
        cases h
        exact e3
       ·cases h
      ·unfold txtP at h
       split at h
       ·rename_i h0; cases h; exact h0
       ·cases h
set_option maxRecDepth 100000 in
set_option maxHeartbeats 16000000 in
theorem refScan_any (s : List UInt8) (w : World) (hz : s.length ≤ 9223372036854775807) :
  Calls Tryz.prog 32 #[.string (bs s)] w (ScPost s w) := by
 have hsz := bs_size s
 obtain ⟨P, hP⟩ : ∃ P, ScPost s w = P := ⟨_, rfl⟩
 obtain ⟨G, hG⟩ : ∃ G, scanL s = G := ⟨_, rfl⟩
 have hF := finS_of (w := w) hG
 rw [hP] at hF ⊢
 have HF := Lib.hid hF
 unfold scanL at hG
 clear hP hF
 by_cases h4 : 4000 < s.length
 ·rw [if_pos h4] at hG
  have hF := HF.out
  rw [← hG] at hF
  have HFE := Lib.hid hF
  have h4' : (4000 : Int) < (s.length : Int) := by omega
  clear hG hF HF h4
  go_enter Tryz.func32, Tryz.ntmps32
  go_wp2_with fail
  exact HFE.out _ (Below.refl _ _)
 rw [if_neg h4] at hG
 have hs4 : s.length ≤ 4000 := by omega
 have h4' : ¬ (4000 : Int) < (s.length : Int) := by omega
 clear h4 hz
 have hT : ∀ W, Calls Tryz.prog 51 #[.string (bs s)] W fun e w' => e = .returned (.bool (txD s)) ∧ Below W.heap.size W w' := fun W => refText_any (bs s) W (by omega)
 cases htx : txD s with
 | false =>
  rw [htx] at hT hG
  rw [if_pos rfl] at hG
  have HT := Lib.hid hT
  have hF := HF.out
  rw [← hG] at hF
  have HFE := Lib.hid hF
  clear hG hF HF hT htx
  go_enter Tryz.func32, Tryz.ntmps32
  go_wp2_with fail
  refine (HT.out _).mono ?_
  rintro e w1 ⟨rfl, hb1⟩
  go_wp2_with fail
  exact HFE.out _ hb1
 | true =>
  rw [htx] at hT hG
  rw [if_neg (by simp)] at hG
  have HT := Lib.hid hT
  have HL := Lib.hid (fun W => refLines_any s W (by omega))
  have hLl : (linesL s).length ≤ 4000 := by have := lines_le _ s (Nat.le_refl _); omega
  generalize linesL s = L at *
  have hszL := bs_size L
  have HG := Lib.hid hG
  clear hG hT htx
  go_enter Tryz.func32, Tryz.ntmps32
  go_wp2_with fail
  refine (HT.out _).mono ?_
  rintro e w1 ⟨rfl, hb1⟩
  have HB1 := Lib.hid hb1
  clear hb1
  go_wp2_with fail
  refine (HL.out _).mono ?_
  rintro e w2 ⟨rfl, rfl⟩
  go_wp2_with fail
  go_loopw [4, 5] (fun v u wr => ∃ (p : Nat) (xs : List TkV) (o : Option Addr) (i j : Nat), v = .slice o i j ∧ u = .int .i64 (p : Int) ∧ ScK w L G p (.slice o i j) xs wr) (fun _ u _ => L.length - (RowKit.intOf u).toNat)
  case atStart => exact ⟨0, [], none, 0, 0, rfl, rfl, Nat.zero_le _, Nat.le_refl _, OwnsTk.nil _ _, HB1.out, HG.out⟩
  case round =>
   obtain ⟨p, xs, o, i, j, rfl, rfl, hk⟩ := hrel
   obtain ⟨hpl, hxl, hown, hbw, hgf⟩ := hk
   have HOWN := Lib.hid hown
   have HBW := Lib.hid hbw
   have hsw := hbw.size
   by_cases hlt : p < L.length
   ·have hne : L.drop p ≠ [] := by
     intro h
     have := congrArg List.length h
     rw [List.length_drop] at this
     simp at this
     omega
    have hon := refOne_any L p wr (by omega) hlt
    unfold OnPost at hon
    cases hx : oneP (L.drop p) with
    | inl err =>
     rw [hx] at hon
     rw [scanF_err hne hx] at hgf
     have herr := oneP_err hx
     have hon2 : Calls Tryz.prog 66 #[.string (bs L), .int .i64 (p : Int)] wr fun e w' => (∃ (kd x : Int) (n t : ByteArray) (o : Option Addr) (i j : Nat) (em : Bool), e = .returned (.tuple #[.agg #[.int .i64 kd, .string n, .string t, .slice o i j, .bool em], .int .i64 x, .int .i64 (err : Int)])) ∧ Below wr.heap.size wr w' := hon
     have HON := Lib.hid hon2
     have hF := HF.out
     rw [← hgf] at hF
     have HFE := Lib.hid hF
     have q : ((err : Int) != 0) = true := by rw [bne_iff_ne]; omega
     clear hon hon2 hgf hF HF hx herr hne hown hbw
     go_wp2_with fail
     refine HON.out.mono ?_
     rintro e w3 ⟨⟨kd, x, n, t, o2, i2, j2, em, rfl⟩, hb3⟩
     have HB3 := Lib.hid (HBW.out.trans (hb3.mono hsw))
     have hs3 := hb3.size
     clear hb3
     go_wp2_with fail
     exact HFE.out _ (HB3.out.alloc (by omega) _)
    | inr y =>
     obtain ⟨t, rest⟩ := y
     rw [hx] at hon
     rw [scanF_ok hne hx] at hgf
     have hrl := oneP_lt hne hx
     rw [List.length_drop] at hrl
     obtain ⟨tk, tn, tt, tq, te⟩ := t
     have hon2 : Calls Tryz.prog 66 #[.string (bs L), .int .i64 (p : Int)] wr fun e w' => ∃ (p' : Nat) (o : Option Addr) (i j : Nat), (p' ≤ L.length ∧ L.drop p' = rest) ∧ e = .returned (.tuple #[.agg #[.int .i64 tk, .string (bs tn), .string (bs tt), .slice o i j, .bool te], .int .i64 (p' : Int), .int .i64 0]) ∧ OwnsAt wr.heap.size w' (.slice o i j) tq ∧ Below wr.heap.size wr w' := hon.mono (by
      rintro e w' ⟨p', o, i, j, k1, k2, k3, k4, k5⟩
      exact ⟨p', o, i, j, ⟨k1, k2⟩, k3, k4, k5⟩)
     have HON := Lib.hid hon2
     have HGF := Lib.hid hgf
     clear hon hon2 hgf hx hne hown hbw
     go_wp2_with fail
     refine HON.out.mono ?_
     rintro e w3 ⟨p', o2, i2, j2, ⟨hp1, hp2⟩, rfl, ho3, hb3⟩
     have hs3 := hb3.size
     have hpp : p < p' := by
      have := congrArg List.length hp2
      rw [List.length_drop] at this
      omega
     obtain ⟨W4, hW4⟩ : ∃ W4, W4 = w3.alloc (.cells #[.int .i64 tk, .string (bs tn), .string (bs tt), .slice o2 i2 j2, .bool te] 72) := ⟨_, rfl⟩
     have hb4 : Below wr.heap.size wr W4 := by rw [hW4]; exact hb3.alloc hs3 _
     have hs4 : w3.heap.size < W4.heap.size := by rw [hW4]; simp
     have hT4 : TokAt w3.heap.size tk (bs tn) (bs tt) (.slice o2 i2 j2) te W4 := by rw [hW4]; exact TokAt.new _ _ _ _ _ _
     have HO4 := Lib.hid (show OwnsAt w.heap.size W4 (.slice o2 i2 j2) tq by rw [hW4]; exact (ho3.keep (fun k _ hk => Below.heap_alloc _ _ k hk)).low hsw)
     have HOW4 := Lib.hid (HOWN.out.below hb4)
     have HBW4 := Lib.hid (HBW.out.trans (hb4.mono hsw))
     have HP2 := Lib.hid hp2
     have HW4 := Lib.hid hW4
     obtain ⟨⟨c0, c1, c2, c3, c4⟩, _, _⟩ := hT4
     clear hb3 hb4 ho3 hp2 hW4
     go_upto_region 12 with (fail)
     rw [← HW4.out]
     go_wp2_with (with_reducible refine wpList_pushTk rfl (.tmp 31) (.tmp 33) rfl tk tn tt tq o2 i2 j2 te HOW4.out HO4.out rfl rfl (by omega) (by omega) ?_)
     intro v' w5 hown5 hb5 _
     obtain ⟨o5, i5, j5, rfl⟩ := hown5.form
     have HEND : Hid (ScK w L G p' (.slice o5 i5 j5) (xs ++ [(⟨tk, tn, tt, tq, te⟩, .slice o2 i2 j2)]) w5) := Lib.hid ⟨hp1, by simp; omega, hown5, HBW4.out.trans hb5, by rw [HP2.out, List.map_append]; exact HGF.out⟩
     clear hown5 hb5
     go_wp2_with fail
     go_roundw
     case rel => exact ⟨p', _, o5, i5, j5, rfl, rfl, HEND.out⟩
     case measure => simp [RowKit.intOf]; omega
   ·rw [List.drop_eq_nil_of_le (by omega), scanF_nil] at hgf
    have hF := HF.out
    rw [← hgf] at hF
    have HFE := Lib.hid hF
    clear hF HF hgf hown hbw
    go_wp2_with fail
    exact HFE.out _ xs o i j rfl HOWN.out HBW.out
end Char
namespace Char
open Go.RowKit Go.Lib
theorem tagN_ats : ∀ (n : Nat) (r : List UInt8) (qs qs' : List At2) (em : Bool) (rest : List UInt8), tagN n r qs = .inr (qs', em, rest) → qs'.length ≤ qs.length + n
 | 0, _, _, _, _, _, h => by cases h
 | n + 1, r, qs, qs', em, rest, h => by
  unfold tagN at h
  cases hd : r.drop (spcL r) with
  | nil => rw [hd] at h; cases h
  | cons c r2 =>
   rw [hd] at h
   dsimp only at h
   split at h
   ·simp only [Sum.inr.injEq, Prod.mk.injEq] at h
    rw [← h.1]; omega
   ·split at h
    ·split at h
     ·cases h
     ·simp only [Sum.inr.injEq, Prod.mk.injEq] at h
      rw [← h.1]; omega
    ·split at h
     ·cases h
     ·cases ha : attrL (c :: r2) with
      | inl e => rw [ha] at h; cases h
      | inr x =>
       obtain ⟨m, t, k⟩ := x
       rw [ha] at h
       dsimp only at h
       split at h
       ·cases h
       ·split at h
        ·cases h
        ·have := tagN_ats n _ _ _ _ _ h
         rw [List.length_append] at this
         simp at this
         omega
theorem oneP_ats {r : List UInt8} {t : Tk} {rest : List UInt8} (h : oneP r = .inr (t, rest)) : t.ats.length ≤ r.length + 1 := by
 unfold oneP at h
 split at h
 ·unfold comP at h
  split at h
  ·cases h
  ·split at h
   ·simp only [Sum.inr.injEq, Prod.mk.injEq] at h
    rw [← h.1]; exact Nat.zero_le _
   ·cases h
 ·split at h
  ·unfold datP at h
   split at h
   ·cases h
   ·simp only [Sum.inr.injEq, Prod.mk.injEq] at h
    rw [← h.1]; exact Nat.zero_le _
  ·split at h
   ·unfold insP at h
    split at h
    ·cases h
    ·split at h
     ·cases h
     ·simp only [Sum.inr.injEq, Prod.mk.injEq] at h
      rw [← h.1]; exact Nat.zero_le _
   ·split at h
    ·unfold endP at h
     split at h
     ·cases h
     ·split at h
      ·cases h
      ·simp only [Sum.inr.injEq, Prod.mk.injEq] at h
       rw [← h.1]; exact Nat.zero_le _
    ·split at h
     ·cases h
     ·split at h
      ·unfold staP tagL at h
       split at h
       ·cases h
       ·rename_i hh
        split at hh
        ·cases hh
        ·cases hf : tagF ((r.drop 1).drop (runL (r.drop 1))) [] with
         | inl e => rw [hf] at hh; cases hh
         | inr y =>
          obtain ⟨qs1, em1, rest1⟩ := y
          rw [hf] at hh
          simp only [Sum.inr.injEq, Prod.mk.injEq] at h hh
          have := tagN_ats _ _ _ _ _ _ hf
          rw [← h.1, ← hh.2.1]
          simp at this ⊢
          omega
      ·unfold txtP at h
       split at h
       ·cases h
       ·simp only [Sum.inr.injEq, Prod.mk.injEq] at h
        rw [← h.1]; exact Nat.zero_le _
theorem scanN_all (p : Tk → Prop) (q : List UInt8 → Prop) (hp : ∀ r t rest, q r → oneP r = .inr (t, rest) → p t ∧ q rest) : ∀ (n : Nat) (r : List UInt8) (acc ts : List Tk), q r → (∀ t, t ∈ acc → p t) → scanN n r acc = .inr ts → ∀ t, t ∈ ts → p t
 | 0, r, acc, ts, _, ha, h => by
  unfold scanN at h
  simp only [Sum.inr.injEq] at h
  rw [← h]; exact ha
 | n + 1, r, acc, ts, hq, ha, h => by
  unfold scanN at h
  split at h
  ·simp only [Sum.inr.injEq] at h
   rw [← h]; exact ha
  ·cases ho : oneP r with
   | inl e => rw [ho] at h; cases h
   | inr y =>
    obtain ⟨t, rest⟩ := y
    rw [ho] at h
    obtain ⟨k1, k2⟩ := hp r t rest hq ho
    exact scanN_all p q hp n rest _ ts k2 (fun x hx => by
     rw [List.mem_append, List.mem_singleton] at hx
     rcases hx with hx | rfl
     ·exact ha x hx
     ·exact k1) h
theorem scanN_len : ∀ (n : Nat) (r : List UInt8) (acc ts : List Tk), scanN n r acc = .inr ts → ts.length ≤ acc.length + r.length
 | 0, r, acc, ts, h => by
  unfold scanN at h
  simp only [Sum.inr.injEq] at h
  rw [← h]; omega
 | n + 1, r, acc, ts, h => by
  unfold scanN at h
  split at h
  ·simp only [Sum.inr.injEq] at h
   rw [← h]; omega
  ·rename_i hne
   cases ho : oneP r with
   | inl e => rw [ho] at h; cases h
   | inr y =>
    obtain ⟨t, rest⟩ := y
    rw [ho] at h
    have := scanN_len n rest _ ts h
    have := oneP_lt hne ho
    simp at *
    omega
theorem scanL_small {s : List UInt8} {ts : List Tk} (h : scanL s = .inr ts) : s.length ≤ 4000 ∧ txD s = true ∧ scanF (linesL s) [] = .inr ts := by
 unfold scanL at h
 split at h
 ·cases h
 ·split at h
  ·cases h
  ·rename_i h2
   exact ⟨by omega, by simpa using h2, h⟩
theorem scanL_len {s : List UInt8} {ts : List Tk} (h : scanL s = .inr ts) : ts.length ≤ 4000 ∧ ∀ t, t ∈ ts → t.ats.length ≤ 4001 := by
 obtain ⟨h1, h2, h3⟩ := scanL_small h
 have hll := lines_le _ s (Nat.le_refl _)
 refine ⟨by have := scanN_len _ _ _ _ h3; simp at this; omega, ?_⟩
 refine scanN_all (fun t => t.ats.length ≤ 4001) (fun r => r.length ≤ 4000) ?_ _ _ _ _ (by omega) (fun t ht => by cases ht) h3
 intro r t rest hr ho
 have := oneP_ats ho
 refine ⟨by omega, ?_⟩
 by_cases hne : r = []
 ·subst hne
  have : oneP [] = .inr (⟨3, [], [], [], false⟩, []) := by rfl
  rw [this] at ho
  cases ho
  simp
 ·have := oneP_lt hne ho
  omega
end Char
namespace Char
open Go.RowKit Go.Lib Go.Shelf
theorem replA_any (s old new : List UInt8) (w : World) (hM : MaxL w) (hs : s.length ≤ 60000) (h1 : 1 ≤ old.length) (h2 : new.length = 1) :
  Calls Tryz.prog 86 #[.string (bs s), .string (bs old), .string (bs new)] w fun e w' => e = .returned (.string (bs (replaceAll s old new))) ∧ Below w.heap.size w w' := by
 obtain ⟨m, hm⟩ := hM
 have hs2 := bs_size s
 have h3 : (bs new).size = 1 := by rw [bs_size, h2]
 have hc := count_le s old
 have hc2 : countB (bs s) (bs old) = count s old := rfl
 exact Any.strings_ReplaceAll layRepl layReplX (bs s) (bs old) (bs new) m w (by omega) hm (by rw [bs_size]; exact h1) (by rw [hc2, h3]; omega)
set_option maxRecDepth 100000 in
set_option maxHeartbeats 4000000 in
theorem lines_any (l : List UInt8) (w : World) (hl : l.length ≤ 60000) (hG : MaxL w) :
  Calls Tryz.prog 54 #[.string (bs l)] w fun e w' => e = .returned (.string (bs (linesL l))) ∧ Below w.heap.size w w' := by
 obtain ⟨hm, hle⟩ := rep_lines _ l (Nat.le_refl _)
 have H1 := Lib.hid (replA_any l [13, 10] [10] w hG hl (by simp) rfl)
 obtain ⟨A, hA⟩ : ∃ A, replaceAll l [13, 10] [10] = A := ⟨_, rfl⟩
 rw [hA] at hm hle H1
 have H2 := Lib.hid (fun (w1 : World) (h : Below w.heap.size w w1) => replA_any A [13] [10] w1 (hG.below h) (by omega) (by simp) rfl)
 rw [hm] at H2
 clear hm hA
 go_enter Tryz.func54, Tryz.ntmps54
 go_wp2_with fail
 refine H1.out.mono ?_
 rintro e w1 ⟨rfl, hb1⟩
 have HH := Lib.hid (H2.out w1 hb1)
 have HB := Lib.hid hb1
 have hs1 := hb1.size
 clear hb1
 go_wp2_with fail
 refine HH.out.mono ?_
 rintro e w2 ⟨rfl, hb2⟩
 have HB2 := Lib.hid (HB.out.trans (hb2.mono hs1))
 clear hb2
 go_wp2_with fail
 go_ret
 exact ⟨rfl, HB2.out⟩
def ScPostA (s : List UInt8) (w : World) (e : Ending) (w' : World) : Prop := match scanL s with
 | .inl err => e = .returned (.tuple #[.slice none 0 0, .int .i64 (err : Int)]) ∧ Below w.heap.size w w'
 | .inr ts => ∃ (xs : List TkV) (o : Option Addr) (i j : Nat), xs.map (·.1) = ts ∧ e = .returned (.tuple #[.slice o i j, .int .i64 0]) ∧ OwnsTk w.heap.size w' (.slice o i j) xs ∧ ApartT xs ∧ Below w.heap.size w w'
def FinSA (w : World) (P : Ending → World → Prop) : Nat ⊕ List Tk → Prop
 | .inl err => ∀ W, Below w.heap.size w W → P (.returned (.tuple #[.slice none 0 0, .int .i64 (err : Int)])) W
 | .inr ts => ∀ (W : World) (xs : List TkV) (o : Option Addr) (i j : Nat), xs.map (·.1) = ts → OwnsTk w.heap.size W (.slice o i j) xs → ApartT xs → Below w.heap.size w W → P (.returned (.tuple #[.slice o i j, .int .i64 0])) W
theorem finSA_of {s : List UInt8} {w : World} {G : Nat ⊕ List Tk} (hG : scanL s = G) : FinSA w (ScPostA s w) G := by
 cases G with
 | inl err =>
  intro W hW
  unfold ScPostA
  rw [hG]
  exact ⟨rfl, hW⟩
 | inr ts =>
  intro W xs o i j h1 h2 h3 h4
  unfold ScPostA
  rw [hG]
  exact ⟨xs, o, i, j, h1, rfl, h2, h3, h4⟩
set_option maxRecDepth 100000 in
set_option maxHeartbeats 8000000 in
theorem scanA_any (l : List UInt8) (w : World) (hz : l.length ≤ 9223372036854775807) (hG : Gl6 w) :
  Calls Tryz.prog 30 #[.string (bs l)] w (ScPostA l w) := by
 obtain ⟨G, hF⟩ : ∃ G, scanL l = G := ⟨_, rfl⟩
 have HF := Lib.hid (finSA_of (w := w) hF)
 obtain ⟨P, hP⟩ : ∃ P, ScPostA l w = P := ⟨_, rfl⟩
 rw [hP] at HF ⊢
 clear hP
 unfold scanL at hF
 have hsz := bs_size l
 by_cases h4 : 4000 < l.length
 ·rw [if_pos h4] at hF
  subst hF
  have HFE : Hid (∀ W, Below w.heap.size w W → P (.returned (.tuple #[.slice none 0 0, .int .i64 3])) W) := HF
  clear HF
  go_enter Tryz.func30, Tryz.ntmps30
  go_wp2_with fail
  exact HFE.out w (Below.refl _ _)
 ·rw [if_neg h4] at hF
  have ht := text_any (bs l) w (by omega) hG.1.1
  rw [bs_list] at ht
  have HG := Lib.hid hG
  by_cases htx : txD l = false
  ·rw [if_pos htx] at hF
   subst hF
   rw [htx] at ht
   have HFE : Hid (∀ W, Below w.heap.size w W → P (.returned (.tuple #[.slice none 0 0, .int .i64 10])) W) := HF
   have HT := Lib.hid ht
   clear HF ht htx
   go_enter Tryz.func30, Tryz.ntmps30
   go_wp2_with fail
   refine HT.out.mono ?_
   rintro e w1 ⟨rfl, hb1⟩
   have HB := Lib.hid hb1
   clear hb1
   go_wp2_with fail
   exact HFE.out _ HB.out
  ·have htt : txD l = true := by simpa using htx
   rw [if_neg htx] at hF
   rw [htt] at ht
   have HT := Lib.hid ht
   have hll := lines_le _ l (Nat.le_refl _)
   have hlt : txD (linesL l) = true := by rw [lines_tx _ l (Nat.le_refl _)]; exact htt
   have HL := Lib.hid (fun (w1 : World) (h : Below w.heap.size w w1) => lines_any l w1 (by omega) (hG.1.2.1.below h))
   have HPZ := Lib.hid (fun (R : Nat) (W : World) (hR : RdB R (linesL l) W) (hE : Env R W) => pieces_any R (linesL l) W hR (by omega) hlt hE)
   clear ht htt htx hG
   generalize linesL l = L at *
   rw [hF] at HPZ
   clear hF hlt
   go_enter Tryz.func30, Tryz.ntmps30
   go_wp2_with fail
   refine HT.out.mono ?_
   rintro e w1 ⟨rfl, hb1⟩
   have HL1 := Lib.hid (HL.out w1 hb1)
   have HB := Lib.hid hb1
   have hs1 := hb1.size
   clear hb1
   go_wp2_with fail
   refine HL1.out.mono ?_
   rintro e w2 ⟨rfl, hb2⟩
   have HB2 := Lib.hid (HB.out.trans (hb2.mono hs1))
   have hs2 := hb2.size
   clear hb2
   obtain ⟨W3, hW3⟩ : ∃ W3, W3 = w2.alloc (.cells #[.string (bs L)] 82) := ⟨_, rfl⟩
   have hb3 : Below w2.heap.size w2 W3 := by rw [hW3]; exact (Below.refl _ _).alloc (Nat.le_refl _) _
   have hr3 : RdB w2.heap.size L W3 := by rw [hW3]; exact ⟨by go_simp, by go_simp, by simp⟩
   have hbw : Below w.heap.size w W3 := HB2.out.trans (hb3.mono (by omega))
   have HC := Lib.hid (HPZ.out w2.heap.size W3 hr3 ⟨w, HG.out, hbw, by omega⟩)
   have HB3 := Lib.hid hbw
   have hs3 := hb3.size
   have HW3 := Lib.hid hW3
   clear hb3 hr3 hbw hW3
   go_wp2_with fail
   rw [← HW3.out]
   cases G with
   | inl err =>
    have HFE : Hid (∀ W, Below w.heap.size w W → P (.returned (.tuple #[.slice none 0 0, .int .i64 (err : Int)])) W) := HF
    have HC2 : Hid (Calls Tryz.prog 55 #[.pointer (some ⟨w2.heap.size, 0, none⟩)] W3 fun e w' => e = .returned (.tuple #[.slice none 0 0, .int .i64 (err : Int)]) ∧ But w2.heap.size W3 w') := HC
    clear HF HC HPZ
    refine HC2.out.mono ?_
    rintro e w4 ⟨rfl, hb4⟩
    have HB4 := Lib.hid (HB3.out.trans (hb4.1.mono (by omega)))
    clear hb4
    go_wp2_with fail
    exact HFE.out _ HB4.out
   | inr ts =>
    have HFE : Hid (∀ (W : World) (xs : List TkV) (o : Option Addr) (i j : Nat), xs.map (·.1) = ts → OwnsTk w.heap.size W (.slice o i j) xs → ApartT xs → Below w.heap.size w W → P (.returned (.tuple #[.slice o i j, .int .i64 0])) W) := HF
    have HC2 : Hid (Calls Tryz.prog 55 #[.pointer (some ⟨w2.heap.size, 0, none⟩)] W3 fun e w' => ∃ (xs : List TkV) (o : Option Addr) (i j : Nat), xs.map (·.1) = ts ∧ e = .returned (.tuple #[.slice o i j, .int .i64 0]) ∧ OwnsTk W3.heap.size w' (.slice o i j) xs ∧ But w2.heap.size W3 w' ∧ ApartT xs) := HC
    clear HF HC HPZ
    refine HC2.out.mono ?_
    rintro e w4 ⟨xs, o, i, j, hx, rfl, ho, hb4, hap⟩
    have HB4 := Lib.hid (HB3.out.trans (hb4.1.mono (by omega)))
    have HO : Hid (OwnsTk w.heap.size w4 (.slice o i j) xs) := Lib.hid (ho.low (by omega))
    have HX := Lib.hid hx
    have HAP := Lib.hid hap
    clear hb4 ho hx hap
    go_wp2_with fail
    exact HFE.out _ xs o i j HX.out HO.out HAP.out HB4.out
theorem scan_any (l : List UInt8) (w : World) (hz : l.length ≤ 9223372036854775807) (hG : Gl6 w) :
  Calls Tryz.prog 30 #[.string (bs l)] w (ScPost l w) := by
 refine (scanA_any l w hz hG).mono ?_
 intro e w' h
 unfold ScPostA at h
 unfold ScPost
 cases hs : scanL l with
 | inl err => rw [hs] at h; exact h
 | inr ts =>
  rw [hs] at h
  obtain ⟨xs, o, i, j, h1, h2, h3, _, h4⟩ := h
  exact ⟨xs, o, i, j, h1, h2, h3, h4⟩
end Char
end Go.Proofs.YtlmodgnkmlbjhaaGreatDoor
