/- The walk of the statement on numbers as texts as numbers. -/
import Derived.Test.YtgoicjeegfflpaaDoorToV
import Derived.Test.YtgoicjeegfflpaaDoorRefSmall
namespace Go.Proofs.YtgoicjeegfflpaaDoor.Char
open Go.RowKit Go.Lib

theorem tx_len16 (n k : Nat) (h : n < 10 ^ (k + 1)) : (tx n).length ≤ k + 1 := by
  rw [tx_step, List.length_append, List.length_singleton, txs_lo, lo_length]
  have : (dg (n / 10)).length ≤ k := dg_len_le _ k (by rw [Nat.div_lt_iff_lt_mul (by omega), ← Nat.pow_succ]; exact h)
  omega
theorem dcells {W : World} {p : Nat} {x y : Value} {T : TypeId} (h : W.heap[p]? = some (.cells #[x, y] T (0, 0))) : W.cell? ⟨p, 0, none⟩ = some x ∧ W.cell? ⟨p, 1, none⟩ = some y := ⟨by simp [World.cell?, h], by simp [World.cell?, h]⟩
theorem show_len16 : ∀ x : Nm, okD x → (showB x).length ≤ 30
  | .nan, _ => by decide
  | .over, _ => by decide
  | .under, _ => by decide
  | .num n, h => by
    have hb : -9223372036854775807 ≤ n ∧ n ≤ 9223372036854775807 := h
    show (showN n).length ≤ 30
    unfold showN bodyB
    have h1 := (fr_pad 6 n.natAbs).1
    have h2 := tx_len16 (n.natAbs / 10 ^ 6) 12 (by omega)
    generalize fr 6 n.natAbs = F at *
    rw [List.length_append, List.length_append]
    have h3 : (if n < 0 then ([45] : List UInt8) else []).length ≤ 1 := by split <;> simp
    have h4 : (if F = [] then ([] : List UInt8) else 46 :: F).length ≤ 7 := by
      split
      · simp
      · rw [List.length_cons]; omega
    omega
set_option maxRecDepth 100000 in
set_option maxHeartbeats 4000000 in
theorem works16_any (w : World) (hT : Tabs w) : Calls Tryd.prog 11 #[] w fun e w' => e = .returned (.bool true) ∧ Below w.heap.size w w' := by
  have H1 := Lib.hid fun W => toStr_num (.pointer none) false 0 2500000 ⟨#[]⟩ W (by omega)
  rw [show bs (showB (toD 0 2500000)) = ⟨#[50, 46, 53]⟩ by rfl] at H1
  have H2 := Lib.hid fun W (hW : Below w.heap.size w W) => toNum_str false 0 0 [32, 55, 32] W (by decide) (hT.below hW)
  rw [show readD [32, 55, 32] = .num 7000000 by rfl] at H2
  unfold decV outT outV at H2
  clear hT
  go_enter Tryd.func11, Tryd.ntmps11
  go_wp2_with (first
    | (go_at_call 6
       refine (mkNum_any 0 2500000 _).mono ?_
       rintro e w1 ⟨rfl, hb⟩
       have HB1 := Lib.hid hb
       clear hb)
    | (go_at_call 5
       refine (H1.out _).mono ?_
       rintro e w2 ⟨rfl, hb⟩
       have HB2 := Lib.hid (HB1.out.trans (hb.mono HB1.out.size))
       clear hb)
    | (go_at_call 4
       refine (mkStr_any ⟨#[32, 55, 32]⟩ w2).mono ?_
       rintro e w3 ⟨rfl, hb⟩
       have HB3 := Lib.hid (HB2.out.trans (hb.mono HB2.out.size))
       clear hb)
    | (go_at_call 8
       refine (H2.out w3 HB3.out).mono ?_
       rintro e w4 ⟨rfl, hb⟩
       have HB4 := Lib.hid (HB3.out.trans (hb.mono HB3.out.size))
       clear hb)
    | (go_at_call 4
       refine (mkStr_any ⟨#[97]⟩ w4).mono ?_
       rintro e w5 ⟨rfl, hb⟩
       have HB5 := Lib.hid (HB4.out.trans (hb.mono HB4.out.size))
       clear hb)
    | (go_at_call 9
       refine (toBool_str false 0 0 w5).mono ?_
       rintro e w6 ⟨rfl, hb⟩
       have HB6 := Lib.hid (HB5.out.trans (hb.mono HB5.out.size))
       clear hb))
  go_ret
  exact ⟨rfl, HB6.out⟩
set_option maxRecDepth 100000 in
set_option maxHeartbeats 8000000 in
theorem valueBack_law (g v : Int) (b : Bool) (w : World) (h : -9223372036854775808 ≤ v ∧ v ≤ 9223372036854775807) (hT : Tabs w) :
    Calls Tryd.prog 3 #[.agg #[.int .i64 g, .int .i64 v], .bool b] w fun e w' => e = .returned (.bool true) ∧ Below w.heap.size w w' := by
  have hok := toD_ok g v h
  have hrs := read_show (toD g v) hok
  have hlen := show_len16 (toD g v) hok
  have H1 := Lib.hid fun W => toStr_num (.pointer none) false g v ⟨#[]⟩ W h
  have HT := Lib.hid hT
  have H2' := fun W (hW : Tabs W) => toNum_str false 0 0 (showB (toD g v)) W (by omega) hW
  rw [hrs] at H2'
  have H3 := Lib.hid fun W => refRight_any g v W
  unfold aggV at H3
  have H4 : Hid (∀ W, Calls Tryd.prog 8 #[.pointer none, .agg #[.int .i64 2, .slice none 0 0, .bool b, .int .i64 0, .int .i64 0, .string ⟨#[]⟩]] W fun e w' => e = .returned (.agg #[.int .i64 0, .int .i64 (if b then 1000000 else 0)]) ∧ Below W.heap.size W w') := Lib.hid fun W => by
    cases b with
    | true => exact toNum_true _ 0 0 _ W
    | false => exact toNum_false _ 0 0 _ W
  have H5 : Hid (∀ W, Calls Tryd.prog 9 #[.agg #[.int .i64 3, .slice none 0 0, .bool false, .int .i64 0, .int .i64 (if b then 1000000 else 0), .string ⟨#[]⟩]] W fun e w' => e = .returned (.bool b) ∧ Below W.heap.size W w') := Lib.hid fun W => by
    cases b with
    | true => exact toBool_one false _ W
    | false => exact toBool_nought false _ W
  obtain ⟨N, hN⟩ : ∃ N : Int, (if b then 1000000 else 0) = N := ⟨_, rfl⟩
  rw [hN] at H4 H5
  generalize bs (showB (toD g v)) = S at *
  have hk0 : ((b == b) : Bool) = true := by simp
  clear hT hN hok hlen
  rcases toD_cases g v with ⟨rfl, h2, e, er⟩ | ⟨rfl, rfl, e, er⟩ | ⟨rfl, rfl, e, er⟩ | ⟨rfl, rfl, e, er⟩ | ⟨_, _, _, _, e, er⟩
  all_goals
    rw [e] at H2' hrs
    rw [er] at H3
    have H2 := Lib.hid H2'
    unfold decV outT outV at H2
    simp only at H2
    clear H2' e er h hrs
    go_enter Tryd.func3, Tryd.ntmps3
    go_wp2_with (first
      | (go_at_call 6
         refine (mkNum_any _ _ _).mono ?_
         rintro e w1 ⟨rfl, hb⟩
         have hk1 := blk_call (heap_alloc_new w _) hb
         have HK1 := Lib.hid hk1
         have HB1 := Lib.hid ((below_box w _).trans (hb.mono (by simp)))
         clear hb hk1)
      | (go_at_call 5
         refine (H1.out _).mono ?_
         rintro e w2 ⟨rfl, hb⟩
         have HK2 := Lib.hid (blk_call HK1.out hb)
         have HB2 := Lib.hid (HB1.out.trans (hb.mono HB1.out.size))
         clear hb)
      | (go_at_call 4
         refine (mkStr_any S w2).mono ?_
         rintro e w3 ⟨rfl, hb⟩
         have HK3 := Lib.hid (blk_call HK2.out hb)
         have HB3 := Lib.hid (HB2.out.trans (hb.mono HB2.out.size))
         clear hb))
    obtain ⟨W0, hW0⟩ : ∃ W0, W0 = w3.alloc (boxVa 4 false 0 0 S) := ⟨_, rfl⟩
    have hs0 : W0.heap[w3.heap.size]? = some (boxVa 4 false 0 0 S) := by rw [hW0]; exact heap_alloc_new w3 _
    have hd0 := blk_call HK3.out (show Below w3.heap.size w3 W0 by rw [hW0]; exact below_box w3 _)
    have hsl : w3.heap.size < W0.heap.size := (Array.getElem?_eq_some_iff.1 hs0).1
    have hdl : w.heap.size < W0.heap.size := (Array.getElem?_eq_some_iff.1 hd0).1
    obtain ⟨⟨c0, c1, c2, c3, c4, c5⟩, _⟩ := boxVa_blk hs0
    obtain ⟨a0, a1⟩ := dcells hd0
    have A0 := fun q : KeptT W0 => q.cell a0 hdl
    have A1 := fun q : KeptT W0 => q.cell a1 hdl
    have C0 := fun q : KeptT W0 => q.cell c0 hsl
    have C1 := fun q : KeptT W0 => q.cell c1 hsl
    have C2 := fun q : KeptT W0 => q.cell c2 hsl
    have C3 := fun q : KeptT W0 => q.cell c3 hsl
    have C4 := fun q : KeptT W0 => q.cell c4 hsl
    have C5 := fun q : KeptT W0 => q.cell c5 hsl
    have hbw : Below w.heap.size w W0 := by rw [hW0]; exact HB3.out.alloc HB3.out.size _
    have OK : Hid (∀ q : KeptT W0, Below w.heap.size w q.at) := Lib.hid (fun q => hbw.trans (q.ok.mono hbw.size))
    unfold boxVa at hW0
    have HW0 := Lib.hid hW0
    clear hW0 hs0 hd0 hsl hdl c0 c1 c2 c3 c4 c5 a0 a1 hbw
    haveI : Nonempty (KeptT W0) := ⟨⟨W0, Below.refl _ _⟩⟩
    rw [← HW0.out]
    refine wp_region_kept (KeptT W0) KeptT.at (by kernel_rfl) (by kernel_rfl) ⟨⟨W0.drew, (Below.refl _ _).drew⟩, rfl⟩ ?_
    repeat (go_big_quiet_step (first
      | (go_at_call 7; rename_i q; with_reducible exact (H3.out q.at).mono (fun e w' h => ⟨h.1, q.on h.2⟩))
      | (go_at_call 8; rename_i q; with_reducible exact (H2.out q.at (HT.out.below (OK.out q))).mono (fun e w' h => ⟨h.1, q.on h.2⟩))))
    refine wpQuiet_nil ?_
    rintro w' ⟨q, rfl⟩
    have HQ := Lib.hid (OK.out q)
    generalize q.at = W1 at *
    clear A0 A1 C0 C1 C2 C3 C4 C5 OK HW0
    go_wp2_with (first
      | (go_at_call 10
         refine (mkBool_any b _).mono ?_
         rintro e w4 ⟨rfl, hb⟩
         have HB4 := Lib.hid (HQ.out.trans (hb.mono HQ.out.size))
         clear hb)
      | (go_at_call 8
         refine (H4.out w4).mono ?_
         rintro e w5 ⟨rfl, hb⟩
         have HB5 := Lib.hid (HB4.out.trans (hb.mono HB4.out.size))
         clear hb)
      | (go_at_call 6
         refine (mkNum_any 0 N w5).mono ?_
         rintro e w6 ⟨rfl, hb⟩
         have HB6 := Lib.hid (HB5.out.trans (hb.mono HB5.out.size))
         clear hb)
      | (go_at_call 9
         refine (H5.out w6).mono ?_
         rintro e w7 ⟨rfl, hb⟩
         have HB7 := Lib.hid (HB6.out.trans (hb.mono HB6.out.size))
         clear hb)
      | (go_at_call 11
         refine (works16_any w7 (HT.out.below HB7.out)).mono ?_
         rintro e w8 ⟨rfl, hb⟩
         have HB8 := Lib.hid (HB7.out.trans (hb.mono HB7.out.size))
         clear hb))
    go_ret
    exact ⟨rfl, HB8.out⟩
end Go.Proofs.YtgoicjeegfflpaaDoor.Char
