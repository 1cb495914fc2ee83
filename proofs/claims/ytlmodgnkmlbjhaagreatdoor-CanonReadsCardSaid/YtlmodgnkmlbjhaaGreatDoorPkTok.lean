import Derived.Test.YtlmodgnkmlbjhaaGreatDoorPkStart
import Derived.Laws.StructEq
import Derived.Deep.QuietTactic
import Derived.BigQuiet
namespace Go.Proofs.YtlmodgnkmlbjhaaGreatDoor
namespace Char
open Go.RowKit Go.Lib
abbrev TkV := Tk × Value
def tkC (x : TkV) : List Value := [.int .i64 x.1.kd, .string (bs x.1.nm), .string (bs x.1.tx), x.2, .bool x.1.em]
def tksC (xs : List TkV) : List Value := xs.flatMap tkC
theorem tksC_len (xs : List TkV) : (tksC xs).length = xs.length * 5 := by
 induction xs with
 | nil => rfl
 | cons x r ih =>
  show (tkC x ++ tksC r).length = _
  rw [List.length_append, ih, List.length_cons]
  show 5 + _ = _
  omega
theorem tksC_snoc (xs : List TkV) (x : TkV) : tksC (xs ++ [x]) = tksC xs ++ tkC x := by simp [tksC]
theorem tksC_at : ∀ (xs : List TkV) (k i : Nat) (h : k < xs.length) (_ : i < 5), (tksC xs)[k * 5 + i]? = (tkC xs[k])[i]?
 | [], k, _, h, _ => by simp at h
 | x :: r, 0, i, _, hi => by
  show (tkC x ++ tksC r)[0 * 5 + i]? = _
  rw [show 0 * 5 + i = i by omega, List.getElem?_append_left (by show i < 5; exact hi)]
  rfl
 | x :: r, k + 1, i, h, hi => by
  have ih := tksC_at r k i (by simpa using h) hi
  show (tkC x ++ tksC r)[(k + 1) * 5 + i]? = _
  rw [List.getElem?_append_right (by show 5 ≤ _; omega), show (k + 1) * 5 + i - (tkC x).length = k * 5 + i by show (k + 1) * 5 + i - 5 = _; omega, ih]
  rfl
theorem at_ne_tok : (40 : TypeId) ≠ 72 := by decide
def OwnsTk (B : Nat) (w : World) (v : Value) (xs : List TkV) : Prop := w.ownsRow B 72 5 v xs.length (tksC xs) ∧ ∀ x, x ∈ xs → OwnsAt B w x.2 x.1.ats
theorem OwnsTk.nil (B : Nat) (w : World) : OwnsTk B w (.slice none 0 0) [] := ⟨World.ownsRow_nil _ _ _ _, fun _ h => by cases h⟩
theorem OwnsAt.keepB {B : Nat} {w w' : World} {v : Value} {qs : List At2} (h : OwnsAt B w v qs) (hk : ∀ k, B ≤ k → k < w.heap.size → (∃ cur, w.heap[k]? = some (.cells cur 40 (0, 0))) → w'.heap[k]? = w.heap[k]?) : OwnsAt B w' v qs := by
 refine ⟨h.1, ?_⟩
 rcases h.2 with h0 | ⟨g, cap, cur, e1, e2, hg, e3⟩
 ·exact .inl h0
 ·exact .inr ⟨g, cap, cur, e1, e2, (hk g e2 (Array.getElem?_eq_some_iff.1 hg).1 ⟨cur, hg⟩).trans hg, e3⟩
theorem OwnsTk.keep {B : Nat} {w w' : World} {v : Value} {xs : List TkV} (h : OwnsTk B w v xs) (hk : ∀ k, B ≤ k → k < w.heap.size → w'.heap[k]? = w.heap[k]?) : OwnsTk B w' v xs := by
 obtain ⟨⟨h1, h2⟩, h3⟩ := h
 refine ⟨⟨h1, ?_⟩, fun x hx => (h3 x hx).keep hk⟩
 rcases h2 with h0 | ⟨g, cap, cur, e1, e2, hg, e3⟩
 ·exact .inl h0
 ·exact .inr ⟨g, cap, cur, e1, e2, (hk g e2 (Array.getElem?_eq_some_iff.1 hg).1).trans hg, e3⟩
theorem OwnsTk.low {B B' : Nat} {w : World} {v : Value} {xs : List TkV} (h : OwnsTk B w v xs) (hB : B' ≤ B) : OwnsTk B' w v xs := by
 obtain ⟨⟨h1, h2⟩, h3⟩ := h
 refine ⟨⟨h1, ?_⟩, fun x hx => (h3 x hx).low hB⟩
 rcases h2 with h0 | ⟨g, cap, cur, e1, e2, hg, e3⟩
 ·exact .inl h0
 ·exact .inr ⟨g, cap, cur, e1, by omega, hg, e3⟩
theorem OwnsTk.form {B : Nat} {w : World} {v : Value} {xs : List TkV} (h : OwnsTk B w v xs) : ∃ o i j, v = .slice o i j := by
 rcases h.1.2 with ⟨h0, _⟩ | ⟨g, cap, cur, e1, _⟩
 ·exact ⟨_, _, _, h0⟩
 ·exact ⟨_, _, _, e1⟩
theorem OwnsTk.below {B : Nat} {w w' : World} {v : Value} {xs : List TkV} (h : OwnsTk B w v xs) (hb : Below w.heap.size w w') : OwnsTk B w' v xs := h.keep (fun k _ hk => hb.block k hk)
theorem OwnsTk.len {B : Nat} {w : World} {o : Option Addr} {i j : Nat} {xs : List TkV} (h : OwnsTk B w (.slice o i j) xs) : i = xs.length := by
 rcases h.1.2 with ⟨h1, h2⟩ | ⟨g, cap, cur, e1, _⟩
 ·simp only [Value.slice.injEq] at h1; omega
 ·simp only [Value.slice.injEq] at e1; omega
theorem OwnsTk.reads {B : Nat} {w : World} {o : Option Addr} {i j : Nat} {xs : List TkV} (h : OwnsTk B w (.slice o i j) xs) (k : Nat) (hk : k < xs.length) :
  ∃ g, o = some ⟨g, 0, none⟩ ∧ B ≤ g ∧ g < w.heap.size ∧ w.cell? ⟨g, k * 5, none⟩ = some (.int .i64 xs[k].1.kd) ∧ w.cell? ⟨g, k * 5 + 1, none⟩ = some (.string (bs xs[k].1.nm)) ∧ w.cell? ⟨g, k * 5 + 2, none⟩ = some (.string (bs xs[k].1.tx)) ∧
   w.cell? ⟨g, k * 5 + 3, none⟩ = some xs[k].2 ∧ w.cell? ⟨g, k * 5 + 4, none⟩ = some (.bool xs[k].1.em) := by
 have h0 := h.1
 obtain ⟨⟨_, h1 | ⟨g, cap, cur, e1, e2, hg, _⟩⟩, _⟩ := h
 ·omega
 ·simp only [Value.slice.injEq] at e1
  have hc := World.ownsRow.cells h0 (g := g) (by rw [e1.1]; rfl)
  have key : ∀ n, n < 5 → ∀ u, (tkC xs[k])[n]? = some u → w.cell? ⟨g, k * 5 + n, none⟩ = some u := fun n hn u hu => by
   have := hc (k * 5 + n) u ((tksC_at xs k n hk hn).trans hu)
   rwa [Addr.add_lit, Nat.zero_add] at this
  exact ⟨g, e1.1, e2, (Array.getElem?_eq_some_iff.1 hg).1, key 0 (by omega) _ rfl, key 1 (by omega) _ rfl, key 2 (by omega) _ rfl, key 3 (by omega) _ rfl, key 4 (by omega) _ rfl⟩
theorem info_tk : (Tryz.prog.info? 72).map (fun i => (i.zero, i.size, i.bytes)) = some (some (.agg #[.int .i64 0, .string ⟨#[]⟩, .string ⟨#[]⟩, .slice none 0 0, .bool false]), 5, 72) := by kernel_rfl
theorem wpList_pushTk {ops : Array Oper} {rest : List Oper} {o : Oper} {a : Act} {Q : Exit → Act → World → Prop} {B : Nat} {W : World} {v : Value} {xs : List TkV}
  (hgd : o.guard = none) (s x : Operand) (ho : o.op = .call { callee := .builtin .append, args := #[s, x], argTypes := #[62, 62] })
  (kd : Int) (n t : List UInt8) (qs : List At2) (oa : Option Addr) (ia ja : Nat) (em : Bool) (hown : OwnsTk B W v xs) (hat : OwnsAt B W (.slice oa ia ja) qs) (hs : a.eval s = v) (hx : a.eval x = .slice (some ⟨W.heap.size, 0, none⟩) 1 1) (hB : B ≤ W.heap.size) (hlen : xs.length ≤ 100000)
  (h : ∀ v' w1, OwnsTk B w1 v' (xs ++ [(⟨kd, n, t, qs, em⟩, .slice oa ia ja)]) → Below B W w1 → (∀ k, k < W.heap.size → some k ≠ v.ownBlock → w1.heap[k]? = W.heap[k]?) → wpList Tryz.prog ops Q rest (a.put o.dst v') w1) :
  wpList Tryz.prog ops Q (o :: rest) a (W.alloc (.cells #[.int .i64 kd, .string (bs n), .string (bs t), .slice oa ia ja, .bool em] 72)) := by
 obtain ⟨i0, hi, hz0, hz1, hz2⟩ := info_parts info_tk
 refine wpList_append_own _ hgd s x 62 ho B 72 i0 (.agg #[.int .i64 0, .string ⟨#[]⟩, .string ⟨#[]⟩, .slice none 0 0, .bool false]) 5 72 Tryz.underlying62 hi hz0 hz1 hz2 rfl (by decide) v xs.length (tksC xs) hs (World.ownsRow.alloc hown.1 _) ⟨W.heap.size, 0, none⟩ 1 1 (tkC (⟨kd, n, t, qs, em⟩, .slice oa ia ja)) hx rfl ?_ ?_ ?_ ?_ ?_ ?_
 ·intro j u hj
  match j, hj with
  | 0, hj => simp [tkC] at hj; subst hj; simp [Addr.add]
  | 1, hj => simp [tkC] at hj; subst hj; simp [Addr.add]
  | 2, hj => simp [tkC] at hj; subst hj; simp [Addr.add]
  | 3, hj => simp [tkC] at hj; subst hj; simp [Addr.add]
  | 4, hj => simp [tkC] at hj; subst hj; simp [Addr.add]
  | j + 5, hj => simp [tkC] at hj
 ·intro u hu
  simp [tkC] at hu
  rcases hu with rfl | rfl | rfl | rfl | rfl <;> rfl
 ·unfold maxLen; omega
 ·omega
 ·simp; omega
 ·intro v' w1 hown' hgrow _
  have hsz := hgrow.size
  rw [World.size_alloc] at hsz
  have hblk : ∀ k, k < W.heap.size → some k ≠ v.ownBlock → w1.heap[k]? = W.heap[k]? := fun k hk hne => by
   rw [hgrow.block k (by simp; omega) (fun e => hne e)]
   exact Below.heap_alloc W _ k hk
  have hatk : ∀ k, B ≤ k → k < W.heap.size → (∃ cur, W.heap[k]? = some (.cells cur 40 (0, 0))) → w1.heap[k]? = W.heap[k]? := fun k _ hk ⟨cur, hc⟩ => hblk k hk (fun e => by
   rcases hown.1.2 with ⟨h0, _⟩ | ⟨g, cap, cur2, e1, _, hg, _⟩
   ·rw [h0] at e; cases e
   ·rw [e1] at e
    simp [Value.ownBlock] at e
    subst e
    rw [hc] at hg
    simp only [Option.some.injEq, Obj.cells.injEq] at hg
    exact at_ne_tok hg.2.1)
  refine h v' w1 ⟨?_, ?_⟩ (((Below.refl _ _).alloc hB _).grown hgrow (by simp; omega) (fun k hk => by
   rcases hown.1.2 with ⟨rfl, _⟩ | ⟨g, cap, cur, rfl, hg, _⟩
   ·simp [Value.ownBlock] at hk
   ·simp [Value.ownBlock] at hk; omega)) hblk
  ·rw [List.length_append, tksC_snoc]
   exact hown'
  ·intro x hx
   rw [List.mem_append, List.mem_singleton] at hx
   rcases hx with hx | rfl
   ·exact (hown.2 x hx).keepB hatk
   ·exact hat.keepB hatk
end Char
namespace Char
open Go.RowKit Go.Lib
theorem ne_attr (a b : ByteArray) (w : World) : (binOp .neq 40 (.agg #[.string a, .string b]) (.agg #[.string a, .string b])).run Tryz.prog w = .ok (.bool false) w := by
 have u9 := Tryz.underlying9
 have a9 := Tryz.isAgg9
 have z9 := Tryz.sizeOf9
 have hS : Tryz.prog.underlying 40 = some (.struct (Tryz.prog.fieldsOf 40)) := by kernel_rfl
 have hp : Tryz.prog.stoodInHeld 40 = false := by kernel_rfl
 rw [run_neq_struct, show (10000 : Nat) = 9999 + 1 from rfl, run_equalIn_agg w 9999 40 _ _ hS hp]
 simp only [Program.fieldsOf, Tryz.underlying40]
 go_simp
theorem guard_attr (x y : Operand) (a b c d : ByteArray) (w : World) : (eqGuard .neq 40 x y (.agg #[.string a, .string b]) (.agg #[.string c, .string d])).run Tryz.prog w = .ok () w :=
 run_eqGuard_agg w .neq 40 x y _ _ (by kernel_rfl)
set_option maxRecDepth 100000 in
set_option maxHeartbeats 4000000 in
theorem sameAttrs_any (qs : List At2) (B1 B2 : Nat) (o1 : Option Addr) (i1 j1 : Nat) (o2 : Option Addr) (i2 j2 : Nat) (w : World) (hq : qs.length ≤ 100000) (h1 : OwnsAt B1 w (.slice o1 i1 j1) qs) (h2 : OwnsAt B2 w (.slice o2 i2 j2) qs) :
  Calls Tryz.prog 25 #[.slice o1 i1 j1, .slice o2 i2 j2] w fun e w' => e = .returned (.bool true) ∧ ∃ n, w' = w.drewN n := by
 obtain rfl := h1.len
 obtain rfl := h2.len
 have H1 := Lib.hid h1
 have H2 := Lib.hid h2
 clear h1 h2
 go_enter Tryz.func25, Tryz.ntmps25
 go_wp2_with fail
 go_loopw [5] (fun v wr => ∃ j : Nat, v = .int .i64 (j : Int) ∧ j ≤ qs.length ∧ ∃ n, wr = w.drewN n) (fun v _ => qs.length - (RowKit.intOf v).toNat)
 case atStart => exact ⟨0, rfl, Nat.zero_le _, 0, rfl⟩
 case round =>
  obtain ⟨j, rfl, hj, n, rfl⟩ := hrel
  by_cases hlt : j < qs.length
  ·obtain ⟨g1, rfl, _, hg1, r0, r1⟩ := H1.out.reads j hlt
   obtain ⟨g2, rfl, _, hg2, s0, s1⟩ := H2.out.reads j hlt
   generalize qs.getD j ([], []) = x at *
   have hne := fun wx => ne_attr (bs x.1) (bs x.2) wx
   have hgu := fun a b wx => guard_attr a b (bs x.1) (bs x.2) (bs x.1) (bs x.2) wx
   go_wp2_with fail
   go_quiet (fail)
   go_wp2_with fail
   go_roundw
   case rel => exact ⟨j + 1, by go_num, by omega, _, rfl⟩
   case measure => simp [RowKit.intOf]; omega
  ·go_wp2_with fail
   go_ret
   exact ⟨rfl, n, rfl⟩
end Char
end Go.Proofs.YtlmodgnkmlbjhaaGreatDoor
