/- BldV ValueV NoneV NoneV2 OnceM OnceX -/
import Derived.Test.YtkackejipgabfaaPk14
import Derived.Test.YtkackejipgabfaaPk10
import Derived.Lib.OthersKept
import Derived.Lib.BufferMore
import Derived.Shelf.Strings.BuilderK
import Derived.Test.YtkackejipgabfaaPk11
import Derived.Test.YtkackejipgabfaaPk04
import Derived.Test.YtkackejipgabfaaPk05
import Derived.Shelf.Abstract
/- A Builder that a loop over an iterator writes: where its bytes lie. -/
namespace Go.Proofs.Ytkackejipgabfaa.Char
open Go.RowKit Go.Lib Go.Shelf

/-- append to bytes of one's own: they lie where they lay, or in a new block -/
theorem run_str_at {P : Program} (w : World) (base : Nat) (t u ty e : TypeId) (i : TypeInfo) (ht : P.underlying t = some (.slice e)) (hu : P.underlying u = some .string) (hi : P.info? e = some i) (hz : i.zero = some (.int .u8 0))
    (hsize : i.size = 1) (hby : i.bytes = 1) (v : Value) (n : Nat) (xs : List Value) (hown : w.ownsRowF base e 1 v n xs) (s : ByteArray)
    (h63 : n + s.size ≤ maxLen) (hbytes : n + s.size ≤ 140737488355328) (hbase : base ≤ w.heap.size) :
    ∃ v' w', (Builtin.append_ #[t, u] ty #[v, .string s]).run P w = .ok v' w' ∧ w'.ownsRowF base e 1 v' (n + s.size) (xs ++ strCells s) ∧ w.grownBy w' v.ownBlock ∧ (∀ g, v'.ownBlock = some g → v.ownBlock = some g ∨ w.heap.size ≤ g) := by
  rcases hown.2 with ⟨rfl, rfl⟩ | ⟨g, cap, cur, fz, rfl, hbg, hg, hfz, hnc, hcm, hcs, htake⟩
  · obtain ⟨v', w', h1, h2, h3, h4⟩ := run_append_own_string (P := P) w w.heap.size t u ty e i ht hu hi hz hsize hby (.slice none 0 0) 0 xs ⟨hown.1, .inl ⟨rfl, rfl⟩⟩ s h63 hbytes (Nat.le_refl _)
    have h2 := World.ownsRowF_of h2
    refine ⟨v', w', h1, ⟨h2.1, h2.2.imp (fun h => h) fun ⟨g, cap, cur, fz, p1, p2, p3⟩ => ⟨g, cap, cur, fz, p1, Nat.le_trans hbase p2, p3⟩⟩, h3, fun g hg => .inr ?_⟩
    rcases h2.2 with ⟨rfl, _⟩ | ⟨g', cap, cur, fz, rfl, p2, _⟩
    · cases hg
    · simp only [Value.ownBlock, Option.some.injEq] at hg
      omega
  · have hsmall : n + s.size ≤ 9223372036854775807 := by simp only [maxLen] at h63; omega
    have hxl : xs.length = n := by simpa using hown.1
    have hlen : (xs ++ strCells s).length = (n + s.size) * 1 := by rw [List.length_append, hxl, strCells_length, Nat.mul_one]
    by_cases hroom : n + s.size ≤ cap
    · have hcs' : cur.size = cap := by simpa using hcs
      have hr := run_append_room_stringF (P := P) w t u ty e i ht hu hi hsize g n cap cur fz hg (by simpa using hfz) s hroom (by omega)
      refine ⟨_, _, hr, ⟨hlen, .inr ⟨g, cap, _, fz, rfl, hbg, setRow_heap w g cur _ e _ hg, by omega, hroom, hcm, ?_, ?_⟩⟩, ⟨rfl, rfl, rfl, by simp, fun k _ hk => setRow_other w g k _ (fun e => hk (by simp [Value.ownBlock, e]))⟩, fun _ h => .inl h⟩
      · simp only [List.size_toArray, List.length_append, List.length_take, List.length_drop, Array.length_toList, strCells_length]
        omega
      · have ht' : cur.toList.take n = xs := by simpa using htake
        rw [ht', ← hlen]
        exact List.take_left
    · have holds : ∀ j u, xs[j]? = some u → w.cell? ((⟨g, 0, none⟩ : Addr).add j) = some u := hown.cells (g := g) rfl
      have hr := run_append_grow_string (P := P) w t u ty e i (.int .u8 0) ht hu hi hz ⟨g, 0, none⟩ n cap xs (by rw [hsize]; simpa using hxl) holds s (by omega) (by omega) (by rw [hby]; exact growslice_fits (by omega) (by omega))
      have hge := grownCap_ge w (n + s.size) cap e
      have hcm2 : grownCap w (n + s.size) cap e ≤ maxLen := grownCap_le_maxLen w (n + s.size) cap e h63
      refine ⟨_, _, hr, ⟨hlen, .inr ⟨w.heap.size, _, _, (0, 0), rfl, hbase, heap_alloc_new w.drew _, Nat.zero_le _, hge, hcm2, ?_, ?_⟩⟩, ⟨rfl, rfl, rfl, by simp, fun k hk _ => by first | exact heap_alloc_old w.drew _ k hk | exact heap_alloc_old w.drew _ hk⟩, fun g' h => .inr (by simp only [Value.ownBlock, Option.some.injEq] at h; omega)⟩
      · have hz1 : (Value.int IntKind.u8 0).cells.size = 1 := rfl
        simp only [Array.size_append, List.size_toArray, size_zeroCells, hz1, hxl, strCells_length]
        omega
      · simp only [Array.toList_append, List.append_assoc]
        rw [← List.append_assoc, ← hlen]
        exact List.take_left
/-- the operation, for the walk -/
theorem wpList_str_at {P : Program} {w : World} {ops : Array Oper} {rest : List Oper} {o : Oper} {a : Act} {Q : Exit → Act → World → Prop} (hgd : o.guard = none) (sl x : Operand) (t u : TypeId)
    (ho : o.op = .call { callee := .builtin .append, args := #[sl, x], argTypes := #[t, u] })
    (base : Nat) (e : TypeId) (i : TypeInfo) (ht : P.underlying t = some (.slice e)) (hu : P.underlying u = some .string) (hi : P.info? e = some i) (hz : i.zero = some (.int .u8 0))
    (hsize : i.size = 1) (hby : i.bytes = 1)
    (v : Value) (n : Nat) (xs : List Value) (hs : a.eval sl = v) (hown : w.ownsRowF base e 1 v n xs) (s : ByteArray) (hx : a.eval x = .string s)
    (h63 : n + s.size ≤ maxLen) (hbytes : n + s.size ≤ 140737488355328) (hbase : base ≤ w.heap.size)
    (h : ∀ v' w', w'.ownsRowF base e 1 v' (n + s.size) (xs ++ strCells s) → w.grownBy w' v.ownBlock → (∀ g, v'.ownBlock = some g → v.ownBlock = some g ∨ w.heap.size ≤ g) → wpList P ops Q rest (a.put o.dst v') w') : wpList P ops Q (o :: rest) a w := by
  refine wpList_plain hgd fun K hK => ?_
  obtain ⟨v', w', hr, h2, h3, h4⟩ := run_str_at (P := P) w base t u o.type e i ht hu hi hz hsize hby v n xs hown s h63 hbytes hbase
  unfold Oper.wp execOp
  simp only [ho, resolve, invoke, builtin, Sem.run_bind, Sem.run_pure, Result.andThen_ok, List.map_toArray, List.map_cons, List.map_nil, hs, hx, hr]
  exact hK _ _ (h v' w' h2 h3 h4)

/-- the builder at b holds these bytes, in a block from B on that is none of O -/
def BlV (B b : Nat) (O : Nat → Prop) (l : List UInt8) (w : World) : Prop :=
  ∃ p v, (p = .pointer none ∨ p = .pointer (some ⟨b, 0, none⟩)) ∧ w.heap[b]? = some (.cells #[p, v] 128 (0, 0)) ∧ w.ownsRowF B 5 1 v l.length (Lib.byteCells l) ∧ ∀ g, v.ownBlock = some g → ¬ O g
theorem owns_keep {B n : Nat} {v : Value} {xs : List Value} {w w' : World} (h : w.ownsRowF B 5 1 v n xs) (hk : ∀ g, v.ownBlock = some g → w'.heap[g]? = w.heap[g]?) : w'.ownsRowF B 5 1 v n xs := by
  refine ⟨h.1, h.2.imp (fun q => q) fun ⟨g, cap, cur, fz, p1, p2, p3, p4⟩ => ⟨g, cap, cur, fz, p1, p2, (hk g (by rw [p1]; rfl)).trans p3, p4⟩⟩
theorem owns_weak {B B' n : Nat} {v : Value} {xs : List Value} {w : World} (h : w.ownsRowF B 5 1 v n xs) (hB : B' ≤ B) : w.ownsRowF B' 5 1 v n xs :=
  ⟨h.1, h.2.imp (fun q => q) fun ⟨g, cap, cur, fz, p1, p2, p3⟩ => ⟨g, cap, cur, fz, p1, Nat.le_trans hB p2, p3⟩⟩
theorem BlV.step {B b : Nat} {O O' : Nat → Prop} {l : List UInt8} {W W' : World} (h : BlV B b O l W) (hs : ItStep O W O' W') (hb : b < W.heap.size) (hn : ¬ O b) : BlV B b O' l W' := by
  obtain ⟨p, v, hp, h1, h2, h3⟩ := h
  refine ⟨p, v, hp, (hs.keep b hb hn).trans h1, owns_keep h2 fun g hg => hs.keep g (h2.lt g hg).2 (h3 g hg), fun g hg ho => ?_⟩
  rcases hs.new g ho with q | q
  · exact h3 g hg q
  · have := (h2.lt g hg).2; omega
theorem lies_v : liesAt Try.prog (Program.depth Try.prog) 128 (2 / Try.prog.cellsOf 128) 0 128 1 = true := by kernel_rfl

set_option maxHeartbeats 1000000 in
set_option maxRecDepth 100000 in
theorem check_freshV (b : Nat) (w : World) (h0 : w.cell? ⟨b, 0, none⟩ = some (.pointer none)) (hsh : w.shape? b = some (128, 2)) (hfz : w.frozen? ⟨b, 0, none⟩ = false) :
    Calls Try.prog 91 #[.pointer (some ⟨b, 0, none⟩)] w fun e w' => e = .returned (.tuple #[]) ∧ w' = w.setCell ⟨b, 0, none⟩ (.pointer (some ⟨b, 0, none⟩)) := by
  obtain ⟨j, hj, hjs⟩ := Option.map_eq_some_iff.1 layWriteX.sizeBuilder
  go_enter Try.func91, Try.ntmps91
  go_wp2
  rw [Lib.run_to_unsafe w ⟨b, 0, none⟩ Try.underlying125 Try.underlying174 hj (by rw [hjs]; decide) hsh (Nat.zero_lt_succ 1)]
  simp only [Result.andThen]
  rw [Oper.upon_value]
  go_wp2
  rw [run_callFunc_extern Try.func116 (by kernel_rfl) (by kernel_rfl) (by kernel_rfl) (e := Extern.AbiNoEscape.same) (by kernel_rfl)]
  rw [Lib.run_noEscape]
  simp only [Result.andThen]
  rw [Oper.upon_value]
  go_wp2
  rw [Lib.run_from_unsafe w ⟨b, 0, none⟩ Try.underlying174 Try.underlying125 hj hsh lies_v]
  simp only [Result.andThen]
  rw [Oper.upon_value]
  go_wp2
  go_end0
  exact ⟨rfl, rfl⟩
theorem checkV_any (B b : Nat) (O : Nat → Prop) (l : List UInt8) (w : World) (h : BlV B b O l w) (hbB : b < B) :
    Calls Try.prog 91 #[.pointer (some ⟨b, 0, none⟩)] w fun e w' => e = .returned (.tuple #[]) ∧ w'.heap.size = w.heap.size ∧ (∀ k, k ≠ b → w'.heap[k]? = w.heap[k]?) ∧ Below b w w' ∧
      ∃ v, w'.heap[b]? = some (.cells #[.pointer (some ⟨b, 0, none⟩), v] 128 (0, 0)) ∧ w'.ownsRowF B 5 1 v l.length (Lib.byteCells l) ∧ ∀ g, v.ownBlock = some g → ¬ O g := by
  obtain ⟨p, v, hp, h1, h2, h3⟩ := h
  rcases hp with rfl | rfl
  · refine (check_freshV b w (by rw [Lib.cell_of_heap h1]; rfl) (by simp [World.shape?, h1]) (by rw [Lib.frozen_of_heap h1])).mono ?_
    rintro e w' ⟨rfl, rfl⟩
    refine ⟨rfl, World.size_setCell _ _ _, fun k hk => heap_set_ne (a := ⟨b, 0, none⟩) hk, (Below.refl b w).setCell (p := ⟨b, 0, none⟩) (Nat.le_refl _) _, v, ?_, owns_keep h2 fun g hg => heap_set_ne (a := ⟨b, 0, none⟩) (by have := (h2.lt g hg).1; show g ≠ b; omega), h3⟩
    rw [Lib.heap_setCell_same h1]
    rfl
  · refine (Any.Builder_copyCheck_used { layWrite with } layWriteX.toX72 b w (by rw [Lib.cell_of_heap h1]; rfl)).mono ?_
    rintro e w' ⟨rfl, rfl⟩
    exact ⟨rfl, rfl, fun _ _ => rfl, Below.refl b _, v, h1, h2, h3⟩

set_option maxHeartbeats 2000000 in
set_option maxRecDepth 100000 in
/-- WriteString -/
theorem wrV_any (B b : Nat) (O : Nat → Prop) (l s : List UInt8) (w : World) (h : BlV B b O l w) (hbB : b < B) (hlen : l.length + s.length ≤ 1000000000) (hBw : B ≤ w.heap.size) (hO : ∀ k, O k → k < w.heap.size) :
    Calls Try.prog 62 #[.pointer (some ⟨b, 0, none⟩), .string (bs s)] w fun e w' => e = .returned (.tuple #[.int .i64 (s.length : Int), .nilIface]) ∧ BlV B b O (l ++ s) w' ∧ Below b w w' ∧ ∀ k, k < w.heap.size → k ≠ b → (O k ∨ k < B) → w'.heap[k]? = w.heap[k]? := by
  have hsz := bs_size s
  have hlb := Lib.byteCells_length l
  obtain ⟨i0, hi, hz0, hz1, hz2⟩ := info_parts layWriteX.infoByte
  have e240 : ∀ args w, (callFunc 91 args).run Try.prog w = .ok (.enter 91 args) w := enters_of Try.func91 (by kernel_rfl) rfl
  have HC := Lib.hid (checkV_any B b O _ w h hbB)
  have hcat : Lib.byteCells l ++ Lib.strCells (bs s) = Lib.byteCells (l ++ s) := by rw [Lib.byteCells_append, Lib.strCells_eq]; rfl
  have HCAT := Lib.hid hcat
  clear hcat h
  generalize Lib.byteCells l = cs at *
  go_enter Try.func62, Try.ntmps62
  go_wp2_with (go_at_fn 91; refine HC.out.mono ?_)
  rintro e w1 ⟨rfl, hz1', hk1, hb1, v, hbk, hown, hvO⟩
  have c0 : w1.cell? ⟨b, 0, none⟩ = some (.pointer (some ⟨b, 0, none⟩)) := by rw [Lib.cell_of_heap hbk]; rfl
  have c1 : w1.cell? ⟨b, 1, none⟩ = some v := by rw [Lib.cell_of_heap hbk]; rfl
  go_wp2_with (at_builtin; refine wpList_str_at rfl _ _ 126 9 rfl B 5 i0 Try.underlying126 Try.underlying9 hi hz0 hz1 hz2 _ _ _ rfl hown (bs s) rfl ?c3 ?c4 ?c5 ?_)
  case c3 => unfold maxLen; omega
  case c4 => omega
  case c5 => omega
  intro v' w2 hown' hgrow hat
  have hlt : b < w1.heap.size := by omega
  have hvb : ∀ g, v.ownBlock = some g → B ≤ g := fun g hg => (hown.lt g hg).1
  have hb2 : w2.heap[b]? = some (.cells #[.pointer (some ⟨b, 0, none⟩), v] 128 (0, 0)) := by
    rw [hgrow.block b hlt (fun e => by have := hvb b e.symm; omega)]
    exact hbk
  have d0 : w2.cell? ⟨b, 0, none⟩ = some (.pointer (some ⟨b, 0, none⟩)) := by rw [Lib.cell_of_heap hb2]; rfl
  have d1 : w2.cell? ⟨b, 1, none⟩ = some v := by rw [Lib.cell_of_heap hb2]; rfl
  have f1 : w2.frozen? ⟨b, 1, none⟩ = false := Lib.frozen_of_heap hb2 1
  obtain ⟨ao, n', cap, rfl⟩ : ∃ ao n' cap, v' = .slice ao n' cap := by
    rcases hown'.2 with ⟨hv, _⟩ | ⟨g, cap, cur, fz, hv, _⟩
    · exact ⟨_, _, _, hv⟩
    · exact ⟨_, _, _, hv⟩
  go_wp2
  go_ret2
  have hge' : ∀ g, (Value.slice ao n' cap).ownBlock = some g → B ≤ g := fun g hg => (hown'.lt g hg).1
  refine ⟨rfl, ⟨_, .slice ao n' cap, .inr rfl, ?_, ?_, fun g hg ho => ?_⟩, ?_, fun k k1 k2 k3 => ?_⟩
  · rw [Lib.heap_setCell_same hb2]
    rfl
  · rw [List.length_append, ← HCAT.out]
    refine owns_keep ?_ fun g hg => heap_set_ne (a := ⟨b, 1, none⟩) (by have := hge' g hg; show g ≠ b; omega)
    exact hown'
  · rcases hat g hg with q | q
    · exact hvO g q ho
    · have := hO g ho; omega
  · exact (hb1.grown hgrow (by have := hb1.size; omega) (fun k hk => by have := hvb k hk; omega)).setCell (p := ⟨b, 1, none⟩) (Nat.le_refl _) _
  · refine (heap_set_ne (a := ⟨b, 1, none⟩) k2).trans ((hgrow.block k (by omega) (fun e => ?_)).trans (hk1 k k2))
    rcases k3 with q | q
    · exact hvO k e.symm q
    · have := hvb k e.symm; omega
/-- String -/
theorem outV_any (B b : Nat) (O : Nat → Prop) (l : List UInt8) (w : World) (h : BlV B b O l w) (hbB : b < B) (hBw : B ≤ w.heap.size) :
    Calls Try.prog 63 #[.pointer (some ⟨b, 0, none⟩)] w fun e w' => e = .returned (.string (bs l)) ∧ Below b w w' ∧ Lib.OthersKept 5 (some b) w w' := by
  obtain ⟨p, v, hp, h1, h2, _⟩ := h
  have h2' : w.ownsRowF b 5 1 v (Lib.byteCells l).length (Lib.byteCells l) := by rw [Lib.byteCells_length]; exact owns_weak h2 (by omega)
  have hat : ∀ q, w.heap[b]? = some (.cells #[q, v] 128 (0, 0)) → Lib.BuilderAtF 128 5 b b q (Lib.byteCells l) w := fun q hq => ⟨Nat.le_refl _, v, hq, h2', fun e => by have := (h2.lt b e).1; omega⟩
  refine (string_any b b l w (hp.imp (fun e => hat _ (by rw [e] at h1; exact h1)) (fun e => hat _ (by rw [e] at h1; exact h1))) (by omega)).mono ?_
  rintro e w' ⟨rfl, _, q, q2⟩
  exact ⟨rfl, q, q2⟩
end Go.Proofs.Ytkackejipgabfaa.Char

/- The walk of a view's Value, of the root or an element. -/
namespace Go.Proofs.Ytkackejipgabfaa.Char
open Go.RowKit Go.Lib Go.Shelf
attribute [local go_sem] Oper.semAt_some

/-- the texts of what is in a node, one behind the other -/
def txJ (l : List (Int × Rc)) : List UInt8 := l.flatMap fun x => if x.2.kd = 4 then x.2.tx else []
theorem txJ_snoc (a : List (Int × Rc)) (x : Int × Rc) : txJ (a ++ [x]) = txJ a ++ if x.2.kd = 4 then x.2.tx else [] := by
  unfold txJ
  rw [List.flatMap_append, List.flatMap_singleton]
theorem txJ_pre {a b : List (Int × Rc)} (h : a <+: b) : (txJ a).length ≤ (txJ b).length := by
  obtain ⟨c, rfl⟩ := h
  unfold txJ
  rw [List.flatMap_append, List.length_append]
  omega
/-- the loop of Value -/
structure VlI (w WL : World) (vp : Option Addr) (O : Nat → Prop) (pre : List BlE) (W : World) : Prop where
  bel : Below w.heap.size w W
  size : WL.heap.size ≤ W.heap.size
  lowO : ∀ k, O k → WL.heap.size ≤ k
  box : BlV WL.heap.size (w.heap.size + 1) O (txJ (pre.map BlE.key)) W
  vb : W.heap[w.heap.size + 2]? = some (.cells #[.pointer vp] 38 (0, 0))
  ib : W.heap[w.heap.size + 3]? = WL.heap[w.heap.size + 3]?
theorem VlI.step {w WL : World} {vp : Option Addr} {O O' : Nat → Prop} {pre : List BlE} {W W' : World} (hw : w.heap.size + 3 < WL.heap.size) (h : VlI w WL vp O pre W) (hs : ItStep O W O' W') : VlI w WL vp O' pre W' := by
  have h1 := h.size
  have keep : ∀ k, k < WL.heap.size → W'.heap[k]? = W.heap[k]? := fun k hk => hs.keep k (by omega) (fun ho => by have := h.lowO k ho; omega)
  refine ⟨ItStep.below h.bel (Nat.le_refl _) hs (fun k ho => by have := h.lowO k ho; omega), Nat.le_trans h1 hs.low.size, fun k ho => ?_, h.box.step hs (by omega) (fun ho => by have := h.lowO _ ho; omega), (keep _ (by omega)).trans h.vb, (keep _ (by omega)).trans h.ib⟩
  rcases hs.new k ho with q | q
  · exact h.lowO k q
  · omega
set_option maxRecDepth 100000 in
set_option maxHeartbeats 8000000 in
theorem valueV_any {Z : Nat → Prop} {w : World} {vp : Option Addr} {look : Int → Option Rc} (h : VH Z w vp look) (id : Int) (hid : (Lit.int .i64 id).wf = true) (f : Nat) (full : List Gn) (hg : goF look f id false [] = some full) (hfl : full.length ≤ 10000000)
    (hkd : ((look id).getD rc0).kd = 1 ∨ ((look id).getD rc0).kd = 2) (hlen : (txJ (blG id full)).length ≤ 100000000) :
    Calls Try.prog 32 #[.pointer vp, .int .i64 id] w fun e w' => e = .returned (.string (bs (txJ (blG id full)))) ∧ Below w.heap.size w w' := by
  have HT := fun (W : World) => Lib.hid ((callsIn_wide (n := 19)).2 (below_any vp id W))
  have hrec := (callsIn_wide (n := 19)).2 (h.tell w (fun _ _ => rfl) (Nat.le_refl _) id hid)
  have H := Lib.hid h
  obtain ⟨R, hR⟩ : ∃ R, look id = R := ⟨_, rfl⟩
  rw [hR] at hrec hkd
  obtain ⟨q, hq⟩ : ∃ q, R.getD rc0 = q := ⟨_, rfl⟩
  rw [hq] at hkd
  have hb12 : ((q.kd != 1) = false ∧ (q.kd != 1) = false) ∨ ((q.kd != 1) = true ∧ (q.kd != 2) = false) := by rcases hkd with e | e <;> simp [e]
  have HREC := Lib.hid hrec
  have HQ := Lib.hid hq
  clear h hrec hR hq hkd
  refine (callsIn_wide (n := 20)).1 ?_
  rcases hb12 with ⟨b1, b2⟩ | ⟨b1, b2⟩
  all_goals
    refine callsIn_of_wp_marks Try.func32 rfl trivial ?_ rfl
    simp only [Try.ntmps32, List.size_toArray, List.length_cons, List.length_nil, Nat.reduceAdd, Nat.reduceSub, Array.replicate_succ, Array.replicate_zero, List.push_toArray, List.append_toArray, List.nil_append, List.cons_append]
    gi_wp2_with (first
      | (refine ⟨trivial, ?_⟩
         gi_at_call 58
         refine HREC.out.mono ?_
         rintro e w2 ⟨⟨r, va, vb⟩, rfl, q1, q2, q3⟩
         dsimp only at q1
         rw [HQ.out] at q1
         subst q1
         obtain ⟨ok, jk, oa, ja, e1, e2⟩ := q2.form
         dsimp only at e1 e2
         subst e1 e2
         unfold rcV
         dsimp only
         have Q3 := Lib.hid q3
         clear q2 q3)
      | (refine ⟨trivial, ?_⟩; gi_at_call 61; refine (HT _).out.mono ?_; rintro e w' ⟨rfl, rfl⟩))
    obtain ⟨WL, hWL⟩ : ∃ WL, WL = (((w2.alloc (.cells #[.int .i64 r.kd, .string (bs r.nm), .string (bs r.tx), .int .i64 r.pa, .slice ok r.ks.length jk, .slice oa r.ats.length ja, .bool r.gone] 34)).alloc (.cells #[.pointer none, .slice none 0 0] 128)).alloc (.cells #[.pointer vp] 38)).alloc (.cells #[.int .i64 id] 3) := ⟨_, rfl⟩
    rw [← hWL]
    have hB0 : Below w2.heap.size w2 WL := by rw [hWL]; exact ((((Below.refl _ _).alloc (Nat.le_refl _) _).alloc (by simp) _).alloc (by simp <;> omega) _).alloc (by simp <;> omega) _
    have hsL : WL.heap.size = w2.heap.size + 4 := by rw [hWL]; simp
    have hbx : WL.heap[w2.heap.size + 1]? = some (.cells #[.pointer none, .slice none 0 0] 128 (0, 0)) := by
      rw [hWL, Below.heap_alloc _ _ _ (by simp), Below.heap_alloc _ _ _ (by simp)]
      have := World.alloc_heap_new (w2.alloc (.cells #[.int .i64 r.kd, .string (bs r.nm), .string (bs r.tx), .int .i64 r.pa, .slice ok r.ks.length jk, .slice oa r.ats.length ja, .bool r.gone] 34)) (.cells #[.pointer none, .slice none 0 0] 128)
      simpa using this
    have hbv : WL.heap[w2.heap.size + 2]? = some (.cells #[.pointer vp] 38 (0, 0)) := by
      rw [hWL, Below.heap_alloc _ _ _ (by simp)]
      have := World.alloc_heap_new ((w2.alloc (.cells #[.int .i64 r.kd, .string (bs r.nm), .string (bs r.tx), .int .i64 r.pa, .slice ok r.ks.length jk, .slice oa r.ats.length ja, .bool r.gone] 34)).alloc (.cells #[.pointer none, .slice none 0 0] 128)) (.cells #[.pointer vp] 38)
      simpa using this
    have hbi : WL.heap[w2.heap.size + 3]? = some (.cells #[.int .i64 id] 3 (0, 0)) := by
      rw [hWL]
      have := World.alloc_heap_new (((w2.alloc (.cells #[.int .i64 r.kd, .string (bs r.nm), .string (bs r.tx), .int .i64 r.pa, .slice ok r.ks.length jk, .slice oa r.ats.length ja, .bool r.gone] 34)).alloc (.cells #[.pointer none, .slice none 0 0] 128)).alloc (.cells #[.pointer vp] 38)) (.cells #[.int .i64 id] 3)
      simpa using this
    have HTH := ((H.out.below Q3.out).below hB0).th hbv
    clear hWL
    refine wpIn_rangeFunc_set (n := 20) (gf := 90) (lb := #[.pointer (some ⟨w2.heap.size + 2, 0, none⟩), .pointer (some ⟨w2.heap.size + 3, 0, none⟩)]) rfl (enters_of Try.func90 (by kernel_rfl) rfl)
      (below_seq HTH id hid f full hg (by omega) hbi WL) (Below.refl _ _) (fun _ => rfl)
      (fun O pre W => VlI w2 WL vp O pre W) (fun _ _ _ _ => False) (fun O pre W O' W' h hs => h.step (by omega) hs) (fun _ _ _ _ _ _ h _ => h.elim) ?_ ?_
      (fun O x a' W' => ∃ mb s4 s5 s6 s10 s13 s14 s15 s16 s17 s18 s19 s20 s21 s22 s23 s28, ¬ O mb ∧ mb < W'.heap.size ∧ mb ≠ w2.heap.size + 1 ∧ W'.heap[mb]? = some (.cells #[.int .i64 x.r.kd, .string (bs x.r.nm), .string (bs x.r.tx), .int .i64 x.r.pa, .slice x.ok x.r.ks.length x.jk, .slice x.oa x.r.ats.length x.ja, .bool x.r.gone] 34 (0, 0)) ∧
        a' = { tmps := #[.pointer vp, .int .i64 id, undef, undef, s4, s5, s6, .pointer (some ⟨w2.heap.size + 1, 0, none⟩), undef, .pointer (some ⟨mb, 0, none⟩), s10, .pointer vp, .int .i64 id, s13, s14, s15, s16, s17, s18, s19, s20, s21, s22, s23, undef, undef, .pointer vp, .int .i64 id, s28, .int .i64 x.id, .agg #[.int .i64 x.r.kd, .string (bs x.r.nm), .string (bs x.r.tx), .int .i64 x.r.pa, .slice x.ok x.r.ks.length x.jk, .slice x.oa x.r.ats.length x.ja, .bool x.r.gone], undef, undef, undef, undef, undef, undef, undef], defers := [] })
      (fun O x a' W1 O' W2 h hs => ?_) ?_ ?_ ?_ ?_
    · intro O pre W hi
      refine ⟨fun g hg => ?_, hi.size⟩
      rcases hg with hg | rfl | rfl
      · have := H.out.zB g hg
        exact (hi.bel.block g (Nat.lt_of_lt_of_le this Q3.out.size)).trans (hB0.block g (Nat.lt_of_lt_of_le this Q3.out.size)).symm
      · exact hi.vb.trans hbv.symm
      · exact hi.ib
    · exact ⟨hB0, Nat.le_refl _, fun _ h => h.elim, ⟨_, _, .inl rfl, hbx, World.ownsRowF_of (World.ownsRow_nil _ _ _ _), fun g hg => (by cases hg)⟩, hbv, rfl⟩
    · obtain ⟨mb, s4, s5, s6, s10, s13, s14, s15, s16, s17, s18, s19, s20, s21, s22, s23, s28, h1, h2, h3, h4, h5⟩ := h
      exact ⟨mb, s4, s5, s6, s10, s13, s14, s15, s16, s17, s18, s19, s20, s21, s22, s23, s28, fun ho => (hs.new mb ho).elim h1 (fun q => by omega), Nat.lt_of_lt_of_le h2 hs.low.size, h3, (hs.keep mb h2 h1).trans h4, h5⟩
    · rintro l m O pre x W K hO hi hK
      simp only [BlE.enc]
      have hz := hi.size
      gi_wp2
      refine hK _ _ ?_ ?_ (hi.step (by omega) (ItStep.pass hO ((Below.refl _ W).alloc (Nat.le_refl _) _))) ⟨W.heap.size, _, _, _, _, _, _, _, _, _, _, _, _, _, _, _, _, fun ho => Nat.lt_irrefl _ (hO _ ho), ?_, ?_, ?_, rfl⟩
      · simp
      · intro k hk
        exact Below.heap_alloc _ _ _ (hO k hk)
      · simp
      · omega
      · exact World.alloc_heap_new W _
    · rintro l m O pre x a' W hO hi ⟨mb, s4, s5, s6, s10, s13, s14, s15, s16, s17, s18, s19, s20, s21, s22, s23, s28, hm1, hm2, hm3, hm4, rfl⟩ hpx
      have m0 : W.cell? ⟨mb, 0, none⟩ = some (.int .i64 x.r.kd) := by simp [World.cell?, hm4]
      have m2 : W.cell? ⟨mb, 2, none⟩ = some (.string (bs x.r.tx)) := by simp [World.cell?, hm4]
      have hsn := txJ_snoc (pre.map BlE.key) x.key
      rw [show [BlE.key x] = List.map BlE.key [x] from rfl, ← List.map_append] at hsn
      have hle := txJ_pre hpx
      have hbox := hi.box
      have hz := hi.size
      have HI := Lib.hid hi
      have HO := Lib.hid hO
      have HSN := Lib.hid hsn
      clear hi hO hsn hpx hm4
      by_cases hk : x.r.kd = 4
      · have k1 : (x.r.kd == 4) = true := by simp [hk]
        have hs2 : txJ ((pre ++ [x]).map BlE.key) = txJ (pre.map BlE.key) ++ x.r.tx := by rw [HSN.out, if_pos (show x.key.2.kd = 4 from hk)]; rfl
        rw [hs2, List.length_append] at hle
        have HC := Lib.hid (wrV_any WL.heap.size (w2.heap.size + 1) O (txJ (pre.map BlE.key)) x.r.tx W hbox (by omega) (by omega) hz HO.out)
        have HS := Lib.hid hs2
        clear hk hs2 hbox
        gi_wp2_with (refine ⟨trivial, fun h => (by cases h), ?_⟩; gi_at_call 62; refine (CallsIn.inRound l (callsIn_wide.2 HC.out)).mono ?_; rintro e W6 ⟨rfl, p1, p2, p3⟩; have P1 := Lib.hid p1; have P2 := Lib.hid p2; have P3 := Lib.hid p3; clear p1 p2 p3)
        refine ⟨P2.out.size, fun k hk => P3.out k (HO.out k hk) (fun e => by have := HI.out.lowO k hk; omega) (.inl hk), ⟨HI.out.bel.trans (P2.out.mono (by omega)), Nat.le_trans hz P2.out.size, HI.out.lowO, by rw [HS.out]; exact P1.out, (P3.out _ (by omega) (by omega) (.inr (by omega))).trans HI.out.vb, (P3.out _ (by omega) (by omega) (.inr (by omega))).trans HI.out.ib⟩⟩
      · have k1 : (x.r.kd == 4) = false := by simp [hk]
        have hs2 : txJ ((pre ++ [x]).map BlE.key) = txJ (pre.map BlE.key) := by rw [HSN.out, if_neg (show ¬ x.key.2.kd = 4 from hk), List.append_nil]
        have HS := Lib.hid hs2
        clear hk hs2 hbox
        gi_wp2
        exact ⟨Nat.le_refl _, fun _ _ => rfl, HI.out.bel, HI.out.size, HI.out.lowO, by rw [HS.out]; exact HI.out.box, HI.out.vb, HI.out.ib⟩
    · rintro O xs W hO hD hxs hi hK
      have hbox := hi.box
      rw [hxs] at hbox
      have hz := hi.size
      have HC := Lib.hid ((callsIn_wide (n := 19)).2 (outV_any _ _ O _ W hbox (by omega) hz))
      have HI := Lib.hid hi
      have HK := Lib.hid hK
      clear hbox hi hK
      have HD := Lib.hid hD
      have HO := Lib.hid hO
      clear hD hO
      gi_wp2_with (refine ⟨trivial, ?_⟩; gi_at_call 63; refine HC.out.mono ?_; rintro e W6 ⟨rfl, p1, p2⟩; have P1 := Lib.hid p1; have P2 := Lib.hid p2; clear p1 p2)
      have hlow := HI.out.lowO _ HD.out
      have hK1 : W6.heap[w2.heap.size + 4]? = some (.deferred (some [])) := by rw [← hsL]; exact P2.out _ _ HK.out (by simp; omega) (by simp)
      refine ⟨by simp, .inl ⟨_, _, rfl, run_takeDeferred hK1, ?_⟩⟩
      exact ⟨_, results_tmp rfl _ _ _, rfl, below_putObj ((Q3.out.trans (HI.out.bel.mono Q3.out.size)).trans (P1.out.mono (by have := Q3.out.size; omega))) (by have := Q3.out.size; show w.heap.size ≤ w2.heap.size + 4; omega) _⟩
    · rintro O c pre W _ _ _ h _; exact h.elim
end Go.Proofs.Ytkackejipgabfaa.Char

/- A view that New did not make. -/
namespace Go.Proofs.Ytkackejipgabfaa.Char
open Go.RowKit Go.Lib

/-- no view is at vp -/
structure NoV (Z : Nat → Prop) (w : World) (vp : Option Addr) : Prop where
  made : ∀ W, (∀ g, Z g → W.heap[g]? = w.heap[g]?) → w.heap.size ≤ W.heap.size → Calls Try.prog 48 #[.pointer vp] W fun e w' => e = .returned (.bool false) ∧ w' = W
  zB : ∀ g, Z g → g < w.heap.size
theorem NoV.none (w : World) : NoV (fun _ => False) w none := ⟨fun W _ _ => vmade_none W, fun _ h => h.elim⟩
theorem NoV.zero {w : World} {b : Nat} (h : w.cell? ⟨b, 0, .none⟩ = some (.pointer .none)) : NoV (fun g => g = b) w (some ⟨b, 0, .none⟩) :=
  ⟨fun W hz _ => vmade_zero b W ((World.cell?_of_block (w := w) (w' := W) (a := ⟨b, 0, .none⟩) (hz b rfl)).trans h), fun g hg => by rw [hg]; exact cell_lt h⟩
section
variable {Z : Nat → Prop} {w : World} {vp : Option Addr}
theorem NoV.below (h : NoV Z w vp) {w' : World} (hb : Below w.heap.size w w') : NoV Z w' vp :=
  ⟨fun W hz hs => h.made W (fun g hg => (hz g hg).trans (hb.block g (h.zB g hg))) (Nat.le_trans hb.size hs), fun g hg => Nat.lt_of_lt_of_le (h.zB g hg) hb.size⟩
set_option maxRecDepth 100000 in
set_option maxHeartbeats 600000 in
theorem none_record (h : NoV Z w vp) (id : Int) :
    Calls Try.prog 58 #[.pointer vp, .int .i64 id] w (RecPost Z w .none) := by
  obtain ⟨W1, hW1⟩ : ∃ W1, W1 = w.alloc (rcB rcV0) := ⟨_, rfl⟩
  have hb1 : Below w.heap.size w W1 := by rw [hW1]; exact (Below.refl _ _).alloc (Nat.le_refl _) _
  have hk1 : W1.heap[w.heap.size]? = some (rcB rcV0) := by rw [hW1]; exact World.alloc_heap_new w _
  have hM := (h.below hb1).made W1 (fun _ _ => rfl) (Nat.le_refl _)
  obtain ⟨⟨d0, d1, d2, d3, d4, d5, d6⟩, df⟩ := rc_blk hk1
  dsimp only [rcV0, rc0] at d0 d1 d2 d3 d4 d5 d6
  have f0 := df 0
  have f1 := df 1
  have f2 := df 2
  have f3 := df 3
  have f4 := df 4
  have f5 := df 5
  have f6 := df 6
  have HM := Lib.hid hM
  have HW1 := Lib.hid hW1
  have HB1 := Lib.hid hb1
  have HK1 := Lib.hid hk1
  unfold rcB rcV0 rc0 at HW1
  dsimp only at HW1
  clear h hM hb1 hW1 hk1 df
  go_enter Try.func58, Try.ntmps58
  go_wp2_with (first
    | (go_at_call 48; rw [show (⟨#[]⟩ : ByteArray) = bs [] from rfl, ← HW1.out]; refine HM.out.mono ?_; rintro e w' ⟨rfl, hw⟩; have hw := hw.symm; subst hw))
  refine end_rc2 Try.results58 _ w.heap.size (x := rcV0) (c := .bool false) (set7_at (x := rcV0) HK1.out) ⟨_, _, _, _, _, _, rfl, rfl⟩ rfl rfl rfl ?_
  exact ⟨rcV0, rfl, rfl, RcOn.none _ _, set7_below (x := rcV0) HB1.out (Nat.le_refl _)⟩
theorem NoV.vh (h : NoV Z w vp) : VH Z w vp (fun _ => .none) :=
  ⟨fun W hz hs id _ => none_record ⟨fun W' hz' hs' => h.made W' (fun g hg => (hz' g hg).trans (hz g hg)) (Nat.le_trans hs hs'), fun g hg => Nat.lt_of_lt_of_le (h.zB g hg) hs⟩ id, fun _ _ h => (by cases h), h.zB, fun _ _ h => (by cases h)⟩
set_option maxRecDepth 100000 in
set_option maxHeartbeats 600000 in
theorem none_time (h : NoV Z w vp) : Calls Try.prog 31 #[.pointer vp] w fun e w' => e = .returned (.int .u64 0) ∧ w' = w := by
  have HM := Lib.hid (h.made w (fun _ _ => rfl) (Nat.le_refl _))
  clear h
  go_enter Try.func31, Try.ntmps31
  go_wp2_with (first
    | (go_at_call 48; refine HM.out.mono ?_; rintro e w' ⟨rfl, hw⟩; have hw := hw.symm; subst hw))
  go_ret
  exact ⟨rfl, rfl⟩
set_option maxRecDepth 100000 in
set_option maxHeartbeats 600000 in
theorem none_changes (h : NoV Z w vp) : Calls Try.prog 22 #[.pointer vp] w fun e w' => e = .returned (.slice .none 0 0) ∧ w' = w := by
  have HM := Lib.hid (h.made w (fun _ _ => rfl) (Nat.le_refl _))
  clear h
  go_enter Try.func22, Try.ntmps22
  go_wp2_with (first
    | (go_at_call 48; refine HM.out.mono ?_; rintro e w' ⟨rfl, hw⟩; have hw := hw.symm; subst hw))
  go_ret
  exact ⟨rfl, rfl⟩
end
end Go.Proofs.Ytkackejipgabfaa.Char

/- A view that New did not make: Put, Plant, Value, Node. -/
namespace Go.Proofs.Ytkackejipgabfaa.Char
open Go.RowKit Go.Lib

section
variable {Z : Nat → Prop} {w : World} {vp : Option Addr}
set_option maxRecDepth 100000 in
set_option maxHeartbeats 600000 in
theorem none_put (h : NoV Z w vp) (id : Int) (x : RcV) {G : Nat → Prop} (hx : RcOn w G x) : Calls Try.prog 23 #[.pointer vp, .int .i64 id, rcV x] w fun e w' => e = .returned (.int .i64 1) ∧ Below w.heap.size w w' := by
  obtain ⟨r, va, vb⟩ := x
  obtain ⟨ok, jk, oa, ja, e1, e2⟩ := hx.form
  dsimp only at e1 e2
  subst e1 e2
  obtain ⟨W1, hW1⟩ : ∃ W1, W1 = w.alloc (rcB (r, .slice ok r.ks.length jk, .slice oa r.ats.length ja)) := ⟨_, rfl⟩
  have hb1 : Below w.heap.size w W1 := by rw [hW1]; exact (Below.refl _ _).alloc (Nat.le_refl _) _
  have HM := Lib.hid ((h.below hb1).made W1 (fun _ _ => rfl) (Nat.le_refl _))
  have HW1 := Lib.hid hW1
  unfold rcB at HW1
  dsimp only at HW1
  have HB1 := Lib.hid hb1
  unfold rcV
  dsimp only
  clear h hx hb1 hW1
  go_enter Try.func23, Try.ntmps23
  go_wp2_with (first
    | (go_at_call 48; rw [← HW1.out]; refine HM.out.mono ?_; rintro e w' ⟨rfl, hw⟩; have hw := hw.symm; subst hw))
  go_ret
  exact ⟨rfl, HB1.out⟩
set_option maxRecDepth 100000 in
set_option maxHeartbeats 600000 in
theorem none_plant (h : NoV Z w vp) (k : Int) (n x : ByteArray) (o1 : Option Addr) (i1 j1 : Nat) (o2 : Option Addr) (i2 j2 : Nat) (par : Int) : Calls Try.prog 21 #[.pointer vp, .agg #[.int .i64 k, .string n, .string x, .slice o1 i1 j1, .slice o2 i2 j2], .int .i64 par] w fun e w' => e = .returned (.int .i64 0) ∧ Below w.heap.size w w' := by
  obtain ⟨W1, hW1⟩ : ∃ W1, W1 = w.alloc (.cells #[.int .i64 k, .string n, .string x, .slice o1 i1 j1, .slice o2 i2 j2] 25) := ⟨_, rfl⟩
  have hb1 : Below w.heap.size w W1 := by rw [hW1]; exact (Below.refl _ _).alloc (Nat.le_refl _) _
  have HM := Lib.hid ((h.below hb1).made W1 (fun _ _ => rfl) (Nat.le_refl _))
  have HW1 := Lib.hid hW1
  have HB1 := Lib.hid hb1
  clear h hb1 hW1
  go_enter Try.func21, Try.ntmps21
  go_wp2_with (first
    | (go_at_call 48; rw [← HW1.out]; refine HM.out.mono ?_; rintro e w' ⟨rfl, hw⟩; have hw := hw.symm; subst hw))
  go_ret
  exact ⟨rfl, HB1.out⟩
/-- Value of a node that has no text in it -/
theorem valueV_text {look : Int → Option Rc} (h : VH Z w vp look) (id : Int) (hid : (Lit.int .i64 id).wf = true) (h1 : ((look id).getD rc0).kd ≠ 1) (h2 : ((look id).getD rc0).kd ≠ 2) :
    Calls Try.prog 32 #[.pointer vp, .int .i64 id] w fun e w' => e = .returned (.string (bs ((look id).getD rc0).tx)) ∧ Below w.heap.size w w' := by
  have hrec := h.tell w (fun _ _ => rfl) (Nat.le_refl _) id hid
  obtain ⟨R, hR⟩ : ∃ R, look id = R := ⟨_, rfl⟩
  rw [hR] at hrec h1 h2 ⊢
  obtain ⟨q, hq⟩ : ∃ q, R.getD rc0 = q := ⟨_, rfl⟩
  rw [hq] at h1 h2 ⊢
  have b1 : (q.kd != 1) = true := bne_iff_ne.2 h1
  have b2 : (q.kd != 2) = true := bne_iff_ne.2 h2
  have HREC := Lib.hid hrec
  have HQ := Lib.hid hq
  clear h hrec hR h1 h2 hq
  go_enter Try.func32, Try.ntmps32
  go_wp2_with (first
    | (go_at_call 58
       refine HREC.out.mono ?_
       rintro e w2 ⟨⟨r, va, vb⟩, rfl, q1, q2, q3⟩
       dsimp only at q1
       rw [HQ.out] at q1
       subst q1
       obtain ⟨ok, jk, oa, ja, e1, e2⟩ := q2.form
       dsimp only at e1 e2
       subst e1 e2
       unfold rcV
       dsimp only
       have Q3 := Lib.hid q3
       clear q2 q3))
  go_ret
  exact ⟨rfl, Q3.out.trans ((Below.refl _ _).alloc Q3.out.size _)⟩
end
end Go.Proofs.Ytkackejipgabfaa.Char

/- Mathematics without a program: those of a list that are wanted, each where it stands first. -/
namespace Go.Proofs.Ytkackejipgabfaa.Char

/-- what has been met, and what has been taken -/
def onceS (p : Int → Bool) (s : List Int × List Int) (z : Int) : List Int × List Int := if z ∈ s.1 then s else (s.1 ++ [z], if p z = true then s.2 ++ [z] else s.2)
def onceF (p : Int → Bool) (zs : List Int) : List Int × List Int := zs.foldl (onceS p) ([], [])
/-- those of a list that are wanted, each where it stands first -/
def onceL (p : Int → Bool) (zs : List Int) : List Int := (onceF p zs).2
theorem onceF_snoc (p : Int → Bool) (zs : List Int) (z : Int) : onceF p (zs ++ [z]) = onceS p (onceF p zs) z := by simp [onceF]
theorem onceS_old {p : Int → Bool} {s : List Int × List Int} {z : Int} (h : z ∈ s.1) : onceS p s z = s := by unfold onceS; rw [if_pos h]
theorem onceS_no {p : Int → Bool} {s : List Int × List Int} {z : Int} (h : z ∉ s.1) (hp : p z = false) : onceS p s z = (s.1 ++ [z], s.2) := by unfold onceS; rw [if_neg h, if_neg (by rw [hp]; simp)]
theorem onceS_yes {p : Int → Bool} {s : List Int × List Int} {z : Int} (h : z ∉ s.1) (hp : p z = true) : onceS p s z = (s.1 ++ [z], s.2 ++ [z]) := by unfold onceS; rw [if_neg h, if_pos hp]
theorem rev_ind {P : List Int → Prop} (h0 : P []) (h1 : ∀ l z, P l → P (l ++ [z])) (l : List Int) : P l := by
  have key : ∀ m : List Int, P m.reverse := by
    intro m
    induction m with
    | nil => exact h0
    | cons z m ih => rw [List.reverse_cons]; exact h1 _ _ ih
  have := key l.reverse
  rwa [List.reverse_reverse] at this
theorem onceF_spec (p : Int → Bool) (zs : List Int) : (onceF p zs).2 = (onceF p zs).1.filter p ∧ (onceF p zs).1.Nodup ∧ (∀ x, x ∈ (onceF p zs).1 ↔ x ∈ zs) ∧ (onceF p zs).1.length ≤ zs.length := by
  refine rev_ind (P := fun zs => (onceF p zs).2 = (onceF p zs).1.filter p ∧ (onceF p zs).1.Nodup ∧ (∀ x, x ∈ (onceF p zs).1 ↔ x ∈ zs) ∧ (onceF p zs).1.length ≤ zs.length) ⟨rfl, List.nodup_nil, fun _ => Iff.rfl, Nat.le_refl _⟩ (fun l z ih => ?_) zs
  obtain ⟨h1, h2, h3, h4⟩ := ih
  rw [onceF_snoc]
  by_cases hz : z ∈ (onceF p l).1
  · rw [onceS_old hz]
    refine ⟨h1, h2, fun x => ?_, by rw [List.length_append]; omega⟩
    rw [h3, List.mem_append, List.mem_singleton]
    exact ⟨.inl, fun h => h.elim id (fun e => by rw [e]; exact (h3 z).1 hz)⟩
  · have hmem : ∀ x, x ∈ (onceF p l).1 ++ [z] ↔ x ∈ l ++ [z] := fun x => by rw [List.mem_append, List.mem_append, h3]
    have hnd : ((onceF p l).1 ++ [z]).Nodup := List.nodup_append.2 ⟨h2, by simp, fun a ha b hb => by rw [List.mem_singleton] at hb; subst hb; exact fun e => hz (e ▸ ha)⟩
    cases hp : p z with
    | false =>
      rw [onceS_no hz hp]
      exact ⟨by rw [List.filter_append, h1]; simp [hp], hnd, hmem, by simp; omega⟩
    | true =>
      rw [onceS_yes hz hp]
      exact ⟨by rw [List.filter_append, h1]; simp [hp], hnd, hmem, by simp; omega⟩
theorem onceL_len (p : Int → Bool) (zs : List Int) : (onceL p zs).length ≤ zs.length := by
  obtain ⟨h1, _, _, h4⟩ := onceF_spec p zs
  unfold onceL
  rw [h1]
  exact Nat.le_trans (List.length_filter_le _ _) h4
theorem onceL_mem (p : Int → Bool) (zs : List Int) (x : Int) : x ∈ onceL p zs ↔ x ∈ zs ∧ p x = true := by
  obtain ⟨h1, _, h3, _⟩ := onceF_spec p zs
  unfold onceL
  rw [h1, List.mem_filter, h3]
theorem onceL_nodup (p : Int → Bool) (zs : List Int) : (onceL p zs).Nodup := by
  obtain ⟨h1, h2, _, _⟩ := onceF_spec p zs
  unfold onceL
  rw [h1]
  exact h2.filter _
/-- of a list in which each stands once -/
theorem onceF_nd (p : Int → Bool) (zs : List Int) (h : zs.Nodup) : (onceF p zs).1 = zs := by
  revert h
  refine rev_ind (P := fun zs => zs.Nodup → (onceF p zs).1 = zs) (fun _ => rfl) (fun l z ih => ?_) zs
  intro h
  obtain ⟨h1, _, h3⟩ := List.nodup_append.1 h
  have e := ih h1
  rw [onceF_snoc]
  have hz : z ∉ (onceF p l).1 := by rw [e]; exact fun hm => h3 z hm z (List.mem_singleton.2 rfl) rfl
  cases hp : p z with
  | false => rw [onceS_no hz hp, e]
  | true => rw [onceS_yes hz hp, e]
theorem onceL_nd (p : Int → Bool) (zs : List Int) (h : zs.Nodup) : onceL p zs = zs.filter p := by
  unfold onceL
  rw [(onceF_spec p zs).1, onceF_nd p zs h]
/-- the document's: each that is wanted, if it has not been taken -/
def thereS (p : Int → Bool) (m : List Int) (z : Int) : List Int := if p z && !(m.any fun y => y == z) then m ++ [z] else m
def thereL (p : Int → Bool) (zs : List Int) : List Int := zs.foldl (thereS p) []
theorem thereL_snoc (p : Int → Bool) (zs : List Int) (z : Int) : thereL p (zs ++ [z]) = thereS p (thereL p zs) z := by simp [thereL]
theorem thereL_eq (p : Int → Bool) (zs : List Int) : thereL p zs = onceL p zs := by
  refine rev_ind (P := fun zs => thereL p zs = onceL p zs) rfl (fun l z ih => ?_) zs
  obtain ⟨h1, _, h3, _⟩ := onceF_spec p l
  rw [thereL_snoc, ih]
  unfold onceL
  rw [onceF_snoc]
  have hany : ((onceF p l).2.any fun y => y == z) = decide (z ∈ (onceF p l).1 ∧ p z = true) := by
    rw [h1, Bool.eq_iff_iff, List.any_eq_true, decide_eq_true_eq]
    constructor
    · rintro ⟨y, hy, e⟩
      have e : y = z := by simpa using e
      rw [e, List.mem_filter] at hy
      exact hy
    · exact fun hz => ⟨z, List.mem_filter.2 hz, by simp⟩
  unfold thereS
  rw [hany]
  by_cases hz : z ∈ (onceF p l).1
  · rw [onceS_old hz]
    cases hp : p z <;> simp [hz]
  · cases hp : p z with
    | false => rw [onceS_no hz hp]; simp
    | true => rw [onceS_yes hz hp]; simp [hz]
end Go.Proofs.Ytkackejipgabfaa.Char

/- The walk of once: those of a list that are wanted, each where it stands first. -/
namespace Go.Proofs.Ytkackejipgabfaa.Char
open Go.RowKit Go.Lib Go.Shelf

/-- what is behind once -/
def OncP (w : World) (l : List Int) : Ending → World → Prop := fun e w' => ∃ u, e = .returned u ∧ OwnsInt w.heap.size w' u l ∧ Below w.heap.size w w'
set_option maxRecDepth 100000 in
set_option maxHeartbeats 4000000 in
theorem once_m {g : FuncId} (hE : Enters Try.prog g) (sv : Value) (p : Int → Bool) {w : World} {K : Nat → Prop} (oz : Option Addr) (jz : Nat) (zs : List Int) (hz : IntsOn w K (.slice oz zs.length jz) zs) (hK : ∀ g, K g → g < w.heap.size) (hzl : zs.length ≤ 100000000) (hzw : ∀ z, z ∈ zs → (Lit.int .i64 z).wf = true)
    (hW : ∀ W, Below w.heap.size w W → ∀ z, z ∈ zs → Calls Try.prog g #[sv, .int .i64 z] W fun e W' => e = .returned (.bool (p z)) ∧ Below W.heap.size W W') :
    Calls Try.prog 117 #[.slice oz zs.length jz, .func (.func g) #[sv] #[]] w (OncP w (onceL p zs)) := by
  have hE2 : ∀ (args : Array Value) (w : World), (callFunc g args).run Try.prog w = .ok (.enter g args) w := hE
  have HZ := Lib.hid hz
  have HK' := Lib.hid hK
  have HZW := Lib.hid hzw
  have HW := Lib.hid hW
  have hmk : ∀ w, (Instr.makeMap 104 none).run Try.prog w = .ok (.map (some w.heap.size)) (w.alloc (.map #[] 0)) := fun w => run_makeMap _ w
  obtain ⟨R, hR⟩ : ∃ R, OncP w (onceL p zs) = R := ⟨_, rfl⟩
  rw [hR]
  have HR := Lib.hid hR
  clear hz hK hzw hW hR
  go_enter Try.func117, Try.ntmps117
  go_wp2_with fail
  obtain ⟨W1, hW1⟩ : ∃ W1, W1 = w.alloc (.map #[] 0) := ⟨_, rfl⟩
  rw [← hW1]
  have HS1 : Hid (Below w.heap.size w W1 ∧ w.heap.size < W1.heap.size ∧ MetI W1 w.heap.size [] (.map [])) := Lib.hid (by
    rw [hW1]
    exact ⟨(Below.refl _ _).alloc (Nat.le_refl _) _, by simp, MetI.start w⟩)
  clear hW1
  go_loopw [6, 14] (fun v6 v14 wr => ∃ (k n : Nat) (o : Option Addr) (j : Nat) (D : DataW Value), v14 = .int .i64 (k : Int) ∧ k ≤ zs.length ∧ v6 = .slice o n j ∧ Hid (n = (onceF p (zs.take k)).2.length ∧ Below w.heap.size w wr ∧ w.heap.size < wr.heap.size ∧ MetI wr w.heap.size (onceF p (zs.take k)).1 D ∧ OwnsInt (w.heap.size + 1) wr v6 (onceF p (zs.take k)).2)) (fun _ v14 _ => zs.length - (RowKit.intOf v14).toNat)
  case atStart => exact ⟨0, 0, none, 0, .map [], rfl, Nat.zero_le _, rfl, Lib.hid ⟨rfl, HS1.out.1, HS1.out.2.1, HS1.out.2.2, OwnsInt.nil _ _⟩⟩
  case round =>
    obtain ⟨k, n, o, j, D, rfl, hk, rfl, HQ⟩ := hrel
    have hspec := onceF_spec p (zs.take k)
    have hb2 := hspec.2.2.2
    have hb3 := onceL_len p (zs.take k)
    unfold onceL at hb3
    by_cases hlt : k < zs.length
    · obtain ⟨o1, i1, j1, e1, e2, e3⟩ := HZ.out.move (F' := K) (w' := wr) (fun g hg hF => ⟨hF, HQ.out.2.1.block g hg⟩)
      simp only [Value.slice.injEq] at e1
      obtain ⟨rfl, rfl, rfl⟩ := e1
      rcases e3 with h0 | ⟨g', off, rfl, hgF, hc⟩
      · rw [h0] at hlt; cases hlt
      have c0 := hc k hlt
      rw [show zs.getD k 0 = zs[k] by simp [hlt]] at c0
      have htk := List.take_succ_eq_append_getElem hlt
      have hmem := List.getElem_mem hlt
      have hwf := HZW.out zs[k] hmem
      obtain ⟨z, hzk⟩ : ∃ z, zs[k] = z := ⟨_, rfl⟩
      rw [hzk] at c0 htk hwf hmem
      have hsn := onceF_snoc p (zs.take k) z
      rw [← htk] at hsn
      obtain ⟨W2, hW2⟩ : ∃ W2, W2 = wr.alloc (.cells #[] 105) := ⟨_, rfl⟩
      have hb12 : Below wr.heap.size wr W2 := by rw [hW2]; exact (Below.refl _ _).alloc (Nat.le_refl _) _
      have hs2 : W2.heap.size = wr.heap.size + 1 := by rw [hW2]; simp
      have hlk := HQ.out.2.2.2.1.look hwf
      have hzl2 : (zs.take k).length = k := by rw [List.length_take]; omega
      have hm2 := HQ.out.2.2.2.1.move (hb12.block w.heap.size HQ.out.2.2.1)
      have hbw2 : Below w.heap.size w W2 := HQ.out.2.1.trans (hb12.mono (by have := HQ.out.2.1.size; omega))
      have HLT := Lib.hid hlt
      have hz0 : (0 : Int) ≤ (k : Int) := by omega
      have hz1 : (k : Int) < (zs.length : Int) := by omega
      by_cases hin : z ∈ (onceF p (zs.take k)).1
      · rw [decide_eq_true hin] at hlk
        have HN : Hid (n = (onceF p (zs.take (k + 1))).2.length ∧ Below w.heap.size w W2 ∧ w.heap.size < W2.heap.size ∧ MetI W2 w.heap.size (onceF p (zs.take (k + 1))).1 D ∧ OwnsInt (w.heap.size + 1) W2 (.slice o n j) (onceF p (zs.take (k + 1))).2) := Lib.hid (by
          rw [hsn, onceS_old hin]
          exact ⟨HQ.out.1, hbw2, by have := HQ.out.2.2.1; omega, hm2, HQ.out.2.2.2.2.below hb12⟩)
        rw [hW2] at HN
        clear hc e2 hzk hgF hin hsn htk hmem hwf hspec hb2 hb3 hW2 hb12 hs2 hm2 hbw2 hzl2 hlt
        go_wp2_with fail
        go_roundw
        case rel => exact ⟨k + 1, n, o, j, D, by go_num, by have := HLT.out; omega, rfl, HN⟩
        case measure => have := HLT.out; simp [RowKit.intOf]; omega
      · rw [decide_eq_false hin] at hlk
        obtain ⟨W5, hrun, how, hturn⟩ := hm2.own.store law_int Try.underlying104 (by unfold maxLen; omega) (key_int hwf) unitElem_mk
        have hg5 := hturn.grown
        have s5 := hg5.size
        have keep5 : ∀ g, g < W2.heap.size → g ≠ w.heap.size → W5.heap[g]? = W2.heap[g]? := fun g h1 h2 => hg5.block g h1 (fun e => h2 (by cases e; rfl))
        have hm5 := hm2.snoc how
        have hb5 : Below w.heap.size w W5 := hbw2.grown hg5 (by have := hbw2.size; omega) (fun k hk => by cases hk; exact Nat.le_refl _)
        have ho5 : OwnsInt (w.heap.size + 1) W5 (.slice o n j) (onceF p (zs.take k)).2 := (HQ.out.2.2.2.2.below hb12).keep fun g hg => keep5 g (by have := (HQ.out.2.2.2.2.blk hg).2; omega) (by have := (HQ.out.2.2.2.2.blk hg).1; omega)
        have hC := HW.out W5 hb5 z hmem
        rw [hW2] at hrun
        have hsz5 : w.heap.size < W5.heap.size := by have := HQ.out.2.2.1; omega
        have HC := Lib.hid hC
        have HM5 := Lib.hid hm5
        have HB5 := Lib.hid hb5
        have HO5 := Lib.hid ho5
        have HN0 := Lib.hid HQ.out.1
        have hnb : n ≤ 100000000 := by have := HQ.out.1; omega
        cases hp : p z with
        | false =>
          rw [hp] at HC
          rw [onceS_no hin hp] at hsn
          have HSN := Lib.hid hsn
          clear hc e2 hzk hgF hin hsn htk hmem hwf hspec hb2 hb3 hW2 hb12 hs2 hm2 hbw2 hzl2 hlt how hturn hg5 s5 keep5 hm5 hb5 ho5 hC hp HQ
          go_wp2_with (first
            | (go_at_fn g
               refine HC.out.mono ?_
               rintro e w6 ⟨rfl, q6⟩
               have HQ6 := Lib.hid q6
               clear q6))
          go_roundw
          case rel => exact ⟨k + 1, n, o, j, _, by go_num, by have := HLT.out; omega, rfl, Lib.hid ⟨by rw [HSN.out]; exact HN0.out, HB5.out.trans (HQ6.out.mono (by omega)), Nat.lt_of_lt_of_le hsz5 HQ6.out.size, by rw [HSN.out]; exact HM5.out.move (HQ6.out.block _ hsz5), by rw [HSN.out]; exact HO5.out.below HQ6.out⟩⟩
          case measure => have := HLT.out; simp [RowKit.intOf]; omega
        | true =>
          rw [hp] at HC
          rw [onceS_yes hin hp] at hsn
          have HSN := Lib.hid hsn
          clear hc e2 hzk hgF hin hsn htk hmem hwf hspec hb2 hb3 hW2 hb12 hs2 hm2 hbw2 hzl2 hlt how hturn hg5 s5 keep5 hm5 hb5 ho5 hC hp HQ
          go_wp2_with (first
            | (go_at_fn g
               refine HC.out.mono ?_
               rintro e w6 ⟨rfl, q6⟩
               have HQ6 := Lib.hid q6
               have HO6 := Lib.hid (HO5.out.below q6)
               have hs6 := q6.size
               clear q6)
            | (at_builtin
               refine wpList_pushInt rfl (.tmp 31) (.tmp 33) rfl z HO6.out rfl (by simp [Act.eval]) (by omega) (by rw [← HN0.out]; exact hnb) ?_
               intro u7 w7 q1 q2 q3 q4
               obtain ⟨o7, j7, rfl⟩ := q1.form
               have Q1 := Lib.hid q1
               have Q2 := Lib.hid q2
               have Q3 := Lib.hid q3
               have hs7 := q2.size
               rw [List.length_append, List.length_singleton, ← HN0.out]
               clear q1 q2 q3 q4))
          go_roundw
          case rel =>
            have q1 := Q1.out
            rw [List.length_append, List.length_singleton, ← HN0.out] at q1
            refine ⟨k + 1, n + 1, o7, j7, D.put (kI z) (.agg []), by go_num, by have := HLT.out; omega, rfl, Lib.hid ⟨by rw [HSN.out, List.length_append, List.length_singleton, ← HN0.out], (HB5.out.trans (HQ6.out.mono (by omega))).trans (Q2.out.mono (by omega)), by omega, ?_, by rw [HSN.out]; exact q1⟩⟩
            rw [HSN.out]
            exact (HM5.out.move (HQ6.out.block _ hsz5)).move (Q3.out _ (by omega) (fun e => by have := (HO6.out.blk e.symm).1; omega))
          case measure => have := HLT.out; simp [RowKit.intOf]; omega
    · have ek : k = zs.length := by omega
      subst ek
      rw [List.take_length] at HQ
      clear hspec hb2 hb3 hk
      go_wp2_with fail
      rw [← HR.out]
      exact ⟨_, rfl, HQ.out.2.2.2.2.weak (by omega), HQ.out.2.1⟩
set_option maxRecDepth 100000 in
set_option maxHeartbeats 4000000 in
theorem once_c {g : FuncId} (hE : Enters Try.prog g) (c1 c2 : Value) (p : Int → Bool) {w : World} {K : Nat → Prop} (oz : Option Addr) (jz : Nat) (zs : List Int) (hz : IntsOn w K (.slice oz zs.length jz) zs) (hK : ∀ g, K g → g < w.heap.size) (hzl : zs.length ≤ 100000000) (hzw : ∀ z, z ∈ zs → (Lit.int .i64 z).wf = true)
    (hW : ∀ W, Below w.heap.size w W → ∀ z, z ∈ zs → Calls Try.prog g #[.int .i64 z, c1, c2] W fun e W' => e = .returned (.bool (p z)) ∧ Below W.heap.size W W') :
    Calls Try.prog 117 #[.slice oz zs.length jz, .func (.func g) #[] #[c1, c2]] w (OncP w (onceL p zs)) := by
  have hE2 : ∀ (args : Array Value) (w : World), (callFunc g args).run Try.prog w = .ok (.enter g args) w := hE
  have HZ := Lib.hid hz
  have HK' := Lib.hid hK
  have HZW := Lib.hid hzw
  have HW := Lib.hid hW
  have hmk : ∀ w, (Instr.makeMap 104 none).run Try.prog w = .ok (.map (some w.heap.size)) (w.alloc (.map #[] 0)) := fun w => run_makeMap _ w
  obtain ⟨R, hR⟩ : ∃ R, OncP w (onceL p zs) = R := ⟨_, rfl⟩
  rw [hR]
  have HR := Lib.hid hR
  clear hz hK hzw hW hR
  go_enter Try.func117, Try.ntmps117
  go_wp2_with fail
  obtain ⟨W1, hW1⟩ : ∃ W1, W1 = w.alloc (.map #[] 0) := ⟨_, rfl⟩
  rw [← hW1]
  have HS1 : Hid (Below w.heap.size w W1 ∧ w.heap.size < W1.heap.size ∧ MetI W1 w.heap.size [] (.map [])) := Lib.hid (by
    rw [hW1]
    exact ⟨(Below.refl _ _).alloc (Nat.le_refl _) _, by simp, MetI.start w⟩)
  clear hW1
  go_loopw [6, 14] (fun v6 v14 wr => ∃ (k n : Nat) (o : Option Addr) (j : Nat) (D : DataW Value), v14 = .int .i64 (k : Int) ∧ k ≤ zs.length ∧ v6 = .slice o n j ∧ Hid (n = (onceF p (zs.take k)).2.length ∧ Below w.heap.size w wr ∧ w.heap.size < wr.heap.size ∧ MetI wr w.heap.size (onceF p (zs.take k)).1 D ∧ OwnsInt (w.heap.size + 1) wr v6 (onceF p (zs.take k)).2)) (fun _ v14 _ => zs.length - (RowKit.intOf v14).toNat)
  case atStart => exact ⟨0, 0, none, 0, .map [], rfl, Nat.zero_le _, rfl, Lib.hid ⟨rfl, HS1.out.1, HS1.out.2.1, HS1.out.2.2, OwnsInt.nil _ _⟩⟩
  case round =>
    obtain ⟨k, n, o, j, D, rfl, hk, rfl, HQ⟩ := hrel
    have hspec := onceF_spec p (zs.take k)
    have hb2 := hspec.2.2.2
    have hb3 := onceL_len p (zs.take k)
    unfold onceL at hb3
    by_cases hlt : k < zs.length
    · obtain ⟨o1, i1, j1, e1, e2, e3⟩ := HZ.out.move (F' := K) (w' := wr) (fun g hg hF => ⟨hF, HQ.out.2.1.block g hg⟩)
      simp only [Value.slice.injEq] at e1
      obtain ⟨rfl, rfl, rfl⟩ := e1
      rcases e3 with h0 | ⟨g', off, rfl, hgF, hc⟩
      · rw [h0] at hlt; cases hlt
      have c0 := hc k hlt
      rw [show zs.getD k 0 = zs[k] by simp [hlt]] at c0
      have htk := List.take_succ_eq_append_getElem hlt
      have hmem := List.getElem_mem hlt
      have hwf := HZW.out zs[k] hmem
      obtain ⟨z, hzk⟩ : ∃ z, zs[k] = z := ⟨_, rfl⟩
      rw [hzk] at c0 htk hwf hmem
      have hsn := onceF_snoc p (zs.take k) z
      rw [← htk] at hsn
      obtain ⟨W2, hW2⟩ : ∃ W2, W2 = wr.alloc (.cells #[] 105) := ⟨_, rfl⟩
      have hb12 : Below wr.heap.size wr W2 := by rw [hW2]; exact (Below.refl _ _).alloc (Nat.le_refl _) _
      have hs2 : W2.heap.size = wr.heap.size + 1 := by rw [hW2]; simp
      have hlk := HQ.out.2.2.2.1.look hwf
      have hzl2 : (zs.take k).length = k := by rw [List.length_take]; omega
      have hm2 := HQ.out.2.2.2.1.move (hb12.block w.heap.size HQ.out.2.2.1)
      have hbw2 : Below w.heap.size w W2 := HQ.out.2.1.trans (hb12.mono (by have := HQ.out.2.1.size; omega))
      have HLT := Lib.hid hlt
      have hz0 : (0 : Int) ≤ (k : Int) := by omega
      have hz1 : (k : Int) < (zs.length : Int) := by omega
      by_cases hin : z ∈ (onceF p (zs.take k)).1
      · rw [decide_eq_true hin] at hlk
        have HN : Hid (n = (onceF p (zs.take (k + 1))).2.length ∧ Below w.heap.size w W2 ∧ w.heap.size < W2.heap.size ∧ MetI W2 w.heap.size (onceF p (zs.take (k + 1))).1 D ∧ OwnsInt (w.heap.size + 1) W2 (.slice o n j) (onceF p (zs.take (k + 1))).2) := Lib.hid (by
          rw [hsn, onceS_old hin]
          exact ⟨HQ.out.1, hbw2, by have := HQ.out.2.2.1; omega, hm2, HQ.out.2.2.2.2.below hb12⟩)
        rw [hW2] at HN
        clear hc e2 hzk hgF hin hsn htk hmem hwf hspec hb2 hb3 hW2 hb12 hs2 hm2 hbw2 hzl2 hlt
        go_wp2_with fail
        go_roundw
        case rel => exact ⟨k + 1, n, o, j, D, by go_num, by have := HLT.out; omega, rfl, HN⟩
        case measure => have := HLT.out; simp [RowKit.intOf]; omega
      · rw [decide_eq_false hin] at hlk
        obtain ⟨W5, hrun, how, hturn⟩ := hm2.own.store law_int Try.underlying104 (by unfold maxLen; omega) (key_int hwf) unitElem_mk
        have hg5 := hturn.grown
        have s5 := hg5.size
        have keep5 : ∀ g, g < W2.heap.size → g ≠ w.heap.size → W5.heap[g]? = W2.heap[g]? := fun g h1 h2 => hg5.block g h1 (fun e => h2 (by cases e; rfl))
        have hm5 := hm2.snoc how
        have hb5 : Below w.heap.size w W5 := hbw2.grown hg5 (by have := hbw2.size; omega) (fun k hk => by cases hk; exact Nat.le_refl _)
        have ho5 : OwnsInt (w.heap.size + 1) W5 (.slice o n j) (onceF p (zs.take k)).2 := (HQ.out.2.2.2.2.below hb12).keep fun g hg => keep5 g (by have := (HQ.out.2.2.2.2.blk hg).2; omega) (by have := (HQ.out.2.2.2.2.blk hg).1; omega)
        have hC := HW.out W5 hb5 z hmem
        rw [hW2] at hrun
        have hsz5 : w.heap.size < W5.heap.size := by have := HQ.out.2.2.1; omega
        have HC := Lib.hid hC
        have HM5 := Lib.hid hm5
        have HB5 := Lib.hid hb5
        have HO5 := Lib.hid ho5
        have HN0 := Lib.hid HQ.out.1
        have hnb : n ≤ 100000000 := by have := HQ.out.1; omega
        cases hp : p z with
        | false =>
          rw [hp] at HC
          rw [onceS_no hin hp] at hsn
          have HSN := Lib.hid hsn
          clear hc e2 hzk hgF hin hsn htk hmem hwf hspec hb2 hb3 hW2 hb12 hs2 hm2 hbw2 hzl2 hlt how hturn hg5 s5 keep5 hm5 hb5 ho5 hC hp HQ
          go_wp2_with (first
            | (go_at_fn g
               refine HC.out.mono ?_
               rintro e w6 ⟨rfl, q6⟩
               have HQ6 := Lib.hid q6
               clear q6))
          go_roundw
          case rel => exact ⟨k + 1, n, o, j, _, by go_num, by have := HLT.out; omega, rfl, Lib.hid ⟨by rw [HSN.out]; exact HN0.out, HB5.out.trans (HQ6.out.mono (by omega)), Nat.lt_of_lt_of_le hsz5 HQ6.out.size, by rw [HSN.out]; exact HM5.out.move (HQ6.out.block _ hsz5), by rw [HSN.out]; exact HO5.out.below HQ6.out⟩⟩
          case measure => have := HLT.out; simp [RowKit.intOf]; omega
        | true =>
          rw [hp] at HC
          rw [onceS_yes hin hp] at hsn
          have HSN := Lib.hid hsn
          clear hc e2 hzk hgF hin hsn htk hmem hwf hspec hb2 hb3 hW2 hb12 hs2 hm2 hbw2 hzl2 hlt how hturn hg5 s5 keep5 hm5 hb5 ho5 hC hp HQ
          go_wp2_with (first
            | (go_at_fn g
               refine HC.out.mono ?_
               rintro e w6 ⟨rfl, q6⟩
               have HQ6 := Lib.hid q6
               have HO6 := Lib.hid (HO5.out.below q6)
               have hs6 := q6.size
               clear q6)
            | (at_builtin
               refine wpList_pushInt rfl (.tmp 31) (.tmp 33) rfl z HO6.out rfl (by simp [Act.eval]) (by omega) (by rw [← HN0.out]; exact hnb) ?_
               intro u7 w7 q1 q2 q3 q4
               obtain ⟨o7, j7, rfl⟩ := q1.form
               have Q1 := Lib.hid q1
               have Q2 := Lib.hid q2
               have Q3 := Lib.hid q3
               have hs7 := q2.size
               rw [List.length_append, List.length_singleton, ← HN0.out]
               clear q1 q2 q3 q4))
          go_roundw
          case rel =>
            have q1 := Q1.out
            rw [List.length_append, List.length_singleton, ← HN0.out] at q1
            refine ⟨k + 1, n + 1, o7, j7, D.put (kI z) (.agg []), by go_num, by have := HLT.out; omega, rfl, Lib.hid ⟨by rw [HSN.out, List.length_append, List.length_singleton, ← HN0.out], (HB5.out.trans (HQ6.out.mono (by omega))).trans (Q2.out.mono (by omega)), by omega, ?_, by rw [HSN.out]; exact q1⟩⟩
            rw [HSN.out]
            exact (HM5.out.move (HQ6.out.block _ hsz5)).move (Q3.out _ (by omega) (fun e => by have := (HO6.out.blk e.symm).1; omega))
          case measure => have := HLT.out; simp [RowKit.intOf]; omega
    · have ek : k = zs.length := by omega
      subst ek
      rw [List.take_length] at HQ
      clear hspec hb2 hb3 hk
      go_wp2_with fail
      rw [← HR.out]
      exact ⟨_, rfl, HQ.out.2.2.2.2.weak (by omega), HQ.out.2.1⟩

end Go.Proofs.Ytkackejipgabfaa.Char
