/- The program's store in memory: a map from numbers to rows of versions. -/
import Derived.Test.YtpimdmjhnogelaaUpTo9
import Derived.Test.YtpimdmjhnogelaaPushVe
import Derived.Test.YtpimdmjhnogelaaMade9
import Derived.Maps.OwnSet
import Derived.Maps.Ext
import Derived.Lib.SlKeysI
namespace Go.Proofs.Ytpimdmjhnogelaa.Char
open Go.RowKit Go.Lib

/-- a map's element, read as itself -/
def heldE (v : Value) : Option (DataW Value × List MemPlace) := some (.held v, [])
def nilV : Value := .slice none 0 0
def kI (id : Int) : Lit := .int .i64 id
theorem law_int : Maps.Keyed Try.prog 3 := Maps.int_keyed Try.underlying3
theorem key_int {id : Int} (hid : (Lit.int .i64 id).wf = true) : keyOf Try.prog 3 (.int .i64 id) = some (kI id) := by
  simp [keyOf, Try.underlying3, mapKey, hid, kI]
theorem kI_key (id : Int) : WideAt.IsKeyLit (kI id) := by unfold kI; simp [WideAt.IsKeyLit]
theorem kI_ne {i j : Int} (h : i ≠ j) : kI i ≠ kI j := fun e => h (by simpa [kI] using e)
/-- the blocks that the store may turn -/
def ownP (b mb : Nat) (V : Int → Value) (g : Nat) : Prop := g = b ∨ g = mb ∨ ∃ i, (V i).ownBlock = some g
structure PSt (Z : Nat → Prop) (B : Nat) (w : World) (b mb n : Nat) (D : DataW Value) (V : Int → Value) (X : Int → List VeV) (gv lt : Nat) : Prop where
  cell : w.heap[b]? = some (.cells #[.pointer (some ⟨b, 0, none⟩), .int .i64 (gv : Int), .int .u64 (lt : Int), .map (some mb)] 90 (0, 0))
  own : w.ownsMap Try.prog 3 heldE mb n D
  has : ∀ id, Maps.has D (kI id) = !(X id).isEmpty
  val : ∀ id, D.atKey (kI id) (.held nilV) = .held (V id)
  row : ∀ id, OwnsVe B w (V id) (X id)
  rcs : ∀ id x, x ∈ X id → RcOn w (fun g => Z g ∧ ¬ ownP b mb V g) x.2
  sm : ∀ id x, x ∈ X id → RcSm x.2.1
  ap : ∀ i j g, (V i).ownBlock = some g → (V j).ownBlock = some g → i = j
  zo : ∀ g, ownP b mb V g → Z g
  zB : ∀ g, Z g → B ≤ g ∧ g < w.heap.size
  ids : ∀ id, X id ≠ [] → 1 ≤ id ∧ id ≤ (gv : Int)
  ups : ∀ id, upX (X id)
section
variable {Z : Nat → Prop} {B : Nat} {w : World} {b mb n : Nat} {D : DataW Value} {V : Int → Value} {X : Int → List VeV} {gv lt : Nat}
theorem PSt.move (h : PSt Z B w b mb n D V X gv lt) {w' : World} (hz : ∀ g, Z g → w'.heap[g]? = w.heap[g]?) (hs : w.heap.size ≤ w'.heap.size) : PSt Z B w' b mb n D V X gv lt where
  cell := (hz b (h.zo b (.inl rfl))).trans h.cell
  own := by
    obtain ⟨es, clock, hb, F, q1, q2⟩ := h.own
    exact ⟨es, clock, (hz mb (h.zo mb (.inr (.inl rfl)))).trans hb, F, q1, q2⟩
  has := h.has
  val := h.val
  row := fun id => (h.row id).keep fun g hg => hz g (h.zo g (.inr (.inr ⟨id, hg⟩)))
  rcs := fun id x hx => (h.rcs id x hx).move fun g _ hF => ⟨hF, hz g hF.1⟩
  sm := h.sm
  ap := h.ap
  zo := h.zo
  zB := fun g hg => ⟨(h.zB g hg).1, Nat.lt_of_lt_of_le (h.zB g hg).2 hs⟩
  ids := h.ids
  ups := h.ups
theorem PSt.below (h : PSt Z B w b mb n D V X gv lt) {w' : World} (hb : Below w.heap.size w w') : PSt Z B w' b mb n D V X gv lt :=
  h.move (fun g hg => hb.block g (h.zB g hg).2) hb.size
theorem PSt.cells (h : PSt Z B w b mb n D V X gv lt) : w.cell? ⟨b, 0, none⟩ = some (.pointer (some ⟨b, 0, none⟩)) ∧ w.cell? ⟨b, 1, none⟩ = some (.int .i64 (gv : Int)) ∧ w.cell? ⟨b, 2, none⟩ = some (.int .u64 (lt : Int)) ∧ w.cell? ⟨b, 3, none⟩ = some (.map (some mb)) ∧ ∀ i, w.frozen? ⟨b, i, none⟩ = false :=
  ⟨by simp [World.cell?, h.cell], by simp [World.cell?, h.cell], by simp [World.cell?, h.cell], by simp [World.cell?, h.cell], fun i => by simp [World.frozen?, h.cell]⟩
theorem PSt.lt' (h : PSt Z B w b mb n D V X gv lt) : b < w.heap.size := (Array.getElem?_eq_some_iff.1 h.cell).1
theorem PSt.blk (h : PSt Z B w b mb n D V X gv lt) {id : Int} {g : Nat} (hg : (V id).ownBlock = some g) : ∃ cur, w.heap[g]? = some (.cells cur 45 (0, 0)) := by
  rcases (h.row id).2 with ⟨h1, _⟩ | ⟨g', cap, cur, e1, e2, hg', e3⟩
  · rw [h1] at hg; cases hg
  · rw [e1] at hg
    obtain rfl : g' = g := by simpa [Value.ownBlock] using hg
    exact ⟨cur, hg'⟩
theorem PSt.ne_b (h : PSt Z B w b mb n D V X gv lt) (id : Int) : (V id).ownBlock ≠ some b := fun e => by
  obtain ⟨cur, hc⟩ := h.blk e
  rw [h.cell] at hc
  simp only [Option.some.injEq, Obj.cells.injEq] at hc
  exact absurd hc.2.1 (by decide)
theorem PSt.ne_m (h : PSt Z B w b mb n D V X gv lt) (id : Int) : (V id).ownBlock ≠ some mb := fun e => by
  obtain ⟨cur, hc⟩ := h.blk e
  obtain ⟨es, clock, hb, _⟩ := h.own
  rw [hb] at hc
  cases hc
theorem PSt.b_ne_m (h : PSt Z B w b mb n D V X gv lt) : b ≠ mb := fun e => by
  obtain ⟨es, clock, hb, _⟩ := h.own
  rw [← e, h.cell] at hb
  cases hb
theorem zero_vs (w : World) : (zeroValue 42).run Try.prog w = .ok nilV w := Try.zeroValue42 w
/-- what the map tells of a node -/
theorem PSt.look (h : PSt Z B w b mb n D V X gv lt) {id : Int} (hid : (Lit.int .i64 id).wf = true) : (Instr.lookup 88 (.map (some mb)) (.int .i64 id) false).run Try.prog w = .ok (V id) w := by
  obtain ⟨v, ps, hr, hv⟩ := h.own.lookup law_int Try.underlying88 (zero_vs w) (show heldE nilV = some (.held nilV, []) from rfl) (key_int hid)
  rw [h.val id] at hv
  simp only [heldE, Option.some.injEq, Prod.mk.injEq, DataW.held.injEq] at hv
  rw [hr, hv.1]
theorem PSt.form (h : PSt Z B w b mb n D V X gv lt) (id : Int) : ∃ o j, V id = .slice o (X id).length j := (h.row id).form
/-- a node's versions, to be read -/
theorem PSt.on (h : PSt Z B w b mb n D V X gv lt) (id : Int) : VsOn w Z (V id) (X id) :=
  (h.row id).on (fun g hg => h.zo g (.inr (.inr ⟨id, hg⟩))) fun x hx => (h.rcs id x hx).move fun _ _ hF => ⟨hF.1, rfl⟩
/-- the numbers of the nodes that have a version -/
def idsX (gv : Nat) (X : Int → List VeV) : List Int := ((List.range' 1 gv).filter fun id : Nat => !(X (id : Int)).isEmpty).map Int.ofNat
theorem mem_idsX {x : Int} : x ∈ idsX gv X ↔ (1 ≤ x ∧ x ≤ (gv : Int)) ∧ X x ≠ [] := by
  unfold idsX
  rw [List.mem_map]
  constructor
  · rintro ⟨k, hk, rfl⟩
    obtain ⟨h1, h2⟩ := List.mem_filter.1 hk
    rw [List.mem_range'_1] at h1
    refine ⟨⟨by show (1 : Int) ≤ (k : Int); omega, by show (k : Int) ≤ gv; omega⟩, fun e => ?_⟩
    rw [show Int.ofNat k = (k : Int) from rfl] at e
    simp [e] at h2
  · rintro ⟨⟨h1, h2⟩, h3⟩
    obtain ⟨k, rfl⟩ := Int.eq_ofNat_of_zero_le (by omega : 0 ≤ x)
    refine ⟨k, List.mem_filter.2 ⟨by rw [List.mem_range'_1]; omega, ?_⟩, rfl⟩
    cases hX : X (k : Int) with
    | nil => exact absurd hX h3
    | cons a r => rfl
theorem idsX_up : (idsX gv X).Pairwise fun a b => a < b := by
  unfold idsX
  refine List.pairwise_map.2 (List.Pairwise.filter _ ?_)
  refine (List.pairwise_lt_range' (s := 1) (n := gv)).imp fun h => ?_
  exact Int.ofNat_lt.2 h
theorem idsX_nodup : (idsX gv X).Nodup := idsX_up.imp fun h => Int.ne_of_lt h
theorem idsX_len : (idsX gv X).length ≤ gv := by
  unfold idsX
  rw [List.length_map]
  exact Nat.le_trans (List.length_filter_le _ _) (by simp)
theorem PSt.keys (h : PSt Z B w b mb n D V X gv lt) {ss : List Int} (hp : ss.Perm (intKeys D)) : ss.mergeSort leI = idsX gv X := by
  obtain ⟨es, hD, hpw, _⟩ := h.own.entries law_int
  obtain ⟨es', hD', hko⟩ := h.own.keysOf
  obtain rfl : es = es' := by rw [hD] at hD'; simpa using hD'
  have h1 : (idsX gv X).Perm (intKeys D) := by
    subst hD
    refine perm_intKeys hpw (fun p hp => by obtain ⟨v, hv⟩ := hko p hp; obtain ⟨x, _, hx, _⟩ := Maps.keyOf_i64 Try.underlying3 hv; exact ⟨x, hx⟩) idsX_nodup fun x => ?_
    rw [mem_idsX, show (Lit.int .i64 x) = kI x from rfl, h.has x]
    constructor
    · rintro ⟨_, h2⟩
      cases hX : X x with
      | nil => exact absurd hX h2
      | cons a r => rfl
    · intro h2
      have h3 : X x ≠ [] := fun e => by rw [e] at h2; cases h2
      exact ⟨h.ids x h3, h3⟩
  rw [mergeSort_of_perm_i (hp.trans h1.symm)]
  exact List.mergeSort_of_pairwise (idsX_up.imp fun h => decide_eq_true (Int.le_of_lt h))
theorem PSt.size (h : PSt Z B w b mb n D V X gv lt) : Maps.size D ≤ gv := by
  have h1 : (idsX gv X).Perm (intKeys D) := by
    have := h.keys (List.Perm.refl _)
    rw [← this]
    exact List.mergeSort_perm _ _
  obtain ⟨es, hD, _⟩ := h.own.entries law_int
  have h2 := h1.length_eq
  have h3 : (intKeys D).length = Maps.size D := by rw [hD]; simp [intKeys, Maps.size]
  rw [← h3, ← h2]
  exact idsX_len
end
end Go.Proofs.Ytpimdmjhnogelaa.Char
