/- The program's store and the document's, side by side: what each call does. -/
import Derived.Test.YtpimdmjhnogelaaTies
import Derived.Test.YtpimdmjhnogelaaIds9
import Derived.Test.YtpimdmjhnogelaaVersions9
import Derived.Test.YtpimdmjhnogelaaAllW
import Derived.Test.YtpimdmjhnogelaaRefSame9
import Derived.Test.YtpimdmjhnogelaaRefSweep
import Derived.Test.YtpimdmjhnogelaaRefInst
import Derived.Test.YtpimdmjhnogelaaRefNew
namespace Go.Proofs.Ytpimdmjhnogelaa.Char
open Go.RowKit Go.Lib

/-- the program's store at b is the document's S; its blocks are Z -/
def PS (Z : Nat → Prop) (B : Nat) (w : World) (b : Nat) (S : Sto) : Prop := ∃ mb n D V X, PSt Z B w b mb n D V X S.given S.last ∧ Tied X S.L ∧ InvS S
section
variable {Z : Nat → Prop} {B : Nat} {w : World} {b : Nat} {S : Sto}
theorem PS.below (h : PS Z B w b S) {w' : World} (hb : Below w.heap.size w w') : PS Z B w' b S := by
  obtain ⟨mb, n, D, V, X, h1, h2, h3⟩ := h
  exact ⟨mb, n, D, V, X, h1.below hb, h2, h3⟩
theorem PS.move (h : PS Z B w b S) {w' : World} (hz : ∀ g, Z g → w'.heap[g]? = w.heap[g]?) (hs : w.heap.size ≤ w'.heap.size) : PS Z B w' b S := by
  obtain ⟨mb, n, D, V, X, h1, h2, h3⟩ := h
  exact ⟨mb, n, D, V, X, h1.move hz hs, h2, h3⟩
theorem PS.zB (h : PS Z B w b S) : ∀ g, Z g → B ≤ g ∧ g < w.heap.size := by
  obtain ⟨mb, n, D, V, X, h1, _⟩ := h
  exact h1.zB
theorem PS.inv (h : PS Z B w b S) : InvS S := by
  obtain ⟨mb, n, D, V, X, _, _, h3⟩ := h
  exact h3
theorem ps_new (B : Nat) (w : World) (hB : B ≤ w.heap.size) :
    Calls Try.prog 8 #[] w fun e w' => ∃ b, e = .returned (.pointer (some ⟨b, 0, none⟩)) ∧ PS (fun g => w.heap.size ≤ g ∧ g < w'.heap.size) B w' b newS ∧ Below w.heap.size w w' :=
  (new_any B w hB).mono fun _ _ ⟨b, mb, n, D, V, h1, h2, h3⟩ => ⟨b, h1, ⟨mb, n, D, V, X1, h2, Tied.start, InvS.new⟩, h3⟩
theorem ps_fresh (h : PS Z B w b S) (hg : S.given ≤ 100000) :
    Calls Try.prog 31 #[.pointer (some ⟨b, 0, none⟩)] w fun e w' => e = .returned (.int .i64 ((S.given + 1 : Nat) : Int)) ∧ PS Z B w' b (freshS S) ∧ Only B Z w w' := by
  obtain ⟨mb, n, D, V, X, h1, h2, h3⟩ := h
  exact (fresh_any h1 hg).mono fun e w' ⟨q1, q2, q3⟩ => ⟨q1, ⟨mb, n, D, V, X, q2, h2, h3.fresh⟩, q3⟩
theorem ps_at (h : PS Z B w b S) (id : Int) (hid : (Lit.int .i64 id).wf = true) (t : Nat) (hl : S.L.length ≤ 100000) :
    Calls Try.prog 12 #[.pointer (some ⟨b, 0, none⟩), .int .i64 id, .int .u64 (t : Int)] w (AtPost w (atV (versL S.L id) t)) := by
  obtain ⟨mb, n, D, V, X, h1, h2, h3⟩ := h
  have := at_any h1 id hid t (by rw [h2.len]; exact Nat.le_trans (versL_le _ _) (by omega))
  rwa [atX_eq (h1.ups id), h2 id] at this
theorem ps_versions (h : PS Z B w b S) (id : Int) (hid : (Lit.int .i64 id).wf = true) (hl : S.L.length ≤ 100000) :
    Calls Try.prog 15 #[.pointer (some ⟨b, 0, none⟩), .int .i64 id] w fun e w' => ∃ (u : Value) (ys : List VeV), e = .returned u ∧ ys.map toVe = versL S.L id ∧ OvS w.heap.size w' u ys ∧ (∀ x, x ∈ ys → RcSm x.2.1) ∧ Below w.heap.size w w' := by
  obtain ⟨mb, n, D, V, X, h1, h2, h3⟩ := h
  refine (versions_any h1 id hid (by rw [h2.len]; exact Nat.le_trans (versL_le _ _) hl)).mono fun e w' ⟨u, ys, q1, q2, q3, q4⟩ => ⟨u, ys, q1, q2.trans (h2 id), q3, fun x hx => ?_, q4⟩
  have : toVe x ∈ (X id).map toVe := by rw [← q2]; exact List.mem_map_of_mem hx
  obtain ⟨y, hy, e⟩ := List.mem_map.1 this
  have e2 : y.2.1 = x.2.1 := congrArg Ve.r e
  rw [← e2]
  exact h1.sm id y hy
theorem ps_count (h : PS Z B w b S) (hg : S.given ≤ 100000) (hl : S.L.length ≤ 100000) :
    Calls Try.prog 30 #[.pointer (some ⟨b, 0, none⟩)] w fun e w' => e = .returned (.int .i64 (S.L.length : Int)) ∧ Below w.heap.size w w' := by
  obtain ⟨mb, n, D, V, X, h1, h2, h3⟩ := h
  have hc := cnt_len h2 h3
  have := count_any h1 hg (by rw [hc]; omega)
  rwa [hc] at this
theorem ps_ids (h : PS Z B w b S) (hg : S.given ≤ 100000) :
    Calls Try.prog 11 #[.pointer (some ⟨b, 0, none⟩)] w fun e w' => ∃ u, e = .returned u ∧ OwnsInt w.heap.size w' u (idsL S.L S.given) ∧ Below w.heap.size w w' := by
  obtain ⟨mb, n, D, V, X, h1, h2, h3⟩ := h
  have := ids_any h1 hg
  rwa [ids_eq h2] at this
theorem ps_inst (h : PS Z B w b S) (t : Nat) (cs : List ChV) (o : Option Addr) (j : Nat) (hB : B ≤ w.heap.size) {F : Nat → Prop} (hF : ∀ g, F g → ¬ Z g) (hc : ChsOn w F (.slice o cs.length j) cs) (hsm : ∀ x, x ∈ cs → RcSm x.2.1) (hcl : cs.length ≤ 2 ^ 44) (hg : S.given ≤ 100000) (hl : S.L.length ≤ 100000) :
    Calls Try.prog 32 #[.pointer (some ⟨b, 0, none⟩), .int .u64 (t : Int), .slice o cs.length j] w fun e w' => e = .returned (.int .i64 (instE S t (cs.map toCh) : Int)) ∧ Only B Z w w' ∧
      ∃ Z', PS Z' B w' b (instS S t (cs.map toCh)) ∧ (∀ g, Z g → Z' g) ∧ ∀ g, Z' g → Z g ∨ w.heap.size ≤ g := by
  obtain ⟨mb, n, D, V, X, h1, h2, h3⟩ := h
  refine (inst_any h1 t cs o j hB hF hc hsm hcl hg (h2.times h3) (fun id => by rw [h2.len]; exact Nat.le_trans (versL_le _ _) hl)).mono fun e w' ⟨q1, q2, q3⟩ => ?_
  have he : instN S.given S.last t (cs.map toCh) = instE S t (cs.map toCh) := rfl
  rw [he] at q1 q2 q3
  refine ⟨q1, ?_⟩
  by_cases h0 : instE S t (cs.map toCh) = 0
  · obtain ⟨r1, Z', mb', n', D', V', ys, r2, r3, r4, r5⟩ := q3 h0
    refine ⟨r1, Z', ⟨mb', n', D', V', layX X t ys, ?_, ?_, h3.inst t (cs.map toCh)⟩, r4, r5⟩
    · unfold instS
      rw [if_pos h0]
      exact r2
    · unfold instS
      rw [if_pos h0]
      exact h2.lay r3
  · have hb := q2 h0
    refine ⟨Only.of hb hB, Z, ⟨mb, n, D, V, X, ?_, ?_, h3.inst t (cs.map toCh)⟩, fun _ h => h, fun _ h => .inl h⟩
    · unfold instS
      rw [if_neg h0]
      exact h1.below hb
    · unfold instS
      rw [if_neg h0]
      exact h2
theorem ps_sweep (h : PS Z B w b S) (hB : B ≤ w.heap.size) (t : Nat) (hg : S.given ≤ 100000) (hl : S.L.length ≤ 100000) :
    Calls Try.prog 13 #[.pointer (some ⟨b, 0, none⟩), .int .u64 (t : Int)] w fun e w' => e = .returned (.int .i64 ((S.L.length : Int) - ((sweepL t S.L).length : Int))) ∧ PS Z B w' b (sweepS S t) ∧ Only B Z w w' := by
  obtain ⟨mb, n, D, V, X, h1, h2, h3⟩ := h
  have hc := cnt_len h2 h3
  refine (sweep_any h1 hB t hg (by rw [hc]; exact hl) (fun id => by rw [h2.len]; exact Nat.le_trans (versL_le _ _) hl)).mono fun e w' ⟨q1, ⟨D', V', q2⟩, q3⟩ => ?_
  have hs := sum_sweep (o := t) h2 h3 h1.ups
  refine ⟨by rw [q1]; congr 2; omega, ⟨mb, S.given, D', V', _, q2, h2.sweep h1.ids h1.ups, h3.sweep t⟩, q3⟩
end
/-- the two stores, apart -/
def Two (B : Nat) (w : World) (s d : Nat) (S : Sto) : Prop := ∃ Z v xs, PS Z B w s S ∧ RefS B w d v xs S.given S.last ∧ xs.map toOn = S.L ∧ ∀ k, Z k → ownB d v k → False
theorem Two.below {B : Nat} {w : World} {s d : Nat} {S : Sto} (h : Two B w s d S) {w' : World} (hb : Below w.heap.size w w') : Two B w' s d S := by
  obtain ⟨Z, v, xs, h1, h2, h3, h4⟩ := h
  exact ⟨Z, v, xs, h1.below hb, h2.below hb, h3, h4⟩
theorem Two.B {B : Nat} {w : World} {s d : Nat} {S : Sto} (h : Two B w s d S) : B ≤ w.heap.size := by
  obtain ⟨Z, v, xs, h1, h2, h3, h4⟩ := h
  exact Nat.le_trans h2.low (Nat.le_of_lt h2.lt)
theorem Two.inv {B : Nat} {w : World} {s d : Nat} {S : Sto} (h : Two B w s d S) : InvS S := by
  obtain ⟨Z, v, xs, h1, _⟩ := h
  exact h1.inv
theorem PS.sm {Z : Nat → Prop} {B : Nat} {w : World} {b : Nat} {S : Sto} (h : PS Z B w b S) {id : Int} {t : Nat} {r : Rc} (hr : atV (versL S.L id) t = some r) : RcSm r := by
  obtain ⟨mb, n, D, V, X, h1, h2, _⟩ := h
  unfold atV at hr
  cases hl : ((versL S.L id).filter fun x => decide (x.time ≤ t)).getLast? with
  | none => rw [hl] at hr; cases hr
  | some x =>
    rw [hl] at hr
    dsimp only at hr
    split at hr
    · cases hr
    · cases hr
      have hm : x ∈ (X id).map toVe := by rw [h2 id]; exact (List.mem_filter.1 (List.mem_of_getLast? hl)).1
      obtain ⟨y, hy, rfl⟩ := List.mem_map.1 hm
      exact h1.sm id y hy
/-- the document's Versions, to be read -/
theorem two_dvers {B : Nat} {w : World} {s d : Nat} {S : Sto} (h : Two B w s d S) (id : Int) (hl : S.L.length ≤ 100000) :
    Calls Try.prog 46 #[.pointer (some ⟨d, 0, none⟩), .int .i64 id] w fun e w' => ∃ (u : Value) (ys : List VeV), e = .returned u ∧ ys.map toVe = versL S.L id ∧ VsOn w' (fun _ => True) u ys ∧ Below w.heap.size w w' := by
  obtain ⟨Z, v, xs, p1, r1, e1, ap⟩ := h
  refine (refVers_any r1 id (by have := congrArg List.length e1; rw [List.length_map] at this; omega)).mono fun e w' ⟨u, q1, q2, q3⟩ => ⟨u, versV xs id, q1, by rw [versV_toVe, e1], q2.on (fun _ _ => trivial) (fun x hx => ?_), q3⟩
  obtain ⟨y, hy, rfl⟩ := List.mem_map.1 hx
  exact (r1.row.2 y (List.mem_filter.1 hy).1).move fun k hk _ => ⟨trivial, q3.block k hk⟩
/-- a call of the one, then the same of the other -/
theorem Two.seq {B : Nat} {w w1 w2 : World} {s d : Nat} {S' : Sto} {Z Z' : Nat → Prop} {v v' : Value} {xs xs' : List OnV} {gv lt : Nat} (h2 : RefS B w d v xs gv lt) (h4 : ∀ k, Z k → ownB d v k → False) (p1 : PS Z' B w1 s S') (o1 : Only B Z w w1) (z1 : ∀ g, Z' g → Z g ∨ w.heap.size ≤ g)
    (r2 : RefS B w2 d v' xs' S'.given S'.last) (o2 : Only B (ownB d v) w1 w2) (hv : ∀ g, v'.ownBlock = some g → v.ownBlock = some g ∨ w1.heap.size ≤ g) (he : xs'.map toOn = S'.L) : Two B w2 s d S' ∧ Below B w w2 := by
  have hap : ∀ g, Z' g → ownB d v g → False := fun g hg ho => by
    rcases z1 g hg with h | h
    · exact h4 g h ho
    · have := (h2.own ho).2; omega
  refine ⟨⟨Z', v', xs', p1.move (fun g hg => o2.2 g (p1.zB g hg).2 fun ho => hap g hg ho) o2.1.size, r2, he, fun k hk ho => ?_⟩, o1.1.trans o2.1⟩
  rcases ho with rfl | ho
  · exact hap k hk (.inl rfl)
  · rcases hv k ho with h | h
    · exact hap k hk (.inr h)
    · have := (p1.zB k hk).2; omega
end Go.Proofs.Ytpimdmjhnogelaa.Char
