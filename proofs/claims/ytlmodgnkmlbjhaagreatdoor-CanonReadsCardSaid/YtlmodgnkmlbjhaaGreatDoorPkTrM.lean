import Derived.Test.YtlmodgnkmlbjhaaGreatDoorPkAts
import Derived.Test.YtlmodgnkmlbjhaaGreatDoorPkStart
import Derived.Lib.Bytealg
import Derived.Sort.Statements
namespace Go.Proofs.YtlmodgnkmlbjhaaGreatDoor
namespace Char
open Go.Lib
inductive Tr where
 | mk (kd : Int) (nm tx : List UInt8) (ats : List At2) (ks : List Tr)
def Tr.kd : Tr → Int | .mk k _ _ _ _ => k
def Tr.nm : Tr → List UInt8 | .mk _ n _ _ _ => n
def Tr.tx : Tr → List UInt8 | .mk _ _ t _ _ => t
def Tr.ats : Tr → List At2 | .mk _ _ _ a _ => a
def Tr.ks : Tr → List Tr | .mk _ _ _ _ k => k
theorem Tr.eta (t : Tr) : Tr.mk t.kd t.nm t.tx t.ats t.ks = t := by cases t; rfl
def insA (a : At2) : List At2 → List At2
 | [] => [a]
 | x :: r => if Op.bytesLess x.1 a.1 = true then x :: insA a r else a :: x :: r
def sortA (l : List At2) : List At2 := l.foldl (fun m a => insA a m) []
theorem insA_len (a : At2) : ∀ l, (insA a l).length = l.length + 1
 | [] => rfl
 | x :: r => by
  unfold insA
  split
  ·rw [List.length_cons, insA_len a r, List.length_cons]
  ·rfl
theorem sortA_len' : ∀ (l m : List At2), (l.foldl (fun m a => insA a m) m).length = m.length + l.length
 | [], m => rfl
 | a :: r, m => by rw [List.foldl_cons, sortA_len' r, insA_len, List.length_cons]; omega
theorem sortA_len (l : List At2) : (sortA l).length = l.length := by unfold sortA; rw [sortA_len' l []]; simp
def lastTx (ks : List Tr) : Bool := match ks.getLast? with
 | some t => t.kd == 4
 | none => false
def putK (ks : List Tr) (n : Tr) : List Tr := match ks.getLast? with
 | some t => if t.kd == 4 && n.kd == 4 then ks.dropLast ++ [.mk t.kd t.nm (t.tx ++ n.tx) t.ats t.ks] else ks ++ [n]
 | none => ks ++ [n]
def Tr.put (t n : Tr) : Tr := .mk t.kd t.nm t.tx t.ats (putK t.ks n)
def grd0 : Tr := .mk 1 [] [] [] []
def topT : List Tr → Tr
 | [] => grd0
 | t :: _ => t
def putT (n : Tr) : List Tr → List Tr
 | [] => []
 | t :: r => t.put n :: r
def endT : List Tr → List Tr
 | [] => []
 | t :: r => putT t r
def leafT (p : Tk) : Tr := .mk (p.kd + 1) p.nm p.tx [] []
def beginT (p : Tk) : Tr := .mk 2 p.nm [] (sortA p.ats) []
def leftT (p : Tk) (os : List Tr) : Bool := p.kd == 3 && (p.tx.isEmpty || (os.length == 1 && p.tx.all fun c => spC (c.toNat : Int)))
def moreT (p : Tk) (t : Tr) : Nat := if p.kd = 1 then 1 + p.ats.length else if p.kd = 2 ∨ (p.kd = 3 ∧ lastTx t.ks = true) then 0 else 1
def faultT (p : Tk) (os : List Tr) (sz : Nat) : Nat :=
 if p.kd = 2 ∧ p.nm ≠ (topT os).nm then 14 else if p.kd = 2 then 0 else
 if os.length = 1 ∧ (p.kd ≠ 1 ∨ (topT os).ks ≠ []) then 17 else if p.kd = 1 ∧ os.length = 13 then 18 else if 120 < sz then 19 else 0
def nextT (p : Tk) (os : List Tr) : List Tr :=
 if p.kd = 1 then (if p.em then endT (beginT p :: os) else beginT p :: os) else if p.kd = 2 then endT os else putT (leafT p) os
def finT (os : List Tr) : Nat ⊕ Tr := if 1 < os.length then .inl 16 else match (topT os).ks with
 | [] => .inl 17
 | k :: _ => .inr k
def runT : List Tk → List Tr → Nat → Nat ⊕ Tr
 | [], os, _ => finT os
 | p :: r, os, sz => if leftT p os then runT r os sz else
  if faultT p os (sz + moreT p (topT os)) ≠ 0 then .inl (faultT p os (sz + moreT p (topT os))) else runT r (nextT p os) (sz + moreT p (topT os))
def parseL (s : List UInt8) : Nat ⊕ Tr := match scanL s with
 | .inl e => .inl e
 | .inr ts => runT ts [grd0] 0
theorem run_left {p : Tk} {r : List Tk} {os : List Tr} {sz : Nat} (h : leftT p os = true) : runT (p :: r) os sz = runT r os sz := by rw [runT, if_pos h]
theorem run_fault {p : Tk} {r : List Tk} {os : List Tr} {sz : Nat} (h : leftT p os = false) (hf : faultT p os (sz + moreT p (topT os)) ≠ 0) : runT (p :: r) os sz = .inl (faultT p os (sz + moreT p (topT os))) := by
 rw [runT, h]
 simp [hf]
theorem run_next {p : Tk} {r : List Tk} {os : List Tr} {sz : Nat} (h : leftT p os = false) (hf : faultT p os (sz + moreT p (topT os)) = 0) : runT (p :: r) os sz = runT r (nextT p os) (sz + moreT p (topT os)) := by
 rw [runT, h]
 simp [hf]
theorem putT_len (n : Tr) (os : List Tr) : (putT n os).length = os.length := by cases os <;> rfl
theorem endT_len (os : List Tr) : (endT os).length = os.length - 1 := by
 cases os with
 | nil => rfl
 | cons t r => rw [endT, putT_len]; simp
theorem putK_len (ks : List Tr) (n : Tr) : (putK ks n).length ≤ ks.length + 1 := by
 unfold putK
 split
 ·split
  ·simp
  ·simp
 ·simp
end Char
namespace Char
open Go.RowKit Go.Lib
def AtsOn (w : World) (F : Nat → Prop) (v : Value) (qs : List At2) : Prop := ∃ o i j, v = .slice o i j ∧ i = qs.length ∧ (qs = [] ∨ ∃ g off, o = some ⟨g, off, none⟩ ∧ F g ∧
 ∀ k, k < qs.length → w.cell? ⟨g, off + k * 2, none⟩ = some (.string (bs (qs.getD k ([], [])).1)) ∧ w.cell? ⟨g, off + k * 2 + 1, none⟩ = some (.string (bs (qs.getD k ([], [])).2)))
def NdAt (w : World) (g off : Nat) (t : Tr) (va vk : Value) : Prop :=
 w.cell? ⟨g, off, none⟩ = some (.int .i64 t.kd) ∧ w.cell? ⟨g, off + 1, none⟩ = some (.string (bs t.nm)) ∧ w.cell? ⟨g, off + 2, none⟩ = some (.string (bs t.tx)) ∧ w.cell? ⟨g, off + 3, none⟩ = some va ∧ w.cell? ⟨g, off + 4, none⟩ = some vk
mutual
def NdOn (w : World) (F : Nat → Prop) : Tr → Value → Value → Prop
 | .mk _ _ _ ats ks, va, vk => AtsOn w F va ats ∧ ∃ o i j, vk = .slice o i j ∧ i = ks.length ∧ (ks = [] ∨ ∃ g off, o = some ⟨g, off, none⟩ ∧ F g ∧ KsOn w F g off ks)
def KsOn (w : World) (F : Nat → Prop) (g : Nat) : Nat → List Tr → Prop
 | _, [] => True
 | off, k :: ks => (∃ va vk, NdAt w g off k va vk ∧ NdOn w F k va vk) ∧ KsOn w F g (off + 5) ks
end
def ndV (t : Tr) (va vk : Value) : Value := .agg #[.int .i64 t.kd, .string (bs t.nm), .string (bs t.tx), va, vk]
theorem AtsOn.move {w w' : World} {F F' : Nat → Prop} (h : ∀ b, b < w.heap.size → F b → F' b ∧ w'.heap[b]? = w.heap[b]?) {v : Value} {qs : List At2} (ha : AtsOn w F v qs) : AtsOn w' F' v qs := by
 obtain ⟨o, i, j, e1, e2, e3⟩ := ha
 refine ⟨o, i, j, e1, e2, ?_⟩
 rcases e3 with e3 | ⟨g, off, e4, e5, e6⟩
 ·exact .inl e3
 ·by_cases hq : qs = []
  ·exact .inl hq
  ·have h0 := (e6 0 (List.length_pos_iff.2 hq)).1
   have hg : g < w.heap.size := by
    unfold World.cell? at h0
    split at h0
    ·rename_i hh; exact (Array.getElem?_eq_some_iff.1 hh).1
    ·cases h0
   obtain ⟨k1, k2⟩ := h g hg e5
   exact .inr ⟨g, off, e4, k1, fun k hk => ⟨(World.cell?_of_block (w := w) k2).trans (e6 k hk).1, (World.cell?_of_block (w := w) k2).trans (e6 k hk).2⟩⟩
theorem cell_lt {w : World} {a : Addr} {v : Value} (h : w.cell? a = some v) : a.block < w.heap.size := by
 unfold World.cell? at h
 split at h
 ·rename_i hh; exact (Array.getElem?_eq_some_iff.1 hh).1
 ·cases h
theorem NdAt.move {w w' : World} {g off : Nat} (h : w'.heap[g]? = w.heap[g]?) {t : Tr} {va vk : Value} (hn : NdAt w g off t va vk) : NdAt w' g off t va vk := by
 obtain ⟨h0, h1, h2, h3, h4⟩ := hn
 exact ⟨(World.cell?_of_block (w := w) h).trans h0, (World.cell?_of_block (w := w) h).trans h1, (World.cell?_of_block (w := w) h).trans h2, (World.cell?_of_block (w := w) h).trans h3, (World.cell?_of_block (w := w) h).trans h4⟩
mutual
theorem NdOn.move {w w' : World} {F F' : Nat → Prop} (h : ∀ b, b < w.heap.size → F b → F' b ∧ w'.heap[b]? = w.heap[b]?) : ∀ (t : Tr) (va vk : Value), NdOn w F t va vk → NdOn w' F' t va vk
 | .mk _ _ _ ats ks, va, vk, hn => by
  rw [NdOn] at hn ⊢
  obtain ⟨h1, o, i, j, e1, e2, e3⟩ := hn
  refine ⟨h1.move h, o, i, j, e1, e2, ?_⟩
  rcases e3 with e3 | ⟨g, off, e4, e5, e6⟩
  ·exact .inl e3
  ·cases ks with
   | nil => exact .inl rfl
   | cons k r =>
    have hg : g < w.heap.size := by
     rw [KsOn] at e6
     obtain ⟨⟨_, _, ⟨h0, _⟩, _⟩, _⟩ := e6
     exact cell_lt h0
    obtain ⟨k1, k2⟩ := h g hg e5
    exact .inr ⟨g, off, e4, k1, KsOn.move h k2 off _ e6⟩
theorem KsOn.move {w w' : World} {F F' : Nat → Prop} (h : ∀ b, b < w.heap.size → F b → F' b ∧ w'.heap[b]? = w.heap[b]?) {g : Nat} (hg : w'.heap[g]? = w.heap[g]?) : ∀ (off : Nat) (ks : List Tr), KsOn w F g off ks → KsOn w' F' g off ks
 | _, [], _ => by rw [KsOn]; trivial
 | off, k :: r, hk => by
  rw [KsOn] at hk ⊢
  obtain ⟨⟨va, vk, h1, h2⟩, h3⟩ := hk
  exact ⟨⟨va, vk, h1.move hg, NdOn.move h k va vk h2⟩, KsOn.move h hg (off + 5) r h3⟩
end
theorem KsOn.at {w : World} {F : Nat → Prop} {g : Nat} : ∀ {off : Nat} {ks : List Tr}, KsOn w F g off ks → ∀ k (h : k < ks.length), ∃ va vk, NdAt w g (off + k * 5) ks[k] va vk ∧ NdOn w F ks[k] va vk
 | _, [], _, k, h => by cases h
 | off, x :: r, hk, 0, _ => by
  rw [KsOn] at hk
  simpa using hk.1
 | off, x :: r, hk, k + 1, h => by
  rw [KsOn] at hk
  have := hk.2.at k (by simpa using h)
  rw [show off + (k + 1) * 5 = off + 5 + k * 5 by omega]
  exact this
theorem KsOn.of {w : World} {F : Nat → Prop} {g : Nat} : ∀ {off : Nat} {ks : List Tr}, (∀ k (h : k < ks.length), ∃ va vk, NdAt w g (off + k * 5) ks[k] va vk ∧ NdOn w F ks[k] va vk) → KsOn w F g off ks
 | _, [], _ => by rw [KsOn]; trivial
 | off, x :: r, h => by
  rw [KsOn]
  refine ⟨by have h0 := h 0 (by simp); simp only [Nat.zero_mul, Nat.add_zero, List.getElem_cons_zero] at h0; exact h0, KsOn.of fun k hk => ?_⟩
  have := h (k + 1) (by simpa using hk)
  rw [show off + (k + 1) * 5 = off + 5 + k * 5 by omega] at this
  exact this
theorem NdOn.ats {w : World} {F : Nat → Prop} {t : Tr} {va vk : Value} (h : NdOn w F t va vk) : AtsOn w F va t.ats := by
 cases t
 rw [NdOn] at h
 exact h.1
theorem NdOn.kids {w : World} {F : Nat → Prop} {t : Tr} {va vk : Value} (h : NdOn w F t va vk) : ∃ o i j, vk = .slice o i j ∧ i = t.ks.length ∧ (t.ks = [] ∨ ∃ g off, o = some ⟨g, off, none⟩ ∧ F g ∧ KsOn w F g off t.ks) := by
 cases t
 rw [NdOn] at h
 exact h.2
theorem NdOn.of {w : World} {F : Nat → Prop} {t : Tr} {va vk : Value} (h1 : AtsOn w F va t.ats) (h2 : ∃ o i j, vk = .slice o i j ∧ i = t.ks.length ∧ (t.ks = [] ∨ ∃ g off, o = some ⟨g, off, none⟩ ∧ F g ∧ KsOn w F g off t.ks)) : NdOn w F t va vk := by
 cases t
 rw [NdOn]
 exact ⟨h1, h2⟩
theorem NdOn.below {w w' : World} {F : Nat → Prop} {t : Tr} {va vk : Value} (h : NdOn w F t va vk) (hb : Below w.heap.size w w') : NdOn w' F t va vk :=
 NdOn.move (fun b hb0 hF => ⟨hF, hb.block b hb0⟩) t va vk h
theorem NdOn.draws {w : World} {F : Nat → Prop} {t : Tr} {va vk : Value} (h : NdOn w F t va vk) (n : Nat) : NdOn (w.drewN n) F t va vk :=
 NdOn.move (w := w) (w' := w.drewN n) (fun _ _ hF => ⟨hF, rfl⟩) t va vk h
theorem OwnsAt.on {B : Nat} {w : World} {F : Nat → Prop} {v : Value} {qs : List At2} (h : OwnsAt B w v qs) (hF : ∀ g, v.ownBlock = some g → F g) : AtsOn w F v qs := by
 have h0 := h
 rcases h.2 with ⟨h1, h2⟩ | ⟨g, cap, cur, e1, e2, hg, e3⟩
 ·exact ⟨none, 0, 0, h1, h2.symm, .inl (List.eq_nil_of_length_eq_zero h2)⟩
 ·refine ⟨_, _, _, e1, rfl, .inr ⟨g, 0, rfl, hF g (by rw [e1]; rfl), fun k hk => ?_⟩⟩
  rw [e1] at h0
  obtain ⟨g', e4, _, _, r1, r2⟩ := h0.reads k hk
  simp only [Option.some.injEq, Addr.mk.injEq] at e4
  obtain ⟨rfl, _⟩ := e4
  rw [Nat.zero_add]
  exact ⟨r1, r2⟩
end Char
namespace Char
open Go.Lib
theorem less_irr : ∀ a : List UInt8, Op.bytesLess a a = false
 | [] => rfl
 | x :: r => by simp [Op.bytesLess, less_irr r]
theorem less_trans : ∀ a b c : List UInt8, Op.bytesLess a b = true → Op.bytesLess b c = true → Op.bytesLess a c = true
 | _, _, [], _, h2 => by cases h2' : (‹List UInt8›) <;> simp_all [Op.bytesLess]
 | _, [], _ :: _, h1, _ => by cases h1' : (‹List UInt8›) <;> simp_all [Op.bytesLess]
 | [], _ :: _, _ :: _, _, _ => rfl
 | x :: a, y :: b, z :: c, h1, h2 => by
  simp only [Op.bytesLess, Bool.or_eq_true, Bool.and_eq_true, decide_eq_true_eq, beq_iff_eq] at h1 h2 ⊢
  rcases h1 with h1 | ⟨h1, h1'⟩ <;> rcases h2 with h2 | ⟨h2, h2'⟩
  ·exact .inl (UInt8.lt_trans h1 h2)
  ·subst h2; exact .inl h1
  ·subst h1; exact .inl h2
  ·subst h1; subst h2; exact .inr ⟨rfl, less_trans a b c h1' h2'⟩
theorem less_tri : ∀ a b : List UInt8, Op.bytesLess a b = false → Op.bytesLess b a = false → a = b
 | [], [], _, _ => rfl
 | [], _ :: _, h, _ => by simp [Op.bytesLess] at h
 | _ :: _, [], _, h => by simp [Op.bytesLess] at h
 | x :: a, y :: b, h1, h2 => by
  simp only [Op.bytesLess, Bool.or_eq_false_iff, Bool.and_eq_false_iff, decide_eq_false_iff_not, beq_eq_false_iff_ne] at h1 h2
  have hxy : x = y := by
   have a1 := h1.1; have a2 := h2.1
   rw [UInt8.lt_iff_toNat_lt] at a1 a2
   exact UInt8.toNat_inj.1 (by omega)
  subst hxy
  rw [less_tri a b (by simpa using h1.2) (by simpa using h2.2)]
theorem cmp_less : ∀ a b : List UInt8, decide (compareBytes a b < 0) = Op.bytesLess a b
 | [], [] => rfl
 | [], _ :: _ => rfl
 | _ :: _, [] => rfl
 | x :: a, y :: b => by
  simp only [compareBytes, Op.bytesLess]
  by_cases h : x < y
  ·simp [h]
  ·by_cases h2 : y < x
   ·have hne : x ≠ y := by rintro rfl; exact h h2
    simp [h, h2, hne]
   ·have hxy : x = y := by
     rw [UInt8.lt_iff_toNat_lt] at h h2
     exact UInt8.toNat_inj.1 (by omega)
    subst hxy
    simp [cmp_less a b]
def upA (l : List At2) : Prop := l.Pairwise fun x y => Op.bytesLess x.1 y.1 = true
theorem mem_insA (a : At2) : ∀ (l : List At2) (x : At2), x ∈ insA a l ↔ x = a ∨ x ∈ l
 | [], x => by simp [insA]
 | y :: r, x => by
  unfold insA
  split
  ·simp only [List.mem_cons, mem_insA a r x]
   constructor
   ·rintro (h | h | h) <;> simp [h]
   ·rintro (h | h | h) <;> simp [h]
  ·simp
theorem up_insA (a : At2) : ∀ l, upA l → (∀ x, x ∈ l → x.1 ≠ a.1) → upA (insA a l)
 | [], _, _ => by simp [insA, upA]
 | y :: r, h, hn => by
  unfold upA at h
  rw [List.pairwise_cons] at h
  unfold insA
  split
  ·rename_i hl
   unfold upA
   rw [List.pairwise_cons]
   refine ⟨fun x hx => ?_, up_insA a r h.2 (fun x hx => hn x (List.mem_cons_of_mem _ hx))⟩
   rw [mem_insA] at hx
   rcases hx with rfl | hx
   ·exact hl
   ·exact h.1 x hx
  ·rename_i hl
   have hay : Op.bytesLess a.1 y.1 = true := by
    cases hb : Op.bytesLess a.1 y.1 with
    | true => rfl
    | false => exact absurd (less_tri y.1 a.1 (by simpa using hl) hb) (hn y (by simp))
   unfold upA
   rw [List.pairwise_cons, List.pairwise_cons]
   refine ⟨fun x hx => ?_, h⟩
   rw [List.mem_cons] at hx
   rcases hx with rfl | hx
   ·exact hay
   ·exact less_trans _ _ _ hay (h.1 x hx)
theorem perm_insA (a : At2) : ∀ l, (insA a l).Perm (a :: l)
 | [] => List.Perm.refl _
 | y :: r => by
  unfold insA
  split
  ·exact ((perm_insA a r).cons y).trans (List.Perm.swap _ _ _)
  ·exact List.Perm.refl _
theorem perm_sortA' : ∀ (l m : List At2), (l.foldl (fun m a => insA a m) m).Perm (m ++ l)
 | [], m => by simp
 | a :: r, m => by
  rw [List.foldl_cons]
  refine (perm_sortA' r (insA a m)).trans ?_
  refine ((perm_insA a m).append_right r).trans ?_
  exact (List.perm_middle (l₁ := m) (a := a) (l₂ := r)).symm
theorem perm_sortA (l : List At2) : (sortA l).Perm l := by unfold sortA; exact perm_sortA' l []
theorem up_sortA' : ∀ (l m : List At2), upA m → ((m ++ l).map (·.1)).Nodup → upA (l.foldl (fun m a => insA a m) m)
 | [], m, h, _ => h
 | a :: r, m, h, hn => by
  rw [List.foldl_cons]
  refine up_sortA' r _ (up_insA a m h ?_) ?_
  ·intro x hx he
   rw [List.map_append, List.nodup_append] at hn
   exact hn.2.2 x.1 (List.mem_map_of_mem hx) a.1 (by simp) he
  ·refine (List.Perm.nodup_iff ?_).1 hn
   refine List.Perm.map _ ?_
   refine (List.perm_middle (l₁ := m) (a := a) (l₂ := r)).trans ?_
   exact ((perm_insA a m).append_right r).symm
theorem up_sortA (l : List At2) (hn : (l.map (·.1)).Nodup) : upA (sortA l) := up_sortA' l [] (by simp [upA]) (by simpa using hn)
theorem up_unique : ∀ (l m : List At2), l.Perm m → upA l → upA m → l = m
 | [], m, h, _, _ => (List.Perm.nil_eq h)
 | x :: r, [], h, _, _ => by have := h.length_eq; simp at this
 | x :: r, y :: s, h, hl, hm => by
  unfold upA at hl hm
  rw [List.pairwise_cons] at hl hm
  have hxy : x = y := by
   have hx : x ∈ y :: s := h.mem_iff.1 (by simp)
   have hy : y ∈ x :: r := h.mem_iff.2 (by simp)
   rw [List.mem_cons] at hx hy
   rcases hx with hx | hx
   ·exact hx
   ·rcases hy with hy | hy
    ·exact hy.symm
    ·have h1 := hm.1 x hx
     have h2 := hl.1 y hy
     have := less_trans _ _ _ h1 h2
     rw [less_irr] at this
     cases this
  subst hxy
  rw [up_unique r s ((List.perm_cons x).1 h) hl.2 hm.2]
theorem sorted_eq (qs ts : List At2) (hp : ts.Perm qs) (hn : (qs.map (·.1)).Nodup) (hs : ∀ i j (h : i < j) (hj : j < ts.length), Op.bytesLess (ts[j]'hj).1 (ts[i]'(by omega)).1 = false) : ts = sortA qs := by
 refine up_unique ts (sortA qs) (hp.trans (perm_sortA qs).symm) ?_ (up_sortA qs hn)
 have hnt : (ts.map (·.1)).Nodup := (List.Perm.nodup_iff (hp.map _)).2 hn
 unfold upA
 rw [List.pairwise_iff_getElem]
 intro i j hi hj hij
 cases hb : Op.bytesLess ts[i].1 ts[j].1 with
 | true => rfl
 | false =>
  exfalso
  have e := less_tri _ _ hb (hs i j hij hj)
  rw [List.Nodup, List.pairwise_iff_getElem] at hnt
  exact hnt i j (by simpa using hi) (by simpa using hj) hij (by simpa using e)
end Char
end Go.Proofs.YtlmodgnkmlbjhaaGreatDoor
