/- Left LeftB ExBox SameE SameF -/
import Derived.Test.YtapljbdklhnfkaaGreatDoorPk04
/- What is left of the words, in the parser's box; its small methods. -/
namespace Go.Proofs.YtapljbdklhnfkaaGreatDoor.Char
open Go.RowKit Go.Lib
open Go.Proofs.YtapljbdklhnfkaaGreatDoor.Fig (outT outV)

/-- words from a place on -/
def WdsAt (w : World) (g off : Nat) (ts : List Wd) : Prop := ∀ k (h : k < ts.length), ∀ i u, (wdC ts[k])[i]? = some u → w.cell? ⟨g, off + k * 4 + i, none⟩ = some u
theorem WdsAt.tail {w : World} {g off : Nat} {x : Wd} {ts : List Wd} (h : WdsAt w g off (x :: ts)) : WdsAt w g (off + 4) ts := fun k hk i u hu => by
  have := h (k + 1) (by simpa using hk) i u (by simpa using hu)
  rwa [show off + (k + 1) * 4 + i = off + 4 + k * 4 + i by omega] at this
theorem WdsAt.head {w : World} {g off : Nat} {x : Wd} {ts : List Wd} (h : WdsAt w g off (x :: ts)) : w.cell? ⟨g, off, none⟩ = some (.int .i64 (x.k : Int)) ∧ w.cell? ⟨g, off + 1, none⟩ = some (.string (bs x.s)) ∧ w.cell? ⟨g, off + 2, none⟩ = some (.int .i64 (outT x.n)) ∧ w.cell? ⟨g, off + 3, none⟩ = some (.int .i64 (outV x.n)) := by
  have h0 := h 0 (by simp)
  simp only [Nat.zero_mul, Nat.add_zero, List.getElem_cons_zero] at h0
  exact ⟨h0 0 _ rfl, h0 1 _ rfl, h0 2 _ rfl, h0 3 _ rfl⟩
theorem WdsAt.move {w w' : World} {g off : Nat} {ts : List Wd} (h : WdsAt w g off ts) (hb : w'.heap[g]? = w.heap[g]?) : WdsAt w' g off ts := fun k hk i u hu =>
  (World.cell?_of_block (w := w) (w' := w') (a := ⟨g, off + k * 4 + i, none⟩) hb).trans (h k hk i u hu)
/-- the parser's box holds what is left -/
def LfB (R : Nat) (ts : List Wd) (w : World) : Prop := ∃ o c, w.cell? ⟨R, 0, none⟩ = some (.slice o ts.length c) ∧ w.frozen? ⟨R, 0, none⟩ = false ∧ R < w.heap.size ∧ ts.length ≤ c ∧
  (ts = [] ∨ ∃ g off, o = some ⟨g, off, none⟩ ∧ g < R ∧ WdsAt w g off ts)
theorem LfB.lt {R : Nat} {ts : List Wd} {w : World} (h : LfB R ts w) : R < w.heap.size := by
  obtain ⟨_, _, _, _, h, _⟩ := h
  exact h
theorem LfB.below {R : Nat} {ts : List Wd} {w w' : World} (h : LfB R ts w) (hb : Below w.heap.size w w') : LfB R ts w' := by
  obtain ⟨o, c, h1, h2, h3, h4, h5⟩ := h
  refine ⟨o, c, (hb.cell (p := ⟨R, 0, none⟩) h3).trans h1, (hb.frozen (p := ⟨R, 0, none⟩) h3).trans h2, Nat.lt_of_lt_of_le h3 hb.size, h4, ?_⟩
  rcases h5 with h5 | ⟨g, off, e1, e2, e4⟩
  · exact .inl h5
  · exact .inr ⟨g, off, e1, e2, e4.move (hb.block g (Nat.lt_trans e2 h3))⟩
theorem LfB.keep {R : Nat} {ts : List Wd} {w w' : World} (h : LfB R ts w) (hk : ∀ k, k ≤ R → w'.heap[k]? = w.heap[k]?) (hs : w.heap.size ≤ w'.heap.size) : LfB R ts w' := by
  obtain ⟨o, c, h1, h2, h3, h4, h5⟩ := h
  have hR := hk R (Nat.le_refl _)
  refine ⟨o, c, (World.cell?_of_block (w := w) (a := ⟨R, 0, none⟩) hR).trans h1, (World.frozen?_of_block (w := w) (a := ⟨R, 0, none⟩) hR).trans h2, Nat.lt_of_lt_of_le h3 hs, h4, ?_⟩
  rcases h5 with h5 | ⟨g, off, e1, e2, e4⟩
  · exact .inl h5
  · exact .inr ⟨g, off, e1, e2, e4.move (hk g (Nat.le_of_lt e2))⟩
set_option maxRecDepth 100000 in
theorem word_size (wx : World) : ((sizeOf (Tryz.prog.elem 39)).run Tryz.prog wx) = .ok 4 wx := by kernel_rfl
theorem word_under : Tryz.prog.underlying 39 = some (.slice (Tryz.prog.elem 39)) := by kernel_rfl
/-- one word that is there -/
theorem LfB.cons {R : Nat} {x : Wd} {ts : List Wd} {w : World} (h : LfB R (x :: ts) w) : ∃ g off c, w.cell? ⟨R, 0, none⟩ = some (.slice (some ⟨g, off, none⟩) (ts.length + 1) c) ∧ w.frozen? ⟨R, 0, none⟩ = false ∧
    (w.cell? ⟨g, off, none⟩ = some (.int .i64 (x.k : Int)) ∧ w.cell? ⟨g, off + 1, none⟩ = some (.string (bs x.s)) ∧ w.cell? ⟨g, off + 2, none⟩ = some (.int .i64 (outT x.n)) ∧ w.cell? ⟨g, off + 3, none⟩ = some (.int .i64 (outV x.n))) ∧
    ∃ o', (∀ wx, (Instr.slice 39 (.slice (some ⟨g, off, none⟩) (ts.length + 1) c) (some (.int .i64 1)) none none).run Tryz.prog wx = .ok (.slice o' ts.length (c - 1)) wx) ∧
      LfB R ts (w.setCell ⟨R, 0, none⟩ (.slice o' ts.length (c - 1))) := by
  obtain ⟨o, c, h1, h2, h3, h4, h5⟩ := h
  rcases h5 with h5 | ⟨g, off, rfl, e2, e4⟩
  · cases h5
  · rw [List.length_cons] at h4
    have hlt : R < w.heap.size := h3
    have q1 : ∀ z, (w.setCell ⟨R, 0, none⟩ z).cell? ⟨R, 0, none⟩ = some z := fun z => by go_simp
    have q2 : ∀ z, (w.setCell ⟨R, 0, none⟩ z).frozen? ⟨R, 0, none⟩ = false := fun z => by go_simp
    have q3 : ∀ z, (w.setCell ⟨R, 0, none⟩ z).heap.size = w.heap.size := fun z => by go_simp
    obtain ⟨o', ho'⟩ : ∃ o', o' = if c = 1 then some (⟨g, off, none⟩ : Addr) else some ⟨g, off + 4, none⟩ := ⟨_, rfl⟩
    refine ⟨g, off, c, h1, h2, e4.head, o', fun wx => ?_, ?_⟩
    · have hz := word_size wx
      have := run_slice_l (P := Tryz.prog) wx 39 (some ⟨g, off, none⟩) (ts.length + 1) c word_under .i64 1 (by omega) (by omega)
      rw [this, hz]
      simp only [Result.andThen, sliced]
      rw [ho']
      by_cases hc : c = 1
      · rw [hc]
        simp
      · simp [hc, Addr.add]
    · refine ⟨_, c - 1, q1 _, q2 _, by rw [q3]; exact h3, by omega, ?_⟩
      cases ts with
      | nil => exact .inl rfl
      | cons y r =>
        have hc : ¬ c = 1 := by rw [List.length_cons] at h4; omega
        rw [if_neg hc] at ho'
        exact .inr ⟨g, off + 4, ho', e2, (WdsAt.tail e4).move (Below.heap_setCell _ _ _ _ (by show g ≠ R; omega))⟩
theorem LfB.nil {R : Nat} {w : World} (h : LfB R [] w) : ∃ o c, w.cell? ⟨R, 0, none⟩ = some (.slice o 0 c) ∧ w.frozen? ⟨R, 0, none⟩ = false := by
  obtain ⟨o, c, h1, h2, _⟩ := h
  exact ⟨o, c, h1, h2⟩

/-- is the next word of a kind, and this one -/
def atL (k : Int) : List Wd → Bool
  | [] => false
  | x :: _ => (x.k : Int) == k
def aheadL (k : Int) (m : List UInt8) : List Wd → Bool
  | [] => false
  | x :: _ => if (x.k : Int) == k then x.s == m else false
set_option maxHeartbeats 2000000 in
theorem at_any (R : Nat) (k : Int) (ts : List Wd) (w : World) (h : LfB R ts w) :
    Calls Tryz.prog 198 #[.pointer (some ⟨R, 0, none⟩), .int .i64 k] w fun e w' => e = .returned (.bool (atL k ts)) ∧ w' = w := by
  cases ts with
  | nil =>
    obtain ⟨o, c, h1, h2⟩ := h.nil
    clear h
    go_enter Tryz.func198, Tryz.ntmps198
    go_wp2_with fail
    go_ret
    exact ⟨rfl, rfl⟩
  | cons x r =>
    obtain ⟨g, off, c, h1, h2, ⟨x0, _⟩, _⟩ := h.cons
    clear h
    simp only [atL]
    have k0 : decide ((0 : Int) < ((r.length + 1 : Nat) : Int)) = true := decide_eq_true (by omega)
    generalize (x.k : Int) = c0 at *
    generalize r.length + 1 = n at *
    have k1 : decide (0 < n) = true := decide_eq_true (by have := of_decide_eq_true k0; omega)
    have k2 : (0 : Int) < (n : Int) := of_decide_eq_true k0
    clear k0
    go_enter Tryz.func198, Tryz.ntmps198
    go_wp2_with fail
    go_ret
    exact ⟨rfl, rfl⟩
end Go.Proofs.YtapljbdklhnfkaaGreatDoor.Char

/- The parser's ahead, take, must, next. -/
namespace Go.Proofs.YtapljbdklhnfkaaGreatDoor.Char
open Go.RowKit Go.Lib
open Go.Proofs.YtapljbdklhnfkaaGreatDoor.Fig (outT outV)

/-- given up with ErrSyntax -/
def pan31 : Ending := .panicked [{ v := .iface 29 (.int .i64 31), recovered := false }]
/-- what a method that may take words off leaves -/
def TkP (R : Nat) (v : Value) (ts : List Wd) (w : World) (e : Ending) (w' : World) : Prop := e = .returned v ∧ LfB R ts w' ∧ But R w w'
/-- what a method that gives up leaves -/
def PaP (R : Nat) (w : World) (e : Ending) (w' : World) : Prop := e = pan31 ∧ But R w w'

set_option maxHeartbeats 2000000 in
theorem ahead_any (R : Nat) (k : Int) (m : List UInt8) (ts : List Wd) (w : World) (h : LfB R ts w) :
    Calls Tryz.prog 180 #[.pointer (some ⟨R, 0, none⟩), .int .i64 k, .string (bs m)] w fun e w' => e = .returned (.bool (aheadL k m ts)) ∧ w' = w := by
  have HA := Lib.hid (at_any R k ts w h)
  cases ts with
  | nil =>
    simp only [atL] at HA
    simp only [aheadL]
    clear h
    go_enter Tryz.func180, Tryz.ntmps180
    go_wp2_with (first
      | (go_at_call 198
         refine HA.out.mono ?_
         rintro e w1 ⟨rfl, rfl⟩))
    go_ret
    exact ⟨rfl, rfl⟩
  | cons x r =>
    obtain ⟨g, off, c, h1, h2, ⟨_, x1, _⟩, _⟩ := h.cons
    clear h
    simp only [atL] at HA
    simp only [aheadL]
    have k2 : (0 : Int) < ((r.length + 1 : Nat) : Int) := by omega
    generalize ((x.k : Int) == k) = b at *
    generalize r.length + 1 = n at *
    have k3 : ((bs x.s).toList == (bs m).toList) = (x.s == m) := by rw [bs_tl, bs_tl]
    generalize (x.s == m) = b2 at *
    generalize bs x.s = S at *
    generalize bs m = M at *
    cases b
    all_goals
      go_enter Tryz.func180, Tryz.ntmps180
      go_wp2_with (first
        | (go_at_call 198
           refine HA.out.mono ?_
           rintro e w1 ⟨rfl, rfl⟩))
      go_ret
      exact ⟨rfl, rfl⟩

def takeL (k : Int) (m : List UInt8) (ts : List Wd) : List Wd := if aheadL k m ts then ts.tail else ts
set_option maxHeartbeats 2000000 in
theorem take_any (R : Nat) (k : Int) (m : List UInt8) (ts : List Wd) (w : World) (h : LfB R ts w) :
    Calls Tryz.prog 164 #[.pointer (some ⟨R, 0, none⟩), .int .i64 k, .string (bs m)] w (TkP R (.bool (aheadL k m ts)) (takeL k m ts) w) := by
  have HA := Lib.hid (ahead_any R k m ts w h)
  unfold takeL
  cases hb : aheadL k m ts with
  | false =>
    rw [hb] at HA
    have HL := Lib.hid h
    rw [if_neg (by simp)]
    clear h hb
    unfold TkP
    go_enter Tryz.func164, Tryz.ntmps164
    go_wp2_with (first
      | (go_at_call 180
         refine HA.out.mono ?_
         rintro e w1 ⟨rfl, rfl⟩))
    go_ret
    exact ⟨rfl, HL.out, But.refl _ _⟩
  | true =>
    rw [hb] at HA
    rw [if_pos rfl]
    cases ts with
    | nil => cases hb
    | cons x r =>
      obtain ⟨g, off, c, h1, h2, _, o', hs, h3⟩ := h.cons
      have hlt := h.lt
      have HL := Lib.hid h3
      clear h hb h3
      show Calls _ _ _ _ (TkP R _ r w)
      unfold TkP
      generalize r.length + 1 = n at *
      generalize bs m = M at *
      go_enter Tryz.func164, Tryz.ntmps164
      go_wp2_with (first
        | (go_at_call 180
           refine HA.out.mono ?_
           rintro e w1 ⟨rfl, rfl⟩))
      go_ret
      exact ⟨rfl, HL.out, But.set _ _ _ _⟩

set_option maxHeartbeats 2000000 in
theorem must_ok (R : Nat) (m : List UInt8) (ts : List Wd) (w : World) (h : LfB R ts w) (ha : aheadL 1 m ts = true) :
    Calls Tryz.prog 214 #[.pointer (some ⟨R, 0, none⟩), .string (bs m)] w (TkP R (.tuple #[]) ts.tail w) := by
  have HT := take_any R 1 m ts w h
  unfold takeL at HT
  rw [if_pos ha, ha] at HT
  have HT := Lib.hid HT
  unfold TkP at HT ⊢
  clear h ha
  generalize bs m = M at *
  go_enter Tryz.func214, Tryz.ntmps214
  go_wp2_with (first
    | (go_at_call 164
       refine HT.out.mono ?_
       rintro e w1 ⟨rfl, h1, h2⟩
       have H1 := Lib.hid h1
       have H2 := Lib.hid h2
       clear h1 h2 HT))
  exact ⟨rfl, .tuple #[], by simp [results, go_sem], rfl, H1.out, H2.out⟩
set_option maxHeartbeats 2000000 in
theorem must_no (R : Nat) (m : List UInt8) (ts : List Wd) (w : World) (h : LfB R ts w) (ha : aheadL 1 m ts = false) :
    Calls Tryz.prog 214 #[.pointer (some ⟨R, 0, none⟩), .string (bs m)] w (PaP R w) := by
  have HT := take_any R 1 m ts w h
  unfold takeL at HT
  rw [if_neg (by rw [ha]; simp), ha] at HT
  have HT := Lib.hid HT
  unfold TkP at HT
  unfold PaP
  clear h ha
  generalize bs m = M at *
  go_enter Tryz.func214, Tryz.ntmps214
  go_wp2_with (first
    | (go_at_call 164
       refine HT.out.mono ?_
       rintro e w1 ⟨rfl, h1, h2⟩
       have H1 := Lib.hid h1
       have H2 := Lib.hid h2
       clear h1 h2 HT))
  exact ⟨rfl, rfl, H2.out⟩
def MuP (R : Nat) (x : Option (List Wd)) (w : World) (e : Ending) (w' : World) : Prop := match x with
  | none => PaP R w e w'
  | some ts => TkP R (.tuple #[]) ts w e w'
def mustW (m : List UInt8) (ts : List Wd) : Option (List Wd) := if aheadL 1 m ts then some ts.tail else none
theorem must_any (R : Nat) (m : List UInt8) (ts : List Wd) (w : World) (h : LfB R ts w) :
    Calls Tryz.prog 214 #[.pointer (some ⟨R, 0, none⟩), .string (bs m)] w (MuP R (mustW m ts) w) := by
  unfold mustW
  cases ha : aheadL 1 m ts with
  | false =>
    rw [if_neg (by simp)]
    exact must_no R m ts w h ha
  | true =>
    rw [if_pos rfl]
    exact must_ok R m ts w h ha
set_option maxHeartbeats 2000000 in
theorem next_no (R : Nat) (w : World) (h : LfB R [] w) : Calls Tryz.prog 212 #[.pointer (some ⟨R, 0, none⟩)] w (PaP R w) := by
  obtain ⟨o, c, h1, h2⟩ := h.nil
  have hlt := h.lt
  have HB := Lib.hid (But.of (below_box (w := w) (.cells #[.int .i64 0, .string ⟨#[]⟩, .int .i64 0, .int .i64 0] 84)) hlt)
  unfold PaP
  clear h
  go_enter Tryz.func212, Tryz.ntmps212
  go_wp2_with fail
  exact ⟨rfl, rfl, HB.out⟩
end Go.Proofs.YtapljbdklhnfkaaGreatDoor.Char

/- An expression, a step, a test, a word in a box of its own: stored whole, and as a result (written by gen_exbox.py). -/
namespace Go.Proofs.YtapljbdklhnfkaaGreatDoor.Char
open Go.RowKit Go.Lib
open Go.Proofs.YtapljbdklhnfkaaGreatDoor.Fig (outT outV)

def boxEx (x : Ex) (vk vs : Value) : Obj := .cells #[(.int .i64 x.op), (.string (bs x.s)), (.int .i64 x.tg), (.int .i64 x.vl), (.bool x.abs), vk, vs] 28
theorem boxEx_blk {w : World} {b : Nat} {x : Ex} {vk vs : Value} (h : w.heap[b]? = some (boxEx x vk vs)) :
    (w.cell? ⟨b, 0, none⟩ = some (.int .i64 x.op) ∧ w.cell? ⟨b, 1, none⟩ = some (.string (bs x.s)) ∧ w.cell? ⟨b, 2, none⟩ = some (.int .i64 x.tg) ∧ w.cell? ⟨b, 3, none⟩ = some (.int .i64 x.vl) ∧ w.cell? ⟨b, 4, none⟩ = some (.bool x.abs) ∧ w.cell? ⟨b, 5, none⟩ = some vk ∧ w.cell? ⟨b, 6, none⟩ = some vs) ∧ ∀ i, w.frozen? ⟨b, i, none⟩ = false := by
  unfold boxEx at h
  exact ⟨⟨by simp [World.cell?, h], by simp [World.cell?, h], by simp [World.cell?, h], by simp [World.cell?, h], by simp [World.cell?, h], by simp [World.cell?, h], by simp [World.cell?, h]⟩, fun i => by simp [World.frozen?, h]⟩
/-- stored whole -/
def setEx (w : World) (b : Nat) (x : Ex) (vk vs : Value) : World := ((((((w.setCell ⟨b, 0, none⟩ (.int .i64 x.op)).setCell ⟨b, 1, none⟩ (.string (bs x.s))).setCell ⟨b, 2, none⟩ (.int .i64 x.tg)).setCell ⟨b, 3, none⟩ (.int .i64 x.vl)).setCell ⟨b, 4, none⟩ (.bool x.abs)).setCell ⟨b, 5, none⟩ vk).setCell ⟨b, 6, none⟩ vs
theorem setEx_at {w : World} {b : Nat} {x : Ex} {vk vs : Value} {x' : Ex} {vk' vs' : Value} (h : w.heap[b]? = some (boxEx x' vk' vs')) : (setEx w b x vk vs).heap[b]? = some (boxEx x vk vs) := by
  unfold setEx
  unfold boxEx at h ⊢
  have h1 := heap_set_at (i := 0) (u := (.int .i64 x.op)) h
  have h2 := heap_set_at (i := 1) (u := (.string (bs x.s))) h1
  have h3 := heap_set_at (i := 2) (u := (.int .i64 x.tg)) h2
  have h4 := heap_set_at (i := 3) (u := (.int .i64 x.vl)) h3
  have h5 := heap_set_at (i := 4) (u := (.bool x.abs)) h4
  have h6 := heap_set_at (i := 5) (u := vk) h5
  have h7 := heap_set_at (i := 6) (u := vs) h6
  exact h7.trans (by simp)
theorem setEx_ne {w : World} {b k : Nat} {x : Ex} {vk vs : Value} (h : k ≠ b) : (setEx w b x vk vs).heap[k]? = w.heap[k]? := by
  unfold setEx
  rw [heap_set_ne (a := ⟨b, 6, none⟩) h, heap_set_ne (a := ⟨b, 5, none⟩) h, heap_set_ne (a := ⟨b, 4, none⟩) h, heap_set_ne (a := ⟨b, 3, none⟩) h, heap_set_ne (a := ⟨b, 2, none⟩) h, heap_set_ne (a := ⟨b, 1, none⟩) h, heap_set_ne (a := ⟨b, 0, none⟩) h]
theorem setEx_size {w : World} {b : Nat} {x : Ex} {vk vs : Value} : (setEx w b x vk vs).heap.size = w.heap.size := by simp [setEx]
theorem setEx_below {B b : Nat} {w w' : World} {x : Ex} {vk vs : Value} (h : Below B w w') (hb : B ≤ b) : Below B w (setEx w' b x vk vs) :=
  ((((((h.setCell (p := ⟨b, 0, none⟩) hb _).setCell (p := ⟨b, 1, none⟩) hb _).setCell (p := ⟨b, 2, none⟩) hb _).setCell (p := ⟨b, 3, none⟩) hb _).setCell (p := ⟨b, 4, none⟩) hb _).setCell (p := ⟨b, 5, none⟩) hb _).setCell (p := ⟨b, 6, none⟩) hb _
/-- a result that is one in a box -/
theorem endCEx {fn : Func} {p : Tmp} (h : fn.results = #[.cell p 28]) {a : Act} {R : Ending → World → Prop} {w1 : World} (g : Nat) {c0 c1 c2 c3 c4 c5 c6 : Value} (hk : w1.heap[g]? = some (.cells #[c0, c1, c2, c3, c4, c5, c6] 28 (0, 0)))
    (hp : a.tmps.getD p undef = .pointer (some ⟨g, 0, none⟩)) (hd : a.defers = []) (hR : R (.returned (.agg #[c0, c1, c2, c3, c4, c5, c6])) w1) : bodyPost Tryz.prog fn R .ret a w1 := by
  have hp' : a.tmps[p]?.getD undef = .pointer (some ⟨g, 0, none⟩) := by simpa using hp
  have hc : ∀ i u, (#[c0, c1, c2, c3, c4, c5, c6] : Array Value)[i]? = some u → w1.cell? ⟨g, i, none⟩ = some u := fun i u hu => by simp [World.cell?, hk, hu]
  have a0 := hc 0 c0 rfl; have a1 := hc 1 c1 rfl; have a2 := hc 2 c2 rfl; have a3 := hc 3 c3 rfl; have a4 := hc 4 c4 rfl; have a5 := hc 5 c5 rfl; have a6 := hc 6 c6 rfl
  exact bodyPost_ret (by simp [results, h, hp', go_sem, a0, a1, a2, a3, a4, a5, a6]) hd hR
theorem endEx {fn : Func} {p : Tmp} (h : fn.results = #[.cell p 28]) {a : Act} {R : Ending → World → Prop} (w1 : World) (g : Nat) {x : Ex} {vk vs : Value} (hk : w1.heap[g]? = some (boxEx x vk vs))
    (hp : a.tmps.getD p undef = .pointer (some ⟨g, 0, none⟩)) (hd : a.defers = []) (hR : R (.returned (.agg #[(.int .i64 x.op), (.string (bs x.s)), (.int .i64 x.tg), (.int .i64 x.vl), (.bool x.abs), vk, vs])) w1) : bodyPost Tryz.prog fn R .ret a w1 := by
  have hp' : a.tmps[p]?.getD undef = .pointer (some ⟨g, 0, none⟩) := by simpa using hp
  obtain ⟨⟨a0, a1, a2, a3, a4, a5, a6⟩, _⟩ := boxEx_blk hk
  exact bodyPost_ret (by simp [results, h, hp', go_sem, a0, a1, a2, a3, a4, a5, a6]) hd hR

def boxSt (x : St) (vp : Value) : Obj := .cells #[(.int .i64 x.ax), (.int .i64 x.tk), (.string (bs x.nm)), (.bool x.has), vp] 54
theorem boxSt_blk {w : World} {b : Nat} {x : St} {vp : Value} (h : w.heap[b]? = some (boxSt x vp)) :
    (w.cell? ⟨b, 0, none⟩ = some (.int .i64 x.ax) ∧ w.cell? ⟨b, 1, none⟩ = some (.int .i64 x.tk) ∧ w.cell? ⟨b, 2, none⟩ = some (.string (bs x.nm)) ∧ w.cell? ⟨b, 3, none⟩ = some (.bool x.has) ∧ w.cell? ⟨b, 4, none⟩ = some vp) ∧ ∀ i, w.frozen? ⟨b, i, none⟩ = false := by
  unfold boxSt at h
  exact ⟨⟨by simp [World.cell?, h], by simp [World.cell?, h], by simp [World.cell?, h], by simp [World.cell?, h], by simp [World.cell?, h]⟩, fun i => by simp [World.frozen?, h]⟩
/-- stored whole -/
def setSt (w : World) (b : Nat) (x : St) (vp : Value) : World := ((((w.setCell ⟨b, 0, none⟩ (.int .i64 x.ax)).setCell ⟨b, 1, none⟩ (.int .i64 x.tk)).setCell ⟨b, 2, none⟩ (.string (bs x.nm))).setCell ⟨b, 3, none⟩ (.bool x.has)).setCell ⟨b, 4, none⟩ vp
theorem setSt_at {w : World} {b : Nat} {x : St} {vp : Value} {x' : St} {vp' : Value} (h : w.heap[b]? = some (boxSt x' vp')) : (setSt w b x vp).heap[b]? = some (boxSt x vp) := by
  unfold setSt
  unfold boxSt at h ⊢
  have h1 := heap_set_at (i := 0) (u := (.int .i64 x.ax)) h
  have h2 := heap_set_at (i := 1) (u := (.int .i64 x.tk)) h1
  have h3 := heap_set_at (i := 2) (u := (.string (bs x.nm))) h2
  have h4 := heap_set_at (i := 3) (u := (.bool x.has)) h3
  have h5 := heap_set_at (i := 4) (u := vp) h4
  exact h5.trans (by simp)
theorem setSt_ne {w : World} {b k : Nat} {x : St} {vp : Value} (h : k ≠ b) : (setSt w b x vp).heap[k]? = w.heap[k]? := by
  unfold setSt
  rw [heap_set_ne (a := ⟨b, 4, none⟩) h, heap_set_ne (a := ⟨b, 3, none⟩) h, heap_set_ne (a := ⟨b, 2, none⟩) h, heap_set_ne (a := ⟨b, 1, none⟩) h, heap_set_ne (a := ⟨b, 0, none⟩) h]
theorem setSt_size {w : World} {b : Nat} {x : St} {vp : Value} : (setSt w b x vp).heap.size = w.heap.size := by simp [setSt]
theorem setSt_below {B b : Nat} {w w' : World} {x : St} {vp : Value} (h : Below B w w') (hb : B ≤ b) : Below B w (setSt w' b x vp) :=
  ((((h.setCell (p := ⟨b, 0, none⟩) hb _).setCell (p := ⟨b, 1, none⟩) hb _).setCell (p := ⟨b, 2, none⟩) hb _).setCell (p := ⟨b, 3, none⟩) hb _).setCell (p := ⟨b, 4, none⟩) hb _
/-- a result that is one in a box -/
theorem endCSt {fn : Func} {p : Tmp} (h : fn.results = #[.cell p 54]) {a : Act} {R : Ending → World → Prop} {w1 : World} (g : Nat) {c0 c1 c2 c3 c4 : Value} (hk : w1.heap[g]? = some (.cells #[c0, c1, c2, c3, c4] 54 (0, 0)))
    (hp : a.tmps.getD p undef = .pointer (some ⟨g, 0, none⟩)) (hd : a.defers = []) (hR : R (.returned (.agg #[c0, c1, c2, c3, c4])) w1) : bodyPost Tryz.prog fn R .ret a w1 := by
  have hp' : a.tmps[p]?.getD undef = .pointer (some ⟨g, 0, none⟩) := by simpa using hp
  have hc : ∀ i u, (#[c0, c1, c2, c3, c4] : Array Value)[i]? = some u → w1.cell? ⟨g, i, none⟩ = some u := fun i u hu => by simp [World.cell?, hk, hu]
  have a0 := hc 0 c0 rfl; have a1 := hc 1 c1 rfl; have a2 := hc 2 c2 rfl; have a3 := hc 3 c3 rfl; have a4 := hc 4 c4 rfl
  exact bodyPost_ret (by simp [results, h, hp', go_sem, a0, a1, a2, a3, a4]) hd hR
theorem endSt {fn : Func} {p : Tmp} (h : fn.results = #[.cell p 54]) {a : Act} {R : Ending → World → Prop} (w1 : World) (g : Nat) {x : St} {vp : Value} (hk : w1.heap[g]? = some (boxSt x vp))
    (hp : a.tmps.getD p undef = .pointer (some ⟨g, 0, none⟩)) (hd : a.defers = []) (hR : R (.returned (.agg #[(.int .i64 x.ax), (.int .i64 x.tk), (.string (bs x.nm)), (.bool x.has), vp])) w1) : bodyPost Tryz.prog fn R .ret a w1 := by
  have hp' : a.tmps[p]?.getD undef = .pointer (some ⟨g, 0, none⟩) := by simpa using hp
  obtain ⟨⟨a0, a1, a2, a3, a4⟩, _⟩ := boxSt_blk hk
  exact bodyPost_ret (by simp [results, h, hp', go_sem, a0, a1, a2, a3, a4]) hd hR

def boxTe (kd : Int) (nm : List UInt8) (hs : Bool) : Obj := .cells #[(.int .i64 kd), (.string (bs nm)), (.bool hs)] 52
theorem boxTe_blk {w : World} {b : Nat} {kd : Int} {nm : List UInt8} {hs : Bool} (h : w.heap[b]? = some (boxTe kd nm hs)) :
    (w.cell? ⟨b, 0, none⟩ = some (.int .i64 kd) ∧ w.cell? ⟨b, 1, none⟩ = some (.string (bs nm)) ∧ w.cell? ⟨b, 2, none⟩ = some (.bool hs)) ∧ ∀ i, w.frozen? ⟨b, i, none⟩ = false := by
  unfold boxTe at h
  exact ⟨⟨by simp [World.cell?, h], by simp [World.cell?, h], by simp [World.cell?, h]⟩, fun i => by simp [World.frozen?, h]⟩
/-- stored whole -/
def setTe (w : World) (b : Nat) (kd : Int) (nm : List UInt8) (hs : Bool) : World := ((w.setCell ⟨b, 0, none⟩ (.int .i64 kd)).setCell ⟨b, 1, none⟩ (.string (bs nm))).setCell ⟨b, 2, none⟩ (.bool hs)
theorem setTe_at {w : World} {b : Nat} {kd : Int} {nm : List UInt8} {hs : Bool} {kd' : Int} {nm' : List UInt8} {hs' : Bool} (h : w.heap[b]? = some (boxTe kd' nm' hs')) : (setTe w b kd nm hs).heap[b]? = some (boxTe kd nm hs) := by
  unfold setTe
  unfold boxTe at h ⊢
  have h1 := heap_set_at (i := 0) (u := (.int .i64 kd)) h
  have h2 := heap_set_at (i := 1) (u := (.string (bs nm))) h1
  have h3 := heap_set_at (i := 2) (u := (.bool hs)) h2
  exact h3.trans (by simp)
theorem setTe_ne {w : World} {b k : Nat} {kd : Int} {nm : List UInt8} {hs : Bool} (h : k ≠ b) : (setTe w b kd nm hs).heap[k]? = w.heap[k]? := by
  unfold setTe
  rw [heap_set_ne (a := ⟨b, 2, none⟩) h, heap_set_ne (a := ⟨b, 1, none⟩) h, heap_set_ne (a := ⟨b, 0, none⟩) h]
theorem setTe_size {w : World} {b : Nat} {kd : Int} {nm : List UInt8} {hs : Bool} : (setTe w b kd nm hs).heap.size = w.heap.size := by simp [setTe]
theorem setTe_below {B b : Nat} {w w' : World} {kd : Int} {nm : List UInt8} {hs : Bool} (h : Below B w w') (hb : B ≤ b) : Below B w (setTe w' b kd nm hs) :=
  ((h.setCell (p := ⟨b, 0, none⟩) hb _).setCell (p := ⟨b, 1, none⟩) hb _).setCell (p := ⟨b, 2, none⟩) hb _
/-- a result that is one in a box -/
theorem endCTe {fn : Func} {p : Tmp} (h : fn.results = #[.cell p 52]) {a : Act} {R : Ending → World → Prop} {w1 : World} (g : Nat) {c0 c1 c2 : Value} (hk : w1.heap[g]? = some (.cells #[c0, c1, c2] 52 (0, 0)))
    (hp : a.tmps.getD p undef = .pointer (some ⟨g, 0, none⟩)) (hd : a.defers = []) (hR : R (.returned (.agg #[c0, c1, c2])) w1) : bodyPost Tryz.prog fn R .ret a w1 := by
  have hp' : a.tmps[p]?.getD undef = .pointer (some ⟨g, 0, none⟩) := by simpa using hp
  have hc : ∀ i u, (#[c0, c1, c2] : Array Value)[i]? = some u → w1.cell? ⟨g, i, none⟩ = some u := fun i u hu => by simp [World.cell?, hk, hu]
  have a0 := hc 0 c0 rfl; have a1 := hc 1 c1 rfl; have a2 := hc 2 c2 rfl
  exact bodyPost_ret (by simp [results, h, hp', go_sem, a0, a1, a2]) hd hR
theorem endTe {fn : Func} {p : Tmp} (h : fn.results = #[.cell p 52]) {a : Act} {R : Ending → World → Prop} (w1 : World) (g : Nat) {kd : Int} {nm : List UInt8} {hs : Bool} (hk : w1.heap[g]? = some (boxTe kd nm hs))
    (hp : a.tmps.getD p undef = .pointer (some ⟨g, 0, none⟩)) (hd : a.defers = []) (hR : R (.returned (.agg #[(.int .i64 kd), (.string (bs nm)), (.bool hs)])) w1) : bodyPost Tryz.prog fn R .ret a w1 := by
  have hp' : a.tmps[p]?.getD undef = .pointer (some ⟨g, 0, none⟩) := by simpa using hp
  obtain ⟨⟨a0, a1, a2⟩, _⟩ := boxTe_blk hk
  exact bodyPost_ret (by simp [results, h, hp', go_sem, a0, a1, a2]) hd hR

def boxWd (x : Wd) : Obj := .cells #[(.int .i64 (x.k : Int)), (.string (bs x.s)), (.int .i64 (outT x.n)), (.int .i64 (outV x.n))] 84
theorem boxWd_blk {w : World} {b : Nat} {x : Wd} (h : w.heap[b]? = some (boxWd x)) :
    (w.cell? ⟨b, 0, none⟩ = some (.int .i64 (x.k : Int)) ∧ w.cell? ⟨b, 1, none⟩ = some (.string (bs x.s)) ∧ w.cell? ⟨b, 2, none⟩ = some (.int .i64 (outT x.n)) ∧ w.cell? ⟨b, 3, none⟩ = some (.int .i64 (outV x.n))) ∧ ∀ i, w.frozen? ⟨b, i, none⟩ = false := by
  unfold boxWd at h
  exact ⟨⟨by simp [World.cell?, h], by simp [World.cell?, h], by simp [World.cell?, h], by simp [World.cell?, h]⟩, fun i => by simp [World.frozen?, h]⟩
/-- stored whole -/
def setWd (w : World) (b : Nat) (x : Wd) : World := (((w.setCell ⟨b, 0, none⟩ (.int .i64 (x.k : Int))).setCell ⟨b, 1, none⟩ (.string (bs x.s))).setCell ⟨b, 2, none⟩ (.int .i64 (outT x.n))).setCell ⟨b, 3, none⟩ (.int .i64 (outV x.n))
theorem setWd_at {w : World} {b : Nat} {x : Wd} {x' : Wd} (h : w.heap[b]? = some (boxWd x')) : (setWd w b x).heap[b]? = some (boxWd x) := by
  unfold setWd
  unfold boxWd at h ⊢
  have h1 := heap_set_at (i := 0) (u := (.int .i64 (x.k : Int))) h
  have h2 := heap_set_at (i := 1) (u := (.string (bs x.s))) h1
  have h3 := heap_set_at (i := 2) (u := (.int .i64 (outT x.n))) h2
  have h4 := heap_set_at (i := 3) (u := (.int .i64 (outV x.n))) h3
  exact h4.trans (by simp)
theorem setWd_ne {w : World} {b k : Nat} {x : Wd} (h : k ≠ b) : (setWd w b x).heap[k]? = w.heap[k]? := by
  unfold setWd
  rw [heap_set_ne (a := ⟨b, 3, none⟩) h, heap_set_ne (a := ⟨b, 2, none⟩) h, heap_set_ne (a := ⟨b, 1, none⟩) h, heap_set_ne (a := ⟨b, 0, none⟩) h]
theorem setWd_size {w : World} {b : Nat} {x : Wd} : (setWd w b x).heap.size = w.heap.size := by simp [setWd]
theorem setWd_below {B b : Nat} {w w' : World} {x : Wd} (h : Below B w w') (hb : B ≤ b) : Below B w (setWd w' b x) :=
  (((h.setCell (p := ⟨b, 0, none⟩) hb _).setCell (p := ⟨b, 1, none⟩) hb _).setCell (p := ⟨b, 2, none⟩) hb _).setCell (p := ⟨b, 3, none⟩) hb _
/-- a result that is one in a box -/
theorem endCWd {fn : Func} {p : Tmp} (h : fn.results = #[.cell p 84]) {a : Act} {R : Ending → World → Prop} {w1 : World} (g : Nat) {c0 c1 c2 c3 : Value} (hk : w1.heap[g]? = some (.cells #[c0, c1, c2, c3] 84 (0, 0)))
    (hp : a.tmps.getD p undef = .pointer (some ⟨g, 0, none⟩)) (hd : a.defers = []) (hR : R (.returned (.agg #[c0, c1, c2, c3])) w1) : bodyPost Tryz.prog fn R .ret a w1 := by
  have hp' : a.tmps[p]?.getD undef = .pointer (some ⟨g, 0, none⟩) := by simpa using hp
  have hc : ∀ i u, (#[c0, c1, c2, c3] : Array Value)[i]? = some u → w1.cell? ⟨g, i, none⟩ = some u := fun i u hu => by simp [World.cell?, hk, hu]
  have a0 := hc 0 c0 rfl; have a1 := hc 1 c1 rfl; have a2 := hc 2 c2 rfl; have a3 := hc 3 c3 rfl
  exact bodyPost_ret (by simp [results, h, hp', go_sem, a0, a1, a2, a3]) hd hR
theorem endWd {fn : Func} {p : Tmp} (h : fn.results = #[.cell p 84]) {a : Act} {R : Ending → World → Prop} (w1 : World) (g : Nat) {x : Wd} (hk : w1.heap[g]? = some (boxWd x))
    (hp : a.tmps.getD p undef = .pointer (some ⟨g, 0, none⟩)) (hd : a.defers = []) (hR : R (.returned (.agg #[(.int .i64 (x.k : Int)), (.string (bs x.s)), (.int .i64 (outT x.n)), (.int .i64 (outV x.n))])) w1) : bodyPost Tryz.prog fn R .ret a w1 := by
  have hp' : a.tmps[p]?.getD undef = .pointer (some ⟨g, 0, none⟩) := by simpa using hp
  obtain ⟨⟨a0, a1, a2, a3⟩, _⟩ := boxWd_blk hk
  exact bodyPost_ret (by simp [results, h, hp', go_sem, a0, a1, a2, a3]) hd hR
theorem But.box {R : Nat} {w w' : World} (h : But R w w') (hR : R < w.heap.size) (o : Obj) : But R w (w'.alloc o) := h.trans (But.of (below_box o) (Nat.lt_of_lt_of_le hR h.size))
theorem LfB.box {R : Nat} {ts : List Wd} {w : World} (h : LfB R ts w) (o : Obj) : LfB R ts (w.alloc o) := h.below (below_box o)
theorem heap_box (w : World) (o : Obj) : (w.alloc o).heap[w.heap.size]? = some o := World.alloc_heap_new w o
theorem heap_box2 (w : World) (o o2 : Obj) : ((w.alloc o).alloc o2).heap[w.heap.size]? = some o := by
  rw [Below.heap_alloc _ _ _ (by simp)]
  exact World.alloc_heap_new w o
end Go.Proofs.YtapljbdklhnfkaaGreatDoor.Char

/- The walk of the program's Same, on expressions. -/
namespace Go.Proofs.YtapljbdklhnfkaaGreatDoor.Char
open Go.RowKit Go.Lib

theorem ExAt.cells {w : World} {g off : Nat} {x : Ex} {vk vs : Value} (h : ExAt w g off x vk vs) : w.cell? ⟨g, off, none⟩ = some (.int .i64 x.op) ∧ w.cell? ⟨g, off + 1, none⟩ = some (.string (bs x.s)) ∧ w.cell? ⟨g, off + 2, none⟩ = some (.int .i64 x.tg) ∧ w.cell? ⟨g, off + 3, none⟩ = some (.int .i64 x.vl) ∧ w.cell? ⟨g, off + 4, none⟩ = some (.bool x.abs) ∧ w.cell? ⟨g, off + 5, none⟩ = some vk ∧ w.cell? ⟨g, off + 6, none⟩ = some vs :=
  ⟨h 0 _ rfl, h 1 _ rfl, h 2 _ rfl, h 3 _ rfl, h 4 _ rfl, h 5 _ rfl, h 6 _ rfl⟩
theorem StAt.cells {w : World} {g off : Nat} {x : St} {vp : Value} (h : StAt w g off x vp) : w.cell? ⟨g, off, none⟩ = some (.int .i64 x.ax) ∧ w.cell? ⟨g, off + 1, none⟩ = some (.int .i64 x.tk) ∧ w.cell? ⟨g, off + 2, none⟩ = some (.string (bs x.nm)) ∧ w.cell? ⟨g, off + 3, none⟩ = some (.bool x.has) ∧ w.cell? ⟨g, off + 4, none⟩ = some vp :=
  ⟨h 0 _ rfl, h 1 _ rfl, h 2 _ rfl, h 3 _ rfl, h 4 _ rfl⟩
theorem ExAt.lt {w : World} {g off : Nat} {x : Ex} {vk vs : Value} (h : ExAt w g off x vk vs) : g < w.heap.size := cell_lt h.cells.1
theorem StAt.lt {w : World} {g off : Nat} {x : St} {vp : Value} (h : StAt w g off x vp) : g < w.heap.size := cell_lt h.cells.1
theorem StOn.below {w w' : World} {F : Nat → Prop} {x : St} {vp : Value} (h : StOn w F x vp) (hb : Below w.heap.size w w') : StOn w' F x vp :=
  StOn.move (fun b hb0 hF => ⟨hF, hb.block b hb0⟩) x vp h
theorem KdOn.below {w w' : World} {F : Nat → Prop} {v : Value} {ks : List Ex} (h : KdOn w F v ks) (hb : Below w.heap.size w w') : KdOn w' F v ks :=
  KdOn.move (fun b hb0 hF => ⟨hF, hb.block b hb0⟩) h
theorem SdOn.below {w w' : World} {F : Nat → Prop} {v : Value} {ks : List St} (h : SdOn w F v ks) (hb : Below w.heap.size w w') : SdOn w' F v ks :=
  SdOn.move (fun b hb0 hF => ⟨hF, hb.block b hb0⟩) h

theorem KdOn.read {w : World} {F : Nat → Prop} {o : Option Addr} {n j : Nat} {ks : List Ex} (h : KdOn w F (.slice o n j) ks) (k : Nat) (hk : k < ks.length) : ∃ g off vk vs, o = some ⟨g, off, none⟩ ∧ F g ∧ ExAt w g (off + k * 7) ks[k] vk vs ∧ ExOn w F ks[k] vk vs := by
  obtain ⟨o', j', e, h⟩ := h
  cases e
  rcases h with h | ⟨g, off, rfl, hg, hK⟩
  · rw [h] at hk; cases hk
  · obtain ⟨vk, vs, h1, h2⟩ := hK.at k hk
    exact ⟨g, off, vk, vs, rfl, hg, h1, h2⟩
theorem SdOn.read {w : World} {F : Nat → Prop} {o : Option Addr} {n j : Nat} {ks : List St} (h : SdOn w F (.slice o n j) ks) (k : Nat) (hk : k < ks.length) : ∃ g off vp, o = some ⟨g, off, none⟩ ∧ F g ∧ StAt w g (off + k * 5) ks[k] vp ∧ StOn w F ks[k] vp := by
  obtain ⟨o', j', e, h⟩ := h
  cases e
  rcases h with h | ⟨g, off, rfl, hg, hK⟩
  · rw [h] at hk; cases hk
  · obtain ⟨vp, h1, h2⟩ := hK.at k hk
    exact ⟨g, off, vp, rfl, hg, h1, h2⟩

/-- Same (the function f), of expressions of at most so many parts -/
def SamC (f c : Nat) : Prop := ∀ (a b : Ex) (va vk ua uk : Value) (w : World) (F G : Nat → Prop), cntE a ≤ c → ExOn w F a va vk → ExOn w G b ua uk →
  Calls Tryz.prog f #[exV a va vk, exV b ua uk] w fun e w' => e = .returned (.bool (eqE a b)) ∧ Below w.heap.size w w'
/-- sameStep, of steps of at most so many parts -/
def SstC (c : Nat) : Prop := ∀ (a b : St) (va ua : Value) (w : World) (F G : Nat → Prop), cntS a ≤ c → StOn w F a va → StOn w G b ua →
  Calls Tryz.prog 30 #[stpV a va, stpV b ua] w fun e w' => e = .returned (.bool (eqS a b)) ∧ Below w.heap.size w w'

set_option maxRecDepth 100000 in
set_option maxHeartbeats 4000000 in
theorem eqFuncE_of (c : Nat) (hS : SamC 14 c) (ks ls : List Ex) (o1 o2 : Option Addr) (j1 j2 : Nat) (w : World) (F G : Nat → Prop) (hc : cntEs ks ≤ c) (hcm : c ≤ 1000)
    (h1 : KdOn w F (.slice o1 ks.length j1) ks) (h2 : KdOn w G (.slice o2 ls.length j2) ls) :
    Calls Tryz.prog 28 #[.slice o1 ks.length j1, .slice o2 ls.length j2, .func (.func 14) #[] #[]] w fun e w' => e = .returned (.bool (eqEs ks ls)) ∧ Below w.heap.size w w' := by
  have HS := Lib.hid hS
  clear hS
  have hcl := cntEs_len ks
  by_cases e4 : ks.length = ls.length
  · have k4 : ((ks.length : Int) != (ls.length : Int)) = false := by simp [e4]
    have HL := Lib.hid e4
    clear e4
    go_enter Tryz.func28, Tryz.ntmps28
    go_wp2_with fail
    go_loopw [17] (fun v wr => ∃ j : Nat, v = .int .i64 (j : Int) ∧ j ≤ ks.length ∧ Below w.heap.size w wr ∧ eqEs ks ls = eqEs (ks.drop j) (ls.drop j)) (fun v _ => ks.length - (RowKit.intOf v).toNat)
    case atStart => exact ⟨0, rfl, Nat.zero_le _, Below.refl _ _, by simp⟩
    case round =>
      obtain ⟨j, rfl, hj, hbr, heq⟩ := hrel
      have hlen := HL.out
      by_cases hlt : j < ks.length
      · have hlt2 : j < ls.length := by omega
        rw [eqEs_drop _ _ j hlt hlt2] at heq
        obtain ⟨_, _, hv1, h1⟩ := h1
        obtain ⟨_, _, hv2, h2⟩ := h2
        cases hv1
        cases hv2
        rcases h1 with h0 | ⟨g, off, rfl, hg, hK⟩
        · rw [h0] at hlt; cases hlt
        obtain ⟨va, vk, hat, hon⟩ := hK.at j hlt
        rcases h2 with h0 | ⟨g', off', rfl, hg', hK'⟩
        · rw [h0] at hlt2; cases hlt2
        obtain ⟨ua, uk, hat', hon'⟩ := hK'.at j hlt2
        have hq1 : ∀ W, Below w.heap.size w W → ExAt W g (off + j * 7) ks[j] va vk := fun W hW => hat.move (hW.block g hat.lt)
        have hq2 : ∀ W, Below w.heap.size w W → ExAt W g' (off' + j * 7) ls[j] ua uk := fun W hW => hat'.move (hW.block g' hat'.lt)
        have hc3 := cntEs_at ks j hlt
        have hc2 := fun W (hW : Below w.heap.size w W) => HS.out ks[j] ls[j] va vk ua uk W F G (by omega) (hon.below hW) (hon'.below hW)
        generalize ks[j] = kid at *
        generalize ls[j] = kid' at *
        obtain ⟨hn1, hn2⟩ := ExOn.iff.1 hon
        obtain ⟨hn3, hn4⟩ := ExOn.iff.1 hon'
        obtain ⟨oa', ja', rfl⟩ := hn1.form
        obtain ⟨ok', jk', rfl⟩ := hn2.form
        obtain ⟨oa2, ja2, rfl⟩ := hn3.form
        obtain ⟨ok2, jk2, rfl⟩ := hn4.form
        unfold exV at hc2
        have HC2 := Lib.hid hc2
        have HE := Lib.hid heq
        have HBR := Lib.hid hbr
        obtain ⟨a0, a1, a2, a3, a4, a5, a6⟩ := (hq1 wr hbr).cells
        obtain ⟨b0, b1, b2, b3, b4, b5, b6⟩ := (hq2 wr hbr).cells
        have hgl : g < wr.heap.size := cell_lt a0
        have hgl' : g' < wr.heap.size := cell_lt b0
        clear hc2 hon hon' hat hat' hK hK' heq hbr hlen hq1 hq2 hn1 hn2 hn3 hn4
        cases hr : eqE kid kid' with
        | false =>
          have HR := Lib.hid hr
          clear hr
          go_wp2_with fail
          obtain ⟨W2, hW2⟩ : ∃ W2, W2 = (wr.alloc (boxEx kid (.slice oa' kid.ks.length ja') (.slice ok' kid.ss.length jk'))).alloc (boxEx kid' (.slice oa2 kid'.ks.length ja2) (.slice ok2 kid'.ss.length jk2)) := ⟨_, rfl⟩
          have hb2 : Below w.heap.size w W2 := by rw [hW2]; exact (HBR.out.alloc HBR.out.size _).alloc (by have := HBR.out.size; simp; omega) _
          unfold boxEx at hW2
          rw [← hW2]
          clear hW2
          refine (HC2.out W2 hb2).mono ?_
          rintro e w2 ⟨rfl, hb3⟩
          have HB4 := Lib.hid (hb2.trans (hb3.mono hb2.size))
          clear hb2 hb3
          rw [HR.out]
          go_wp2_with fail
          go_ret
          rw [HE.out, HR.out]
          exact ⟨rfl, HB4.out⟩
        | true =>
          have HR := Lib.hid hr
          clear hr
          go_wp2_with fail
          obtain ⟨W2, hW2⟩ : ∃ W2, W2 = (wr.alloc (boxEx kid (.slice oa' kid.ks.length ja') (.slice ok' kid.ss.length jk'))).alloc (boxEx kid' (.slice oa2 kid'.ks.length ja2) (.slice ok2 kid'.ss.length jk2)) := ⟨_, rfl⟩
          have hb2 : Below w.heap.size w W2 := by rw [hW2]; exact (HBR.out.alloc HBR.out.size _).alloc (by have := HBR.out.size; simp; omega) _
          unfold boxEx at hW2
          rw [← hW2]
          clear hW2
          refine (HC2.out W2 hb2).mono ?_
          rintro e w2 ⟨rfl, hb3⟩
          have HB4 := Lib.hid (hb2.trans (hb3.mono hb2.size))
          clear hb2 hb3
          rw [HR.out]
          go_wp2_with fail
          go_roundw
          case rel => exact ⟨j + 1, by go_num, by omega, HB4.out, by rw [HE.out, HR.out, Bool.true_and]⟩
          case measure => simp [RowKit.intOf]; omega
      · have e : j = ks.length := by omega
        subst e
        rw [eqEs_end _ _ hlen] at heq
        have HE := Lib.hid heq
        clear heq hlen
        go_wp2_with fail
        go_ret
        rw [HE.out]
        exact ⟨rfl, hbr⟩
  · have k4 : ((ks.length : Int) != (ls.length : Int)) = true := by rw [bne_iff_ne]; omega
    have HD := Lib.hid (eqEs_len _ _ e4)
    clear e4
    go_enter Tryz.func28, Tryz.ntmps28
    go_wp2_with fail
    go_ret
    rw [HD.out]
    exact ⟨rfl, Below.refl _ _⟩

set_option maxRecDepth 100000 in
set_option maxHeartbeats 4000000 in
theorem eqFuncS_of (c : Nat) (hS : SstC c) (ks ls : List St) (o1 o2 : Option Addr) (j1 j2 : Nat) (w : World) (F G : Nat → Prop) (hc : cntSs ks ≤ c) (hcm : c ≤ 1000)
    (h1 : SdOn w F (.slice o1 ks.length j1) ks) (h2 : SdOn w G (.slice o2 ls.length j2) ls) :
    Calls Tryz.prog 29 #[.slice o1 ks.length j1, .slice o2 ls.length j2, .func (.func 30) #[] #[]] w fun e w' => e = .returned (.bool (eqSs ks ls)) ∧ Below w.heap.size w w' := by
  have HS := Lib.hid hS
  clear hS
  have hcl := cntSs_len ks
  by_cases e4 : ks.length = ls.length
  · have k4 : ((ks.length : Int) != (ls.length : Int)) = false := by simp [e4]
    have HL := Lib.hid e4
    clear e4
    go_enter Tryz.func29, Tryz.ntmps29
    go_wp2_with fail
    go_loopw [17] (fun v wr => ∃ j : Nat, v = .int .i64 (j : Int) ∧ j ≤ ks.length ∧ Below w.heap.size w wr ∧ eqSs ks ls = eqSs (ks.drop j) (ls.drop j)) (fun v _ => ks.length - (RowKit.intOf v).toNat)
    case atStart => exact ⟨0, rfl, Nat.zero_le _, Below.refl _ _, by simp⟩
    case round =>
      obtain ⟨j, rfl, hj, hbr, heq⟩ := hrel
      have hlen := HL.out
      by_cases hlt : j < ks.length
      · have hlt2 : j < ls.length := by omega
        rw [eqSs_drop _ _ j hlt hlt2] at heq
        obtain ⟨_, _, hv1, h1⟩ := h1
        obtain ⟨_, _, hv2, h2⟩ := h2
        cases hv1
        cases hv2
        rcases h1 with h0 | ⟨g, off, rfl, hg, hK⟩
        · rw [h0] at hlt; cases hlt
        obtain ⟨va, hat, hon⟩ := hK.at j hlt
        rcases h2 with h0 | ⟨g', off', rfl, hg', hK'⟩
        · rw [h0] at hlt2; cases hlt2
        obtain ⟨ua, hat', hon'⟩ := hK'.at j hlt2
        have hq1 : ∀ W, Below w.heap.size w W → StAt W g (off + j * 5) ks[j] va := fun W hW => hat.move (hW.block g hat.lt)
        have hq2 : ∀ W, Below w.heap.size w W → StAt W g' (off' + j * 5) ls[j] ua := fun W hW => hat'.move (hW.block g' hat'.lt)
        have hc3 := cntSs_at ks j hlt
        have hc2 := fun W (hW : Below w.heap.size w W) => HS.out ks[j] ls[j] va ua W F G (by omega) (hon.below hW) (hon'.below hW)
        generalize ks[j] = kid at *
        generalize ls[j] = kid' at *
        have hn1 := StOn.iff.1 hon
        have hn3 := StOn.iff.1 hon'
        obtain ⟨oa', ja', rfl⟩ := hn1.form
        obtain ⟨oa2, ja2, rfl⟩ := hn3.form
        unfold stpV at hc2
        have HC2 := Lib.hid hc2
        have HE := Lib.hid heq
        have HBR := Lib.hid hbr
        obtain ⟨a0, a1, a2, a3, a4⟩ := (hq1 wr hbr).cells
        obtain ⟨b0, b1, b2, b3, b4⟩ := (hq2 wr hbr).cells
        have hgl : g < wr.heap.size := cell_lt a0
        have hgl' : g' < wr.heap.size := cell_lt b0
        clear hc2 hon hon' hat hat' hK hK' heq hbr hlen hq1 hq2 hn1 hn3
        cases hr : eqS kid kid' with
        | false =>
          have HR := Lib.hid hr
          clear hr
          go_wp2_with fail
          obtain ⟨W2, hW2⟩ : ∃ W2, W2 = (wr.alloc (boxSt kid (.slice oa' kid.ps.length ja'))).alloc (boxSt kid' (.slice oa2 kid'.ps.length ja2)) := ⟨_, rfl⟩
          have hb2 : Below w.heap.size w W2 := by rw [hW2]; exact (HBR.out.alloc HBR.out.size _).alloc (by have := HBR.out.size; simp; omega) _
          unfold boxSt at hW2
          rw [← hW2]
          clear hW2
          refine (HC2.out W2 hb2).mono ?_
          rintro e w2 ⟨rfl, hb3⟩
          have HB4 := Lib.hid (hb2.trans (hb3.mono hb2.size))
          clear hb2 hb3
          rw [HR.out]
          go_wp2_with fail
          go_ret
          rw [HE.out, HR.out]
          exact ⟨rfl, HB4.out⟩
        | true =>
          have HR := Lib.hid hr
          clear hr
          go_wp2_with fail
          obtain ⟨W2, hW2⟩ : ∃ W2, W2 = (wr.alloc (boxSt kid (.slice oa' kid.ps.length ja'))).alloc (boxSt kid' (.slice oa2 kid'.ps.length ja2)) := ⟨_, rfl⟩
          have hb2 : Below w.heap.size w W2 := by rw [hW2]; exact (HBR.out.alloc HBR.out.size _).alloc (by have := HBR.out.size; simp; omega) _
          unfold boxSt at hW2
          rw [← hW2]
          clear hW2
          refine (HC2.out W2 hb2).mono ?_
          rintro e w2 ⟨rfl, hb3⟩
          have HB4 := Lib.hid (hb2.trans (hb3.mono hb2.size))
          clear hb2 hb3
          rw [HR.out]
          go_wp2_with fail
          go_roundw
          case rel => exact ⟨j + 1, by go_num, by omega, HB4.out, by rw [HE.out, HR.out, Bool.true_and]⟩
          case measure => simp [RowKit.intOf]; omega
      · have e : j = ks.length := by omega
        subst e
        rw [eqSs_end _ _ hlen] at heq
        have HE := Lib.hid heq
        clear heq hlen
        go_wp2_with fail
        go_ret
        rw [HE.out]
        exact ⟨rfl, hbr⟩
  · have k4 : ((ks.length : Int) != (ls.length : Int)) = true := by rw [bne_iff_ne]; omega
    have HD := Lib.hid (eqSs_len _ _ e4)
    clear e4
    go_enter Tryz.func29, Tryz.ntmps29
    go_wp2_with fail
    go_ret
    rw [HD.out]
    exact ⟨rfl, Below.refl _ _⟩
end Go.Proofs.YtapljbdklhnfkaaGreatDoor.Char

/- The walk of the program's sameStep and Same. -/
namespace Go.Proofs.YtapljbdklhnfkaaGreatDoor.Char
open Go.RowKit Go.Lib

set_option maxRecDepth 100000 in
set_option maxHeartbeats 4000000 in
theorem sameStep_of (c : Nat) (hS : SamC 14 c) (hcm : c ≤ 1000) : SstC c := by
  intro a b va ua w F G hc ha hb
  have ha2 := StOn.iff.1 ha
  have hb2 := StOn.iff.1 hb
  obtain ⟨oa, ja, rfl⟩ := ha2.form
  obtain ⟨ob, jb, rfl⟩ := hb2.form
  have hdef := eqS_def a b
  have hcd := cntS_def a
  obtain ⟨w1, hw1⟩ : ∃ w1, w1 = (w.alloc (boxSt a (.slice oa a.ps.length ja))).alloc (boxSt b (.slice ob b.ps.length jb)) := ⟨_, rfl⟩
  have b1 : Below w.heap.size w w1 := by rw [hw1]; exact ((Below.refl _ _).alloc (Nat.le_refl _) _).alloc (by simp) _
  have hq := eqFuncE_of c hS a.ps b.ps oa ob ja jb w1 F G (by omega) hcm (ha2.below b1) (hb2.below b1)
  have ht := fun wx => eq_tst a.tk b.tk a.nm b.nm a.has b.has wx
  have hg := fun x y wx => guard_tst .eql x y #[.int .i64 a.tk, .string (bs a.nm), .bool a.has] #[.int .i64 b.tk, .string (bs b.nm), .bool b.has] wx
  unfold boxSt at hw1
  have HQ := Lib.hid hq
  have HB := Lib.hid b1
  have HW := Lib.hid hw1
  clear hq b1 hw1 ha hb ha2 hb2 hS hc hcd hcm
  unfold stpV
  by_cases e0 : a.ax = b.ax
  · have k0 : (a.ax == b.ax) = true := by simp [e0]
    rw [decide_eq_true e0] at hdef
    clear e0
    by_cases e1 : a.tk = b.tk ∧ a.nm = b.nm ∧ a.has = b.has
    · rw [decide_eq_true e1] at hdef ht
      clear e1
      have HD := Lib.hid hdef
      clear hdef
      go_enter Tryz.func30, Tryz.ntmps30
      go_wp2_with fail
      rw [← HW.out]
      refine HQ.out.mono ?_
      rintro e w2 ⟨rfl, hb2⟩
      go_wp2_with fail
      go_ret
      rw [HD.out]
      exact ⟨by simp, HB.out.trans (hb2.mono HB.out.size)⟩
    · rw [decide_eq_false e1] at hdef ht
      clear e1
      have HD := Lib.hid hdef
      clear hdef
      go_enter Tryz.func30, Tryz.ntmps30
      go_wp2_with fail
      rw [← HW.out]
      go_ret
      rw [HD.out]
      exact ⟨rfl, HB.out⟩
  · have k0 : (a.ax == b.ax) = false := by simp [e0]
    rw [decide_eq_false e0] at hdef
    clear e0
    have HD := Lib.hid hdef
    clear hdef
    go_enter Tryz.func30, Tryz.ntmps30
    go_wp2_with fail
    rw [← HW.out]
    go_ret
    rw [HD.out]
    exact ⟨rfl, HB.out⟩

set_option maxRecDepth 100000 in
set_option maxHeartbeats 4000000 in
theorem same_of (c : Nat) (hS : SamC 14 c) (hcm : c ≤ 1000) : SamC 14 (c + 1) := by
  intro a b va vk ua uk w F G hc ha hb
  obtain ⟨ha1, ha2⟩ := ExOn.iff.1 ha
  obtain ⟨hb1, hb2⟩ := ExOn.iff.1 hb
  obtain ⟨oa, ja, rfl⟩ := ha1.form
  obtain ⟨oc, jc, rfl⟩ := ha2.form
  obtain ⟨ob, jb, rfl⟩ := hb1.form
  obtain ⟨od, jd, rfl⟩ := hb2.form
  have hdef := eqE_def a b
  have hcd := cntE_def a
  obtain ⟨w1, hw1⟩ : ∃ w1, w1 = (w.alloc (boxEx a (.slice oa a.ks.length ja) (.slice oc a.ss.length jc))).alloc (boxEx b (.slice ob b.ks.length jb) (.slice od b.ss.length jd)) := ⟨_, rfl⟩
  have b1 : Below w.heap.size w w1 := by rw [hw1]; exact ((Below.refl _ _).alloc (Nat.le_refl _) _).alloc (by simp) _
  have hq := eqFuncE_of c hS a.ks b.ks oa ob ja jb w1 F G (by omega) hcm (ha1.below b1) (hb1.below b1)
  have hq2 := fun W (hW : Below w1.heap.size w1 W) => eqFuncS_of c (sameStep_of c hS hcm) a.ss b.ss oc od jc jd W F G (by omega) hcm (ha2.below (b1.trans (hW.mono b1.size))) (hb2.below (b1.trans (hW.mono b1.size)))
  have hcl : ∀ W, Below w1.heap.size w1 W → W.cell? ⟨w.heap.size, 6, none⟩ = some (.slice oc a.ss.length jc) ∧ W.cell? ⟨w.heap.size + 1, 6, none⟩ = some (.slice od b.ss.length jd) := fun W hW => by
    have s1 : w1.heap.size = w.heap.size + 2 := by rw [hw1]; simp
    have h0 : w1.cell? ⟨w.heap.size, 6, none⟩ = some (.slice oc a.ss.length jc) := by rw [hw1]; unfold boxEx; go_simp
    have h1 : w1.cell? ⟨w.heap.size + 1, 6, none⟩ = some (.slice od b.ss.length jd) := by rw [hw1]; unfold boxEx; go_simp
    exact ⟨(hW.cell (p := ⟨w.heap.size, 6, none⟩) (by show w.heap.size < _; omega)).trans h0, (hW.cell (p := ⟨w.heap.size + 1, 6, none⟩) (by show w.heap.size + 1 < _; omega)).trans h1⟩
  have ht := fun wx => eq_dec a.tg a.vl b.tg b.vl wx
  have hg := fun x y wx => guard_dec .eql x y #[.int .i64 a.tg, .int .i64 a.vl] #[.int .i64 b.tg, .int .i64 b.vl] wx
  unfold boxEx at hw1
  have HQ := Lib.hid hq
  have HQ2 := Lib.hid hq2
  have HCL := Lib.hid hcl
  have HB := Lib.hid b1
  have HW := Lib.hid hw1
  clear hq hq2 hcl b1 hw1 ha hb ha1 ha2 hb1 hb2 hS hc hcd hcm
  unfold exV
  by_cases e0 : a.op = b.op
  · have k0 : (a.op == b.op) = true := by simp [e0]
    rw [decide_eq_true e0] at hdef
    clear e0
    by_cases e1 : a.s = b.s
    · have k1 : ((bs a.s).toList == (bs b.s).toList) = true := by rw [e1, beq_iff_eq]
      rw [decide_eq_true e1] at hdef
      clear e1
      by_cases e2 : a.tg = b.tg ∧ a.vl = b.vl
      · rw [decide_eq_true e2] at hdef ht
        clear e2
        by_cases e3 : a.abs = b.abs
        · have k3 : (a.abs == b.abs) = true := by rw [e3, beq_iff_eq]
          rw [decide_eq_true e3] at hdef
          clear e3
          obtain ⟨Q, hQ⟩ : ∃ Q, eqEs a.ks b.ks = Q := ⟨_, rfl⟩
          rw [hQ] at hdef HQ
          clear hQ
          cases Q with
          | false =>
            have HD := Lib.hid hdef
            clear hdef
            go_enter Tryz.func14, Tryz.ntmps14
            go_wp2_with fail
            rw [← HW.out]
            refine HQ.out.mono ?_
            rintro e w2 ⟨rfl, hb2⟩
            go_wp2_with fail
            go_ret
            rw [HD.out]
            exact ⟨rfl, HB.out.trans (hb2.mono HB.out.size)⟩
          | true =>
            have HD := Lib.hid hdef
            clear hdef
            go_enter Tryz.func14, Tryz.ntmps14
            go_wp2_with fail
            rw [← HW.out]
            refine HQ.out.mono ?_
            rintro e w2 ⟨rfl, hb2⟩
            obtain ⟨c0, c1⟩ := HCL.out w2 hb2
            have HC := Lib.hid (HQ2.out w2 hb2)
            have HB2 := Lib.hid (HB.out.trans (hb2.mono HB.out.size))
            clear hb2 HQ2 HQ HCL HB
            go_wp2_with fail
            refine HC.out.mono ?_
            rintro e w3 ⟨rfl, hb3⟩
            go_wp2_with fail
            go_ret
            rw [HD.out]
            exact ⟨by simp, HB2.out.trans (hb3.mono HB2.out.size)⟩
        · have k3 : (a.abs == b.abs) = false := by rw [beq_eq_false_iff_ne]; exact e3
          rw [decide_eq_false e3] at hdef
          clear e3
          have HD := Lib.hid hdef
          clear hdef
          go_enter Tryz.func14, Tryz.ntmps14
          go_wp2_with fail
          rw [← HW.out]
          go_ret
          rw [HD.out]
          exact ⟨rfl, HB.out⟩
      · rw [decide_eq_false e2] at hdef ht
        clear e2
        have HD := Lib.hid hdef
        clear hdef
        go_enter Tryz.func14, Tryz.ntmps14
        go_wp2_with fail
        rw [← HW.out]
        go_ret
        rw [HD.out]
        exact ⟨rfl, HB.out⟩
    · have k1 : ((bs a.s).toList == (bs b.s).toList) = false := by rw [bs_tl, bs_tl, beq_eq_false_iff_ne]; exact e1
      rw [decide_eq_false e1] at hdef
      clear e1
      have HD := Lib.hid hdef
      clear hdef
      go_enter Tryz.func14, Tryz.ntmps14
      go_wp2_with fail
      rw [← HW.out]
      go_ret
      rw [HD.out]
      exact ⟨rfl, HB.out⟩
  · have k0 : (a.op == b.op) = false := by simp [e0]
    rw [decide_eq_false e0] at hdef
    clear e0
    have HD := Lib.hid hdef
    clear hdef
    go_enter Tryz.func14, Tryz.ntmps14
    go_wp2_with fail
    rw [← HW.out]
    go_ret
    rw [HD.out]
    exact ⟨rfl, HB.out⟩
theorem sameE_any : ∀ c, c ≤ 1001 → SamC 14 c
  | 0, _ => fun a _ _ _ _ _ _ _ _ hc => by have := cntE_pos a; omega
  | c + 1, h => same_of c (sameE_any c (by omega)) (by omega)
end Go.Proofs.YtapljbdklhnfkaaGreatDoor.Char
