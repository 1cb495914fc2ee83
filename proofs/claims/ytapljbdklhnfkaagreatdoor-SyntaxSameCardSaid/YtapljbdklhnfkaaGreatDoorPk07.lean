/- AxisP ExEnd Bx TestP TestQ -/
import Derived.Test.YtapljbdklhnfkaaGreatDoorPk06
/- The parser's axis. -/
namespace Go.Proofs.YtapljbdklhnfkaaGreatDoor.Char
open Go.RowKit Go.Lib
open Go.Proofs.YtapljbdklhnfkaaGreatDoor.Fig (outT outV)

set_option maxRecDepth 100000 in
theorem word_fd (c0 c1 c2 c3 : Value) (w : World) : (Instr.field 84 (.agg #[c0, c1, c2, c3]) 1).run Tryz.prog w = .ok c1 w := by kernel_rfl
/-- an Axis taken off -/
def axisL (ts : List Wd) : Option (Int × List Wd) :=
  if aheadL 1 [64] ts then some (9, ts.tail) else if atL 7 ts then (match ts with
    | [] => none
    | x :: r => if ofX x.s = 0 then none else (mustW [58, 58] r).map fun t => ((ofX x.s : Int), t)) else some (1, ts)
/-- how such a method ends -/
def AxP (R : Nat) (x : Option (Int × List Wd)) (w : World) (e : Ending) (w' : World) : Prop := match x with
  | none => PaP R w e w'
  | some (a, t) => TkP R (.int .i64 a) t w e w'
set_option maxHeartbeats 4000000 in
set_option maxRecDepth 100000 in
theorem axis_any (R : Nat) (ts : List Wd) (w : World) (h : LfB R ts w) : Calls Tryz.prog 210 #[.pointer (some ⟨R, 0, none⟩)] w (AxP R (axisL ts) w) := by
  have hlt := h.lt
  have HT := Lib.hid (take_any R 1 [64] ts w h)
  unfold axisL
  unfold takeL TkP at HT
  cases h1 : aheadL 1 [64] ts with
  | true =>
    rw [h1] at HT
    rw [if_pos rfl] at HT ⊢
    unfold AxP TkP
    clear h h1
    go_enter Tryz.func210, Tryz.ntmps210
    go_wp2_with (first
      | (go_at_call 164
         refine HT.out.mono ?_
         rintro e w1 ⟨rfl, q1, q2⟩
         have Q1 := Lib.hid q1
         have Q2 := Lib.hid q2
         clear q1 q2 HT))
    go_ret
    exact ⟨rfl, Q1.out, Q2.out⟩
  | false =>
    rw [h1] at HT
    rw [if_neg (by simp)] at HT ⊢
    have HA := Lib.hid fun (W : World) (hl : LfB R ts W) => at_any R 7 ts W hl
    cases h2 : atL 7 ts with
    | false =>
      rw [h2] at HA
      rw [if_neg (by simp)]
      unfold AxP TkP
      clear h h1 h2
      go_enter Tryz.func210, Tryz.ntmps210
      go_wp2_with (first
        | (go_at_call 164
           refine HT.out.mono ?_
           rintro e w1 ⟨rfl, q1, q2⟩
           have Q1 := Lib.hid q1
           have Q2 := Lib.hid q2
           clear q1 q2 HT)
        | (go_at_call 198
           refine (HA.out _ Q1.out).mono ?_
           rintro e w2 ⟨rfl, rfl⟩))
      go_ret
      exact ⟨rfl, Q1.out, Q2.out⟩
    | true =>
      rw [h2] at HA
      rw [if_pos rfl]
      cases ts with
      | nil => cases h2
      | cons x r =>
        have HN := Lib.hid fun (W : World) (hl : LfB R (x :: r) W) => next_ok R x r W hl
        have HO := Lib.hid fun (W : World) => ofX_any x.s W
        have HM := Lib.hid fun (W : World) (hl : LfB R r W) => must_any R [58, 58] r W hl
        unfold TkP wdV at HN
        dsimp only
        clear h h1 h2
        obtain ⟨a, ha⟩ : ∃ a, ofX x.s = a := ⟨_, rfl⟩
        rw [ha] at HO ⊢
        clear ha
        generalize (x.k : Int) = c0 at *
        generalize bs x.s = c1 at *
        generalize outT x.n = c2 at *
        generalize outV x.n = c3 at *
        obtain ⟨y, hy⟩ : ∃ y, mustW [58, 58] r = y := ⟨_, rfl⟩
        rw [hy] at HM ⊢
        clear hy
        have hfd := word_fd (.int .i64 c0) (.string c1) (.int .i64 c2) (.int .i64 c3)
        by_cases h0 : a = 0
        · subst h0
          rw [if_pos rfl]
          unfold AxP PaP
          go_enter Tryz.func210, Tryz.ntmps210
          go_wp2_with (first
            | (go_at_call 164
               refine HT.out.mono ?_
               rintro e w1 ⟨rfl, q1, q2⟩
               have Q1 := Lib.hid q1
               have Q2 := Lib.hid q2
               clear q1 q2 HT)
            | (go_at_call 198
               refine (HA.out _ Q1.out).mono ?_
               rintro e w2 ⟨rfl, rfl⟩)
            | (go_at_call 212
               refine (HN.out _ Q1.out).mono ?_
               rintro e w2 ⟨rfl, q1, q2⟩
               have Q3 := Lib.hid (Q2.out.trans q2)
               clear q1 q2 HN)
            | (go_at_call 216
               refine (HO.out _).mono ?_
               rintro e w3 ⟨rfl, q1⟩
               have Q4 := Lib.hid (Q3.out.trans (But.of q1 (Nat.lt_of_lt_of_le hlt Q3.out.size)))
               clear q1 HO))
          exact ⟨rfl, rfl, Q4.out⟩
        · rw [if_neg h0]
          have k0 : ((a : Int) == 0) = false := by rw [beq_eq_false_iff_ne]; omega
          cases y with
          | none =>
            unfold MuP PaP at HM
            show Calls _ _ _ _ (PaP R w)
            unfold PaP
            clear h0
            go_enter Tryz.func210, Tryz.ntmps210
            go_wp2_with (first
              | (go_at_call 164
                 refine HT.out.mono ?_
                 rintro e w1 ⟨rfl, q1, q2⟩
                 have Q1 := Lib.hid q1
                 have Q2 := Lib.hid q2
                 clear q1 q2 HT)
              | (go_at_call 198
                 refine (HA.out _ Q1.out).mono ?_
                 rintro e w2 ⟨rfl, rfl⟩)
              | (go_at_call 212
                 refine (HN.out _ Q1.out).mono ?_
                 rintro e w2 ⟨rfl, q1, q2⟩
                 have Q3 := Lib.hid (Q2.out.trans q2)
                 have Q5 := Lib.hid q1
                 clear q1 q2 HN)
              | (go_at_call 216
                 refine (HO.out _).mono ?_
                 rintro e w3 ⟨rfl, q1⟩
                 have Q4 := Lib.hid (Q3.out.trans (But.of q1 (Nat.lt_of_lt_of_le hlt Q3.out.size)))
                 have Q6 := Lib.hid (Q5.out.below q1)
                 clear q1 HO)
              | (go_at_call 214
                 refine (HM.out _ Q6.out).mono ?_
                 rintro e w4 ⟨rfl, q1⟩
                 have Q7 := Lib.hid (Q4.out.trans q1)
                 clear q1 HM
                 unfold pan31))
            exact ⟨rfl, rfl, Q7.out⟩
          | some t =>
            unfold MuP TkP at HM
            show Calls _ _ _ _ (TkP R (.int .i64 (a : Int)) t w)
            unfold TkP
            clear h0
            go_enter Tryz.func210, Tryz.ntmps210
            go_wp2_with (first
              | (go_at_call 164
                 refine HT.out.mono ?_
                 rintro e w1 ⟨rfl, q1, q2⟩
                 have Q1 := Lib.hid q1
                 have Q2 := Lib.hid q2
                 clear q1 q2 HT)
              | (go_at_call 198
                 refine (HA.out _ Q1.out).mono ?_
                 rintro e w2 ⟨rfl, rfl⟩)
              | (go_at_call 212
                 refine (HN.out _ Q1.out).mono ?_
                 rintro e w2 ⟨rfl, q1, q2⟩
                 have Q3 := Lib.hid (Q2.out.trans q2)
                 have Q5 := Lib.hid q1
                 clear q1 q2 HN)
              | (go_at_call 216
                 refine (HO.out _).mono ?_
                 rintro e w3 ⟨rfl, q1⟩
                 have Q4 := Lib.hid (Q3.out.trans (But.of q1 (Nat.lt_of_lt_of_le hlt Q3.out.size)))
                 have Q6 := Lib.hid (Q5.out.below q1)
                 clear q1 HO)
              | (go_at_call 214
                 refine (HM.out _ Q6.out).mono ?_
                 rintro e w4 ⟨rfl, q0, q1⟩
                 have Q7 := Lib.hid (Q4.out.trans q1)
                 have Q8 := Lib.hid q0
                 clear q0 q1 HM))
            go_ret
            exact ⟨rfl, Q8.out, Q7.out⟩
end Go.Proofs.YtapljbdklhnfkaaGreatDoor.Char

/- How the parser's methods end. -/
namespace Go.Proofs.YtapljbdklhnfkaaGreatDoor.Char
open Go.RowKit Go.Lib

/-- how a method that takes an expression off ends -/
def ExP (R : Nat) (w : World) (x : Option (Ex × List Wd)) (e : Ending) (w' : World) : Prop := match x with
  | none => PaP R w e w'
  | some (x, ts) => ∃ vk vs, e = .returned (exV x vk vs) ∧ ExOn w' (w.heap.size ≤ ·) x vk vs ∧ LfB R ts w' ∧ But R w w'
/-- .. a step -/
def StP (R : Nat) (w : World) (x : Option (St × List Wd)) (e : Ending) (w' : World) : Prop := match x with
  | none => PaP R w e w'
  | some (x, ts) => ∃ vp, e = .returned (stpV x vp) ∧ StOn w' (w.heap.size ≤ ·) x vp ∧ LfB R ts w' ∧ But R w w'
/-- .. expressions -/
def EsP (R : Nat) (w : World) (x : Option (List Ex × List Wd)) (e : Ending) (w' : World) : Prop := match x with
  | none => PaP R w e w'
  | some (xs, ts) => ∃ v ys, e = .returned v ∧ ys.map (·.1) = xs ∧ RowEx w.heap.size w' v ys ∧ LfB R ts w' ∧ But R w w'
theorem LfB.set_ex {R b : Nat} {ts : List Wd} {w : World} {x : Ex} {vk vs : Value} (h : LfB R ts w) (hb : R < b) : LfB R ts (setEx w b x vk vs) :=
  h.keep (fun k hk => setEx_ne (by omega)) (Nat.le_of_eq setEx_size.symm)
theorem LfB.set_st {R b : Nat} {ts : List Wd} {w : World} {x : St} {vp : Value} (h : LfB R ts w) (hb : R < b) : LfB R ts (setSt w b x vp) :=
  h.keep (fun k hk => setSt_ne (by omega)) (Nat.le_of_eq setSt_size.symm)
theorem LfB.set_te {R b : Nat} {ts : List Wd} {w : World} {kd : Int} {nm : List UInt8} {hs : Bool} (h : LfB R ts w) (hb : R < b) : LfB R ts (setTe w b kd nm hs) :=
  h.keep (fun k hk => setTe_ne (by omega)) (Nat.le_of_eq setTe_size.symm)
theorem But.up {R : Nat} {w w1 w2 : World} (h : But R w w1) (hb : Below w.heap.size w1 w2) (hR : R < w.heap.size) : But R w w2 :=
  ⟨h.1.trans (hb.mono (by omega)), fun k hk hr => (hb.block k hk).trans (h.2 k hk hr)⟩
/-- an expression in the box that is the result -/
theorem endExP {fn : Func} {p : Tmp} (h : fn.results = #[.cell p 28]) {a : Act} {R : Nat} {w w3 : World} {x : Ex} {ts : List Wd} {vk vs : Value} {o : Ex} {ok os : Value} (hk : w3.heap[w.heap.size]? = some (boxEx o ok os)) (hl : LfB R ts w3) (hb : But R w w3) (ho : ExOn w3 (w.heap.size + 1 ≤ ·) x vk vs) (hR : R < w.heap.size)
    (hp : a.tmps.getD p undef = .pointer (some ⟨w.heap.size, 0, none⟩)) (hd : a.defers = []) : bodyPost Tryz.prog fn (ExP R w (some (x, ts))) .ret a (setEx w3 w.heap.size x vk vs) :=
  endEx h _ w.heap.size (setEx_at hk) hp hd ⟨vk, vs, rfl, ExOn.move (fun b _ hF => ⟨Nat.le_of_succ_le hF, setEx_ne (by omega)⟩) _ _ _ ho, hl.set_ex hR, hb.up (setEx_below (Below.refl _ _) (Nat.le_refl _)) hR⟩
theorem endStP {fn : Func} {p : Tmp} (h : fn.results = #[.cell p 54]) {a : Act} {R : Nat} {w w3 : World} {x : St} {ts : List Wd} {vp : Value} {o : St} {ok : Value} (hk : w3.heap[w.heap.size]? = some (boxSt o ok)) (hl : LfB R ts w3) (hb : But R w w3) (ho : StOn w3 (w.heap.size + 1 ≤ ·) x vp) (hR : R < w.heap.size)
    (hp : a.tmps.getD p undef = .pointer (some ⟨w.heap.size, 0, none⟩)) (hd : a.defers = []) : bodyPost Tryz.prog fn (StP R w (some (x, ts))) .ret a (setSt w3 w.heap.size x vp) :=
  endSt h _ w.heap.size (setSt_at hk) hp hd ⟨vp, rfl, StOn.move (fun b _ hF => ⟨Nat.le_of_succ_le hF, setSt_ne (by omega)⟩) _ _ ho, hl.set_st hR, hb.up (setSt_below (Below.refl _ _) (Nat.le_refl _)) hR⟩

/-- a test -/
abbrev Te3 := Int × List UInt8 × Bool
def teV (t : Te3) : Value := .agg #[.int .i64 t.1, .string (bs t.2.1), .bool t.2.2]
def TeP (R : Nat) (w : World) (x : Option (Te3 × List Wd)) (e : Ending) (w' : World) : Prop := match x with
  | none => PaP R w e w'
  | some (x, ts) => e = .returned (teV x) ∧ LfB R ts w' ∧ But R w w'
theorem endTeP {fn : Func} {p : Tmp} (h : fn.results = #[.cell p 52]) {a : Act} {R : Nat} {w w3 : World} {x : Te3} {ts : List Wd} {o : Int} {on : List UInt8} {os : Bool} (hk : w3.heap[w.heap.size]? = some (boxTe o on os)) (hl : LfB R ts w3) (hb : But R w w3) (hR : R < w.heap.size)
    (hp : a.tmps.getD p undef = .pointer (some ⟨w.heap.size, 0, none⟩)) (hd : a.defers = []) : bodyPost Tryz.prog fn (TeP R w (some (x, ts))) .ret a (setTe w3 w.heap.size x.1 x.2.1 x.2.2) :=
  endTe h _ w.heap.size (setTe_at hk) hp hd ⟨rfl, hl.set_te hR, hb.up (setTe_below (Below.refl _ _) (Nat.le_refl _)) hR⟩
end Go.Proofs.YtapljbdklhnfkaaGreatDoor.Char

/- A box that a method of the parser has made. -/
namespace Go.Proofs.YtapljbdklhnfkaaGreatDoor.Char
open Go.RowKit Go.Lib

/-- a box above the parser's -/
def Bx (R b : Nat) (o : Obj) (w : World) : Prop := R < b ∧ w.heap[b]? = some o
theorem Bx.lt {R b : Nat} {o : Obj} {w : World} (h : Bx R b o w) : b < w.heap.size := (Array.getElem?_eq_some_iff.1 h.2).1
theorem Bx.next {R b : Nat} {o : Obj} {w w' : World} (h : Bx R b o w) (hb : But R w w') : Bx R b o w' := ⟨h.1, (hb.2 b h.lt (by have := h.1; omega)).trans h.2⟩
theorem Bx.below {R b : Nat} {o : Obj} {w w' : World} (h : Bx R b o w) (hb : Below w.heap.size w w') : Bx R b o w' := ⟨h.1, (hb.block b h.lt).trans h.2⟩
theorem Bx.box {R b : Nat} {o : Obj} {w : World} (h : Bx R b o w) (o2 : Obj) : Bx R b o (w.alloc o2) := h.below (below_box _)
theorem Bx.new {R : Nat} {w : World} (h : R < w.heap.size) (o : Obj) : Bx R w.heap.size o (w.alloc o) := ⟨h, World.alloc_heap_new w o⟩
theorem Bx.new1 {R : Nat} {w : World} (h : R < w.heap.size) (o o2 : Obj) : Bx R (w.heap.size + 1) o2 ((w.alloc o).alloc o2) := ⟨by omega, by simpa using World.alloc_heap_new (w.alloc o) o2⟩
theorem But.new (R : Nat) (w : World) (h : R < w.heap.size) (o : Obj) : But R w (w.alloc o) := (But.refl R w).box h o
/-- a test's name put in -/
def putTe (w : World) (b : Nat) (nm : List UInt8) : World := (w.setCell ⟨b, 1, none⟩ (.string (bs nm))).setCell ⟨b, 2, none⟩ (.bool true)
theorem putTe_ne {w : World} {b k : Nat} {nm : List UInt8} (h : k ≠ b) : (putTe w b nm).heap[k]? = w.heap[k]? := by
  unfold putTe
  rw [heap_set_ne (a := ⟨b, 2, none⟩) h, heap_set_ne (a := ⟨b, 1, none⟩) h]
theorem LfB.put_te {R b : Nat} {ts : List Wd} {w : World} (h : LfB R ts w) (nm : List UInt8) (hb : R < b) : LfB R ts (putTe w b nm) :=
  h.keep (fun k hk => putTe_ne (by omega)) (by simp [putTe])
theorem But.put_te {R b : Nat} {w w1 : World} (h : But R w w1) (nm : List UInt8) (hR : R < w.heap.size) (hb : w.heap.size ≤ b) : But R w (putTe w1 b nm) :=
  h.up (((Below.refl _ _).setCell (p := ⟨b, 1, none⟩) hb _).setCell (p := ⟨b, 2, none⟩) hb _) hR
theorem Bx.put_te {R b c : Nat} {o : Obj} {w : World} (h : Bx R b o w) (nm : List UInt8) (hb : b ≠ c) : Bx R b o (putTe w c nm) := ⟨h.1, (putTe_ne hb).trans h.2⟩
theorem Bx.at_te {R b : Nat} {w : World} {kd : Int} {nm' : List UInt8} {hs' : Bool} (h : Bx R b (boxTe kd nm' hs') w) (nm : List UInt8) : Bx R b (boxTe kd nm true) (putTe w b nm) := by
  refine ⟨h.1, ?_⟩
  have h0 := h.2
  unfold boxTe at h0 ⊢
  have h1 := heap_set_at (i := 1) (u := .string (bs nm)) h0
  have h2 := heap_set_at (i := 2) (u := .bool true) h1
  exact h2.trans (by simp)
/-- the same ends, where a box was made besides -/
theorem endTePb {fn : Func} {p : Tmp} (h : fn.results = #[.cell p 52]) {a : Act} {R : Nat} {w w3 : World} {x : Te3} {ts : List Wd} {o : Int} {on : List UInt8} {os : Bool} (b : Obj) (hk : w3.heap[w.heap.size]? = some (boxTe o on os)) (hl : LfB R ts w3) (hb : But R w w3) (hR : R < w.heap.size)
    (hp : a.tmps.getD p undef = .pointer (some ⟨w.heap.size, 0, none⟩)) (hd : a.defers = []) : bodyPost Tryz.prog fn (TeP R w (some (x, ts))) .ret a ((setTe w3 w.heap.size x.1 x.2.1 x.2.2).alloc b) := by
  have hs : (setTe w3 w.heap.size x.1 x.2.1 x.2.2).heap[w.heap.size]? = _ := setTe_at hk
  exact endTe h _ w.heap.size ((Below.heap_alloc _ _ _ (Array.getElem?_eq_some_iff.1 hs).1).trans hs) hp hd ⟨rfl, (hl.set_te hR).box _, (hb.up (setTe_below (Below.refl _ _) (Nat.le_refl _)) hR).box hR _⟩
theorem endExPb {fn : Func} {p : Tmp} (h : fn.results = #[.cell p 28]) {a : Act} {R : Nat} {w w3 : World} {x : Ex} {ts : List Wd} {vk vs : Value} {o : Ex} {ok os : Value} (b : Obj) (hk : w3.heap[w.heap.size]? = some (boxEx o ok os)) (hl : LfB R ts w3) (hb : But R w w3) (ho : ExOn w3 (w.heap.size + 1 ≤ ·) x vk vs) (hR : R < w.heap.size)
    (hp : a.tmps.getD p undef = .pointer (some ⟨w.heap.size, 0, none⟩)) (hd : a.defers = []) : bodyPost Tryz.prog fn (ExP R w (some (x, ts))) .ret a ((setEx w3 w.heap.size x vk vs).alloc b) := by
  have hs : (setEx w3 w.heap.size x vk vs).heap[w.heap.size]? = _ := setEx_at hk
  refine endEx h _ w.heap.size ((Below.heap_alloc _ _ _ (Array.getElem?_eq_some_iff.1 hs).1).trans hs) hp hd ⟨vk, vs, rfl, ExOn.move (fun b hb hF => ⟨Nat.le_of_succ_le hF, ?_⟩) _ _ _ ho, (hl.set_ex hR).box _, (hb.up (setEx_below (Below.refl _ _) (Nat.le_refl _)) hR).box hR _⟩
  exact (Below.heap_alloc _ _ _ (by rw [setEx_size]; exact hb)).trans (setEx_ne (by omega))
end Go.Proofs.YtapljbdklhnfkaaGreatDoor.Char

/- The parser's typed and test (written by gen_test.py). -/
namespace Go.Proofs.YtapljbdklhnfkaaGreatDoor.Char
open Go.RowKit Go.Lib
open Go.Proofs.YtapljbdklhnfkaaGreatDoor.Fig (outT outV)

def comL : List UInt8 := [99, 111, 109, 109, 101, 110, 116]
def txtL : List UInt8 := [116, 101, 120, 116]
def pinL : List UInt8 := [112, 114, 111, 99, 101, 115, 115, 105, 110, 103, 45, 105, 110, 115, 116, 114, 117, 99, 116, 105, 111, 110]
/-- the kind of a test by its type -/
def tyK (s : List UInt8) : Int := if s = comL then 5 else if s = txtL then 4 else if s = pinL then 6 else 3
/-- what is left of a test whose type is taken -/
def typL (s : List UInt8) (ts : List Wd) : Option (Te3 × List Wd) :=
  match mustW [40] ts with
  | none => none
  | some t => if tyK s = 6 ∧ atL 8 t = true then (match t with
      | [] => none
      | x :: r => (mustW [41] r).map fun u => ((6, x.s, true), u))
    else (mustW [41] t).map fun u => ((tyK s, [], false), u)

/-- two boxes of tests, at the beginning -/
theorem begin_te {R : Nat} {ts : List Wd} {w : World} (h : LfB R ts w) (A B : Obj) : LfB R ts ((w.alloc A).alloc B) ∧ Bx R w.heap.size A ((w.alloc A).alloc B) ∧ Bx R (w.heap.size + 1) B ((w.alloc A).alloc B) ∧ But R w ((w.alloc A).alloc B) :=
  ⟨(h.box _).box _, (Bx.new h.lt A).box B, Bx.new1 h.lt A B, (But.new R w h.lt A).box h.lt B⟩

set_option maxRecDepth 100000 in
set_option maxHeartbeats 4000000 in
theorem typed_5 (R : Nat) (s : List UInt8) (ts : List Wd) (w : World) (h : LfB R ts w) (e5 : s = comL) : Calls Tryz.prog 217 #[.pointer (some ⟨R, 0, none⟩), .string (bs s)] w (TeP R w (typL s ts)) := by
  have hlt := h.lt
  obtain ⟨l0, a0, b0, c0⟩ := begin_te h (boxTe 0 [] false) (boxTe 5 [] false)
  have L0 := Lib.hid l0
  have A0 := Lib.hid a0
  have B0 := Lib.hid b0
  have C0 := Lib.hid c0
  have s0 : ((bs s).toList == comL) = true := by rw [bs_tl, beq_iff_eq]; exact e5
  simp only [comL] at s0
  have hk : tyK s = 5 := by unfold tyK; simp [e5]
  unfold typL
  rw [hk]
  have hm := fun (W : World) (hl : LfB R ts W) => must_any R [40] ts W hl
  clear hk e5 l0 a0 b0 c0 h
  generalize bs s = S at *
  cases h1 : mustW [40] ts with
  | none =>
    rw [h1] at hm
    have HM := Lib.hid hm
    unfold MuP PaP at HM
    show Calls _ _ _ _ (PaP R w)
    unfold PaP
    clear hm h1
    go_enter Tryz.func217, Tryz.ntmps217
    go_wp2_with (first
      | (go_at_call 214
         refine (HM.out _ L0.out).mono ?_
         rintro e w1 ⟨rfl, q2⟩
         have C1 := Lib.hid (C0.out.trans q2)
         clear q2 HM
         unfold pan31))
    exact ⟨rfl, rfl, C1.out⟩
  | some t =>
    rw [h1] at hm
    have hm : ∀ (W : World), LfB R ts W → Calls Tryz.prog 214 #[.pointer (some ⟨R, 0, none⟩), .string ⟨#[40]⟩] W (TkP R (.tuple #[]) t W) := hm
    have HM := Lib.hid hm
    unfold TkP at HM
    clear hm h1
    dsimp only
    rw [if_neg (by simp)]
    have hm2 := fun (W : World) (hl : LfB R t W) => must_any R [41] t W hl
    cases h2 : mustW [41] t with
    | none =>
      rw [h2] at hm2
      have hm2 : ∀ (W : World), LfB R t W → Calls Tryz.prog 214 #[.pointer (some ⟨R, 0, none⟩), .string ⟨#[41]⟩] W (PaP R W) := hm2
      have HM2 := Lib.hid hm2
      unfold PaP at HM2
      show Calls _ _ _ _ (PaP R w)
      unfold PaP
      clear hm2 h2
      go_enter Tryz.func217, Tryz.ntmps217
      go_wp2_with (first
        | (go_at_call 214
           first
             | (refine (HM.out _ L0.out).mono ?_
                rintro e w1 ⟨rfl, q1, q2⟩
                have L1 := Lib.hid q1
                have A1 := Lib.hid (A0.out.next q2)
                have B1 := Lib.hid (B0.out.next q2)
                have C1 := Lib.hid (C0.out.trans q2)
                obtain ⟨⟨d0, d1, d2⟩, df⟩ := boxTe_blk B1.out.2
                clear q1 q2 HM L0 A0 B0 C0)
             | (refine (HM2.out _ L1.out).mono ?_
                rintro e w3 ⟨rfl, q2⟩
                have C3 := Lib.hid (C1.out.trans q2)
                clear q2 HM2
                unfold pan31)))
      exact ⟨rfl, rfl, C3.out⟩
    | some u =>
      rw [h2] at hm2
      have hm2 : ∀ (W : World), LfB R t W → Calls Tryz.prog 214 #[.pointer (some ⟨R, 0, none⟩), .string ⟨#[41]⟩] W (TkP R (.tuple #[]) u W) := hm2
      have HM2 := Lib.hid hm2
      unfold TkP at HM2
      show Calls _ _ _ _ (TeP R w (some ((5, [], false), u)))
      clear hm2 h2
      go_enter Tryz.func217, Tryz.ntmps217
      go_wp2_with (first
        | (go_at_call 214
           first
             | (refine (HM.out _ L0.out).mono ?_
                rintro e w1 ⟨rfl, q1, q2⟩
                have L1 := Lib.hid q1
                have A1 := Lib.hid (A0.out.next q2)
                have B1 := Lib.hid (B0.out.next q2)
                have C1 := Lib.hid (C0.out.trans q2)
                obtain ⟨⟨d0, d1, d2⟩, df⟩ := boxTe_blk B1.out.2
                clear q1 q2 HM L0 A0 B0 C0)
             | (refine (HM2.out _ L1.out).mono ?_
                rintro e w3 ⟨rfl, q1, q2⟩
                have L3 := Lib.hid q1
                have A3 := Lib.hid (A1.out.next q2)
                have B3 := Lib.hid (B1.out.next q2)
                have C3 := Lib.hid (C1.out.trans q2)
                obtain ⟨⟨f0, f1, f2⟩, ff⟩ := boxTe_blk B3.out.2
                obtain ⟨_, gf⟩ := boxTe_blk A3.out.2
                clear q1 q2 HM2)))
      exact endTeP Tryz.results217 (x := (5, [], false)) A3.out.2 L3.out C3.out hlt rfl rfl

set_option maxRecDepth 100000 in
set_option maxHeartbeats 4000000 in
theorem typed_4 (R : Nat) (s : List UInt8) (ts : List Wd) (w : World) (h : LfB R ts w) (e5 : s ≠ comL) (e4 : s = txtL) : Calls Tryz.prog 217 #[.pointer (some ⟨R, 0, none⟩), .string (bs s)] w (TeP R w (typL s ts)) := by
  have hlt := h.lt
  obtain ⟨l0, a0, b0, c0⟩ := begin_te h (boxTe 0 [] false) (boxTe 4 [] false)
  have L0 := Lib.hid l0
  have A0 := Lib.hid a0
  have B0 := Lib.hid b0
  have C0 := Lib.hid c0
  have s0 : ((bs s).toList == comL) = false := by rw [bs_tl, beq_eq_false_iff_ne]; exact e5
  have s1 : ((bs s).toList == txtL) = true := by rw [bs_tl, beq_iff_eq]; exact e4
  simp only [comL, txtL] at s0 s1
  have hk : tyK s = 4 := by unfold tyK; simp [e4, comL, txtL]
  unfold typL
  rw [hk]
  have hm := fun (W : World) (hl : LfB R ts W) => must_any R [40] ts W hl
  clear hk e5 e4 l0 a0 b0 c0 h
  generalize bs s = S at *
  cases h1 : mustW [40] ts with
  | none =>
    rw [h1] at hm
    have HM := Lib.hid hm
    unfold MuP PaP at HM
    show Calls _ _ _ _ (PaP R w)
    unfold PaP
    clear hm h1
    go_enter Tryz.func217, Tryz.ntmps217
    go_wp2_with (first
      | (go_at_call 214
         refine (HM.out _ L0.out).mono ?_
         rintro e w1 ⟨rfl, q2⟩
         have C1 := Lib.hid (C0.out.trans q2)
         clear q2 HM
         unfold pan31))
    exact ⟨rfl, rfl, C1.out⟩
  | some t =>
    rw [h1] at hm
    have hm : ∀ (W : World), LfB R ts W → Calls Tryz.prog 214 #[.pointer (some ⟨R, 0, none⟩), .string ⟨#[40]⟩] W (TkP R (.tuple #[]) t W) := hm
    have HM := Lib.hid hm
    unfold TkP at HM
    clear hm h1
    dsimp only
    rw [if_neg (by simp)]
    have hm2 := fun (W : World) (hl : LfB R t W) => must_any R [41] t W hl
    cases h2 : mustW [41] t with
    | none =>
      rw [h2] at hm2
      have hm2 : ∀ (W : World), LfB R t W → Calls Tryz.prog 214 #[.pointer (some ⟨R, 0, none⟩), .string ⟨#[41]⟩] W (PaP R W) := hm2
      have HM2 := Lib.hid hm2
      unfold PaP at HM2
      show Calls _ _ _ _ (PaP R w)
      unfold PaP
      clear hm2 h2
      go_enter Tryz.func217, Tryz.ntmps217
      go_wp2_with (first
        | (go_at_call 214
           first
             | (refine (HM.out _ L0.out).mono ?_
                rintro e w1 ⟨rfl, q1, q2⟩
                have L1 := Lib.hid q1
                have A1 := Lib.hid (A0.out.next q2)
                have B1 := Lib.hid (B0.out.next q2)
                have C1 := Lib.hid (C0.out.trans q2)
                obtain ⟨⟨d0, d1, d2⟩, df⟩ := boxTe_blk B1.out.2
                clear q1 q2 HM L0 A0 B0 C0)
             | (refine (HM2.out _ L1.out).mono ?_
                rintro e w3 ⟨rfl, q2⟩
                have C3 := Lib.hid (C1.out.trans q2)
                clear q2 HM2
                unfold pan31)))
      exact ⟨rfl, rfl, C3.out⟩
    | some u =>
      rw [h2] at hm2
      have hm2 : ∀ (W : World), LfB R t W → Calls Tryz.prog 214 #[.pointer (some ⟨R, 0, none⟩), .string ⟨#[41]⟩] W (TkP R (.tuple #[]) u W) := hm2
      have HM2 := Lib.hid hm2
      unfold TkP at HM2
      show Calls _ _ _ _ (TeP R w (some ((4, [], false), u)))
      clear hm2 h2
      go_enter Tryz.func217, Tryz.ntmps217
      go_wp2_with (first
        | (go_at_call 214
           first
             | (refine (HM.out _ L0.out).mono ?_
                rintro e w1 ⟨rfl, q1, q2⟩
                have L1 := Lib.hid q1
                have A1 := Lib.hid (A0.out.next q2)
                have B1 := Lib.hid (B0.out.next q2)
                have C1 := Lib.hid (C0.out.trans q2)
                obtain ⟨⟨d0, d1, d2⟩, df⟩ := boxTe_blk B1.out.2
                clear q1 q2 HM L0 A0 B0 C0)
             | (refine (HM2.out _ L1.out).mono ?_
                rintro e w3 ⟨rfl, q1, q2⟩
                have L3 := Lib.hid q1
                have A3 := Lib.hid (A1.out.next q2)
                have B3 := Lib.hid (B1.out.next q2)
                have C3 := Lib.hid (C1.out.trans q2)
                obtain ⟨⟨f0, f1, f2⟩, ff⟩ := boxTe_blk B3.out.2
                obtain ⟨_, gf⟩ := boxTe_blk A3.out.2
                clear q1 q2 HM2)))
      exact endTeP Tryz.results217 (x := (4, [], false)) A3.out.2 L3.out C3.out hlt rfl rfl

set_option maxRecDepth 100000 in
set_option maxHeartbeats 4000000 in
theorem typed_6 (R : Nat) (s : List UInt8) (ts : List Wd) (w : World) (h : LfB R ts w) (e5 : s ≠ comL) (e4 : s ≠ txtL) (e6 : s = pinL) : Calls Tryz.prog 217 #[.pointer (some ⟨R, 0, none⟩), .string (bs s)] w (TeP R w (typL s ts)) := by
  have hlt := h.lt
  obtain ⟨l0, a0, b0, c0⟩ := begin_te h (boxTe 0 [] false) (boxTe 6 [] false)
  have L0 := Lib.hid l0
  have A0 := Lib.hid a0
  have B0 := Lib.hid b0
  have C0 := Lib.hid c0
  have s0 : ((bs s).toList == comL) = false := by rw [bs_tl, beq_eq_false_iff_ne]; exact e5
  have s1 : ((bs s).toList == txtL) = false := by rw [bs_tl, beq_eq_false_iff_ne]; exact e4
  have s2 : ((bs s).toList == pinL) = true := by rw [bs_tl, beq_iff_eq]; exact e6
  simp only [comL, txtL, pinL] at s0 s1 s2
  have hk : tyK s = 6 := by unfold tyK; simp [e6, comL, txtL, pinL]
  unfold typL
  rw [hk]
  have hm := fun (W : World) (hl : LfB R ts W) => must_any R [40] ts W hl
  clear hk e5 e4 e6 l0 a0 b0 c0 h
  generalize bs s = S at *
  cases h1 : mustW [40] ts with
  | none =>
    rw [h1] at hm
    have HM := Lib.hid hm
    unfold MuP PaP at HM
    show Calls _ _ _ _ (PaP R w)
    unfold PaP
    clear hm h1
    go_enter Tryz.func217, Tryz.ntmps217
    go_wp2_with (first
      | (go_at_call 214
         refine (HM.out _ L0.out).mono ?_
         rintro e w1 ⟨rfl, q2⟩
         have C1 := Lib.hid (C0.out.trans q2)
         clear q2 HM
         unfold pan31))
    exact ⟨rfl, rfl, C1.out⟩
  | some t =>
    rw [h1] at hm
    have hm : ∀ (W : World), LfB R ts W → Calls Tryz.prog 214 #[.pointer (some ⟨R, 0, none⟩), .string ⟨#[40]⟩] W (TkP R (.tuple #[]) t W) := hm
    have HM := Lib.hid hm
    unfold TkP at HM
    clear hm h1
    dsimp only
    have ha := fun (W : World) (hl : LfB R t W) => at_any R 8 t W hl
    cases h3 : atL 8 t with
    | false =>
      rw [h3] at ha
      have HA := Lib.hid ha
      rw [if_neg (by simp)]
      clear ha h3
      have hm2 := fun (W : World) (hl : LfB R t W) => must_any R [41] t W hl
      cases h2 : mustW [41] t with
      | none =>
        rw [h2] at hm2
        have hm2 : ∀ (W : World), LfB R t W → Calls Tryz.prog 214 #[.pointer (some ⟨R, 0, none⟩), .string ⟨#[41]⟩] W (PaP R W) := hm2
        have HM2 := Lib.hid hm2
        unfold PaP at HM2
        show Calls _ _ _ _ (PaP R w)
        unfold PaP
        clear hm2 h2
        go_enter Tryz.func217, Tryz.ntmps217
        go_wp2_with (first
          | (go_at_call 214
             first
               | (refine (HM.out _ L0.out).mono ?_
                  rintro e w1 ⟨rfl, q1, q2⟩
                  have L1 := Lib.hid q1
                  have A1 := Lib.hid (A0.out.next q2)
                  have B1 := Lib.hid (B0.out.next q2)
                  have C1 := Lib.hid (C0.out.trans q2)
                  obtain ⟨⟨d0, d1, d2⟩, df⟩ := boxTe_blk B1.out.2
                  clear q1 q2 HM L0 A0 B0 C0)
               | (refine (HM2.out _ L1.out).mono ?_
                  rintro e w3 ⟨rfl, q2⟩
                  have C3 := Lib.hid (C1.out.trans q2)
                  clear q2 HM2
                  unfold pan31))
          | (go_at_call 198
             refine (HA.out _ L1.out).mono ?_
             rintro e w2 ⟨rfl, rfl⟩))
        exact ⟨rfl, rfl, C3.out⟩
      | some u =>
        rw [h2] at hm2
        have hm2 : ∀ (W : World), LfB R t W → Calls Tryz.prog 214 #[.pointer (some ⟨R, 0, none⟩), .string ⟨#[41]⟩] W (TkP R (.tuple #[]) u W) := hm2
        have HM2 := Lib.hid hm2
        unfold TkP at HM2
        show Calls _ _ _ _ (TeP R w (some ((6, [], false), u)))
        clear hm2 h2
        go_enter Tryz.func217, Tryz.ntmps217
        go_wp2_with (first
          | (go_at_call 214
             first
               | (refine (HM.out _ L0.out).mono ?_
                  rintro e w1 ⟨rfl, q1, q2⟩
                  have L1 := Lib.hid q1
                  have A1 := Lib.hid (A0.out.next q2)
                  have B1 := Lib.hid (B0.out.next q2)
                  have C1 := Lib.hid (C0.out.trans q2)
                  obtain ⟨⟨d0, d1, d2⟩, df⟩ := boxTe_blk B1.out.2
                  clear q1 q2 HM L0 A0 B0 C0)
               | (refine (HM2.out _ L1.out).mono ?_
                  rintro e w3 ⟨rfl, q1, q2⟩
                  have L3 := Lib.hid q1
                  have A3 := Lib.hid (A1.out.next q2)
                  have B3 := Lib.hid (B1.out.next q2)
                  have C3 := Lib.hid (C1.out.trans q2)
                  obtain ⟨⟨f0, f1, f2⟩, ff⟩ := boxTe_blk B3.out.2
                  obtain ⟨_, gf⟩ := boxTe_blk A3.out.2
                  clear q1 q2 HM2))
          | (go_at_call 198
             refine (HA.out _ L1.out).mono ?_
             rintro e w2 ⟨rfl, rfl⟩))
        exact endTeP Tryz.results217 (x := (6, [], false)) A3.out.2 L3.out C3.out hlt rfl rfl
    | true =>
      rw [h3] at ha
      have HA := Lib.hid ha
      rw [if_pos (by simp)]
      cases t with
      | nil => cases h3
      | cons x r =>
        have hn := fun (W : World) (hl : LfB R (x :: r) W) => next_ok R x r W hl
        have HN := Lib.hid hn
        unfold TkP wdV at HN
        have hfd := word_fd (.int .i64 (x.k : Int)) (.string (bs x.s)) (.int .i64 (outT x.n)) (.int .i64 (outV x.n))
        dsimp only
        clear ha h3 hn
        have hm2 := fun (W : World) (hl : LfB R r W) => must_any R [41] r W hl
        cases h2 : mustW [41] r with
        | none =>
          rw [h2] at hm2
          have hm2 : ∀ (W : World), LfB R r W → Calls Tryz.prog 214 #[.pointer (some ⟨R, 0, none⟩), .string ⟨#[41]⟩] W (PaP R W) := hm2
          have HM2 := Lib.hid hm2
          unfold PaP at HM2
          show Calls _ _ _ _ (PaP R w)
          unfold PaP
          clear hm2 h2
          go_enter Tryz.func217, Tryz.ntmps217
          go_wp2_with (first
            | (go_at_call 214
               first
                 | (refine (HM.out _ L0.out).mono ?_
                    rintro e w1 ⟨rfl, q1, q2⟩
                    have L1 := Lib.hid q1
                    have A1 := Lib.hid (A0.out.next q2)
                    have B1 := Lib.hid (B0.out.next q2)
                    have C1 := Lib.hid (C0.out.trans q2)
                    obtain ⟨⟨d0, d1, d2⟩, df⟩ := boxTe_blk B1.out.2
                    clear q1 q2 HM L0 A0 B0 C0)
                 | (refine (HM2.out _ L2.out).mono ?_
                    rintro e w3 ⟨rfl, q2⟩
                    have C3 := Lib.hid (C2.out.trans q2)
                    clear q2 HM2
                    unfold pan31))
            | (go_at_call 198
               refine (HA.out _ L1.out).mono ?_
               rintro e w2 ⟨rfl, rfl⟩)
            | (go_at_call 212
               refine (HN.out _ L1.out).mono ?_
               rintro e w2 ⟨rfl, q1, q2⟩
               have b2 := B1.out.next q2
               have L2 := Lib.hid (q1.put_te x.s b2.1)
               have A2 := Lib.hid ((A1.out.next q2).put_te x.s (by omega : w.heap.size ≠ w.heap.size + 1))
               have B2 := Lib.hid (b2.at_te x.s)
               have C2 := Lib.hid ((C1.out.trans q2).put_te x.s hlt (by omega : w.heap.size ≤ w.heap.size + 1))
               obtain ⟨⟨e0, e1, e2⟩, ef⟩ := boxTe_blk b2.2
               clear q1 q2 HN b2))
          exact ⟨rfl, rfl, C3.out⟩
        | some u =>
          rw [h2] at hm2
          have hm2 : ∀ (W : World), LfB R r W → Calls Tryz.prog 214 #[.pointer (some ⟨R, 0, none⟩), .string ⟨#[41]⟩] W (TkP R (.tuple #[]) u W) := hm2
          have HM2 := Lib.hid hm2
          unfold TkP at HM2
          show Calls _ _ _ _ (TeP R w (some ((6, x.s, true), u)))
          clear hm2 h2
          go_enter Tryz.func217, Tryz.ntmps217
          go_wp2_with (first
            | (go_at_call 214
               first
                 | (refine (HM.out _ L0.out).mono ?_
                    rintro e w1 ⟨rfl, q1, q2⟩
                    have L1 := Lib.hid q1
                    have A1 := Lib.hid (A0.out.next q2)
                    have B1 := Lib.hid (B0.out.next q2)
                    have C1 := Lib.hid (C0.out.trans q2)
                    obtain ⟨⟨d0, d1, d2⟩, df⟩ := boxTe_blk B1.out.2
                    clear q1 q2 HM L0 A0 B0 C0)
                 | (refine (HM2.out _ L2.out).mono ?_
                    rintro e w3 ⟨rfl, q1, q2⟩
                    have L3 := Lib.hid q1
                    have A3 := Lib.hid (A2.out.next q2)
                    have B3 := Lib.hid (B2.out.next q2)
                    have C3 := Lib.hid (C2.out.trans q2)
                    obtain ⟨⟨f0, f1, f2⟩, ff⟩ := boxTe_blk B3.out.2
                    obtain ⟨_, gf⟩ := boxTe_blk A3.out.2
                    clear q1 q2 HM2))
            | (go_at_call 198
               refine (HA.out _ L1.out).mono ?_
               rintro e w2 ⟨rfl, rfl⟩)
            | (go_at_call 212
               refine (HN.out _ L1.out).mono ?_
               rintro e w2 ⟨rfl, q1, q2⟩
               have b2 := B1.out.next q2
               have L2 := Lib.hid (q1.put_te x.s b2.1)
               have A2 := Lib.hid ((A1.out.next q2).put_te x.s (by omega : w.heap.size ≠ w.heap.size + 1))
               have B2 := Lib.hid (b2.at_te x.s)
               have C2 := Lib.hid ((C1.out.trans q2).put_te x.s hlt (by omega : w.heap.size ≤ w.heap.size + 1))
               obtain ⟨⟨e0, e1, e2⟩, ef⟩ := boxTe_blk b2.2
               clear q1 q2 HN b2))
          exact endTeP Tryz.results217 (x := (6, x.s, true)) A3.out.2 L3.out C3.out hlt rfl rfl

set_option maxRecDepth 100000 in
set_option maxHeartbeats 4000000 in
theorem typed_3 (R : Nat) (s : List UInt8) (ts : List Wd) (w : World) (h : LfB R ts w) (e5 : s ≠ comL) (e4 : s ≠ txtL) (e6 : s ≠ pinL) : Calls Tryz.prog 217 #[.pointer (some ⟨R, 0, none⟩), .string (bs s)] w (TeP R w (typL s ts)) := by
  have hlt := h.lt
  obtain ⟨l0, a0, b0, c0⟩ := begin_te h (boxTe 0 [] false) (boxTe 3 [] false)
  have L0 := Lib.hid l0
  have A0 := Lib.hid a0
  have B0 := Lib.hid b0
  have C0 := Lib.hid c0
  have s0 : ((bs s).toList == comL) = false := by rw [bs_tl, beq_eq_false_iff_ne]; exact e5
  have s1 : ((bs s).toList == txtL) = false := by rw [bs_tl, beq_eq_false_iff_ne]; exact e4
  have s2 : ((bs s).toList == pinL) = false := by rw [bs_tl, beq_eq_false_iff_ne]; exact e6
  simp only [comL, txtL, pinL] at s0 s1 s2
  have hk : tyK s = 3 := by unfold tyK; simp [e5, e4, e6]
  unfold typL
  rw [hk]
  have hm := fun (W : World) (hl : LfB R ts W) => must_any R [40] ts W hl
  clear hk e5 e4 e6 l0 a0 b0 c0 h
  generalize bs s = S at *
  cases h1 : mustW [40] ts with
  | none =>
    rw [h1] at hm
    have HM := Lib.hid hm
    unfold MuP PaP at HM
    show Calls _ _ _ _ (PaP R w)
    unfold PaP
    clear hm h1
    go_enter Tryz.func217, Tryz.ntmps217
    go_wp2_with (first
      | (go_at_call 214
         refine (HM.out _ L0.out).mono ?_
         rintro e w1 ⟨rfl, q2⟩
         have C1 := Lib.hid (C0.out.trans q2)
         clear q2 HM
         unfold pan31))
    exact ⟨rfl, rfl, C1.out⟩
  | some t =>
    rw [h1] at hm
    have hm : ∀ (W : World), LfB R ts W → Calls Tryz.prog 214 #[.pointer (some ⟨R, 0, none⟩), .string ⟨#[40]⟩] W (TkP R (.tuple #[]) t W) := hm
    have HM := Lib.hid hm
    unfold TkP at HM
    clear hm h1
    dsimp only
    rw [if_neg (by simp)]
    have hm2 := fun (W : World) (hl : LfB R t W) => must_any R [41] t W hl
    cases h2 : mustW [41] t with
    | none =>
      rw [h2] at hm2
      have hm2 : ∀ (W : World), LfB R t W → Calls Tryz.prog 214 #[.pointer (some ⟨R, 0, none⟩), .string ⟨#[41]⟩] W (PaP R W) := hm2
      have HM2 := Lib.hid hm2
      unfold PaP at HM2
      show Calls _ _ _ _ (PaP R w)
      unfold PaP
      clear hm2 h2
      go_enter Tryz.func217, Tryz.ntmps217
      go_wp2_with (first
        | (go_at_call 214
           first
             | (refine (HM.out _ L0.out).mono ?_
                rintro e w1 ⟨rfl, q1, q2⟩
                have L1 := Lib.hid q1
                have A1 := Lib.hid (A0.out.next q2)
                have B1 := Lib.hid (B0.out.next q2)
                have C1 := Lib.hid (C0.out.trans q2)
                obtain ⟨⟨d0, d1, d2⟩, df⟩ := boxTe_blk B1.out.2
                clear q1 q2 HM L0 A0 B0 C0)
             | (refine (HM2.out _ L1.out).mono ?_
                rintro e w3 ⟨rfl, q2⟩
                have C3 := Lib.hid (C1.out.trans q2)
                clear q2 HM2
                unfold pan31)))
      exact ⟨rfl, rfl, C3.out⟩
    | some u =>
      rw [h2] at hm2
      have hm2 : ∀ (W : World), LfB R t W → Calls Tryz.prog 214 #[.pointer (some ⟨R, 0, none⟩), .string ⟨#[41]⟩] W (TkP R (.tuple #[]) u W) := hm2
      have HM2 := Lib.hid hm2
      unfold TkP at HM2
      show Calls _ _ _ _ (TeP R w (some ((3, [], false), u)))
      clear hm2 h2
      go_enter Tryz.func217, Tryz.ntmps217
      go_wp2_with (first
        | (go_at_call 214
           first
             | (refine (HM.out _ L0.out).mono ?_
                rintro e w1 ⟨rfl, q1, q2⟩
                have L1 := Lib.hid q1
                have A1 := Lib.hid (A0.out.next q2)
                have B1 := Lib.hid (B0.out.next q2)
                have C1 := Lib.hid (C0.out.trans q2)
                obtain ⟨⟨d0, d1, d2⟩, df⟩ := boxTe_blk B1.out.2
                clear q1 q2 HM L0 A0 B0 C0)
             | (refine (HM2.out _ L1.out).mono ?_
                rintro e w3 ⟨rfl, q1, q2⟩
                have L3 := Lib.hid q1
                have A3 := Lib.hid (A1.out.next q2)
                have B3 := Lib.hid (B1.out.next q2)
                have C3 := Lib.hid (C1.out.trans q2)
                obtain ⟨⟨f0, f1, f2⟩, ff⟩ := boxTe_blk B3.out.2
                obtain ⟨_, gf⟩ := boxTe_blk A3.out.2
                clear q1 q2 HM2)))
      exact endTeP Tryz.results217 (x := (3, [], false)) A3.out.2 L3.out C3.out hlt rfl rfl
end Go.Proofs.YtapljbdklhnfkaaGreatDoor.Char

/- The parser's test (written by gen_test2.py). -/
namespace Go.Proofs.YtapljbdklhnfkaaGreatDoor.Char
open Go.RowKit Go.Lib
open Go.Proofs.YtapljbdklhnfkaaGreatDoor.Fig (outT outV)

theorem typed_any (R : Nat) (s : List UInt8) (ts : List Wd) (w : World) (h : LfB R ts w) : Calls Tryz.prog 217 #[.pointer (some ⟨R, 0, none⟩), .string (bs s)] w (TeP R w (typL s ts)) := by
  by_cases e5 : s = comL
  · exact typed_5 R s ts w h e5
  by_cases e4 : s = txtL
  · exact typed_4 R s ts w h e5 e4
  by_cases e6 : s = pinL
  · exact typed_6 R s ts w h e5 e4 e6
  · exact typed_3 R s ts w h e5 e4 e6
/-- a Test taken off -/
def testL (ts : List Wd) : Option (Te3 × List Wd) := match ts with
  | [] => none
  | x :: r => if x.k = 2 then some ((1, x.s, false), r) else if x.k = 3 then some ((2, [], false), r) else if x.k = 4 then typL x.s r else none
set_option maxRecDepth 100000 in
set_option maxHeartbeats 4000000 in
theorem test_any (R : Nat) (ts : List Wd) (w : World) (h : LfB R ts w) : Calls Tryz.prog 211 #[.pointer (some ⟨R, 0, none⟩)] w (TeP R w (testL ts)) := by
  have hlt := h.lt
  have L0 := Lib.hid (h.box (boxTe 0 [] false))
  have A0 := Lib.hid (Bx.new hlt (boxTe 0 [] false))
  have C0 := Lib.hid (But.new R w hlt (boxTe 0 [] false))
  cases ts with
  | nil =>
    have HN := Lib.hid fun (W : World) (hl : LfB R [] W) => next_no R W hl
    unfold PaP at HN
    show Calls _ _ _ _ (PaP R w)
    unfold PaP
    clear h
    go_enter Tryz.func211, Tryz.ntmps211
    go_wp2_with (first
      | (go_at_call 212
         refine (HN.out _ L0.out).mono ?_
         rintro e w1 ⟨rfl, q2⟩
         have C1 := Lib.hid (C0.out.trans q2)
         clear q2
         unfold pan31))
    exact ⟨rfl, rfl, C1.out⟩
  | cons x r =>
    have HN := Lib.hid fun (W : World) (hl : LfB R (x :: r) W) => next_ok R x r W hl
    have HT := Lib.hid fun (W : World) (hl : LfB R r W) => typed_any R x.s r W hl
    unfold TkP wdV at HN
    simp only [testL]
    clear h
    by_cases h2 : x.k = 2
    · rw [if_pos h2]
      have k2 : ((x.k : Int) == 2) = true := by rw [h2]; rfl
      clear h2 HT
      go_enter Tryz.func211, Tryz.ntmps211
      go_wp2_with (first
          | (go_at_call 212
             refine (HN.out _ L0.out).mono ?_
             rintro e w1 ⟨rfl, q1, q2⟩
             have L1 := Lib.hid q1
             have A1 := Lib.hid (A0.out.next q2)
             have C1 := Lib.hid (C0.out.trans q2)
             obtain ⟨_, gf⟩ := boxTe_blk (A0.out.next q2).2
             have ga := (A0.out.next q2).lt
             clear q1 q2 HN))
      exact endTePb Tryz.results211 (x := (1, x.s, false)) (boxWd x) A1.out.2 L1.out C1.out hlt rfl rfl
    rw [if_neg h2]
    have k2 : ((x.k : Int) == 2) = false := by rw [beq_eq_false_iff_ne]; omega
    clear h2
    by_cases h3 : x.k = 3
    · rw [if_pos h3]
      have k3 : ((x.k : Int) == 3) = true := by rw [h3]; rfl
      clear h3 HT
      go_enter Tryz.func211, Tryz.ntmps211
      go_wp2_with (first
          | (go_at_call 212
             refine (HN.out _ L0.out).mono ?_
             rintro e w1 ⟨rfl, q1, q2⟩
             have L1 := Lib.hid q1
             have A1 := Lib.hid (A0.out.next q2)
             have C1 := Lib.hid (C0.out.trans q2)
             obtain ⟨_, gf⟩ := boxTe_blk (A0.out.next q2).2
             have ga := (A0.out.next q2).lt
             clear q1 q2 HN))
      exact endTePb Tryz.results211 (x := (2, [], false)) (boxWd x) A1.out.2 L1.out C1.out hlt rfl rfl
    rw [if_neg h3]
    have k3 : ((x.k : Int) == 3) = false := by rw [beq_eq_false_iff_ne]; omega
    clear h3
    by_cases h4 : x.k = 4
    · rw [if_pos h4]
      have k4 : ((x.k : Int) == 4) = true := by rw [h4]; rfl
      clear h4
      cases h5 : typL x.s r with
      | none =>
        rw [h5] at HT
        unfold TeP at HT
        dsimp only at HT
        unfold PaP at HT
        show Calls _ _ _ _ (PaP R w)
        unfold PaP
        clear h5
        go_enter Tryz.func211, Tryz.ntmps211
        go_wp2_with (first
            | (go_at_call 212
               refine (HN.out _ L0.out).mono ?_
               rintro e w1 ⟨rfl, q1, q2⟩
               have L1 := Lib.hid q1
               have A1 := Lib.hid (A0.out.next q2)
               have C1 := Lib.hid (C0.out.trans q2)
               obtain ⟨_, gf⟩ := boxTe_blk (A0.out.next q2).2
               have ga := (A0.out.next q2).lt
               clear q1 q2 HN)
            | (go_at_call 217
               refine (HT.out _ (L1.out.box (boxWd x))).mono ?_
               rintro e w2 ⟨rfl, q2⟩
               have C2 := Lib.hid ((C1.out.box hlt (boxWd x)).trans q2)
               clear q2 HT
               unfold pan31))
        exact ⟨rfl, rfl, C2.out⟩
      | some p =>
        obtain ⟨t, u⟩ := p
        rw [h5] at HT
        unfold TeP at HT
        dsimp only at HT
        unfold teV at HT
        clear h5
        go_enter Tryz.func211, Tryz.ntmps211
        go_wp2_with (first
            | (go_at_call 212
               refine (HN.out _ L0.out).mono ?_
               rintro e w1 ⟨rfl, q1, q2⟩
               have L1 := Lib.hid q1
               have A1 := Lib.hid (A0.out.next q2)
               have C1 := Lib.hid (C0.out.trans q2)
               obtain ⟨_, gf⟩ := boxTe_blk (A0.out.next q2).2
               have ga := (A0.out.next q2).lt
               clear q1 q2 HN)
            | (go_at_call 217
               refine (HT.out _ (L1.out.box (boxWd x))).mono ?_
               rintro e w2 ⟨rfl, q1, q2⟩
               have L2 := Lib.hid q1
               have A2 := Lib.hid ((A1.out.box (boxWd x)).next q2)
               have C2 := Lib.hid ((C1.out.box hlt (boxWd x)).trans q2)
               obtain ⟨_, hf⟩ := boxTe_blk A2.out.2
               clear q1 q2 HT))
        exact endTeP Tryz.results211 (x := t) A2.out.2 L2.out C2.out hlt rfl rfl
    · rw [if_neg h4]
      have k4 : ((x.k : Int) == 4) = false := by rw [beq_eq_false_iff_ne]; omega
      show Calls _ _ _ _ (PaP R w)
      unfold PaP
      clear h4 HT
      go_enter Tryz.func211, Tryz.ntmps211
      go_wp2_with (first
          | (go_at_call 212
             refine (HN.out _ L0.out).mono ?_
             rintro e w1 ⟨rfl, q1, q2⟩
             have L1 := Lib.hid q1
             have A1 := Lib.hid (A0.out.next q2)
             have C1 := Lib.hid (C0.out.trans q2)
             obtain ⟨_, gf⟩ := boxTe_blk (A0.out.next q2).2
             have ga := (A0.out.next q2).lt
             clear q1 q2 HN))
      exact ⟨rfl, rfl, C1.out.box hlt (boxWd x)⟩
end Go.Proofs.YtapljbdklhnfkaaGreatDoor.Char
