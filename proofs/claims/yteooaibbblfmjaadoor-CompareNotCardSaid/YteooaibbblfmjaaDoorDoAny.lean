/- package compare's Do of two values that are no nodes: one mathematical answer. -/
import Derived.Test.YteooaibbblfmjaaDoorDoC
namespace Go.Proofs.YteooaibbblfmjaaDoor.Char
open Go.RowKit Go.Lib

/-- a value's truth, and its number -/
def truthVa (x : Va) : Bool := if x.t = 2 then x.b else if x.t = 3 then (cmpD (toD x.g x.v) (.num 0)).2 && (cmpD (toD x.g x.v) (.num 0)).1 != 0 else !(x.s == [])
def bitZ (b : Bool) : Int := if b then 1000000 else 0
def numVa (x : Va) : Nm := if x.t = 2 then .num (bitZ x.b) else if x.t = 3 then toD x.g x.v else readD x.s
/-- how two values stand, neither of them nodes -/
def doL (op : Int) (x y : Va) : Bool :=
  if (x.t == 2 || y.t == 2) && (op == 3 || op == 4) then wayL op (.num (bitZ (truthVa x))) (.num (bitZ (truthVa y)))
  else if (x.t == 3 || y.t == 3) || !(op == 3 || op == 4) then wayL op (numVa x) (numVa y) else (x.s == y.s) == (op == 3)
theorem bit_toD (b : Bool) : toD 0 (bitZ b) = .num (bitZ b) := by cases b <;> rfl
theorem readD_ok (l : List UInt8) : okD (readD l) := by
  unfold readD readU
  have h := litX_ok
  split
  · rename_i t _
    have := h t
    cases hh : litL t with
    | none => trivial
    | some x => rw [hh] at this; exact negD_ok _ this
  · have := h (trimL l)
    cases hh : litL (trimL l) with
    | none => trivial
    | some x => rw [hh] at this; exact this
def okVa (x : Va) : Prop := (-9223372036854775808 ≤ x.t ∧ x.t ≤ 9223372036854775807) ∧ -9223372036854775808 ≤ x.v ∧ x.v ≤ 9223372036854775807
theorem numVa_ok (x : Va) (h : okVa x) : okD (numVa x) := by
  unfold numVa
  split
  · cases x.b <;> exact ⟨by decide, by decide⟩
  · split
    · exact toD_ok _ _ h.2
    · exact readD_ok _
theorem rightB_out (g v : Int) (h : rightB g v = true) : outT (toD g v) = g ∧ outV (toD g v) = v := by
  rcases toD_cases g v with ⟨rfl, _, e, _⟩ | ⟨rfl, rfl, e, _⟩ | ⟨rfl, rfl, e, _⟩ | ⟨rfl, rfl, e, _⟩ | ⟨_, _, _, _, e, er⟩
  · rw [e]; exact ⟨rfl, rfl⟩
  · rw [e]; exact ⟨rfl, rfl⟩
  · rw [e]; exact ⟨rfl, rfl⟩
  · rw [e]; exact ⟨rfl, rfl⟩
  · rw [er] at h; cases h
theorem rightB_not (g v : Int) (h : rightB g v = false) : toD g v = .nan := by
  rcases toD_cases g v with ⟨_, _, _, er⟩ | ⟨_, _, _, er⟩ | ⟨_, _, _, er⟩ | ⟨_, _, _, er⟩ | ⟨_, _, _, _, e, _⟩
  · rw [er] at h; cases h
  · rw [er] at h; cases h
  · rw [er] at h; cases h
  · rw [er] at h; cases h
  · exact e
/-- a value that is no nodes -/
def Plain3 (x : Va) : Prop := x.t = 2 ∨ x.t = 3 ∨ x.t = 4
theorem truth_at (x : Va) (h : Plain3 x) (w : World) : Calls Tryd.prog 13 #[vaV x] w fun e w' => e = .returned (.agg #[.int .i64 2, .slice none 0 0, .bool (truthVa x), .int .i64 0, .int .i64 0, .string ⟨#[]⟩]) ∧ Below w.heap.size w w' := by
  obtain ⟨t, o, n, j, b, g, v, s⟩ := x
  rcases h with h | h | h
  · replace h : t = 2 := h
    subst h
    exact truth_bool o n j b g v (bs s) w
  · replace h : t = 3 := h
    subst h
    exact truth_num o n j b g v (bs s) w
  · replace h : t = 4 := h
    subst h
    have := truth_str o n j b g v (bs s) w
    rw [tl] at this
    exact this
theorem num_at (p : Value) (x : Va) (h : Plain3 x) (hl : x.s.length ≤ 500) (w : World) (hT : Tabs w) : Calls Tryd.prog 12 #[p, vaV x] w fun e w' => e = .returned (.agg #[.int .i64 (outT (numVa x)), .int .i64 (outV (numVa x))]) ∧ Below w.heap.size w w' := by
  obtain ⟨t, o, n, j, b, g, v, s⟩ := x
  rcases h with h | h | h
  · replace h : t = 2 := h
    subst h
    exact toNum_bool p o n j b g v (bs s) w
  · replace h : t = 3 := h
    subst h
    cases hr : rightB g v with
    | true =>
      have := toNum_numt p o n j b g v (bs s) w hr
      obtain ⟨e1, e2⟩ := rightB_out g v hr
      show Calls _ _ _ _ fun e w' => e = .returned (.agg #[.int .i64 (outT (toD g v)), .int .i64 (outV (toD g v))]) ∧ _
      rw [e1, e2]
      exact this
    | false =>
      have := toNum_numf p o n j b g v (bs s) w hr
      show Calls _ _ _ _ fun e w' => e = .returned (.agg #[.int .i64 (outT (toD g v)), .int .i64 (outV (toD g v))]) ∧ _
      rw [rightB_not g v hr]
      exact this
  · replace h : t = 4 := h
    subst h
    exact toNum_str o n j b g v s w p hl hT
theorem bits_at (p : Value) (b : Bool) (w : World) : Calls Tryd.prog 12 #[p, .agg #[.int .i64 2, .slice none 0 0, .bool b, .int .i64 0, .int .i64 0, .string ⟨#[]⟩]] w fun e w' => e = .returned (.agg #[.int .i64 0, .int .i64 (bitZ b)]) ∧ Below w.heap.size w w' := toNum_bool p none 0 0 b 0 0 ⟨#[]⟩ w
theorem do_any (op : Int) (x y : Va) (w : World) (hx : Plain3 x) (hy : Plain3 y) (okx : okVa x) (oky : okVa y) (hlx : x.s.length ≤ 500) (hly : y.s.length ≤ 500) (hT : Tabs w) :
    Calls Tryd.prog 7 #[.pointer none, .int .i64 op, vaV x, vaV y] w fun e w' => e = .returned (.bool (doL op x y)) ∧ Below w.heap.size w w' := by
  have h1x : (x.t != 1) = true := by rcases hx with h | h | h <;> rw [h] <;> rfl
  have h1y : (y.t != 1) = true := by rcases hy with h | h | h <;> rw [h] <;> rfl
  have TA := fun W => truth_at x hx W
  have TB := fun W => truth_at y hy W
  have NA := fun W (hW : Below w.heap.size w W) => num_at (.pointer none) x hx hlx W (hT.below hW)
  have NB := fun W (hW : Below w.heap.size w W) => num_at (.pointer none) y hy hly W (hT.below hW)
  have KA := fun W (hW : Below w.heap.size w W) => numbers_one (.pointer none) x.t x.o x.n x.j x.b x.g x.v (bs x.s) W h1x _ _ fun V hV => NA V (hW.trans (hV.mono hW.size))
  have KB := fun W (hW : Below w.heap.size w W) => numbers_one (.pointer none) y.t y.o y.n y.j y.b y.g y.v (bs y.s) W h1y _ _ fun V hV => NB V (hW.trans (hV.mono hW.size))
  have oa := toD_out _ (numVa_ok x okx)
  have ob := toD_out _ (numVa_ok y oky)
  have hN : wayL op (toD (outT (numVa x)) (outV (numVa x))) (toD (outT (numVa y)) (outV (numVa y))) = wayL op (numVa x) (numVa y) := by rw [oa, ob]
  have hTr : wayL op (toD 0 (bitZ (truthVa x))) (toD 0 (bitZ (truthVa y))) = wayL op (.num (bitZ (truthVa x))) (.num (bitZ (truthVa y))) := by rw [bit_toD, bit_toD]
  cases h3 : (op == 3) with
  | true =>
    cases h2 : (x.t == 2 || y.t == 2) with
    | true => exact do_truth_eq op x.t x.o x.n x.j x.b x.g x.v (bs x.s) y.t y.o y.n y.j y.b y.g y.v (bs y.s) w hx hy h3 h2 _ _ _ _ _ (fun W _ => TA W) (fun W _ => TB W) (fun W _ => bits_at _ _ W) (fun W _ => bits_at _ _ W) (by unfold doL; rw [h2, h3, hTr]; rfl)
    | false =>
      cases h5 : (x.t == 3 || y.t == 3) with
      | true => exact do_num_c op x.t x.o x.n x.j x.b x.g x.v (bs x.s) y.t y.o y.n y.j y.b y.g y.v (bs y.s) w hx hy h3 h2 h5 _ _ _ _ _ KA KB (by unfold doL; rw [h2, h5, hN]; rfl)
      | false =>
        have e4 : ∀ z : Va, Plain3 z → (z.t == 2) = false → (z.t == 3) = false → z.t = 4 := fun z hz k2 k3 => by
          rcases hz with h | h | h
          · rw [h] at k2; cases k2
          · rw [h] at k3; cases k3
          · exact h
        rw [Bool.or_eq_false_iff] at h2 h5
        have hxt := e4 x hx h2.1 h5.1
        have hyt := e4 y hy h2.2 h5.2
        refine do_text_eq op x.t x.o x.n x.j x.b x.g x.v (bs x.s) y.t y.o y.n y.j y.b y.g y.v (bs y.s) w hx hy h3 (by rw [h2.1, h2.2]; rfl) (by rw [h5.1, h5.2]; rfl) (bs x.s) (bs y.s) _ (fun W _ => texts_one _ _ _ _ _ _ _ _ _ W h1x _ fun V _ => ?_) (fun W _ => texts_one _ _ _ _ _ _ _ _ _ W h1y _ fun V _ => ?_) (by unfold doL; rw [h2.1, h2.2, h5.1, h5.2, h3, tl, tl]; rfl)
        · rw [hxt]; exact toStr_str _ _ _ _ _ _ _ _ V
        · rw [hyt]; exact toStr_str _ _ _ _ _ _ _ _ V
  | false =>
    cases h4 : (op == 4) with
    | true =>
      cases h2 : (x.t == 2 || y.t == 2) with
      | true => exact do_truth_ne op x.t x.o x.n x.j x.b x.g x.v (bs x.s) y.t y.o y.n y.j y.b y.g y.v (bs y.s) w hx hy h3 h4 h2 _ _ _ _ _ (fun W _ => TA W) (fun W _ => TB W) (fun W _ => bits_at _ _ W) (fun W _ => bits_at _ _ W) (by unfold doL; rw [h2, h3, h4, hTr]; rfl)
      | false =>
        cases h5 : (x.t == 3 || y.t == 3) with
        | true => exact do_num_d op x.t x.o x.n x.j x.b x.g x.v (bs x.s) y.t y.o y.n y.j y.b y.g y.v (bs y.s) w hx hy h3 h4 h2 h5 _ _ _ _ _ KA KB (by unfold doL; rw [h2, h5, hN]; rfl)
        | false =>
          have e4 : ∀ z : Va, Plain3 z → (z.t == 2) = false → (z.t == 3) = false → z.t = 4 := fun z hz k2 k3 => by
            rcases hz with h | h | h
            · rw [h] at k2; cases k2
            · rw [h] at k3; cases k3
            · exact h
          rw [Bool.or_eq_false_iff] at h2 h5
          have hxt := e4 x hx h2.1 h5.1
          have hyt := e4 y hy h2.2 h5.2
          refine do_text_ne op x.t x.o x.n x.j x.b x.g x.v (bs x.s) y.t y.o y.n y.j y.b y.g y.v (bs y.s) w hx hy h3 h4 (by rw [h2.1, h2.2]; rfl) (by rw [h5.1, h5.2]; rfl) (bs x.s) (bs y.s) _ (fun W _ => texts_one _ _ _ _ _ _ _ _ _ W h1x _ fun V _ => ?_) (fun W _ => texts_one _ _ _ _ _ _ _ _ _ W h1y _ fun V _ => ?_) (by unfold doL; rw [h2.1, h2.2, h5.1, h5.2, h3, h4, tl, tl]; rfl)
          · rw [hxt]; exact toStr_str _ _ _ _ _ _ _ _ V
          · rw [hyt]; exact toStr_str _ _ _ _ _ _ _ _ V
    | false =>
      have hX : wayL op (toD (outT (numVa x)) (outV (numVa x))) (toD (outT (numVa y)) (outV (numVa y))) = doL op x y := by
        unfold doL
        rw [h3, h4, hN]
        simp
      cases h2 : (x.t == 2 || y.t == 2) with
      | true => exact do_num_a op x.t x.o x.n x.j x.b x.g x.v (bs x.s) y.t y.o y.n y.j y.b y.g y.v (bs y.s) w hx hy h3 h4 h2 _ _ _ _ _ KA KB hX.symm
      | false => exact do_num_b op x.t x.o x.n x.j x.b x.g x.v (bs x.s) y.t y.o y.n y.j y.b y.g y.v (bs y.s) w hx hy h3 h4 h2 _ _ _ _ _ KA KB hX.symm
end Go.Proofs.YteooaibbblfmjaaDoor.Char
