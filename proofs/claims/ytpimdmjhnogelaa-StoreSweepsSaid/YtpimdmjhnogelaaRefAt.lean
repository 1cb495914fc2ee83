/- The walk of the document's own At. -/
import Derived.Test.YtpimdmjhnogelaaRecBox
namespace Go.Proofs.Ytpimdmjhnogelaa.Char
open Go.RowKit Go.Lib

/-- the last of a node's versions that is not above a time -/
def atF (id : Int) (t : Nat) (x : OnV) : Bool := decide (x.1 = id) && decide (x.2.1 ≤ t)
def atL (id : Int) (t : Nat) (xs : List OnV) : Option OnV := (xs.filter (atF id t)).getLast?
theorem atL_step {id : Int} {t : Nat} {xs : List OnV} {k : Nat} (h : k < xs.length) : atL id t (xs.take (k + 1)) = if atF id t xs[k] then some xs[k] else atL id t (xs.take k) := by
  unfold atL
  rw [List.take_succ_eq_append_getElem h, List.filter_append]
  by_cases hf : atF id t xs[k] = true
  · rw [if_pos hf]; simp [hf]
  · rw [if_neg hf]; simp [hf]
/-- what At tells -/
def atR : Option OnV → RcV × Bool
  | none => (rcV0, false)
  | some x => if x.2.2.1.gone then (rcV0, false) else (x.2.2, true)
/-- what has been found so far -/
structure AtI (B : Nat) (w : World) (c : Option OnV) (wr : World) (x : RcV) (is : Bool) : Prop where
  bel : Below w.heap.size w wr
  res : wr.heap[w.heap.size]? = some (rcB rcV0)
  cur : wr.heap[w.heap.size + 1]? = some (rcB x)
  on : RcOn w (fun g => g < B) x
  val : (x, is) = match c with
    | none => (rcV0, false)
    | some y => (y.2.2, true)
theorem AtI.store {B : Nat} {w : World} {c : Option OnV} {wr : World} {x : RcV} {is : Bool} (h : AtI B w c wr x is) {y : OnV} (hy : RcOn w (fun g => g < B) y.2.2) : AtI B w (some y) (set7 wr (w.heap.size + 1) y.2.2) y.2.2 true :=
  ⟨set7_below h.bel (Nat.le_succ _), (set7_ne (by omega)).trans h.res, set7_at h.cur, hy, rfl⟩
set_option maxRecDepth 100000 in
set_option maxHeartbeats 4000000 in
theorem refAt_any {B : Nat} {w : World} {b : Nat} {v : Value} {xs : List OnV} {gv lt : Nat} (h : RefS B w b v xs gv lt) (id : Int) (t : Nat) (hl : xs.length ≤ 1000000) :
    Calls Try.prog 44 #[.pointer (some ⟨b, 0, none⟩), .int .i64 id, .int .u64 (t : Int)] w fun e w' => e = .returned (.tuple #[rcV (atR (atL id t xs)).1, .bool (atR (atL id t xs)).2]) ∧ Below w.heap.size w w' := by
  have H := Lib.hid h
  obtain ⟨o, j, rfl⟩ := h.row.form
  obtain ⟨X, hX⟩ : ∃ X, atR (atL id t xs) = X := ⟨_, rfl⟩
  rw [hX]
  have HX := Lib.hid hX
  clear hX
  obtain ⟨W0, hW0⟩ : ∃ W0, W0 = (w.alloc (rcB rcV0)).alloc (rcB rcV0) := ⟨_, rfl⟩
  have b0 : Below w.heap.size w W0 := by rw [hW0]; exact ((Below.refl _ _).alloc (Nat.le_refl _) _).alloc (by simp) _
  have hI0 : AtI B w (atL id t (xs.take 0)) W0 rcV0 false := by
    refine ⟨b0, ?_, ?_, RcOn.none _ _, rfl⟩
    · rw [hW0, Below.heap_alloc _ _ _ (by simp)]; exact World.alloc_heap_new w _
    · rw [hW0]; have := World.alloc_heap_new (w.alloc (rcB rcV0)) (rcB rcV0); simpa using this
  have HI := Lib.hid hI0
  have HW0 := Lib.hid hW0
  have HO := Lib.hid h.row.2
  have HR := Lib.hid (fun wr (hb : Below w.heap.size w wr) => h.below hb)
  have c0 := ((h.below b0).cells).1
  clear h hI0 b0 hW0
  unfold rcB rcV0 rc0 at HW0
  dsimp only at HW0
  go_enter Try.func44, Try.ntmps44
  go_wp2_with fail
  have e0 : (⟨#[]⟩ : ByteArray) = bs [] := rfl
  rw [e0, ← HW0.out]
  clear e0
  go_loopw [9, 10] (fun i v wr => ∃ k : Nat, ∃ x : RcV, ∃ is : Bool, v = .int .i64 (k : Int) ∧ i = .bool is ∧ k ≤ xs.length ∧ Hid (AtI B w (atL id t (xs.take k)) wr x is)) (fun _ v _ => xs.length - (RowKit.intOf v).toNat)
  case atStart => exact ⟨0, rcV0, false, rfl, rfl, Nat.zero_le _, HI⟩
  case round =>
    obtain ⟨k, x, is, rfl, rfl, hk, HK⟩ := hrel
    have hS := HR.out _ HK.out.bel
    obtain ⟨c0, _, _, _⟩ := hS.cells
    by_cases hlt : k < xs.length
    · obtain ⟨g, rfl, hg1, hg2, a0, a1, a2, a3, a4, a5, a6, a7, a8, hon⟩ := hS.row.reads k hlt
      have hst := atL_step (id := id) (t := t) hlt
      have HON := Lib.hid (HO.out _ (List.getElem_mem hlt))
      generalize xs[k] = y at *
      obtain ⟨yi, yt, r, va, vb⟩ := y
      obtain ⟨ok, jk, oa, ja, e1, e2⟩ := hon.form
      dsimp only at e1 e2
      subst e1 e2
      dsimp only at a0 a1 a2 a3 a4 a5 a6 a7 a8
      have HST := Lib.hid hst
      have hun : ∀ c, atF id t (yi, yt, r, .slice ok r.ks.length jk, .slice oa r.ats.length ja) = c → atL id t (xs.take (k + 1)) = if c then some (yi, yt, r, .slice ok r.ks.length jk, .slice oa r.ats.length ja) else atL id t (xs.take k) := fun c hc => by rw [HST.out, hc]
      have HUN := Lib.hid hun
      clear hst HST hun hS hon
      by_cases hi : yi = id
      · have k1 : (yi == id) = true := by rw [hi, beq_self_eq_true]
        by_cases ht : yt ≤ t
        · have k2 : (yt : Int) ≤ (t : Int) := by omega
          have HA := Lib.hid (HUN.out true (by unfold atF; rw [decide_eq_true hi, decide_eq_true ht]; rfl))
          obtain ⟨⟨z0, z1, z2, z3, z4, z5, z6⟩, hfr⟩ := rc_blk HK.out.cur
          have f0 := hfr 0
          have f1 := hfr 1
          have f2 := hfr 2
          have f3 := hfr 3
          have f4 := hfr 4
          have f5 := hfr 5
          have f6 := hfr 6
          clear HUN hi ht hfr
          go_wp2_with fail
          exact ⟨⟨k + 1, (r, .slice ok r.ks.length jk, .slice oa r.ats.length ja), true, by go_num, rfl, by omega, Lib.hid (by rw [HA.out]; exact HK.out.store HON.out)⟩, by simp [RowKit.intOf]; omega⟩
        · have k2 : ¬ (yt : Int) ≤ (t : Int) := by omega
          have HA := Lib.hid (HUN.out false (by unfold atF; rw [decide_eq_false ht, Bool.and_false]))
          clear HUN hi ht
          go_wp2_with fail
          go_roundw
          case rel => exact ⟨k + 1, x, is, by go_num, rfl, by omega, Lib.hid (by rw [HA.out]; exact HK.out)⟩
          case measure => simp [RowKit.intOf]; omega
      · have k1 : (yi == id) = false := beq_eq_false_iff_ne.2 hi
        have HA := Lib.hid (HUN.out false (by unfold atF; rw [decide_eq_false hi, Bool.false_and]))
        clear HUN hi
        go_wp2_with fail
        go_roundw
        case rel => exact ⟨k + 1, x, is, by go_num, rfl, by omega, Lib.hid (by rw [HA.out]; exact HK.out)⟩
        case measure => simp [RowKit.intOf]; omega
    · have e : k = xs.length := by omega
      subst e
      rw [List.take_length] at HK
      obtain ⟨⟨z0, z1, z2, z3, z4, z5, z6⟩, hfr⟩ := rc_blk HK.out.cur
      obtain ⟨⟨y0, y1, y2, y3, y4, y5, y6⟩, hfq⟩ := rc_blk HK.out.res
      have f0 := hfq 0
      have f1 := hfq 1
      have f2 := hfq 2
      have f3 := hfq 3
      have f4 := hfq 4
      have f5 := hfq 5
      have f6 := hfq 6
      have hval := HK.out.val
      have hon := HK.out.on
      clear hfr hfq hS
      cases hg : atL id t xs with
      | none =>
        rw [hg] at hval
        obtain ⟨rfl, rfl⟩ := Prod.mk.injEq .. ▸ hval
        have HE := Lib.hid (show X = (rcV0, false) by rw [← HX.out, hg]; rfl)
        clear hg hval
        go_wp2_with fail
        refine end_rc2 Try.results44 _ w.heap.size (x := rcV0) (c := .bool false) (set7_at (x := rcV0) HK.out.res) ⟨_, _, _, _, _, _, rfl, rfl⟩ rfl rfl rfl ?_
        rw [HE.out]
        exact ⟨rfl, set7_below (x := rcV0) HK.out.bel (Nat.le_refl _)⟩
      | some y =>
        rw [hg] at hval
        obtain ⟨rfl, rfl⟩ := Prod.mk.injEq .. ▸ hval
        obtain ⟨yi, yt, r, va, vb⟩ := y
        obtain ⟨ok, jk, oa, ja, e1, e2⟩ := hon.form
        dsimp only at e1 e2
        subst e1 e2
        dsimp only at z0 z1 z2 z3 z4 z5 z6
        cases hgo : r.gone with
        | true =>
          have HE := Lib.hid (show X = (rcV0, false) by rw [← HX.out, hg]; unfold atR; dsimp only; rw [hgo]; rfl)
          rw [hgo] at z6
          clear hg hval hgo hon
          go_wp2_with fail
          refine end_rc2 Try.results44 _ w.heap.size (x := rcV0) (c := .bool false) (set7_at (x := rcV0) HK.out.res) ⟨_, _, _, _, _, _, rfl, rfl⟩ rfl rfl rfl ?_
          rw [HE.out]
          exact ⟨rfl, set7_below (x := rcV0) HK.out.bel (Nat.le_refl _)⟩
        | false =>
          have HE := Lib.hid (show X = ((r, .slice ok r.ks.length jk, .slice oa r.ats.length ja), true) by rw [← HX.out, hg]; unfold atR; dsimp only; rw [hgo]; rfl)
          have HG := Lib.hid hgo
          rw [hgo] at z6
          clear hg hval hgo hon
          go_wp2_with fail
          refine end_rc2 Try.results44 _ w.heap.size (x := (r, .slice ok r.ks.length jk, .slice oa r.ats.length ja)) (c := .bool true) ?_ ⟨_, _, _, _, _, _, rfl, rfl⟩ rfl rfl rfl ?_
          · rw [← HG.out]
            exact set7_at (x := (r, .slice ok r.ks.length jk, .slice oa r.ats.length ja)) HK.out.res
          · rw [HE.out]
            refine ⟨rfl, ?_⟩
            rw [← HG.out]
            exact set7_below (x := (r, .slice ok r.ks.length jk, .slice oa r.ats.length ja)) HK.out.bel (Nat.le_refl _)
end Go.Proofs.Ytpimdmjhnogelaa.Char
