/- How two numbers, and two texts, stand: the closures; typed, with, truth (written by gen_way.py). -/
import Derived.Test.YteooaibbblfmjaaDoorPairM
import Derived.Test.YteooaibbblfmjaaDoorToVC
namespace Go.Proofs.YteooaibbblfmjaaDoor.Char
open Go.RowKit Go.Lib

def set6 (w1 : World) (k : Nat) (t : Int) (o : Option Addr) (n j : Nat) (b : Bool) (g v : Int) (s : ByteArray) : World := ((((((w1.setCell ⟨k, 0, none⟩ (.int .i64 t)).setCell ⟨k, 1, none⟩ (.slice o n j)).setCell ⟨k, 2, none⟩ (.bool b)).setCell ⟨k, 3, none⟩ (.int .i64 g)).setCell ⟨k, 4, none⟩ (.int .i64 v)).setCell ⟨k, 5, none⟩ (.string s))
theorem end_va {fn : Func} {p : Tmp} (h : fn.results = #[.cell p 26]) {a : Act} {R : Ending → World → Prop} (w1 : World) (k : Nat) (t : Int) (o : Option Addr) (n j : Nat) (b : Bool) (g v : Int) (s : ByteArray) {z0 z1 z2 z3 z4 z5 : Value}
    (k0 : w1.cell? ⟨k, 0, none⟩ = some z0) (k1 : w1.cell? ⟨k, 1, none⟩ = some z1) (k2 : w1.cell? ⟨k, 2, none⟩ = some z2) (k3 : w1.cell? ⟨k, 3, none⟩ = some z3) (k4 : w1.cell? ⟨k, 4, none⟩ = some z4) (k5 : w1.cell? ⟨k, 5, none⟩ = some z5)
    (hp : a.tmps.getD p undef = .pointer (some ⟨k, 0, none⟩)) (hd : a.defers = [])
    (hR : R (.returned (.agg #[.int .i64 t, .slice o n j, .bool b, .int .i64 g, .int .i64 v, .string s])) (set6 w1 k t o n j b g v s)) : bodyPost Tryd.prog fn R .ret a (set6 w1 k t o n j b g v s) := by
  have hp' : a.tmps[p]?.getD undef = .pointer (some ⟨k, 0, none⟩) := by simpa using hp
  unfold set6 at hR ⊢
  exact bodyPost_ret (v := .agg #[.int .i64 t, .slice o n j, .bool b, .int .i64 g, .int .i64 v, .string s]) (by simp [results, h, hp', go_sem, k0, k1, k2, k3, k4, k5]) hd hR
theorem set6_below {B : Nat} {w w1 : World} {k : Nat} {t : Int} {o : Option Addr} {n j : Nat} {b : Bool} {g v : Int} {s : ByteArray} (h : Below B w w1) (hk : B ≤ k) : Below B w (set6 w1 k t o n j b g v s) :=
  (((((h.setCell (p := ⟨k, 0, none⟩) hk _).setCell (p := ⟨k, 1, none⟩) hk _).setCell (p := ⟨k, 2, none⟩) hk _).setCell (p := ⟨k, 3, none⟩) hk _).setCell (p := ⟨k, 4, none⟩) hk _).setCell (p := ⟨k, 5, none⟩) hk _
set_option maxRecDepth 100000 in
set_option maxHeartbeats 4000000 in
theorem way1_at (t1 v1 t2 v2 op : Int) (q : Nat) (w : World) (hq : w.cell? ⟨q, 0, none⟩ = some (.int .i64 op)) (hl : q < w.heap.size) (X : Bool)
    (hX : X = wayL op (toD t1 v1) (toD t2 v2)) : Calls Tryd.prog 20 #[.agg #[.int .i64 t1, .int .i64 v1], .agg #[.int .i64 t2, .int .i64 v2], .pointer (some ⟨q, 0, none⟩)] w fun e w' => e = .returned (.bool X) ∧ Below w.heap.size w w' := by
  have HC := Lib.hid fun W => cmp_any t1 v1 t2 v2 W
  unfold aggV at HC
  unfold wayL at hX
  obtain ⟨C, hC⟩ : ∃ C, C = cmpD (toD t1 v1) (toD t2 v2) := ⟨_, rfl⟩
  rw [← hC] at HC hX
  obtain ⟨c, st⟩ := C
  clear hC
  simp only at HC hX
  have hbx : Below w.heap.size w ((w.alloc (.cells #[.int .i64 t1, .int .i64 v1] 24)).alloc (.cells #[.int .i64 t2, .int .i64 v2] 24)) := (below_box w _).alloc (by simp) _
  have HB := Lib.hid hbx
  have HQ := Lib.hid fun (w3 : World) (hb3 : Below ((w.alloc (.cells #[.int .i64 t1, .int .i64 v1] 24)).alloc (.cells #[.int .i64 t2, .int .i64 v2] 24)).heap.size ((w.alloc (.cells #[.int .i64 t1, .int .i64 v1] 24)).alloc (.cells #[.int .i64 t2, .int .i64 v2] 24)) w3) =>
    (show w3.cell? ⟨q, 0, none⟩ = some (.int .i64 op) from ((hbx.trans (hb3.mono hbx.size)).cell (p := ⟨q, 0, none⟩) hl).trans hq)
  clear hbx hq hl
  go_enter Tryd.func20, Tryd.ntmps20
  by_cases h3 : op = 3
  · subst h3
    replace hX : X = wayC 3 c st := hX
    simp [wayC] at hX
    cases st <;> simp at hX <;> subst hX
    all_goals
      go_wp2_with (first
        | (go_at_call 21
           refine (HC.out _).mono ?_
           rintro e w1 ⟨rfl, hb⟩
           have hq1 := HQ.out w1 hb
           have HB1 := Lib.hid (HB.out.trans (hb.mono HB.out.size))
           clear hb))
      go_ret
      exact ⟨by simp, HB1.out⟩
  · by_cases h4 : op = 4
    · subst h4
      replace hX : X = wayC 4 c st := hX
      simp [wayC] at hX
      cases st <;> simp at hX <;> subst hX
      all_goals
        go_wp2_with (first
          | (go_at_call 21
             refine (HC.out _).mono ?_
             rintro e w1 ⟨rfl, hb⟩
             have hq1 := HQ.out w1 hb
             have HB1 := Lib.hid (HB.out.trans (hb.mono HB.out.size))
             clear hb))
        go_ret
        exact ⟨by simp, HB1.out⟩
    · by_cases h5 : op = 5
      · subst h5
        replace hX : X = wayC 5 c st := hX
        simp [wayC] at hX
        cases st <;> simp at hX <;> subst hX
        all_goals
          go_wp2_with (first
            | (go_at_call 21
               refine (HC.out _).mono ?_
               rintro e w1 ⟨rfl, hb⟩
               have hq1 := HQ.out w1 hb
               have HB1 := Lib.hid (HB.out.trans (hb.mono HB.out.size))
               clear hb))
          go_ret
          exact ⟨by simp, HB1.out⟩
      · by_cases h6 : op = 6
        · subst h6
          replace hX : X = wayC 6 c st := hX
          simp [wayC] at hX
          cases st <;> simp at hX <;> subst hX
          all_goals
            go_wp2_with (first
              | (go_at_call 21
                 refine (HC.out _).mono ?_
                 rintro e w1 ⟨rfl, hb⟩
                 have hq1 := HQ.out w1 hb
                 have HB1 := Lib.hid (HB.out.trans (hb.mono HB.out.size))
                 clear hb))
            go_ret
            exact ⟨by simp, HB1.out⟩
        · by_cases h7 : op = 7
          · subst h7
            replace hX : X = wayC 7 c st := hX
            simp [wayC] at hX
            cases st <;> simp at hX <;> subst hX
            all_goals
              go_wp2_with (first
                | (go_at_call 21
                   refine (HC.out _).mono ?_
                   rintro e w1 ⟨rfl, hb⟩
                   have hq1 := HQ.out w1 hb
                   have HB1 := Lib.hid (HB.out.trans (hb.mono HB.out.size))
                   clear hb))
              go_ret
              exact ⟨by simp, HB1.out⟩
          · by_cases h8 : op = 8
            · subst h8
              replace hX : X = wayC 8 c st := hX
              simp [wayC] at hX
              cases st <;> simp at hX <;> subst hX
              all_goals
                go_wp2_with (first
                  | (go_at_call 21
                     refine (HC.out _).mono ?_
                     rintro e w1 ⟨rfl, hb⟩
                     have hq1 := HQ.out w1 hb
                     have HB1 := Lib.hid (HB.out.trans (hb.mono HB.out.size))
                     clear hb))
                go_ret
                exact ⟨by simp, HB1.out⟩
            · have n3 : (op == 3) = false := beq_eq_false_iff_ne.2 h3
              have n4 : (op == 4) = false := beq_eq_false_iff_ne.2 h4
              have n5 : (op == 5) = false := beq_eq_false_iff_ne.2 h5
              have n6 : (op == 6) = false := beq_eq_false_iff_ne.2 h6
              have n7 : (op == 7) = false := beq_eq_false_iff_ne.2 h7
              have n8 : (op == 8) = false := beq_eq_false_iff_ne.2 h8
              have hX' : X = false := by rw [hX, wayC, if_neg h3, if_neg h4, if_neg h5, if_neg h6, if_neg h7, if_neg h8]
              clear hX h3 h4 h5 h6 h7 h8
              subst hX'
              go_wp2_with (first
                | (go_at_call 21
                   refine (HC.out _).mono ?_
                   rintro e w1 ⟨rfl, hb⟩
                   have hq1 := HQ.out w1 hb
                   have HB1 := Lib.hid (HB.out.trans (hb.mono HB.out.size))
                   clear hb))
              go_ret
              exact ⟨rfl, HB1.out⟩
theorem way1_any (t1 v1 t2 v2 op : Int) (q : Nat) (w : World) (hq : w.cell? ⟨q, 0, none⟩ = some (.int .i64 op)) (hl : q < w.heap.size) :
    Calls Tryd.prog 20 #[.agg #[.int .i64 t1, .int .i64 v1], .agg #[.int .i64 t2, .int .i64 v2], .pointer (some ⟨q, 0, none⟩)] w fun e w' => e = .returned (.bool (wayL op (toD t1 v1) (toD t2 v2))) ∧ Below w.heap.size w w' := way1_at t1 v1 t2 v2 op q w hq hl _ rfl
theorem scell {W : World} {p : Nat} {x : Value} {T : TypeId} (h : W.heap[p]? = some (.cells #[x] T (0, 0))) : W.cell? ⟨p, 0, none⟩ = some x := by simp [World.cell?, h]
set_option maxRecDepth 100000 in
set_option maxHeartbeats 4000000 in
theorem way_any (op : Int) (w : World) : Calls Tryd.prog 11 #[.int .i64 op] w fun e w' => ∃ q, e = .returned (.func (.func 20) #[] #[.pointer (some ⟨q, 0, none⟩)]) ∧ (w'.cell? ⟨q, 0, none⟩ = some (.int .i64 op) ∧ q < w'.heap.size) ∧ Below w.heap.size w w' := by
  go_enter Tryd.func11, Tryd.ntmps11
  go_wp2_with fail
  go_ret
  have hk := World.alloc_heap_new w (.cells #[.int .i64 op] 3)
  exact ⟨w.heap.size, rfl, ⟨scell hk, by simp⟩, below_box _ _⟩
set_option maxRecDepth 100000 in
set_option maxHeartbeats 4000000 in
theorem eqS_any (x y : ByteArray) (op : Int) (q : Nat) (w : World) (hq : w.cell? ⟨q, 0, none⟩ = some (.int .i64 op)) : Calls Tryd.prog 18 #[.string x, .string y, .pointer (some ⟨q, 0, none⟩)] w fun e w' => e = .returned (.bool ((x.toList == y.toList) == (op == 3))) ∧ Below w.heap.size w w' := by
  go_enter Tryd.func18, Tryd.ntmps18
  go_wp2_with fail
  go_ret
  exact ⟨rfl, Below.refl _ _⟩
set_option maxRecDepth 100000 in
set_option maxHeartbeats 4000000 in
theorem with_any (p q : Nat) (ta tb kd : Int) (w : World) (h1 : w.cell? ⟨p, 0, none⟩ = some (.int .i64 ta)) (h2 : w.cell? ⟨q, 0, none⟩ = some (.int .i64 tb)) : Calls Tryd.prog 9 #[.int .i64 kd, .pointer (some ⟨p, 0, none⟩), .pointer (some ⟨q, 0, none⟩)] w fun e w' => e = .returned (.bool (ta == kd || tb == kd)) ∧ w' = w := by
  by_cases h : ta = kd
  · have hb : (ta == kd) = true := beq_iff_eq.2 h
    clear h
    go_enter Tryd.func9, Tryd.ntmps9
    go_wp2_with fail
    go_ret
    exact ⟨by simp [hb], rfl⟩
  · have hb : (ta == kd) = false := beq_eq_false_iff_ne.2 h
    clear h
    go_enter Tryd.func9, Tryd.ntmps9
    go_wp2_with fail
    go_ret
    exact ⟨by simp [hb], rfl⟩
set_option maxRecDepth 100000 in
set_option maxHeartbeats 4000000 in
theorem typed_2 (o : Option Addr) (n j : Nat) (b : Bool) (g v : Int) (s : ByteArray) (w : World) : Calls Tryd.prog 10 #[.agg #[.int .i64 2, .slice o n j, .bool b, .int .i64 g, .int .i64 v, .string s]] w fun e w' => e = .returned (.bool true) ∧ Below w.heap.size w w' := by
  go_enter Tryd.func10, Tryd.ntmps10
  go_wp2_with fail
  go_ret
  exact ⟨rfl, below_box _ _⟩
set_option maxRecDepth 100000 in
set_option maxHeartbeats 4000000 in
theorem typed_3 (o : Option Addr) (n j : Nat) (b : Bool) (g v : Int) (s : ByteArray) (w : World) : Calls Tryd.prog 10 #[.agg #[.int .i64 3, .slice o n j, .bool b, .int .i64 g, .int .i64 v, .string s]] w fun e w' => e = .returned (.bool true) ∧ Below w.heap.size w w' := by
  go_enter Tryd.func10, Tryd.ntmps10
  go_wp2_with fail
  go_ret
  exact ⟨rfl, below_box _ _⟩
set_option maxRecDepth 100000 in
set_option maxHeartbeats 4000000 in
theorem typed_4 (o : Option Addr) (n j : Nat) (b : Bool) (g v : Int) (s : ByteArray) (w : World) : Calls Tryd.prog 10 #[.agg #[.int .i64 4, .slice o n j, .bool b, .int .i64 g, .int .i64 v, .string s]] w fun e w' => e = .returned (.bool true) ∧ Below w.heap.size w w' := by
  go_enter Tryd.func10, Tryd.ntmps10
  go_wp2_with fail
  go_ret
  exact ⟨rfl, below_box _ _⟩
set_option maxRecDepth 100000 in
set_option maxHeartbeats 4000000 in
theorem truth_bool (o : Option Addr) (n j : Nat) (b : Bool) (g v : Int) (s : ByteArray) (w : World) : Calls Tryd.prog 13 #[.agg #[.int .i64 2, .slice o n j, .bool b, .int .i64 g, .int .i64 v, .string s]] w fun e w' => e = .returned (.agg #[.int .i64 2, .slice none 0 0, .bool b, .int .i64 0, .int .i64 0, .string ⟨#[]⟩]) ∧ Below w.heap.size w w' := by
  have HB := Lib.hid fun W => toBool_bool o n j b g v s W
  obtain ⟨Z, hZ⟩ : ∃ Z, Z = boxVa 0 none 0 0 false 0 0 ⟨#[]⟩ := ⟨_, rfl⟩
  obtain ⟨Y, hY⟩ : ∃ Y, Y = (w.alloc (boxVa 2 o n j b g v s)).alloc Z := ⟨_, rfl⟩
  have hyb : Below w.heap.size w Y := by rw [hY]; exact (below_box w _).alloc (by simp) _
  have hyz : Y.heap[w.heap.size + 1]? = some (boxVa 0 none 0 0 false 0 0 ⟨#[]⟩) := by rw [hY, hZ]; have := heap_alloc_new (w.alloc (boxVa 2 o n j b g v s)) (boxVa 0 none 0 0 false 0 0 ⟨#[]⟩); rw [World.size_alloc] at this; exact this
  unfold boxVa at hY hZ
  subst hZ hY
  have HYB := Lib.hid hyb
  have HYZ := Lib.hid hyz
  clear hyb hyz
  go_enter Tryd.func13, Tryd.ntmps13
  go_wp2_with (first
    | (go_at_call 27
       refine (HB.out _).mono ?_
       rintro e w1 ⟨rfl, hb⟩
       have HZ1 := Lib.hid (blk_call HYZ.out hb)
       have HB1 := Lib.hid (HYB.out.trans (hb.mono HYB.out.size))
       clear hb)
    | (go_at_call 26
       refine (mkBool_any b _).mono ?_
       rintro e w2 ⟨rfl, hb⟩
       obtain ⟨⟨k0, k1, k2, k3, k4, k5⟩, kf⟩ := boxVa_blk (blk_call HZ1.out hb)
       have kl := (Array.getElem?_eq_some_iff.1 (blk_call HZ1.out hb)).1
       have HB2 := Lib.hid (HB1.out.trans (hb.mono HB1.out.size))
       clear hb))
  exact end_va rfl w2 (w.heap.size + 1) 2 none 0 0 b 0 0 ⟨#[]⟩ k0 k1 k2 k3 k4 k5 rfl rfl ⟨rfl, set6_below HB2.out (by omega)⟩
set_option maxRecDepth 100000 in
set_option maxHeartbeats 4000000 in
theorem truth_num (o : Option Addr) (n j : Nat) (b : Bool) (g v : Int) (s : ByteArray) (w : World) : Calls Tryd.prog 13 #[.agg #[.int .i64 3, .slice o n j, .bool b, .int .i64 g, .int .i64 v, .string s]] w fun e w' => e = .returned (.agg #[.int .i64 2, .slice none 0 0, .bool ((cmpD (toD g v) (.num 0)).2 && (cmpD (toD g v) (.num 0)).1 != 0), .int .i64 0, .int .i64 0, .string ⟨#[]⟩]) ∧ Below w.heap.size w w' := by
  have HB := Lib.hid fun W => toBool_num o n j b g v s W
  obtain ⟨X, hX⟩ : ∃ X : Bool, X = ((cmpD (toD g v) (.num 0)).2 && (cmpD (toD g v) (.num 0)).1 != 0) := ⟨_, rfl⟩
  rw [← hX] at HB ⊢
  clear hX
  obtain ⟨Z, hZ⟩ : ∃ Z, Z = boxVa 0 none 0 0 false 0 0 ⟨#[]⟩ := ⟨_, rfl⟩
  obtain ⟨Y, hY⟩ : ∃ Y, Y = (w.alloc (boxVa 3 o n j b g v s)).alloc Z := ⟨_, rfl⟩
  have hyb : Below w.heap.size w Y := by rw [hY]; exact (below_box w _).alloc (by simp) _
  have hyz : Y.heap[w.heap.size + 1]? = some (boxVa 0 none 0 0 false 0 0 ⟨#[]⟩) := by rw [hY, hZ]; have := heap_alloc_new (w.alloc (boxVa 3 o n j b g v s)) (boxVa 0 none 0 0 false 0 0 ⟨#[]⟩); rw [World.size_alloc] at this; exact this
  unfold boxVa at hY hZ
  subst hZ hY
  have HYB := Lib.hid hyb
  have HYZ := Lib.hid hyz
  clear hyb hyz
  go_enter Tryd.func13, Tryd.ntmps13
  go_wp2_with (first
    | (go_at_call 27
       refine (HB.out _).mono ?_
       rintro e w1 ⟨rfl, hb⟩
       have HZ1 := Lib.hid (blk_call HYZ.out hb)
       have HB1 := Lib.hid (HYB.out.trans (hb.mono HYB.out.size))
       clear hb)
    | (go_at_call 26
       refine (mkBool_any X _).mono ?_
       rintro e w2 ⟨rfl, hb⟩
       obtain ⟨⟨k0, k1, k2, k3, k4, k5⟩, kf⟩ := boxVa_blk (blk_call HZ1.out hb)
       have kl := (Array.getElem?_eq_some_iff.1 (blk_call HZ1.out hb)).1
       have HB2 := Lib.hid (HB1.out.trans (hb.mono HB1.out.size))
       clear hb))
  exact end_va rfl w2 (w.heap.size + 1) 2 none 0 0 X 0 0 ⟨#[]⟩ k0 k1 k2 k3 k4 k5 rfl rfl ⟨rfl, set6_below HB2.out (by omega)⟩
set_option maxRecDepth 100000 in
set_option maxHeartbeats 4000000 in
theorem truth_str (o : Option Addr) (n j : Nat) (b : Bool) (g v : Int) (s : ByteArray) (w : World) : Calls Tryd.prog 13 #[.agg #[.int .i64 4, .slice o n j, .bool b, .int .i64 g, .int .i64 v, .string s]] w fun e w' => e = .returned (.agg #[.int .i64 2, .slice none 0 0, .bool (!(s.toList == [])), .int .i64 0, .int .i64 0, .string ⟨#[]⟩]) ∧ Below w.heap.size w w' := by
  have HB := Lib.hid fun W => toBool_str o n j b g v s W
  obtain ⟨X, hX⟩ : ∃ X : Bool, X = (!(s.toList == [])) := ⟨_, rfl⟩
  rw [← hX] at HB ⊢
  clear hX
  obtain ⟨Z, hZ⟩ : ∃ Z, Z = boxVa 0 none 0 0 false 0 0 ⟨#[]⟩ := ⟨_, rfl⟩
  obtain ⟨Y, hY⟩ : ∃ Y, Y = (w.alloc (boxVa 4 o n j b g v s)).alloc Z := ⟨_, rfl⟩
  have hyb : Below w.heap.size w Y := by rw [hY]; exact (below_box w _).alloc (by simp) _
  have hyz : Y.heap[w.heap.size + 1]? = some (boxVa 0 none 0 0 false 0 0 ⟨#[]⟩) := by rw [hY, hZ]; have := heap_alloc_new (w.alloc (boxVa 4 o n j b g v s)) (boxVa 0 none 0 0 false 0 0 ⟨#[]⟩); rw [World.size_alloc] at this; exact this
  unfold boxVa at hY hZ
  subst hZ hY
  have HYB := Lib.hid hyb
  have HYZ := Lib.hid hyz
  clear hyb hyz
  go_enter Tryd.func13, Tryd.ntmps13
  go_wp2_with (first
    | (go_at_call 27
       refine (HB.out _).mono ?_
       rintro e w1 ⟨rfl, hb⟩
       have HZ1 := Lib.hid (blk_call HYZ.out hb)
       have HB1 := Lib.hid (HYB.out.trans (hb.mono HYB.out.size))
       clear hb)
    | (go_at_call 26
       refine (mkBool_any X _).mono ?_
       rintro e w2 ⟨rfl, hb⟩
       obtain ⟨⟨k0, k1, k2, k3, k4, k5⟩, kf⟩ := boxVa_blk (blk_call HZ1.out hb)
       have kl := (Array.getElem?_eq_some_iff.1 (blk_call HZ1.out hb)).1
       have HB2 := Lib.hid (HB1.out.trans (hb.mono HB1.out.size))
       clear hb))
  exact end_va rfl w2 (w.heap.size + 1) 2 none 0 0 X 0 0 ⟨#[]⟩ k0 k1 k2 k3 k4 k5 rfl rfl ⟨rfl, set6_below HB2.out (by omega)⟩
end Go.Proofs.YteooaibbblfmjaaDoor.Char
