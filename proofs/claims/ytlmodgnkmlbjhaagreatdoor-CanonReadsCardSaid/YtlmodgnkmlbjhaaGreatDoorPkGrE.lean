import Derived.Test.YtlmodgnkmlbjhaaGreatDoorGrP
namespace Go.Proofs.YtlmodgnkmlbjhaaGreatDoor
namespace Char
open Go.RowKit Go.Lib
set_option maxRecDepth 100000 in
set_option maxHeartbeats 8000000 in
theorem grEnd_any {B H : Nat} {fut : List Nat} {w : World} {vo : Value} {f f2 : Fr} {r : List Fr} (h : GS B H fut w vo (f :: f2 :: r)) (hl : r.length ≤ 900) (hk : f2.t.ks.length ≤ 100000)
  (ht : f.t.tx.length ≤ 1099511627776) (hlt : ∀ k, k ∈ f2.t.ks → k.tx.length ≤ 1099511627776) :
  Calls Tryz.prog 59 #[.pointer (some ⟨H + 4, 0, none⟩), .pointer (some ⟨H + 3, 0, none⟩), .pointer (some ⟨H + 5, 0, none⟩)] w fun e w' => e = .returned (.tuple #[]) ∧ ∃ vo' vk', GS B H fut w' vo' (⟨f2.e, f2.va, vk', f2.t.put f.t⟩ :: r) ∧ Below (H + 1) w w' := by
 have e34 : ∀ args w, (callFunc 56 args).run Tryz.prog w = .ok (.enter 56 args) w := enters_of Tryz.func56 (by kernel_rfl) rfl
 have e35 : ∀ args w, (callFunc 57 args).run Tryz.prog w = .ok (.enter 57 args) w := enters_of Tryz.func57 (by kernel_rfl) rfl
 have C1 := Lib.hid (top_any h (by simp; omega))
 obtain ⟨g, cap, rfl, hcap, hp⟩ := h.pop
 obtain ⟨W1, hW1⟩ : ∃ W1, W1 = w.setCell ⟨H + 3, 0, none⟩ (.slice (some ⟨g, 0, none⟩) (r.length + 1) cap) := ⟨_, rfl⟩
 obtain ⟨g1, n1, f1⟩ := hp W1 hW1
 have hsz := h.sz
 have hs1 : W1.heap.size = w.heap.size := by rw [hW1, World.size_setCell]
 have tb : w.cell? ⟨H + 4, 0, none⟩ = some (topFn H) := by simp [World.cell?, h.tb]
 have ob : w.cell? ⟨H + 3, 0, none⟩ = some (.slice (some ⟨g, 0, none⟩) (r.length + 2) cap) := by simp [World.cell?, h.ob]
 have fb : w.frozen? ⟨H + 3, 0, none⟩ = false := by simp [World.frozen?, h.ob]
 have pb : W1.cell? ⟨H + 5, 0, none⟩ = some (putFn H) := by simp [World.cell?, g1.pb]
 obtain ⟨oa, ja, ok, jk, ha, hv⟩ := n1.form
 obtain ⟨c0, c1, c2, c3, c4⟩ := f1.cells
 simp only [Nat.zero_add] at c1 c2 c3 c4
 rw [ha] at c3
 rw [hv] at c4
 have C2 := fun m => Lib.hid (put_any (g1.draws m) f.t f.va f.vk (n1.draws m) (by omega) hk ht hlt)
 have hb1 : ∀ m, Below (H + 1) w (W1.drewN m) := fun m => by
  rw [hW1]
  exact ((Below.refl _ _).setCell (p := ⟨H + 3, 0, none⟩) (by show H + 1 ≤ H + 3; omega) _).trans ⟨rfl, rfl, rfl, Nat.le_refl _, fun _ _ => rfl⟩
 have HB1 := Lib.hid hb1
 have HW1 := Lib.hid hW1
 unfold ndV at C2
 rw [ha, hv] at C2
 unfold topFn at tb
 unfold putFn at pb
 generalize hm : r.length = m at *
 clear hp hb1 hW1 g1 n1 f1 h hlt hk ht ha hv
 go_enter Tryz.func59, Tryz.ntmps59
 go_wp2_with fail
 refine C1.out.mono ?_
 rintro e w1 ⟨rfl, rfl⟩
 go_wp2_with fail
 rw [← HW1.out]
 go_region_law (go_simp; go_at_call 57; refine (C2 1).out.mono ?_; rintro e w4 ⟨rfl, vk', g4, b4⟩; have HG4 := Lib.hid g4; have HB4 := Lib.hid b4; clear g4 b4)
 all_goals
  go_wp2_with fail
  go_end0
  exact ⟨rfl, _, vk', HG4.out, (HB1.out 1).trans HB4.out⟩
end Char
namespace Char
open Go.RowKit Go.Lib
structure TkOk (t : Tk) : Prop where
 kd : t.kd = 1 ∨ t.kd = 2 ∨ t.kd = 3 ∨ t.kd = 4 ∨ t.kd = 5
 nm : t.kd = 2 → t.nm ≠ []
 al : t.ats.length ≤ 12
 nd : (t.ats.map (·.1)).Nodup
 tl : t.tx.length ≤ 16000
def futs (xs : List TkV) (k : Nat) : List Nat := (xs.drop k).filterMap fun x => x.2.ownBlock
theorem futs_at (xs : List TkV) (k : Nat) (h : k < xs.length) : futs xs k = xs[k].2.ownBlock.toList ++ futs xs (k + 1) := by
 unfold futs
 rw [List.drop_eq_getElem_cons h, List.filterMap_cons]
 cases xs[k].2.ownBlock <;> rfl
theorem futs_apart {xs : List TkV} (ha : ApartT xs) (k : Nat) (h : k < xs.length) : ∀ b, b ∈ futs xs (k + 1) → b ∈ futs xs k ∧ xs[k].2.ownBlock ≠ some b := fun b hb => by
 rw [futs_at xs k h]
 refine ⟨List.mem_append_right _ hb, fun e => ?_⟩
 have h1 : (futs xs k).Nodup := by
  unfold futs
  unfold ApartT at ha
  rw [← List.take_append_drop k xs, List.filterMap_append, List.nodup_append] at ha
  exact ha.2.1
 rw [futs_at xs k h, List.nodup_append] at h1
 exact h1.2.2 b (by simp [e]) b hb rfl
theorem GS.less {B H : Nat} {fut fut' : List Nat} {w : World} {vo : Value} {fs : List Fr} (h : GS B H fut w vo fs) (hf : ∀ b, b ∈ fut' → b ∈ fut) : GS B H fut' w vo fs := by
 have hok : ∀ b, b < w.heap.size → OkB B H fut vo fs b → OkB B H fut' vo fs b ∧ w.heap[b]? = w.heap[b]? := fun b _ hF => ⟨hF.keep (fun x hx => x (hf b hx)) hF.ac hF.op, rfl⟩
 exact ⟨h.hB, h.sz, h.ob, h.tb, h.pb, h.own, fun f hf2 => ⟨(h.frs f hf2).1, (h.frs f hf2).2.1.move hok, (h.frs f hf2).2.2.move hok (fun _ _ => rfl)⟩, h.nd, h.hi, fun b hb => h.ft b (hf b hb)⟩
def zeroNd : Value := .agg #[.int .i64 0, .string ⟨#[]⟩, .string ⟨#[]⟩, .slice none 0 0, .slice none 0 0]
def zeroC : Array Value := #[.int .i64 0, .string ⟨#[]⟩, .string ⟨#[]⟩, .slice none 0 0, .slice none 0 0]
structure GrK (B : Nat) (w : World) (xs : List TkV) (v : Value) (G : Nat ⊕ Tr) (k sz : Nat) (vo : Value) (f : Fr) (r : List Fr) (wr : World) : Prop where
 gs : GS B w.heap.size (futs xs k) wr vo (f :: r)
 tok : wr.ownsRow B 72 5 v xs.length (tksC xs)
 att : ∀ x, x ∈ xs.drop k → OwnsAt B wr x.2 x.1.ats
 res : wr.heap[w.heap.size]? = some (.cells zeroC 25 (0, 0))
 bel : Below B w wr
 grd : ∃ fs gr, f :: r = fs ++ [gr] ∧ gr.e = w.heap.size + 1 ∧ gr.t.nm = []
 len : r.length ≤ 12
 szl : sz ≤ 120
 ksl : ∀ fr, fr ∈ f :: r → fr.t.tx = [] ∧ fr.t.ks.length ≤ k ∧ ∀ kid, kid ∈ fr.t.ks → kid.tx.length ≤ 16000 * k
 run : runT ((xs.drop k).map (·.1)) ((f :: r).map (·.t)) sz = G
 low : ∀ g, v.ownBlock = some g → g < w.heap.size
theorem GrK.below {B : Nat} {w : World} {xs : List TkV} {v : Value} {G : Nat ⊕ Tr} {k sz : Nat} {vo : Value} {f : Fr} {r : List Fr} {wr w' : World} (h : GrK B w xs v G k sz vo f r wr) (hb : Below wr.heap.size wr w') : GrK B w xs v G k sz vo f r w' := by
 have hsz := h.gs.sz
 have hB := h.gs.hB
 exact ⟨h.gs.below hb, ownsRow_keep h.tok (fun g hg => hb.block g (by have := h.low g hg; omega)), fun x hx => (h.att x hx).belowW hb, (hb.block _ (by omega)).trans h.res, h.bel.trans (hb.mono (by omega)), h.grd, h.len, h.szl, h.ksl, h.run, h.low⟩
theorem tok_reads {B : Nat} {w : World} {o : Option Addr} {i j : Nat} {xs : List TkV} (h0 : w.ownsRow B 72 5 (.slice o i j) xs.length (tksC xs)) (k : Nat) (hk : k < xs.length) :
  i = xs.length ∧ ∃ g, o = some ⟨g, 0, none⟩ ∧ g < w.heap.size ∧ w.cell? ⟨g, k * 5, none⟩ = some (.int .i64 xs[k].1.kd) ∧ w.cell? ⟨g, k * 5 + 1, none⟩ = some (.string (bs xs[k].1.nm)) ∧ w.cell? ⟨g, k * 5 + 2, none⟩ = some (.string (bs xs[k].1.tx)) ∧
   w.cell? ⟨g, k * 5 + 3, none⟩ = some xs[k].2 ∧ w.cell? ⟨g, k * 5 + 4, none⟩ = some (.bool xs[k].1.em) := by
 rcases h0.2 with ⟨_, h1⟩ | ⟨g, cap, cur, e1, e2, hg, _⟩
 ·omega
 ·simp only [Value.slice.injEq] at e1
  have hc := World.ownsRow.cells h0 (g := g) (by rw [e1.1]; rfl)
  have key : ∀ n, n < 5 → ∀ u, (tkC xs[k])[n]? = some u → w.cell? ⟨g, k * 5 + n, none⟩ = some u := fun n hn u hu => by
   have := hc (k * 5 + n) u ((tksC_at xs k n hk hn).trans hu)
   rwa [Addr.add_lit, Nat.zero_add] at this
  exact ⟨e1.2.1, g, e1.1, block_of_heap hg, key 0 (by omega) _ rfl, key 1 (by omega) _ rfl, key 2 (by omega) _ rfl, key 3 (by omega) _ rfl, key 4 (by omega) _ rfl⟩
def GrPost (B : Nat) (w : World) (G : Nat ⊕ Tr) (e : Ending) (w' : World) : Prop := match G with
 | .inl err => e = .returned (.tuple #[zeroNd, .int .i64 (err : Int)]) ∧ Below B w w'
 | .inr t => ∃ va vk, e = .returned (.tuple #[ndV t va vk, .int .i64 0]) ∧ NdOn w' (fun b => B ≤ b) t va vk ∧ Below B w w'
theorem putK_tx (ks : List Tr) (n : Tr) (N M : Nat) (hk : ∀ kid, kid ∈ ks → kid.tx.length ≤ N) (hn : n.tx.length ≤ M) : ∀ kid, kid ∈ putK ks n → kid.tx.length ≤ N + M := by
 intro kid hkid
 unfold putK at hkid
 cases hl : ks.getLast? with
 | none =>
  rw [hl] at hkid
  simp only [List.mem_append, List.mem_singleton] at hkid
  rcases hkid with h | rfl
  ·have := hk kid h; omega
  ·omega
 | some t =>
  rw [hl] at hkid
  dsimp only at hkid
  split at hkid
  ·simp only [List.mem_append, List.mem_singleton] at hkid
   rcases hkid with h | rfl
   ·have := hk kid (List.dropLast_subset _ h); omega
   ·have := hk t (List.mem_of_getLast? hl)
    show (t.tx ++ n.tx).length ≤ _
    rw [List.length_append]; omega
  ·simp only [List.mem_append, List.mem_singleton] at hkid
   rcases hkid with h | rfl
   ·have := hk kid h; omega
   ·omega
theorem grd_head {f f' : Fr} {r : List Fr} {H : Nat} (h : ∃ fs gr, f :: r = fs ++ [gr] ∧ gr.e = H ∧ gr.t.nm = []) (he : f'.e = f.e) (hn : f'.t.nm = f.t.nm) : ∃ fs gr, f' :: r = fs ++ [gr] ∧ gr.e = H ∧ gr.t.nm = [] := by
 obtain ⟨fs, gr, h1, h2, h3⟩ := h
 cases fs with
 | nil =>
  simp only [List.nil_append, List.cons.injEq] at h1
  obtain ⟨rfl, rfl⟩ := h1
  exact ⟨[], f', rfl, he.trans h2, hn.trans h3⟩
 | cons a fs =>
  simp only [List.cons_append, List.cons.injEq] at h1
  obtain ⟨rfl, rfl⟩ := h1
  exact ⟨f' :: fs, gr, rfl, h2, h3⟩
theorem grd_tail {f f2 : Fr} {r : List Fr} {H : Nat} (h : ∃ fs gr, f :: f2 :: r = fs ++ [gr] ∧ gr.e = H ∧ gr.t.nm = []) : ∃ fs gr, f2 :: r = fs ++ [gr] ∧ gr.e = H ∧ gr.t.nm = [] := by
 obtain ⟨fs, gr, h1, h2, h3⟩ := h
 cases fs with
 | nil => simp at h1
 | cons a fs =>
  simp only [List.cons_append, List.cons.injEq] at h1
  exact ⟨fs, gr, h1.2, h2, h3⟩
theorem grd_push {f f' : Fr} {r : List Fr} {H : Nat} (h : ∃ fs gr, f :: r = fs ++ [gr] ∧ gr.e = H ∧ gr.t.nm = []) : ∃ fs gr, f' :: f :: r = fs ++ [gr] ∧ gr.e = H ∧ gr.t.nm = [] := by
 obtain ⟨fs, gr, h1, h2, h3⟩ := h
 exact ⟨f' :: fs, gr, by rw [h1]; rfl, h2, h3⟩
theorem GrK.next {B : Nat} {w : World} {xs : List TkV} {v : Value} {G : Nat ⊕ Tr} {k sz sz' : Nat} {vo vo' : Value} {f f' : Fr} {r r' : List Fr} {wr w' : World} (h : GrK B w xs v G k sz vo f r wr) (ha : ApartT xs) (hk : k < xs.length)
  (hgs : GS B w.heap.size (futs xs (k + 1)) w' vo' (f' :: r')) (hsame : ∀ b, b ≤ w.heap.size → xs[k].2.ownBlock ≠ some b → w'.heap[b]? = wr.heap[b]?) (hbel : Below B wr w')
  (hgrd : ∃ fs gr, f' :: r' = fs ++ [gr] ∧ gr.e = w.heap.size + 1 ∧ gr.t.nm = []) (hlen : r'.length ≤ 12) (hsz : sz' ≤ 120)
  (hks : ∀ fr, fr ∈ f' :: r' → fr.t.tx = [] ∧ fr.t.ks.length ≤ k + 1 ∧ ∀ kid, kid ∈ fr.t.ks → kid.tx.length ≤ 16000 * (k + 1))
  (hrun : runT ((xs.drop (k + 1)).map (·.1)) ((f' :: r').map (·.t)) sz' = G) : GrK B w xs v G (k + 1) sz' vo' f' r' w' := by
 have hd : xs.drop k = xs[k] :: xs.drop (k + 1) := List.drop_eq_getElem_cons hk
 have hat : OwnsAt B wr xs[k].2 xs[k].1.ats := h.att _ (by rw [hd]; exact List.mem_cons_self)
 refine ⟨hgs, ownsRow_keep h.tok (fun g hg => ?_), fun x hx => ?_, (hsame _ (Nat.le_refl _) (fun e => ?_)).trans h.res, h.bel.trans hbel, hgrd, hlen, hsz, hks, hrun, h.low⟩
 ·refine hsame g (Nat.le_of_lt (h.low g hg)) (fun e => ?_)
  obtain ⟨_, c1, h1⟩ := ownsRow_block h.tok hg
  obtain ⟨_, c2, h2⟩ := ownsRow_block hat e
  rw [h1] at h2
  simp only [Option.some.injEq, Obj.cells.injEq] at h2
  exact at_ne_tok h2.2.1.symm
 ·have hx0 : x ∈ xs.drop k := by rw [hd]; exact List.mem_cons_of_mem _ hx
  refine ownsRow_keep (h.att x hx0) (fun g hg => ?_)
  have hm : g ∈ futs xs (k + 1) := List.mem_filterMap.2 ⟨x, hx, hg⟩
  obtain ⟨m1, m2⟩ := futs_apart ha k hk g hm
  exact hsame g (Nat.le_of_lt (h.gs.ft g m1)) m2
 ·have := h.gs.ft w.heap.size (by rw [futs_at xs k hk]; simp [e])
  omega
theorem GrK.left {B : Nat} {w : World} {xs : List TkV} {v : Value} {G : Nat ⊕ Tr} {k sz : Nat} {vo : Value} {f : Fr} {r : List Fr} {wr : World} (h : GrK B w xs v G k sz vo f r wr) (ha : ApartT xs) (hk : k < xs.length) (hl : leftT xs[k].1 ((f :: r).map (·.t)) = true) : GrK B w xs v G (k + 1) sz vo f r wr := by
 refine h.next ha hk (h.gs.less (fun b hb => (futs_apart ha k hk b hb).1)) (fun _ _ _ => rfl) (Below.refl _ _) h.grd h.len h.szl (fun fr hfr => ?_) ?_
 ·obtain ⟨h1, h2, h3⟩ := h.ksl fr hfr
  exact ⟨h1, by omega, fun kid hkid => by have := h3 kid hkid; omega⟩
 ·have := h.run
  rw [List.drop_eq_getElem_cons hk, List.map_cons, run_left hl] at this
  exact this
theorem GrK.put {B : Nat} {w : World} {xs : List TkV} {v : Value} {G : Nat ⊕ Tr} {k sz sz' : Nat} {vo vk' : Value} {f : Fr} {r : List Fr} {wr w' : World} (h : GrK B w xs v G k sz vo f r wr) (ha : ApartT xs) (hk : k < xs.length) {n : Tr} (hn : n.tx.length ≤ 16000)
  (hgs : GS B w.heap.size (futs xs (k + 1)) w' vo (⟨f.e, f.va, vk', f.t.put n⟩ :: r)) (hb : Below (w.heap.size + 1) wr w') (hsz : sz' ≤ 120)
  (hrun : runT ((xs.drop (k + 1)).map (·.1)) (putT n ((f :: r).map (·.t))) sz' = G) : GrK B w xs v G (k + 1) sz' vo ⟨f.e, f.va, vk', f.t.put n⟩ r w' := by
 have hB := h.gs.hB
 refine h.next ha hk hgs (fun b hb2 _ => hb.block b (by omega)) (hb.mono (by omega)) (grd_head h.grd rfl rfl) h.len hsz (fun fr hfr => ?_) hrun
 rw [List.mem_cons] at hfr
 rcases hfr with rfl | hfr
 ·obtain ⟨h1, h2, h3⟩ := h.ksl f (by simp)
  refine ⟨h1, Nat.le_trans (putK_len f.t.ks n) (by omega), fun kid hkid => ?_⟩
  have := putK_tx f.t.ks n (16000 * k) 16000 h3 hn kid hkid
  omega
 ·obtain ⟨h1, h2, h3⟩ := h.ksl fr (List.mem_cons_of_mem _ hfr)
  exact ⟨h1, by omega, fun kid hkid => by have := h3 kid hkid; omega⟩
theorem GrK.ground {B : Nat} {w : World} {xs : List TkV} {v : Value} {G : Nat ⊕ Tr} {k sz : Nat} {vo : Value} {f : Fr} {r : List Fr} {wr : World} (h : GrK B w xs v G k sz vo f r wr) :
  ∃ g cap, vo = .slice (some ⟨g, 0, none⟩) (r.length + 1) cap ∧ r.length + 1 ≤ cap ∧ wr.cell? ⟨g, 0, none⟩ = some (.pointer (some ⟨w.heap.size + 1, 0, none⟩)) ∧ wr.cell? ⟨g, r.length, none⟩ = some (.pointer (some ⟨f.e, 0, none⟩)) ∧
   ∃ og ng cg, wr.cell? ⟨w.heap.size + 1, 4, none⟩ = some (.slice og ng cg) ∧ (r = [] → f.e = w.heap.size + 1 ∧ ng = f.t.ks.length) := by
 obtain ⟨g, cap, h1, h2, _, h3⟩ := h.gs.form (by simp)
 obtain ⟨fs, gr, e1, e2, _⟩ := h.grd
 have hl : (f :: r).length = fs.length + 1 := by rw [e1]; simp
 have hmem : gr ∈ f :: r := by rw [e1]; simp
 obtain ⟨f1, _, f3⟩ := h.gs.frs gr hmem
 obtain ⟨og, cg, hv⟩ := f3.form
 have h0 := h3 0 (by simp)
 have hz := h3 fs.length (by rw [hl]; omega)
 have hgr : (f :: r)[fs.length]'(by rw [hl]; omega) = gr := by simp [e1]
 rw [hgr, e2] at hz
 simp only [List.length_cons, Nat.add_sub_cancel, Nat.sub_zero, List.getElem_cons_zero] at h0 hz
 rw [show r.length - fs.length = 0 by simp at hl; omega] at hz
 refine ⟨g, cap, h1, h2, hz, h0, og, gr.t.ks.length, cg, ?_, fun hr => ?_⟩
 ·have := f1.cells.2.2.2.2
  rw [e2, hv] at this
  exact this
 ·subst hr
  have hfs : fs = [] := List.eq_nil_of_length_eq_zero (by rw [List.length_cons, List.length_nil] at hl; omega)
  subst hfs
  simp only [List.nil_append, List.cons.injEq, and_true] at e1
  subst e1
  exact ⟨e2, rfl⟩
theorem fault_eq (kd : Int) (nm tx : List UInt8) (ats : List At2) (em : Bool) (f : Fr) (r : List Fr) (ng sz : Nat) (hg : r = [] → ng = f.t.ks.length) : faultN kd nm f.t.nm r.length ng sz = faultT ⟨kd, nm, tx, ats, em⟩ ((f :: r).map (·.t)) sz := by
 unfold faultN faultT
 simp only [List.map_cons, topT, List.length_cons, List.length_map]
 by_cases h2 : kd = 2 ∧ nm ≠ f.t.nm
 ·rw [if_pos h2, if_pos h2]
 ·rw [if_neg h2, if_neg h2]
  by_cases h3 : kd = 2
  ·rw [if_pos h3, if_pos h3]
  ·rw [if_neg h3, if_neg h3]
   have e1 : (r.length = 0 ∧ (kd ≠ 1 ∨ ng ≠ 0)) = (r.length + 1 = 1 ∧ (kd ≠ 1 ∨ f.t.ks ≠ [])) := by
    apply propext
    constructor
    ·rintro ⟨q1, q2⟩
     refine ⟨by omega, q2.imp id (fun q => ?_)⟩
     have := hg (List.eq_nil_of_length_eq_zero q1)
     intro e
     rw [e] at this
     exact q this
    ·rintro ⟨q1, q2⟩
     have hr0 : r.length = 0 := by omega
     refine ⟨hr0, q2.imp id (fun q => ?_)⟩
     have := hg (List.eq_nil_of_length_eq_zero hr0)
     intro e
     rw [e] at this
     exact q (List.eq_nil_of_length_eq_zero this.symm)
   have e2 : (kd = 1 ∧ r.length = 12) = (kd = 1 ∧ r.length + 1 = 13) := by apply propext; constructor <;> rintro ⟨q1, q2⟩ <;> exact ⟨q1, by omega⟩
   simp only [e1, e2]
theorem more_eq (kd : Int) (nm tx : List UInt8) (ats : List At2) (em : Bool) (f : Fr) (r : List Fr) : moreN kd ats.length f.t.ks = moreT ⟨kd, nm, tx, ats, em⟩ (topT ((f :: r).map (·.t))) := rfl
theorem left_eq (kd : Int) (nm tx : List UInt8) (ats : List At2) (em : Bool) (f : Fr) (r : List Fr) : (kd == 3 && (tx.isEmpty || (((r.length : Int) + 1 == 1) && tx.all fun c => spC (c.toNat : Int)))) = leftT ⟨kd, nm, tx, ats, em⟩ ((f :: r).map (·.t)) := by
 unfold leftT
 have e : ((r.length : Int) + 1 == 1) = (r.length + 1 == 1) := by rw [Bool.eq_iff_iff]; simp only [beq_iff_eq]; omega
 simp only [List.map_cons, List.length_cons, List.length_map, e]
end Char
namespace Char
open Go.RowKit Go.Lib
theorem push_fin {B : Nat} {w : World} {xs : List TkV} {v : Value} {G : Nat ⊕ Tr} {k sz : Nat} {vo : Value} {f : Fr} {r : List Fr} {W : World} (h : GrK B w xs v G k sz vo f r W) (ha : ApartT xs) (hk : k < xs.length) (t : Tk) (va : Value) (hv : xs[k].2 = va)
  {ge : Nat} {w5 : World} (hbeg : BegP B W t.nm va t.ats ge w5) {g cap : Nat} {w7 : World}
  (hown : w7.ownsRow (w.heap.size + 2) 84 1 (.slice (some ⟨g, 0, none⟩) (r.length + 2) cap) (r.length + 2) (((f :: r).reverse.map fun f => .pointer (some ⟨f.e, 0, none⟩)) ++ [.pointer (some ⟨ge, 0, none⟩)]))
  (hgr : (w5.alloc (.cells #[.pointer (some ⟨ge, 0, none⟩)] 84)).grownBy w7 vo.ownBlock) (hgg : vo.ownBlock = some g ∨ g = w5.heap.size + 1) :
  (w7.cell? ⟨w.heap.size + 3, 0, none⟩ = some vo ∧ w7.frozen? ⟨w.heap.size + 3, 0, none⟩ = false) ∧ ∀ m w8, w8 = (w7.drewN m).setCell ⟨w.heap.size + 3, 0, none⟩ (.slice (some ⟨g, 0, none⟩) (r.length + 2) cap) →
   GS B w.heap.size (futs xs (k + 1)) w8 (.slice (some ⟨g, 0, none⟩) (r.length + 2) cap) (⟨ge, va, .slice none 0 0, beginT t⟩ :: f :: r) ∧ (∀ b, b ≤ w.heap.size → xs[k].2.ownBlock ≠ some b → w8.heap[b]? = W.heap[b]?) ∧ Below B W w8 ∧ (∀ b, b < W.heap.size → b ≠ w.heap.size + 3 → some b ≠ vo.ownBlock → some b ≠ va.ownBlock → w8.heap[b]? = W.heap[b]?) := by
 have hz := h.gs.sz
 have hB := h.gs.hB
 have hvaf : ∀ b, va.ownBlock = some b → b ∈ futs xs k := fun b hb => by rw [futs_at xs k hk, hv]; simp [hb]
 have hvaH : ∀ b, va.ownBlock = some b → b < w.heap.size := fun b hb => h.gs.ft b (hvaf b hb)
 have hvo : ∀ b, vo.ownBlock = some b → w.heap.size + 2 ≤ b ∧ b < W.heap.size ∧ b ≠ w.heap.size + 3 := fun b hb => by
  obtain ⟨h1, c, h2⟩ := ownsRow_block h.gs.own hb
  refine ⟨h1, block_of_heap h2, fun e => ?_⟩
  have := h.gs.ob
  rw [e] at h2
  rw [h2] at this
  simp only [Option.some.injEq, Obj.cells.injEq] at this
  exact absurd this.2.1 (by decide)
 have hs5 := hbeg.gr.size
 have hs7 := hgr.size
 rw [World.size_alloc] at hs7
 have h75 : ∀ b, b < w5.heap.size → some b ≠ vo.ownBlock → w7.heap[b]? = w5.heap[b]? := fun b hb hne => (hgr.block b (by rw [World.size_alloc]; omega) hne).trans (Below.heap_alloc w5 _ b hb)
 have h7W : ∀ b, b < W.heap.size → some b ≠ vo.ownBlock → some b ≠ va.ownBlock → w7.heap[b]? = W.heap[b]? := fun b hb h1 h2 => (h75 b (by omega) h1).trans (hbeg.gr.block b hb h2)
 have ho3 : w7.heap[w.heap.size + 3]? = some (.cells #[vo] 85 (0, 0)) := (h7W _ (by omega) (fun e => (hvo _ e.symm).2.2 rfl) (fun e => by have := hvaH _ e.symm; omega)).trans h.gs.ob
 refine ⟨⟨by simp [World.cell?, ho3], by simp [World.frozen?, ho3]⟩, fun m w8 hw => ?_⟩
 have h87 : ∀ b, b ≠ w.heap.size + 3 → w8.heap[b]? = w7.heap[b]? := fun b hb => by rw [hw]; exact heap_set_ne hb
 have hbl : ∀ b, b < W.heap.size → b ≠ w.heap.size + 3 → some b ≠ vo.ownBlock → some b ≠ va.ownBlock → w8.heap[b]? = W.heap[b]? := fun b hb h1 h2 h3 => (h87 b h1).trans (h7W b hb h2 h3)
 have hs8 : w8.heap.size = w7.heap.size := by rw [hw, World.size_setCell]; rfl
 refine ⟨h.gs.push (f' := ⟨ge, va, .slice none 0 0, beginT t⟩) hvaf (fun b hb => by have := futs_apart ha k hk b hb; rw [hv] at this; exact this) hbeg.hi rfl rfl ?_ ?_ hbl (by omega) ?_ ?_ ?_, fun b hb hne => ?_, ?_, hbl⟩
 ·have hge := block_of_heap hbeg.blk
  have hhi := hbeg.hi
  exact (h87 ge (by omega)).trans ((h75 ge hge (fun e => by have := (hvo _ e.symm).2.1; omega)).trans hbeg.blk)
 ·refine ownsRow_keep hbeg.ats (fun b hb => ?_)
  have hbH := hvaH b hb
  exact (h87 b (by omega)).trans (h75 b (by omega) (fun e => by have := (hvo b e.symm).1; omega))
 ·rw [hw]
  exact (heap_set (w := w7.drewN m) ho3).trans rfl
 ·refine ownsRow_keep hown (fun b hb => h87 b (fun e => ?_))
  obtain ⟨_, c, h2⟩ := ownsRow_block hown hb
  rw [e, ho3] at h2
  simp only [Option.some.injEq, Obj.cells.injEq] at h2
  exact absurd h2.2.1 (by decide)
 ·rcases hgg with hgg | hgg
  ·exact .inl hgg.symm
  ·refine .inr (fun b hb => ?_)
   simp [Value.ownBlock] at hb
   omega
 ·rw [hv] at hne
  exact hbl b (by omega) (by omega) (fun e => by have := (hvo b e.symm).1; omega) (fun e => hne e.symm)
 ·have b1 : Below B W w5 := ⟨hbeg.gr.os, hbeg.gr.tape, hbeg.gr.output, hbeg.gr.size, fun b hb => hbeg.gr.block b (by omega) (fun e => by
   have := (h.att _ (by rw [List.drop_eq_getElem_cons hk]; exact List.mem_cons_self)).block (g := b) (by rw [hv]; exact e.symm)
   omega)⟩
  have b2 : Below B W w7 := (b1.alloc (by omega) _).grown hgr (by rw [World.size_alloc]; omega) (fun b hb => by have := (hvo b hb).1; omega)
  rw [hw]
  exact (b2.trans (⟨rfl, rfl, rfl, Nat.le_refl _, fun _ _ => rfl⟩ : Below B w7 (w7.drewN m))).setCell (p := ⟨w.heap.size + 3, 0, none⟩) (by show B ≤ w.heap.size + 3; omega) _
theorem fault_sz {p : Tk} {os : List Tr} {sz : Nat} (h : faultT p os (sz + moreT p (topT os)) = 0) (hs : sz ≤ 120) : sz + moreT p (topT os) ≤ 120 := by
 by_cases h2 : p.kd = 2
 ·have : moreT p (topT os) = 0 := by
   unfold moreT
   rw [if_neg (by omega), if_pos (.inl h2)]
  omega
 ·unfold faultT at h
  rw [if_neg (fun x => h2 x.1), if_neg h2] at h
  split at h
  ·cases h
  ·split at h
   ·cases h
   ·split at h
    ·cases h
    ·omega
theorem fault_len {p : Tk} {os : List Tr} {sz : Nat} (h : faultT p os sz = 0) (h1 : p.kd = 1) : os.length ≠ 13 := by
 intro hl
 unfold faultT at h
 rw [if_neg (fun x => by rw [h1] at x; exact absurd x.1 (by decide)), if_neg (by rw [h1]; decide)] at h
 split at h
 ·cases h
 ·rw [if_pos ⟨h1, hl⟩] at h
  cases h
theorem fault_end {p : Tk} {os : List Tr} {sz : Nat} (h : faultT p os sz = 0) (h2 : p.kd = 2) : p.nm = (topT os).nm := by
 unfold faultT at h
 by_cases hn : p.nm = (topT os).nm
 ·exact hn
 ·rw [if_pos ⟨h2, hn⟩] at h
  cases h
theorem GrK.runs {B : Nat} {w : World} {xs : List TkV} {v : Value} {G : Nat ⊕ Tr} {k sz : Nat} {vo : Value} {f : Fr} {r : List Fr} {wr : World} (h : GrK B w xs v G k sz vo f r wr) (hk : k < xs.length) {p : Tk} (hp : xs[k].1 = p) (hl : leftT p ((f :: r).map (·.t)) = false)
  (hf : faultT p ((f :: r).map (·.t)) (sz + moreT p (topT ((f :: r).map (·.t)))) = 0) : runT ((xs.drop (k + 1)).map (·.1)) (nextT p ((f :: r).map (·.t))) (sz + moreT p (topT ((f :: r).map (·.t)))) = G := by
 have := h.run
 rw [List.drop_eq_getElem_cons hk, List.map_cons, hp, run_next hl hf] at this
 exact this
theorem GrK.faults {B : Nat} {w : World} {xs : List TkV} {v : Value} {G : Nat ⊕ Tr} {k sz : Nat} {vo : Value} {f : Fr} {r : List Fr} {wr : World} (h : GrK B w xs v G k sz vo f r wr) (hk : k < xs.length) {p : Tk} (hp : xs[k].1 = p) (hl : leftT p ((f :: r).map (·.t)) = false)
  (hf : faultT p ((f :: r).map (·.t)) (sz + moreT p (topT ((f :: r).map (·.t)))) ≠ 0) : G = .inl (faultT p ((f :: r).map (·.t)) (sz + moreT p (topT ((f :: r).map (·.t))))) := by
 have := h.run
 rw [List.drop_eq_getElem_cons hk, List.map_cons, hp, run_fault hl hf] at this
 exact this.symm
theorem GrK.pushed {B : Nat} {w : World} {xs : List TkV} {v : Value} {G : Nat ⊕ Tr} {k sz sz' : Nat} {vo vo' : Value} {f : Fr} {r : List Fr} {W w8 : World} (h : GrK B w xs v G k sz vo f r W) (ha : ApartT xs) (hk : k < xs.length) (t : Tk) {e : Nat} {va : Value} (hr : r.length ≤ 11) (hsz : sz' ≤ 120)
  (hg : GS B w.heap.size (futs xs (k + 1)) w8 vo' (⟨e, va, .slice none 0 0, beginT t⟩ :: f :: r)) (hs : ∀ b, b ≤ w.heap.size → xs[k].2.ownBlock ≠ some b → w8.heap[b]? = W.heap[b]?) (hb : Below B W w8)
  (hrun : runT ((xs.drop (k + 1)).map (·.1)) (beginT t :: (f :: r).map (·.t)) sz' = G) : GrK B w xs v G (k + 1) sz' vo' ⟨e, va, .slice none 0 0, beginT t⟩ (f :: r) w8 := by
 refine h.next ha hk hg hs hb (grd_push h.grd) (by simp; omega) hsz (fun fr hfr => ?_) hrun
 rw [List.mem_cons] at hfr
 rcases hfr with rfl | hfr
 ·exact ⟨rfl, Nat.zero_le _, fun _ hx => by cases hx⟩
 ·obtain ⟨y1, y2, y3⟩ := h.ksl fr hfr
  exact ⟨y1, by omega, fun kid hkid => by have := y3 kid hkid; omega⟩
theorem GrK.pushEnd {B : Nat} {w : World} {xs : List TkV} {v : Value} {G : Nat ⊕ Tr} {k sz sz' : Nat} {vo vo' vk' : Value} {f : Fr} {r : List Fr} {W w8 w9 : World} (h : GrK B w xs v G k sz vo f r W) (ha : ApartT xs) (hk : k < xs.length) (t : Tk) (hsz : sz' ≤ 120)
  (hs : ∀ b, b ≤ w.heap.size → xs[k].2.ownBlock ≠ some b → w8.heap[b]? = W.heap[b]?) (hb : Below B W w8)
  (hg : GS B w.heap.size (futs xs (k + 1)) w9 vo' (⟨f.e, f.va, vk', f.t.put (beginT t)⟩ :: r)) (hb9 : Below (w.heap.size + 1) w8 w9)
  (hrun : runT ((xs.drop (k + 1)).map (·.1)) (putT (beginT t) ((f :: r).map (·.t))) sz' = G) : GrK B w xs v G (k + 1) sz' vo' ⟨f.e, f.va, vk', f.t.put (beginT t)⟩ r w9 := by
 have hB := h.gs.hB
 refine h.next ha hk hg (fun b hb2 hne => (hb9.block b (by omega)).trans (hs b hb2 hne)) (hb.trans (hb9.mono (by omega))) (grd_head h.grd rfl rfl) h.len hsz (fun fr hfr => ?_) hrun
 rw [List.mem_cons] at hfr
 rcases hfr with rfl | hfr
 ·obtain ⟨y1, y2, y3⟩ := h.ksl f (by simp)
  refine ⟨y1, Nat.le_trans (putK_len f.t.ks (beginT t)) (by omega), fun kid hkid => ?_⟩
  have := putK_tx f.t.ks (beginT t) (16000 * k) 0 y3 (Nat.le_refl _) kid hkid
  omega
 ·obtain ⟨y1, y2, y3⟩ := h.ksl fr (List.mem_cons_of_mem _ hfr)
  exact ⟨y1, by omega, fun kid hkid => by have := y3 kid hkid; omega⟩
theorem info_ptr : (Tryz.prog.info? 84).map (fun i => (i.zero, i.size, i.bytes)) = some (some (.pointer none), 1, 8) := by kernel_rfl
theorem step_pushPtr {ops : Array Oper} {o : Oper} {a : Act} {K : Act → World → Prop} {Q : Exit → Act → World → Prop} {E : Prop} {B : Nat} {W : World} {v : Value} {n : Nat} {xs : List Value}
  (hgd : o.guard = none) (s x : Operand) (ho : o.op = .call { callee := .builtin .append, args := #[s, x], argTypes := #[85, 85] })
  (ge N : Nat) (hown : W.ownsRow B 84 1 v n xs) (hs : a.eval s = v) (hx : a.eval x = .slice (some ⟨N, 0, none⟩) 1 1) (hc : W.cell? ⟨N, 0, none⟩ = some (.pointer (some ⟨ge, 0, none⟩))) (hB : B ≤ W.heap.size) (hlen : n ≤ 100000)
  (h : ∀ g cap w1, w1.ownsRow B 84 1 (.slice (some ⟨g, 0, none⟩) (n + 1) cap) (n + 1) (xs ++ [.pointer (some ⟨ge, 0, none⟩)]) → W.grownBy w1 v.ownBlock → (v.ownBlock = some g ∨ g = W.heap.size) → K (a.put o.dst (.slice (some ⟨g, 0, none⟩) (n + 1) cap)) w1) :
  if Region.wanted o (yielded ops a.tmps) = true then Oper.wp Tryz.prog o a W K Q else E := by
 obtain ⟨i0, hi, hz0, hz1, hz2⟩ := info_parts info_ptr
 refine step_append_lies W hgd s x 85 ho B 84 i0 (.pointer none) 1 8 Tryz.underlying85 hi hz0 hz1 hz2 rfl (by decide) v n xs hs hown ⟨N, 0, none⟩ 1 1 [.pointer (some ⟨ge, 0, none⟩)] hx rfl ?_ ?_ (by decide) ?_ ?_ hB W.heap.size rfl (fun g cap w1 h1 h2 h3 _ => h g cap w1 h1 h2 h3)
 ·intro j u hj
  match j, hj with
  | 0, hj => simp at hj; subst hj; rw [Addr.add_lit]; exact hc
  | j + 1, hj => simp at hj
 ·intro u hu
  simp at hu
  subst hu
  rfl
 ·unfold maxLen; omega
 ·omega
end Char
end Go.Proofs.YtlmodgnkmlbjhaaGreatDoor
