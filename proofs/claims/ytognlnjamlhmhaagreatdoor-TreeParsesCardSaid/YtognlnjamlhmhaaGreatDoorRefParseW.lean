/- RefParseW -/
import Derived.Test.YtognlnjamlhmhaaGreatDoorPkInsL
import Derived.Test.YtognlnjamlhmhaaGreatDoorBlank
import Derived.Test.YtognlnjamlhmhaaGreatDoorPkScan
import Derived.Test.YtognlnjamlhmhaaGreatDoorPkNm
/- The walk of the document's own Parse: what the machine tells. -/
namespace Go.Proofs.YtognlnjamlhmhaaGreatDoor.Char
open Go.RowKit Go.Lib

/-- what lies outside of all elements -/
def grdK (ks : List Tr) : Tr := .mk 1 [] [] [] ks
/-- one node put into a list that is none yet -/
theorem wpList_pushRt {ops : Array Oper} {rest : List Oper} {o : Oper} {a : Act} {Q : Exit → Act → World → Prop} {B : Nat} {W : World} {F : Nat → Prop}
    (hgd : o.guard = none) (s x : Operand) (ho : o.op = .call { callee := .builtin .append, args := #[s, x], argTypes := #[24, 24] })
    (k : Tr) (oa : Option Addr) (ia ja : Nat) (ok : Option Addr) (ik jk : Nat) (hn : NdOn W F k (.slice oa ia ja) (.slice ok ik jk)) (hs : a.eval s = .slice none 0 0) (hx : a.eval x = .slice (some ⟨W.heap.size, 0, none⟩) 1 1) (hB : B ≤ W.heap.size)
    (h : ∀ g cap w1, W.heap.size ≤ g → OwnsNd B w1 F (.slice (some ⟨g, 0, none⟩) 1 cap) [k] → Below W.heap.size W w1 → wpList Tryz.prog ops Q rest (a.put o.dst (.slice (some ⟨g, 0, none⟩) 1 cap)) w1) :
    wpList Tryz.prog ops Q (o :: rest) a (W.alloc (.cells #[.int .i64 k.kd, .string (bs k.nm), .string (bs k.tx), .slice oa ia ja, .slice ok ik jk] 26)) := by
  obtain ⟨i0, hi, hz0, hz1, hz2⟩ := info_parts info_nd
  refine wpList_append_lies _ hgd s x 24 ho B 26 i0 (.agg #[.int .i64 0, .string ⟨#[]⟩, .string ⟨#[]⟩, .slice none 0 0, .slice none 0 0]) 5 88 Tryz.underlying24 hi hz0 hz1 hz2 rfl (by decide) (.slice none 0 0) 0 [] hs (World.ownsRow_nil _ _ _ _) ⟨W.heap.size, 0, none⟩ 1 1 (ndC (k, .slice oa ia ja, .slice ok ik jk)) hx rfl ?_ ?_ (by decide) ?_ ?_ ?_ (W.heap.size + 1) (by simp) ?_
  · intro j u hj
    rw [Addr.add_lit, Nat.zero_add]
    exact nd_cells W k _ _ j u hj
  · intro u hu
    simp [ndC] at hu
    rcases hu with rfl | rfl | rfl | rfl | rfl <;> rfl
  · unfold maxLen; omega
  · omega
  · simp; omega
  · intro g cap w1 ho1 hg1 hgg _
    have hgl : W.heap.size ≤ g := by
      rcases hgg with hgg | hgg
      · cases hgg
      · omega
    have hb : Below W.heap.size W w1 := ((Below.refl W.heap.size W).alloc (Nat.le_refl _) _).grown hg1 (by simp) (fun k hk => by cases hk)
    refine h g cap w1 hgl ⟨[(k, .slice oa ia ja, .slice ok ik jk)], rfl, ?_, fun x hx => ?_⟩ hb
    · simpa [ndsC] using ho1
    · rw [List.mem_singleton] at hx
      subst hx
      exact NdOn.move (fun b hb2 hF => ⟨hF, hb.block b hb2⟩) _ _ _ hn
/-- what the loop keeps -/
structure RpK (w : World) (xs : List TkV) (S : Nat) (tv : Value) (G : Nat ⊕ Tr) (p sz : Nat) (v : Value) (ks : List Tr) (wr : World) : Prop where
  st : StAt wr S tv p sz
  tk : TkOn wr S tv xs
  rt : OwnsNd w.heap.size wr (fun b => w.heap.size < b ∧ b ≠ S) v ks
  nS : v.ownBlock ≠ some S
  bl : Below w.heap.size w wr
  rs : wr.heap[w.heap.size]? = some (.cells #[.int .i64 0, .string ⟨#[]⟩, .string ⟨#[]⟩, .slice none 0 0, .slice none 0 0] 26 (0, 0))
  run : runT ((xs.map (·.1)).drop p) [grdK ks] sz = G
  le : p ≤ xs.length
  sl : sz ≤ 120
  kl : ks.length ≤ 1
  nl : ks = [] → v = .slice none 0 0
theorem RpK.below {w : World} {xs : List TkV} {S : Nat} {tv : Value} {G : Nat ⊕ Tr} {p sz : Nat} {v : Value} {ks : List Tr} {wr w' : World} (h : RpK w xs S tv G p sz v ks wr) (hS : S < wr.heap.size) (hb : Below wr.heap.size wr w') : RpK w xs S tv G p sz v ks w' :=
  ⟨h.st.below hb, h.tk.but (But.of hb hS), h.rt.move (fun b hb2 hF => ⟨hF, hb.block b hb2⟩) (fun g hg => hb.block g (h.rt.blk hg).2), h.nS, h.bl.trans (hb.mono h.bl.size), (hb.block _ (block_of_heap h.rs)).trans h.rs, h.run, h.le, h.sl, h.kl, h.nl⟩
/-- one cell of the state turned -/
theorem RpK.at {w : World} {xs : List TkV} {S : Nat} {tv : Value} {G : Nat ⊕ Tr} {p sz : Nat} {v : Value} {ks : List Tr} {wr : World} (h : RpK w xs S tv G p sz v ks wr) (hS : w.heap.size < S) (p' : Nat) (hr : runT ((xs.map (·.1)).drop p') [grdK ks] sz = G) (hp : p' ≤ xs.length) : RpK w xs S tv G p' sz v ks (wr.setCell ⟨S, 1, none⟩ (.int .i64 (p' : Int))) := by
  have hb : But S wr (wr.setCell ⟨S, 1, none⟩ (.int .i64 (p' : Int))) := But.set S 1 wr _
  exact ⟨h.st.at p', h.tk.but hb, h.rt.move (fun b hb2 hF => ⟨hF, hb.2 b hb2 hF.2⟩) (fun g hg => hb.2 g (h.rt.blk hg).2 (fun e => h.nS (by rw [hg, e]))), h.nS, h.bl.trans (hb.1.mono (by omega)), (hb.2 _ (block_of_heap h.rs) (by omega)).trans h.rs, hr, hp, h.sl, h.kl, h.nl⟩
/-- an element more -/
theorem RpK.kid {w : World} {xs : List TkV} {S : Nat} {tv : Value} {G : Nat ⊕ Tr} {p sz p' sz' : Nat} {v : Value} {wr w3 w5 : World} {n : Tr} {g cap : Nat} (h : RpK w xs S tv G p sz v [] wr) (hS : w.heap.size < S) (hSl : S < wr.heap.size) (hb3 : But S wr w3) (hst : StAt w3 S tv p' sz') (h5 : Below w3.heap.size w3 w5)
    (hg : w3.heap.size ≤ g) (ho : OwnsNd w.heap.size w5 (fun b => w.heap.size < b ∧ b ≠ S) (.slice (some ⟨g, 0, none⟩) 1 cap) [n]) (hio : InsOk (xs.map (·.1)) p 0 sz n p' sz') (hp : p' ≤ xs.length) (hs : sz' ≤ 120) : RpK w xs S tv G p' sz' (.slice (some ⟨g, 0, none⟩) 1 cap) [n] w5 := by
  have hz := hb3.1.size
  have hb35 : But S w3 w5 := But.of h5 (by omega)
  refine ⟨hst.below h5, (h.tk.but hb3).but hb35, ho, ?_, h.bl.trans ((hb3.1.trans hb35.1).mono (by omega)), ?_, ?_, hp, hs, Nat.le_refl _, fun e => by cases e⟩
  · simp only [Value.ownBlock, ne_eq, Option.some.injEq]; omega
  · exact (hb35.2 _ (Nat.lt_of_lt_of_le (block_of_heap h.rs) hz) (by omega)).trans ((hb3.2 _ (block_of_heap h.rs) (by omega)).trans h.rs)
  · have := hio [grdK []] rfl (fun _ => rfl)
    rw [h.run] at this
    exact this.symm

set_option maxRecDepth 100000 in
set_option maxHeartbeats 16000000 in
theorem refParse_any (l : List UInt8) (w : World) (hz : l.length ≤ 9223372036854775807) :
    Calls Tryz.prog 9 #[.string (bs l)] w (GrPost w.heap.size w (parseL l)) := by
  obtain ⟨W0, hW0⟩ : ∃ W0, W0 = w.alloc (.cells #[.int .i64 0, .string ⟨#[]⟩, .string ⟨#[]⟩, .slice none 0 0, .slice none 0 0] 26) := ⟨_, rfl⟩
  have b0 : Below w.heap.size w W0 := by rw [hW0]; exact (Below.refl _ _).alloc (Nat.le_refl _) _
  have s0 : W0.heap.size = w.heap.size + 1 := by rw [hW0]; simp
  have hrs : W0.heap[w.heap.size]? = some (.cells #[.int .i64 0, .string ⟨#[]⟩, .string ⟨#[]⟩, .slice none 0 0, .slice none 0 0] 26 (0, 0)) := by rw [hW0]; exact World.alloc_heap_new w _
  have HS := Lib.hid (refScan_any l W0 hz)
  have HW0 := Lib.hid hW0
  have HB0 := Lib.hid b0
  have HRS := Lib.hid hrs
  -- the cell of the result, wherever its block is as it was
  have hcl : ∀ W : World, W.heap[w.heap.size]? = some (.cells #[.int .i64 0, .string ⟨#[]⟩, .string ⟨#[]⟩, .slice none 0 0, .slice none 0 0] 26 (0, 0)) → (∀ i, W.frozen? ⟨w.heap.size, i, none⟩ = false) ∧ W.cell? ⟨w.heap.size, 0, none⟩ = some (.int .i64 0) ∧ W.cell? ⟨w.heap.size, 1, none⟩ = some (.string ⟨#[]⟩) ∧ W.cell? ⟨w.heap.size, 2, none⟩ = some (.string ⟨#[]⟩) ∧ W.cell? ⟨w.heap.size, 3, none⟩ = some (.slice none 0 0) ∧ W.cell? ⟨w.heap.size, 4, none⟩ = some (.slice none 0 0) := fun W h => by
    exact ⟨fun i => by simp [World.frozen?, h], by simp [World.cell?, h], by simp [World.cell?, h], by simp [World.cell?, h], by simp [World.cell?, h], by simp [World.cell?, h]⟩
  have HCL := Lib.hid hcl
  clear hW0 b0 hrs hcl
  unfold parseL
  unfold ScPost at HS
  cases hs : scanL l with
  | inl err =>
    rw [hs] at HS
    have hne : err ≠ 0 := by
      unfold scanL at hs
      split at hs
      · cases hs; decide
      · split at hs
        · cases hs; decide
        · exact scanF_errne hs
    have HS2 : Hid (Calls Tryz.prog 21 #[.string (bs l)] W0 fun e w' => e = .returned (.tuple #[.slice none 0 0, .int .i64 (err : Int)]) ∧ Below W0.heap.size W0 w') := HS
    have k1 : ((err : Int) != 0) = true := by rw [bne_iff_ne]; omega
    obtain ⟨P, hP⟩ : ∃ P, GrPost w.heap.size w (.inl err) = P := ⟨_, rfl⟩
    dsimp only
    rw [hP]
    have HP := Lib.hid hP
    clear HS hs hP
    go_enter Tryz.func9, Tryz.ntmps9
    go_wp2_with fail
    rw [← HW0.out]
    refine HS2.out.mono ?_
    rintro e w1 ⟨rfl, hb1⟩
    obtain ⟨z0, z1, z2, z3, z4, z5⟩ := HCL.out w1 ((hb1.block _ (by omega)).trans HRS.out)
    have HB1 := Lib.hid (HB0.out.trans (hb1.mono (by omega)))
    clear hb1
    go_wp2_with fail
    refine end_nd2 Tryz.results9 _ w.heap.size (c := .int .i64 (err : Int)) (kd := 0) (n := ⟨#[]⟩) (t := ⟨#[]⟩) (va := .slice none 0 0) (vk := .slice none 0 0) ⟨_, _, _, rfl⟩ ⟨_, _, _, rfl⟩ ⟨by go_simp, by go_simp, by go_simp, by go_simp, by go_simp⟩ rfl rfl rfl ?_
    rw [← HP.out]
    exact ⟨rfl, (((((HB1.out.setCell (p := ⟨w.heap.size, 0, none⟩) (Nat.le_refl _) _).setCell (p := ⟨w.heap.size, 1, none⟩) (Nat.le_refl _) _).setCell (p := ⟨w.heap.size, 2, none⟩) (Nat.le_refl _) _).setCell (p := ⟨w.heap.size, 3, none⟩) (Nat.le_refl _) _).setCell (p := ⟨w.heap.size, 4, none⟩) (Nat.le_refl _) _)⟩
  | inr ts =>
    rw [hs] at HS
    have hl := (scanL_len hs).1
    have hok := scanL_tok hs
    have HS2 : Hid (Calls Tryz.prog 21 #[.string (bs l)] W0 fun e w' => ∃ (xs : List TkV) (o : Option Addr) (i j : Nat), xs.map (·.1) = ts ∧ e = .returned (.tuple #[.slice o i j, .int .i64 0]) ∧ OwnsTk W0.heap.size w' (.slice o i j) xs ∧ Below W0.heap.size W0 w') := HS
    obtain ⟨G, hG⟩ : ∃ G, runT ts [grd0] 0 = G := ⟨_, rfl⟩
    dsimp only
    rw [hG]
    obtain ⟨P, hP⟩ : ∃ P, GrPost w.heap.size w G = P := ⟨_, rfl⟩
    rw [hP]
    have HP := Lib.hid hP
    have HOK := Lib.hid hok
    have HG := Lib.hid hG
    clear HS hs hP hok hG
    go_enter Tryz.func9, Tryz.ntmps9
    go_wp2_with fail
    rw [← HW0.out]
    refine HS2.out.mono ?_
    rintro e w1 ⟨xs, o, i, j, hx, rfl, ho, hb1⟩
    obtain rfl := ho.len
    subst hx
    have hxl : xs.length ≤ 4000 := by simpa using hl
    have hok2 : ∀ x, x ∈ xs → TkOk x.1 := fun x hxm => HOK.out x.1 (List.mem_map_of_mem hxm)
    have HOX := Lib.hid hok2
    have HO := Lib.hid ho
    have HB1 := Lib.hid hb1
    have hz1 : w.heap.size < w1.heap.size := by have := hb1.size; omega
    clear ho hb1 hok2 HOK hl
    go_wp2_with fail
    obtain ⟨S, hS⟩ : ∃ S, S = w1.heap.size := ⟨_, rfl⟩
    obtain ⟨W2, hW2⟩ : ∃ W2, W2 = w1.alloc (.cells #[.slice o xs.length j, .int .i64 0, .int .i64 0] 46) := ⟨_, rfl⟩
    rw [← hW2, ← hS]
    have hK0 : RpK w xs S (.slice o xs.length j) G 0 0 (.slice none 0 0) [] W2 := by
      have hb2 : Below w1.heap.size w1 W2 := by rw [hW2]; exact (Below.refl _ _).alloc (Nat.le_refl _) _
      refine ⟨?_, TkOn.of HO.out hb2 (by omega), OwnsNd.nil _ _ _, by simp [Value.ownBlock], HB0.out.trans ((HB1.out.trans (hb2.mono HB1.out.size)).mono (by omega)), ?_, HG.out, Nat.zero_le _, Nat.zero_le _, Nat.zero_le _, fun _ => rfl⟩
      · unfold StAt; rw [hW2, hS]; exact World.alloc_heap_new w1 _
      · exact (hb2.block _ hz1).trans ((HB1.out.block _ (by omega)).trans HRS.out)
    have hSw : w.heap.size < S := by omega
    have hSl : S < W2.heap.size := by rw [hW2, World.size_alloc]; omega
    have HK0 := Lib.hid hK0
    clear hK0 hW2 hS HO HG HS2
    go_loopw [7] (fun v wr => ∃ (p sz : Nat) (ks : List Tr), S < wr.heap.size ∧ RpK w xs S (.slice o xs.length j) G p sz v ks wr) (fun _ wr => leftS S xs.length wr)
    case atStart => exact ⟨0, 0, [], hSl, HK0.out⟩
    case round =>
      obtain ⟨p, sz, ks, hSr, hK⟩ := hrel
      obtain ⟨ok7, jk7, rfl⟩ := hK.rt.form
      obtain ⟨nk, hnk⟩ : ∃ nk, nk = ks.length := ⟨_, rfl⟩
      rw [← hnk] at hK ⊢
      obtain ⟨a0, a1, a2, af⟩ := hK.st.cells
      have hlf := leftS_of hK.st (L := xs.length)
      have HLF := Lib.hid hlf
      have HNK := Lib.hid hnk
      have hple := hK.le
      have hkl := hK.kl
      have hzr := hK.bl.size
      have htk0 := hK.tk
      have HK := Lib.hid hK
      obtain ⟨ot, jt2, he9, htk⟩ := htk0
      simp only [Value.slice.injEq] at he9
      obtain ⟨rfl, _, rfl⟩ := he9
      clear hlf hK hnk
      by_cases hlt : p < xs.length
      · obtain ⟨gt, rfl, hgS9, ⟨t0, t1, t2, t3, t4⟩, hat⟩ := htk p hlt
        have hgr := cell_lt t0
        have hxok := HOX.out _ (List.getElem_mem hlt)
        have hpl : p < (xs.map (fun x : TkV => x.1)).length := by simpa using hlt
        have hkx : (xs.map (fun x : TkV => x.1))[p]'hpl = xs[p].1 := by simp
        generalize hx : xs[p] = x at *
        obtain ⟨⟨xk, xn, xt, xq, xe⟩, xv⟩ := x
        dsimp only at t0 t1 t2 t3 t4 hxok hkx
        obtain ⟨oa3, ja3, rfl⟩ : ∃ o j, xv = .slice o xq.length j := hat.form
        have HKX2 := Lib.hid hkx
        have HXOK := Lib.hid hxok
        clear hx hkx hxok hat htk
        go_upto_region 8 with fail
        obtain ⟨Wx, hWx⟩ : ∃ Wx, Wx = wr.alloc (.cells #[.int .i64 xk, .string (bs xn), .string (bs xt), .slice oa3 xq.length ja3, .bool xe] 48) := ⟨_, rfl⟩
        rw [← hWx]
        have hbx : Below wr.heap.size wr Wx := by rw [hWx]; exact (Below.refl _ _).alloc (Nat.le_refl _) _
        have hsx : Wx.heap.size = wr.heap.size + 1 := by rw [hWx, World.size_alloc]
        have hXb : Wx.heap[wr.heap.size]? = some (.cells #[.int .i64 xk, .string (bs xn), .string (bs xt), .slice oa3 xq.length ja3, .bool xe] 48 (0, 0)) := by rw [hWx]; exact World.alloc_heap_new wr _
        have hKx : RpK w xs S (.slice (some ⟨gt, 0, none⟩) xs.length j) G p sz (.slice ok7 nk jk7) ks Wx := HK.out.below hSr hbx
        obtain ⟨X, hX⟩ : ∃ X, X = wr.heap.size := ⟨_, rfl⟩
        rw [← hX] at hsx hXb hSr hzr ⊢
        clear hWx hbx a0 a1 a2 af t0 t1 t2 t3 t4 hgr hX HK
        have hSx : S < Wx.heap.size := by omega
        obtain ⟨a0, a1, a2, af⟩ := hKx.st.cells
        obtain ⟨rf, r0, r1, r2, r3, r4⟩ := HCL.out Wx hKx.rs
        have x0 : Wx.cell? ⟨X, 0, none⟩ = some (.int .i64 xk) := by simp [World.cell?, hXb]
        have x2 : Wx.cell? ⟨X, 2, none⟩ = some (.string (bs xt)) := by simp [World.cell?, hXb]
        have HKX := Lib.hid hKx
        have HBL := Lib.hid hKx.bl
        have hkd := HXOK.out.kd
        have hzx : w.heap.size < Wx.heap.size := Nat.lt_of_lt_of_le (block_of_heap HKX.out.rs) (Nat.le_refl _)
        have hw8 : IntKind.i64.wrap ((p : Int) + 1) = (p : Int) + 1 := IntWalk.i64_in _ (by omega)
        clear hKx hXb
        by_cases hk2 : xk = 2
        · subst hk2
          have HGG := Lib.hid (show G = .inl 14 by rw [← HKX.out.run]; exact out_end hpl (by rw [HKX2.out]) (by rw [HKX2.out]; exact HXOK.out.nm rfl))
          go_wp2_with fail
          refine end_nd2 Tryz.results9 _ w.heap.size (c := .int .i64 14) (kd := 0) (n := ⟨#[]⟩) (t := ⟨#[]⟩) (va := .slice none 0 0) (vk := .slice none 0 0) ⟨_, _, _, rfl⟩ ⟨_, _, _, rfl⟩ ⟨by go_simp, by go_simp, by go_simp, by go_simp, by go_simp⟩ rfl rfl rfl ?_
          rw [← HP.out, HGG.out]
          exact ⟨rfl, (((((HBL.out.setCell (p := ⟨w.heap.size, 0, none⟩) (Nat.le_refl _) _).setCell (p := ⟨w.heap.size, 1, none⟩) (Nat.le_refl _) _).setCell (p := ⟨w.heap.size, 2, none⟩) (Nat.le_refl _) _).setCell (p := ⟨w.heap.size, 3, none⟩) (Nat.le_refl _) _).setCell (p := ⟨w.heap.size, 4, none⟩) (Nat.le_refl _) _)⟩
        have k2 : (xk == 2) = false := by simp [hk2]
        by_cases hk1 : xk = 1
        · subst hk1
          by_cases hnk0 : nk = 0
          · subst hnk0
            have hks : ks = [] := List.eq_nil_of_length_eq_zero HNK.out.symm
            subst hks
            have hnl := HKX.out.nl rfl
            simp only [Value.slice.injEq] at hnl
            obtain ⟨rfl, _, rfl⟩ := hnl
            have hC := inside_any xs HOX.out hxl 13 0 Wx S (.slice (some ⟨gt, 0, none⟩) xs.length j) p sz (by omega) (by omega) HKX.out.tk HKX.out.st hlt (by have := HKX2.out; simp only [List.getElem_map] at this; rw [this]) HKX.out.sl
            rw [show ((0 : Nat) : Int) = 0 from rfl] at hC
            have HC := Lib.hid hC
            clear hC
            go_wp2_with fail
            refine HC.out.mono ?_
            clear HC
            rintro e w3 (⟨err, h0, rfl, hb3, hno⟩ | ⟨k, ka, kk, p2, sz2, rfl, hon, hkd2, htx2, hst, hb3, hio, hsl2, hp12, hp2⟩)
            · have k4 : ((err : Int) != 0) = true := by rw [bne_iff_ne]; omega
              have HGG := Lib.hid (show G = .inl err by rw [← HKX.out.run]; exact hno [grdK []] rfl (fun _ => rfl))
              clear r0 r1 r2 r3 r4 rf a0 a1 a2 af x0 x2
              have hR3 := (hb3.2 _ hzx (by omega)).trans HKX.out.rs
              obtain ⟨rf, r0, r1, r2, r3, r4⟩ := HCL.out w3 hR3
              have HB3 := Lib.hid (HKX.out.bl.trans (hb3.1.mono (show w.heap.size ≤ S by omega)))
              have hz3 := hb3.1.size
              have hRl3 : w.heap.size < w3.heap.size := by omega
              unfold zeroNd
              clear hb3 hno hR3
              go_wp2_with fail
              refine end_nd2 Tryz.results9 _ w.heap.size (c := .int .i64 (err : Int)) (kd := 0) (n := ⟨#[]⟩) (t := ⟨#[]⟩) (va := .slice none 0 0) (vk := .slice none 0 0) ⟨_, _, _, rfl⟩ ⟨_, _, _, rfl⟩ ⟨by go_simp, by go_simp, by go_simp, by go_simp, by go_simp⟩ rfl rfl rfl ?_
              rw [← HP.out, HGG.out]
              exact ⟨rfl, (((((((HB3.out.setCell (p := ⟨w.heap.size, 0, none⟩) (Nat.le_refl _) _).setCell (p := ⟨w.heap.size, 1, none⟩) (Nat.le_refl _) _).setCell (p := ⟨w.heap.size, 2, none⟩) (Nat.le_refl _) _).setCell (p := ⟨w.heap.size, 3, none⟩) (Nat.le_refl _) _).setCell (p := ⟨w.heap.size, 4, none⟩) (Nat.le_refl _) _).alloc (by simp only [World.size_setCell]; exact Nat.le_of_lt hRl3) _))⟩
            · obtain ⟨oa5, ja5, ok5, jk5, rfl, rfl⟩ := hon.form
              have hz3 := hb3.1.size
              clear r0 r1 r2 r3 r4 rf a0 a1 a2 af x0 x2
              have HON := Lib.hid hon
              have HIO := Lib.hid hio
              have HST3 := Lib.hid hst
              have HB3 := Lib.hid hb3
              clear hon hio hst hb3 hkd2 htx2
              unfold ndV
              go_upto_region 14 with fail
              obtain ⟨W4, hW4⟩ : ∃ W4, W4 = w3.alloc (.cells #[.int .i64 k.kd, .string (bs k.nm), .string (bs k.tx), .slice oa5 k.ats.length ja5, .slice ok5 k.ks.length jk5] 26) := ⟨_, rfl⟩
              rw [← hW4]
              have hb4 : Below w3.heap.size w3 W4 := by rw [hW4]; exact (Below.refl _ _).alloc (Nat.le_refl _) _
              have hs4 : W4.heap.size = w3.heap.size + 1 := by rw [hW4, World.size_alloc]
              have hk4 : W4.heap[w3.heap.size]? = some (.cells #[.int .i64 k.kd, .string (bs k.nm), .string (bs k.tx), .slice oa5 k.ats.length ja5, .slice ok5 k.ks.length jk5] 26 (0, 0)) := by rw [hW4]; exact World.alloc_heap_new w3 _
              have d0 : W4.cell? ⟨w3.heap.size, 0, none⟩ = some (.int .i64 k.kd) := by simp [World.cell?, hk4]
              have d1 : W4.cell? ⟨w3.heap.size, 1, none⟩ = some (.string (bs k.nm)) := by simp [World.cell?, hk4]
              have d2 : W4.cell? ⟨w3.heap.size, 2, none⟩ = some (.string (bs k.tx)) := by simp [World.cell?, hk4]
              have d3 : W4.cell? ⟨w3.heap.size, 3, none⟩ = some (.slice oa5 k.ats.length ja5) := by simp [World.cell?, hk4]
              have d4 : W4.cell? ⟨w3.heap.size, 4, none⟩ = some (.slice ok5 k.ks.length jk5) := by simp [World.cell?, hk4]
              have HN4 := Lib.hid (show NdOn W4 (fun b => w.heap.size < b ∧ b ≠ S) k (.slice oa5 k.ats.length ja5) (.slice ok5 k.ks.length jk5) from NdOn.move (fun b hb hF => ⟨⟨by omega, by omega⟩, hb4.block b hb⟩) _ _ _ HON.out)
              have HB4 := Lib.hid hb4
              have hB4 : w.heap.size ≤ W4.heap.size := by omega
              have HS4 := Lib.hid hs4
              clear hs4 hW4 hb4 hk4
              go_wp2_with (with_reducible refine wpList_pushRt rfl (.tmp 58) (.tmp 60) rfl k oa5 k.ats.length ja5 ok5 k.ks.length jk5 HN4.out rfl rfl hB4 ?_)
              intro g cap w5 hg5 ho5 hb5
              have HK9 := Lib.hid (HKX.out.kid hSw hSx HB3.out HST3.out (HB4.out.trans (hb5.mono (by have := HS4.out; omega))) (by have := HS4.out; omega) ho5 HIO.out hp2 hsl2)
              have hS5 : S < w5.heap.size := by have := hb5.size; have := HS4.out; omega
              clear ho5 hb5
              go_wp2_with fail
              go_roundw
              case rel => exact ⟨p2, sz2, [k], hS5, HK9.out⟩
              case measure => rw [HLF.out, leftS_of HK9.out.st]; omega
          · have k5 : ((nk : Int) == 0) = false := by rw [beq_eq_false_iff_ne]; omega
            have HGG := Lib.hid (show G = .inl 17 by
              rw [← HKX.out.run]
              refine out_no hpl (by rw [HKX2.out]; exact (show ¬ (1 : Int) = 2 by decide)) (fun _ e => ?_) (fun e => by rw [HKX2.out] at e; cases e)
              have e2 : ks = [] := e
              have := HNK.out
              rw [e2] at this
              exact hnk0 this)
            clear hnk0
            go_wp2_with fail
            refine end_nd2 Tryz.results9 _ w.heap.size (c := .int .i64 17) (kd := 0) (n := ⟨#[]⟩) (t := ⟨#[]⟩) (va := .slice none 0 0) (vk := .slice none 0 0) ⟨_, _, _, rfl⟩ ⟨_, _, _, rfl⟩ ⟨by go_simp, by go_simp, by go_simp, by go_simp, by go_simp⟩ rfl rfl rfl ?_
            rw [← HP.out, HGG.out]
            exact ⟨rfl, (((((HBL.out.setCell (p := ⟨w.heap.size, 0, none⟩) (Nat.le_refl _) _).setCell (p := ⟨w.heap.size, 1, none⟩) (Nat.le_refl _) _).setCell (p := ⟨w.heap.size, 2, none⟩) (Nat.le_refl _) _).setCell (p := ⟨w.heap.size, 3, none⟩) (Nat.le_refl _) _).setCell (p := ⟨w.heap.size, 4, none⟩) (Nat.le_refl _) _)⟩
        have k3 : (xk == 1) = false := by simp [hk1]
        by_cases hk3 : xk = 3
        · subst hk3
          have hbl := refBlank_any (bs xt) Wx (by have : xt.length ≤ 16000 := HXOK.out.tl; have := bs_size xt; omega)
          obtain ⟨q, hq⟩ : ∃ q, allR spC (bs xt).data.toList = q := ⟨_, rfl⟩
          rw [hq] at hbl
          have hq2 : (xt.all fun c => spC (c.toNat : Int)) = q := by rw [← hq, blank_bytes _ _ (Nat.le_refl _)]; rfl
          have HBK := Lib.hid hbl
          have HQ := Lib.hid hq2
          clear hbl hq hq2
          cases q
          · have HGG := Lib.hid (show G = .inl 17 by
              rw [← HKX.out.run]
              exact out_no hpl (by rw [HKX2.out]; exact (show ¬ (3 : Int) = 2 by decide)) (fun e => by rw [HKX2.out] at e; cases e) (fun _ => by rw [HKX2.out]; exact HQ.out))
            go_wp2_with fail
            refine HBK.out.mono ?_
            rintro e w3 ⟨rfl, rfl⟩
            go_wp2_with fail
            refine end_nd2 Tryz.results9 _ w.heap.size (c := .int .i64 17) (kd := 0) (n := ⟨#[]⟩) (t := ⟨#[]⟩) (va := .slice none 0 0) (vk := .slice none 0 0) ⟨_, _, _, rfl⟩ ⟨_, _, _, rfl⟩ ⟨by go_simp, by go_simp, by go_simp, by go_simp, by go_simp⟩ rfl rfl rfl ?_
            rw [← HP.out, HGG.out]
            exact ⟨rfl, (((((HBL.out.setCell (p := ⟨w.heap.size, 0, none⟩) (Nat.le_refl _) _).setCell (p := ⟨w.heap.size, 1, none⟩) (Nat.le_refl _) _).setCell (p := ⟨w.heap.size, 2, none⟩) (Nat.le_refl _) _).setCell (p := ⟨w.heap.size, 3, none⟩) (Nat.le_refl _) _).setCell (p := ⟨w.heap.size, 4, none⟩) (Nat.le_refl _) _)⟩
          · have HRU := Lib.hid (show runT ((xs.map (·.1)).drop (p + 1)) [grdK ks] sz = G by rw [← HKX.out.run]; exact (out_blank hpl (by rw [HKX2.out]) (by rw [HKX2.out]; exact HQ.out)).symm)
            have HK9 := Lib.hid (HKX.out.at hSw (p + 1) HRU.out (by omega))
            have e9 : ((p + 1 : Nat) : Int) = (p : Int) + 1 := by push_cast; rfl
            rw [e9] at HK9
            clear e9
            go_wp2_with fail
            refine HBK.out.mono ?_
            rintro e w3 ⟨rfl, rfl⟩
            go_wp2_with fail
            go_roundw
            case rel => exact ⟨p + 1, sz, ks, by rw [World.size_setCell]; exact hSx, HK9.out⟩
            case measure => rw [HLF.out, leftS_of HK9.out.st]; omega
        · have k7 : (xk != 3) = true := by simp [hk3]
          have HGG := Lib.hid (show G = .inl 17 by
            rw [← HKX.out.run]
            exact out_no hpl (by rw [HKX2.out]; exact hk2) (fun e => by rw [HKX2.out] at e; exact absurd e hk1) (fun e => by rw [HKX2.out] at e; exact absurd e hk3))
          go_wp2_with fail
          refine end_nd2 Tryz.results9 _ w.heap.size (c := .int .i64 17) (kd := 0) (n := ⟨#[]⟩) (t := ⟨#[]⟩) (va := .slice none 0 0) (vk := .slice none 0 0) ⟨_, _, _, rfl⟩ ⟨_, _, _, rfl⟩ ⟨by go_simp, by go_simp, by go_simp, by go_simp, by go_simp⟩ rfl rfl rfl ?_
          rw [← HP.out, HGG.out]
          exact ⟨rfl, (((((HBL.out.setCell (p := ⟨w.heap.size, 0, none⟩) (Nat.le_refl _) _).setCell (p := ⟨w.heap.size, 1, none⟩) (Nat.le_refl _) _).setCell (p := ⟨w.heap.size, 2, none⟩) (Nat.le_refl _) _).setCell (p := ⟨w.heap.size, 3, none⟩) (Nat.le_refl _) _).setCell (p := ⟨w.heap.size, 4, none⟩) (Nat.le_refl _) _)⟩
      · have hd : decide (p < xs.length) = false := by simpa using hlt
        have hfin := out_fin (ts := xs.map (fun x : TkV => x.1)) (at1 := p) (sz := sz) (g := grdK ks) (by simpa using hlt)
        rw [HK.out.run] at hfin
        have HFI := Lib.hid hfin
        clear hfin htk
        obtain ⟨rf, r0, r1, r2, r3, r4⟩ := HCL.out wr HK.out.rs
        by_cases hnk0 : nk = 0
        · subst hnk0
          have hks : ks = [] := List.eq_nil_of_length_eq_zero HNK.out.symm
          subst hks
          have HGG := Lib.hid (show G = .inl 17 from HFI.out)
          have HBL := Lib.hid HK.out.bl
          go_wp2_with fail
          refine end_nd2 Tryz.results9 _ w.heap.size (c := .int .i64 17) (kd := 0) (n := ⟨#[]⟩) (t := ⟨#[]⟩) (va := .slice none 0 0) (vk := .slice none 0 0) ⟨_, _, _, rfl⟩ ⟨_, _, _, rfl⟩ ⟨by go_simp, by go_simp, by go_simp, by go_simp, by go_simp⟩ rfl rfl rfl ?_
          rw [← HP.out, HGG.out]
          exact ⟨rfl, (((((HBL.out.setCell (p := ⟨w.heap.size, 0, none⟩) (Nat.le_refl _) _).setCell (p := ⟨w.heap.size, 1, none⟩) (Nat.le_refl _) _).setCell (p := ⟨w.heap.size, 2, none⟩) (Nat.le_refl _) _).setCell (p := ⟨w.heap.size, 3, none⟩) (Nat.le_refl _) _).setCell (p := ⟨w.heap.size, 4, none⟩) (Nat.le_refl _) _)⟩
        · have k5 : ((nk : Int) == 0) = false := by rw [beq_eq_false_iff_ne]; omega
          obtain ⟨nd, hks⟩ : ∃ nd, ks = [nd] := by
            have h1 := HNK.out
            match ks, hkl, h1 with
            | [], _, h1 => exact absurd h1 hnk0
            | [nd], _, _ => exact ⟨nd, rfl⟩
            | a :: b :: r, h, _ => simp at h
          subst hks
          have hn1 : nk = 1 := HNK.out
          subst hn1
          have HGG := Lib.hid (show G = .inr nd from HFI.out)
          obtain ⟨ys, hys, hown, hnd⟩ := HK.out.rt
          obtain ⟨y, rfl⟩ : ∃ y, ys = [y] := by
            have := congrArg List.length hys
            rw [List.length_map] at this
            exact List.length_eq_one_iff.1 this
          obtain ⟨g, hg, hc⟩ := ownsNd_cells hown 0 (by simp)
          obtain rfl := hg
          have hy : y.1 = nd := by simpa using hys
          obtain ⟨yt, ya, yk⟩ := y
          dsimp only at hy
          subst hy
          have hN := hnd _ (List.mem_singleton.2 rfl)
          dsimp only at hN
          obtain ⟨oa5, ja5, ok5, jk5, rfl, rfl⟩ := hN.form
          have HN := Lib.hid hN
          obtain ⟨c0, c1, c2, c3, c4⟩ := hc
          simp only [List.getElem_cons_zero, Nat.zero_mul, Nat.zero_add] at c0 c1 c2 c3 c4
          clear hown hnd hys hN
          have HBL := Lib.hid HK.out.bl
          go_wp2_with fail
          refine end_nd2 Tryz.results9 _ w.heap.size (c := .int .i64 0) (kd := yt.kd) (n := bs yt.nm) (t := bs yt.tx) (va := .slice oa5 yt.ats.length ja5) (vk := .slice ok5 yt.ks.length jk5) ⟨_, _, _, rfl⟩ ⟨_, _, _, rfl⟩ ⟨by go_simp, by go_simp, by go_simp, by go_simp, by go_simp⟩ rfl rfl rfl ?_
          rw [← HP.out, HGG.out]
          refine ⟨_, _, rfl, ?_, (((((HBL.out.setCell (p := ⟨w.heap.size, 0, none⟩) (Nat.le_refl _) _).setCell (p := ⟨w.heap.size, 1, none⟩) (Nat.le_refl _) _).setCell (p := ⟨w.heap.size, 2, none⟩) (Nat.le_refl _) _).setCell (p := ⟨w.heap.size, 3, none⟩) (Nat.le_refl _) _).setCell (p := ⟨w.heap.size, 4, none⟩) (Nat.le_refl _) _)⟩
          refine NdOn.move (fun b hb hF => ⟨by have := hF.1; omega, ?_⟩) _ _ _ HN.out
          have hne : b ≠ w.heap.size := by have := hF.1; omega
          rw [heap_set_ne hne, heap_set_ne hne, heap_set_ne hne, heap_set_ne hne, heap_set_ne hne]
end Go.Proofs.YtognlnjamlhmhaaGreatDoor.Char
