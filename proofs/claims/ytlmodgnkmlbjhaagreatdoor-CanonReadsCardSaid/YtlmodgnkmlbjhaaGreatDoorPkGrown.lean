import Derived.Test.YtlmodgnkmlbjhaaGreatDoorPkGrE
import Derived.Test.YtlmodgnkmlbjhaaGreatDoorPkNm
import Derived.Test.YtlmodgnkmlbjhaaGreatDoorPkScan
namespace Go.Proofs.YtlmodgnkmlbjhaaGreatDoor
namespace Char
open Go.RowKit Go.Lib
theorem grown_start (B : Nat) (w : World) (xs : List TkV) (v : Value) (h : OwnsTk B w v xs) (hB : B ≤ w.heap.size) (W5 : World) (hW : W5 = (((((w.alloc (.cells zeroC 25)).alloc (.cells #[.int .i64 1, .string ⟨#[]⟩, .string ⟨#[]⟩, .slice none 0 0, .slice none 0 0] 25)).alloc (.cells #[.pointer (some ⟨w.heap.size + 1, 0, none⟩)] 84)).alloc (.cells #[.slice (some ⟨w.heap.size + 2, 0, none⟩) 1 1] 85)).alloc (.cells #[topFn w.heap.size] 86)).alloc (.cells #[putFn w.heap.size] 49)) :
  GrK B w xs v (runT (xs.map (·.1)) [grd0] 0) 0 0 (.slice (some ⟨w.heap.size + 2, 0, none⟩) 1 1) ⟨w.heap.size + 1, .slice none 0 0, .slice none 0 0, grd0⟩ [] W5 ∧ W5.heap.size = w.heap.size + 6 := by
 have hb : Below w.heap.size w W5 := by
  rw [hW]
  exact ((((((Below.refl _ _).alloc (Nat.le_refl _) _).alloc (by simp) _).alloc (by simp; omega) _).alloc (by simp; omega) _).alloc (by simp; omega) _).alloc (by simp; omega) _
 have hs : W5.heap.size = w.heap.size + 6 := by rw [hW]; simp
 have hg : ∀ n, n < 6 → W5.heap[w.heap.size + n]? = [Obj.cells zeroC 25, .cells #[.int .i64 1, .string ⟨#[]⟩, .string ⟨#[]⟩, .slice none 0 0, .slice none 0 0] 25, .cells #[.pointer (some ⟨w.heap.size + 1, 0, none⟩)] 84, .cells #[.slice (some ⟨w.heap.size + 2, 0, none⟩) 1 1] 85, .cells #[topFn w.heap.size] 86, .cells #[putFn w.heap.size] 49][n]? := by
  intro n hn
  have e : W5.heap = (((((w.heap.push (.cells zeroC 25)).push (.cells #[.int .i64 1, .string ⟨#[]⟩, .string ⟨#[]⟩, .slice none 0 0, .slice none 0 0] 25)).push (.cells #[.pointer (some ⟨w.heap.size + 1, 0, none⟩)] 84)).push (.cells #[.slice (some ⟨w.heap.size + 2, 0, none⟩) 1 1] 85)).push (.cells #[topFn w.heap.size] 86)).push (.cells #[putFn w.heap.size] 49) := by rw [hW]; rfl
  rw [e]
  match n, hn with
  | 0, _ =>
   simp only [Array.getElem?_push, Array.size_push]
   repeat (first | rw [if_pos (by omega)] | rw [if_neg (by omega)])
   rfl
  | 1, _ =>
   simp only [Array.getElem?_push, Array.size_push]
   repeat (first | rw [if_pos (by omega)] | rw [if_neg (by omega)])
   rfl
  | 2, _ =>
   simp only [Array.getElem?_push, Array.size_push]
   repeat (first | rw [if_pos (by omega)] | rw [if_neg (by omega)])
   rfl
  | 3, _ =>
   simp only [Array.getElem?_push, Array.size_push]
   repeat (first | rw [if_pos (by omega)] | rw [if_neg (by omega)])
   rfl
  | 4, _ =>
   simp only [Array.getElem?_push, Array.size_push]
   repeat (first | rw [if_pos (by omega)] | rw [if_neg (by omega)])
   rfl
  | 5, _ =>
   simp only [Array.getElem?_push, Array.size_push]
   repeat (first | rw [if_pos (by omega)] | rw [if_neg (by omega)])
   rfl
 refine ⟨⟨GS.start hB (fun b hb2 => ?_) (by omega) (hg 1 (by omega)) (hg 2 (by omega)) (hg 3 (by omega)) (hg 4 (by omega)) (hg 5 (by omega)), ownsRow_keep h.1 (fun g hg2 => ?_), fun x hx => (h.2 x hx).belowW hb, hg 0 (by omega), hb.mono hB, ⟨[], _, rfl, rfl, rfl⟩, Nat.zero_le _, Nat.zero_le _, fun fr hfr => ?_, rfl, fun g hg2 => ?_⟩, hs⟩
 ·unfold futs at hb2
  rw [List.drop_zero, List.mem_filterMap] at hb2
  obtain ⟨x, hx, hxb⟩ := hb2
  exact ((h.2 x hx).block hxb).2
 ·obtain ⟨_, c, hc⟩ := ownsRow_block h.1 hg2
  exact hb.block g (block_of_heap hc)
 ·rw [List.mem_singleton] at hfr
  subst hfr
  exact ⟨rfl, Nat.le_refl _, fun _ h => by cases h⟩
 ·obtain ⟨_, c, hc⟩ := ownsRow_block h.1 hg2
  exact block_of_heap hc
set_option maxRecDepth 100000 in
set_option maxHeartbeats 16000000 in
theorem grown_any (B : Nat) (w : World) (xs : List TkV) (o : Option Addr) (i j : Nat) (h : OwnsTk B w (.slice o i j) xs) (hB : B ≤ w.heap.size) (ha : ApartT xs) (hok : ∀ x, x ∈ xs → TkOk x.1) (hn : xs.length ≤ 4000) :
    Calls Tryz.prog 31 #[.slice o i j] w (GrPost B w (runT (xs.map (·.1)) [grd0] 0)) := by
  obtain rfl := h.len
  have e34 : ∀ args w, (callFunc 56 args).run Tryz.prog w = .ok (.enter 56 args) w := enters_of Tryz.func56 (by kernel_rfl) rfl
  have e35 : ∀ args w, (callFunc 57 args).run Tryz.prog w = .ok (.enter 57 args) w := enters_of Tryz.func57 (by kernel_rfl) rfl
  have e37 : ∀ args w, (callFunc 59 args).run Tryz.prog w = .ok (.enter 59 args) w := enters_of Tryz.func59 (by kernel_rfl) rfl
  have hmf : ∀ (fn : Fn) (first cap : Array Value) (w : World), (Instr.makeFunc fn first cap).run Tryz.prog w = .ok (.func fn first cap) w := fun _ _ _ _ => rfl
  have HST := Lib.hid (fun W5 hW => grown_start B w xs (.slice o xs.length j) h hB W5 hW)
  obtain ⟨G, hG⟩ : ∃ G, runT (xs.map (·.1)) [grd0] 0 = G := ⟨_, rfl⟩
  rw [hG] at HST ⊢
  obtain ⟨P, hP⟩ : ∃ P, GrPost B w G = P := ⟨_, rfl⟩
  rw [hP]
  have HP := Lib.hid hP
  have HA := Lib.hid ha
  have HOK := Lib.hid hok
  clear hP hG h ha hok
  unfold zeroC topFn putFn at HST
  go_enter Tryz.func31, Tryz.ntmps31
  go_wp2_with fail
  simp only [Nat.add_assoc, Nat.reduceAdd]
  obtain ⟨W5, hW5⟩ : ∃ W5, W5 = (((((w.alloc (.cells #[.int .i64 0, .string ⟨#[]⟩, .string ⟨#[]⟩, .slice none 0 0, .slice none 0 0] 25)).alloc (.cells #[.int .i64 1, .string ⟨#[]⟩, .string ⟨#[]⟩, .slice none 0 0, .slice none 0 0] 25)).alloc (.cells #[.pointer (some ⟨w.heap.size + 1, 0, none⟩)] 84)).alloc (.cells #[.slice (some ⟨w.heap.size + 2, 0, none⟩) 1 1] 85)).alloc (.cells #[.func (.func 56) #[] #[.pointer (some ⟨w.heap.size + 3, 0, none⟩)]] 86)).alloc (.cells #[.func (.func 57) #[] #[.pointer (some ⟨w.heap.size + 4, 0, none⟩)]] 49) := ⟨_, rfl⟩
  rw [← hW5]
  obtain ⟨k0, s0⟩ := HST.out W5 hW5
  have HK0 := Lib.hid k0
  clear k0 hW5 HST
  go_loopw [20, 6] (fun vi vs wr => ∃ (k sz : Nat) (vo : Value) (f : Fr) (r : List Fr), vi = .int .i64 (k : Int) ∧ vs = .int .i64 (sz : Int) ∧ k ≤ xs.length ∧ GrK B w xs (.slice o xs.length j) G k sz vo f r wr) (fun vi _ _ => xs.length - (RowKit.intOf vi).toNat)
  case atStart => exact ⟨0, 0, _, _, _, rfl, rfl, Nat.zero_le _, HK0.out⟩
  case round =>
    obtain ⟨k, sz, vo, f, r, rfl, rfl, hk, hgk⟩ := hrel
    have HGK := Lib.hid hgk
    clear HK0
    have hz6 := hgk.gs.sz
    by_cases hlt : k < xs.length
    · obtain ⟨_, g, rfl, hg, c0, c1, c2, c3, c4⟩ := tok_reads hgk.tok k hlt
      have hok := HOK.out _ (List.getElem_mem hlt)
      have hat : OwnsAt B wr xs[k].2 xs[k].1.ats := hgk.att _ (by rw [List.drop_eq_getElem_cons hlt]; exact List.mem_cons_self)
      obtain ⟨x, hx⟩ : ∃ x, xs[k] = x := ⟨_, rfl⟩
      rw [hx] at hok hat c0 c1 c2 c3 c4
      obtain ⟨⟨kd, nm, tx, ats, em⟩, vt⟩ := x
      dsimp only at hok hat c0 c1 c2 c3 c4
      obtain ⟨ot, it, jt, rfl⟩ := hat.form
      obtain rfl := hat.len
      obtain ⟨gv, cap, rfl, hcap, p0, pm, og, ng, cg, pk, hng⟩ := hgk.ground
      have ob : wr.cell? ⟨w.heap.size + 3, 0, none⟩ = some (.slice (some ⟨gv, 0, none⟩) (r.length + 1) cap) := by simp [World.cell?, hgk.gs.ob]
      have hs3 : w.heap.size + 3 < wr.heap.size := by omega
      have hr := hgk.len
      have hszl := hgk.szl
      have HX := Lib.hid hx
      have HOKT := Lib.hid hok
      have HAT := Lib.hid hat
      have hal := hok.al
      -- the worlds behind the piece's box
      have HL := fun (W : World) (out : Bool) => Lib.hid (leftOut_any W kd nm tx (.slice ot ats.length jt) ⟨_, _, _, rfl⟩ em out)
      obtain ⟨W1, hW1⟩ : ∃ W1, W1 = wr.alloc (.cells #[.int .i64 kd, .string (bs nm), .string (bs tx), .slice ot ats.length jt, .bool em] 72) := ⟨_, rfl⟩
      have b1 : Below wr.heap.size wr W1 := by rw [hW1]; exact (Below.refl _ _).alloc (Nat.le_refl _) _
      have s1 : W1.heap.size = wr.heap.size + 1 := by rw [hW1]; simp
      have d0 : W1.cell? ⟨wr.heap.size, 0, none⟩ = some (.int .i64 kd) := by rw [hW1]; go_simp
      have d1 : W1.cell? ⟨wr.heap.size, 1, none⟩ = some (.string (bs nm)) := by rw [hW1]; go_simp
      have d2 : W1.cell? ⟨wr.heap.size, 2, none⟩ = some (.string (bs tx)) := by rw [hW1]; go_simp
      have d3 : W1.cell? ⟨wr.heap.size, 3, none⟩ = some (.slice ot ats.length jt) := by rw [hW1]; go_simp
      have d4 : W1.cell? ⟨wr.heap.size, 4, none⟩ = some (.bool em) := by rw [hW1]; go_simp
      have HB1 := Lib.hid b1
      have HD := Lib.hid (fun (W : World) (hb : Below W1.heap.size W1 W) => And.intro ((hb.cell (p := ⟨wr.heap.size, 0, none⟩) (by simp [s1])).trans d0) (And.intro ((hb.cell (p := ⟨wr.heap.size, 1, none⟩) (by simp [s1])).trans d1) (And.intro ((hb.cell (p := ⟨wr.heap.size, 2, none⟩) (by simp [s1])).trans d2) (And.intro ((hb.cell (p := ⟨wr.heap.size, 3, none⟩) (by simp [s1])).trans d3) ((hb.cell (p := ⟨wr.heap.size, 4, none⟩) (by simp [s1])).trans d4)))))
      have HW1 := Lib.hid hW1
      have HNG := Lib.hid hng
      have hs1 : wr.heap.size < W1.heap.size := by omega
      clear hgk hx hok hat hW1 b1 d0 d1 d2 d3 d4 hng
      go_wp2_with fail
      rw [← HW1.out]
      refine (HL _ _).out.mono ?_
      rintro e w2 ⟨rfl, hb2⟩
      rw [left_eq kd nm tx ats em f r]
      obtain ⟨lb, hlb⟩ : ∃ lb, leftT ⟨kd, nm, tx, ats, em⟩ ((f :: r).map (·.t)) = lb := ⟨_, rfl⟩
      rw [hlb]
      have HLB := Lib.hid hlb
      clear hlb
      have h2 := HGK.out.below (HB1.out.trans (hb2.mono (by omega)))
      have HK2 := Lib.hid h2
      have sz2 := hb2.size
      cases lb with
      | true =>
        clear h2
        go_wp2_with fail
        go_roundw
        case rel => exact ⟨k + 1, sz, _, f, r, by go_num, rfl, by omega, HK2.out.left HA.out hlt (by rw [HX.out]; exact HLB.out)⟩
        case measure => simp [RowKit.intOf]; omega
      | false =>
        obtain ⟨d0, d1, d2, d3, d4⟩ := HD.out w2 hb2
        have tb : w2.cell? ⟨w.heap.size + 4, 0, none⟩ = some (topFn w.heap.size) := by simp [World.cell?, h2.gs.tb]
        have hs4 : w.heap.size + 4 < w2.heap.size := by have := h2.gs.sz; omega
        have hsw : wr.heap.size < w2.heap.size := by omega
        have CT := fun m => Lib.hid (top_any (h2.gs.draws m) (by omega))
        obtain ⟨f1, f2, f3⟩ := h2.gs.frs f (by simp)
        have hkl := (h2.ksl f (by simp)).2.1
        have CM := fun m => Lib.hid (more_any (w2.drewN m) kd nm tx ot ats.length jt em f.e f.vk f.t.ks (by exact f1.cells.2.2.2.2) (f3.last.keep ⟨rfl, rfl, rfl, Nat.le_refl _, fun _ _ => rfl⟩) (by omega) (by omega))
        rw [more_eq kd nm tx ats em f r] at CM
        obtain ⟨mn, hmn⟩ : ∃ mn, moreT ⟨kd, nm, tx, ats, em⟩ (topT ((f :: r).map (·.t))) = mn := ⟨_, rfl⟩
        have hml : mn ≤ 13 := by
          rw [← hmn]
          unfold moreT
          dsimp only
          split
          · omega
          · split <;> omega
        rw [hmn] at CM
        have kw : IntKind.i64.wrap ((sz : Int) + (mn : Int)) = ((sz + mn : Nat) : Int) := by
          rw [IntKind.wrap_i64]
          omega
        have HMN := Lib.hid hmn
        clear f1 f2 f3 hkl hmn h2
        unfold topFn at tb
        have HSB := Lib.hid (fun (W : World) (hb : Below w2.heap.size w2 W) => (⟨(hb.cell (p := ⟨w.heap.size + 4, 0, none⟩) hs4).trans tb, (hb.cell (p := ⟨wr.heap.size, 0, none⟩) hsw).trans d0, (hb.cell (p := ⟨wr.heap.size, 1, none⟩) hsw).trans d1, (hb.cell (p := ⟨wr.heap.size, 2, none⟩) hsw).trans d2, (hb.cell (p := ⟨wr.heap.size, 3, none⟩) hsw).trans d3, (hb.cell (p := ⟨wr.heap.size, 4, none⟩) hsw).trans d4⟩ :
          W.cell? ⟨w.heap.size + 4, 0, none⟩ = some (.func (.func 56) #[] #[.pointer (some ⟨w.heap.size + 3, 0, none⟩)]) ∧ W.cell? ⟨wr.heap.size, 0, none⟩ = some (.int .i64 kd) ∧ W.cell? ⟨wr.heap.size, 1, none⟩ = some (.string (bs nm)) ∧ W.cell? ⟨wr.heap.size, 2, none⟩ = some (.string (bs tx)) ∧ W.cell? ⟨wr.heap.size, 3, none⟩ = some (.slice ot ats.length jt) ∧ W.cell? ⟨wr.heap.size, 4, none⟩ = some (.bool em)))
        have HS := fun m => Lib.hid (HSB.out (w2.drewN m) ⟨rfl, rfl, rfl, Nat.le_refl _, fun _ _ => rfl⟩)
        go_wp2_with fail
        go_region_held3 (fun W => W.cell? ⟨w.heap.size + 4, 0, none⟩ = some (.func (.func 56) #[] #[.pointer (some ⟨w.heap.size + 3, 0, none⟩)]) ∧ W.cell? ⟨wr.heap.size, 0, none⟩ = some (.int .i64 kd) ∧ W.cell? ⟨wr.heap.size, 1, none⟩ = some (.string (bs nm)) ∧ W.cell? ⟨wr.heap.size, 2, none⟩ = some (.string (bs tx)) ∧ W.cell? ⟨wr.heap.size, 3, none⟩ = some (.slice ot ats.length jt) ∧ W.cell? ⟨wr.heap.size, 4, none⟩ = some (.bool em))
          (first | exact (HS _).out | exact (HS 1).out | exact S3)
          (first
            | (go_at_call 56; refine (CT _).out.mono ?_; rintro e w3 ⟨rfl, rfl⟩)
            | (go_at_call 61; refine (CM _).out.mono ?_; rintro e w3 ⟨rfl, hb3⟩
               have S3 := HSB.out w3 ((⟨rfl, rfl, rfl, Nat.le_refl _, fun _ _ => rfl⟩ : Below w2.heap.size w2 (w2.drewN 1)).trans hb3)
               have B3 := Lib.hid hb3
               clear hb3))
        have b23 : Below w2.heap.size w2 w3 := (⟨rfl, rfl, rfl, Nat.le_refl _, fun _ _ => rfl⟩ : Below w2.heap.size w2 (w2.drewN 1)).trans B3.out
        have h3 := HK2.out.below b23
        have HK3 := Lib.hid h3
        have bw3 : Below wr.heap.size wr w3 := (HB1.out.trans (hb2.mono (by omega))).trans (b23.mono (by omega))
        have sz3 := b23.size
        obtain ⟨t1, e0, e1, e2, e3, e4⟩ := S3
        have o3 : w3.cell? ⟨w.heap.size + 3, 0, none⟩ = some (.slice (some ⟨gv, 0, none⟩) (r.length + 1) cap) := by simp [World.cell?, h3.gs.ob]
        obtain ⟨f1, f2, f3⟩ := h3.gs.frs f (by simp)
        have CF := fault_any w3 kd nm tx (.slice ot ats.length jt) ⟨_, _, _, rfl⟩ em gv r.length cap (w.heap.size + 1) f.e f.t.nm og ng cg (sz + mn) (by omega) (by omega)
          ((bw3.cell (p := ⟨gv, 0, none⟩) (cell_lt p0)).trans p0) ((bw3.cell (p := ⟨gv, r.length, none⟩) (cell_lt pm)).trans pm) (by simpa using f1.cells.2.1) ((bw3.cell (p := ⟨w.heap.size + 1, 4, none⟩) (cell_lt pk)).trans pk)
        rw [fault_eq kd nm tx ats em f r ng (sz + mn) (fun hr0 => (HNG.out hr0).2)] at CF
        obtain ⟨c, hc⟩ : ∃ c, faultT ⟨kd, nm, tx, ats, em⟩ ((f :: r).map (·.t)) (sz + mn) = c := ⟨_, rfl⟩
        rw [hc, Int.natCast_add] at CF
        have HCF := Lib.hid CF
        have HC := Lib.hid hc
        clear f1 f2 f3 CF hc h3 b23 bw3 p0 pm pk hb2 d0 d1 d2 d3 d4 tb
        go_wp2_with fail
        refine HCF.out.mono ?_
        rintro e w4 ⟨rfl, hb4⟩
        have HK4 := Lib.hid (HK3.out.below hb4)
        have H34 := Lib.hid hb4
        have sz4 := hb4.size
        by_cases hc0 : c = 0
        · subst hc0
          have hx4 : wr.heap.size < w3.heap.size := by omega
          have q0 := (H34.out.cell (p := ⟨wr.heap.size, 0, none⟩) hx4).trans e0
          have q1 := (H34.out.cell (p := ⟨wr.heap.size, 1, none⟩) hx4).trans e1
          have q2 := (H34.out.cell (p := ⟨wr.heap.size, 2, none⟩) hx4).trans e2
          have q3 := (H34.out.cell (p := ⟨wr.heap.size, 3, none⟩) hx4).trans e3
          have q4 := (H34.out.cell (p := ⟨wr.heap.size, 4, none⟩) hx4).trans e4
          have hx5 : wr.heap.size < w4.heap.size := by omega
          clear hb4 e0 e1 e2 e3 e4 t1 o3
          have hfs := fault_sz (by rw [HMN.out]; exact HC.out) hszl
          rw [HMN.out] at hfs
          have HRUN := Lib.hid (HK4.out.runs hlt (by rw [HX.out]) HLB.out (by rw [HMN.out]; exact HC.out))
          rw [HMN.out] at HRUN
          have hszf := hfs
          rcases HOKT.out.kd with rfl | rfl | h345
          · -- a start tag
            have hrl : r.length ≤ 11 := by
              have := fault_len HC.out rfl
              simp at this
              omega
            obtain ⟨WD, hWD⟩ : ∃ WD, WD = w4.drew := ⟨_, rfl⟩
            have hKD := HK4.out.below (w' := WD) (by rw [hWD]; exact ⟨rfl, rfl, rfl, Nat.le_refl _, fun _ _ => rfl⟩)
            have hsD : WD.heap.size = w4.heap.size := by rw [hWD]; rfl
            have hatD : OwnsAt B WD (.slice ot ats.length jt) ats := by
              have := hKD.att xs[k] (by rw [List.drop_eq_getElem_cons hlt]; exact List.mem_cons_self)
              rw [HX.out] at this
              exact this
            have CB := Lib.hid (begun_any B WD 1 nm tx em ot ats.length jt ats hatD (by omega) HOKT.out.nd)
            have ob4 : w4.cell? ⟨w.heap.size + 3, 0, none⟩ = some (.slice (some ⟨gv, 0, none⟩) (r.length + 1) cap) := by simp [World.cell?, HK4.out.gs.ob]
            have hvo3 : gv ≠ w.heap.size + 3 := fun e => by
              obtain ⟨_, c, h2⟩ := ownsRow_block hKD.gs.own (g := gv) rfl
              have := hKD.gs.ob
              rw [e] at h2
              rw [h2] at this
              simp only [Option.some.injEq, Obj.cells.injEq] at this
              exact absurd this.2.1 (by decide)
            have hvaH : ∀ b, (Value.slice ot ats.length jt).ownBlock = some b → b < w.heap.size ∧ b < wr.heap.size := fun b hb => by
              have := HK4.out.gs.ft b (by rw [futs_at xs k hlt, HX.out]; simp [hb])
              omega
            have hvw : gv < wr.heap.size := by
              obtain ⟨_, c, h2⟩ := ownsRow_block HGK.out.gs.own (g := gv) rfl
              exact block_of_heap h2
            -- what is known behind begun
            have hbg : ∀ ge w5, BegP B WD nm (.slice ot ats.length jt) ats ge w5 → (w.heap.size + 3 < w5.heap.size ∧ w5.cell? ⟨w.heap.size + 3, 0, none⟩ = some (.slice (some ⟨gv, 0, none⟩) (r.length + 1) cap)) ∧ (∀ o, (w5.alloc o).cell? ⟨w.heap.size + 3, 0, none⟩ = some (.slice (some ⟨gv, 0, none⟩) (r.length + 1) cap) ∧ (w5.alloc o).ownsRow (w.heap.size + 2) 84 1 (.slice (some ⟨gv, 0, none⟩) (r.length + 1) cap) (r.length + 1) ((f :: r).reverse.map fun f => .pointer (some ⟨f.e, 0, none⟩))) := fun ge w5 hp => by
              have hs5 := hp.gr.size
              have hz := hKD.gs.sz
              have e3 : w5.heap[w.heap.size + 3]? = WD.heap[w.heap.size + 3]? := hp.gr.block _ (by omega) (fun e => by have := (hvaH _ e.symm).1; omega)
              have eg : w5.heap[gv]? = WD.heap[gv]? := hp.gr.block gv (by omega) (fun e => by
                have h1 := (hvaH _ e.symm).1
                have h2 := (ownsRow_block hKD.gs.own (g := gv) rfl).1
                omega)
              have c3 : w5.cell? ⟨w.heap.size + 3, 0, none⟩ = some (.slice (some ⟨gv, 0, none⟩) (r.length + 1) cap) := by rw [World.cell?_of_block (w := WD) e3, hWD]; exact ob4
              refine ⟨⟨by omega, c3⟩, fun o => ⟨(((Below.refl _ _).alloc (Nat.le_refl _) o : Below w5.heap.size w5 _).cell (p := ⟨w.heap.size + 3, 0, none⟩) (cell_lt c3)).trans c3, ?_⟩⟩
              refine ownsRow_keep hKD.gs.own (fun b hb => ?_)
              simp [Value.ownBlock] at hb
              subst hb
              exact (Below.heap_alloc w5 o gv (by omega)).trans eg
            have HBG := Lib.hid hbg
            have HKD := Lib.hid hKD
            have HWD := Lib.hid hWD
            -- what is known behind the append
            have hpf := fun ge w5 hp g9 cap9 w7 => push_fin (g := g9) (cap := cap9) (w7 := w7) hKD HA.out hlt ⟨1, nm, tx, ats, em⟩ (.slice ot ats.length jt) (by rw [HX.out]) (ge := ge) (w5 := w5) hp
            have HPF := Lib.hid hpf
            have HVA := Lib.hid hvaH
            clear hbg hKD hatD hpf hvaH hfs HL
            cases em
            · go_wp2_with fail
              go_region_law (first
                | (refine step_pushPtr rfl (.tmp 51) (.tmp 54) rfl ge w5.heap.size (HB5.out.2 _).2 rfl rfl (by go_simp) (by have := HKD.out.gs.sz; have := HBE.out.gr.size; simp; omega) (by omega) ?_
                   intro g9 cap9 w7 ho7 hg7 hgg7
                   obtain ⟨⟨x1, x2⟩, hq⟩ := HPF.out ge w5 HBE.out g9 cap9 w7 ho7 hg7 (hgg7.imp id (fun e => e.trans (by simp)))
                   have HQ := Lib.hid hq
                   clear hq ho7 hg7 hgg7)
                | (go_simp; go_at_call 63; rw [← HWD.out]; refine CB.out.mono ?_; rintro e w5 ⟨ge, rfl, hbe⟩
                   have HBE := Lib.hid hbe
                   have HB5 := Lib.hid (HBG.out ge w5 hbe)
                   obtain ⟨⟨x3, x4⟩, x5⟩ := HBG.out ge w5 hbe
                   have x6 := fun o => (x5 o).1
                   clear hbe x5))
              all_goals
                obtain ⟨W8, hW8⟩ : ∃ W8, W8 = w7.setCell ⟨w.heap.size + 3, 0, none⟩ (.slice (some ⟨g9, 0, none⟩) (r.length + 1 + 1) cap9) := ⟨_, rfl⟩
                obtain ⟨g8, s8, b8, u8⟩ := HQ.out 0 W8 hW8
                have x8 : W8.cell? ⟨wr.heap.size, 4, none⟩ = some (.bool false) := by
                  rw [World.cell?_of_block (w := WD) (u8 wr.heap.size (by omega) (by omega) (fun e => by simp [Value.ownBlock] at e; omega) (fun e => by have := (HVA.out _ e.symm).2; omega)), HWD.out]
                  exact q4
                have G8 := Lib.hid g8
                have S8 := Lib.hid s8
                have B8 := Lib.hid b8
                rw [← hW8]
                clear g8 s8 b8 u8 hW8
                go_wp2_with fail
                go_roundw
                case rel => exact ⟨k + 1, sz + mn, _, _, _, by go_num, by go_num, by omega, HKD.out.pushed HA.out hlt ⟨1, nm, tx, ats, false⟩ hrl hszf G8.out S8.out B8.out HRUN.out⟩
                case measure => simp [RowKit.intOf]; omega
            · go_wp2_with fail
              go_region_law (first
                | (refine step_pushPtr rfl (.tmp 51) (.tmp 54) rfl ge w5.heap.size (HB5.out.2 _).2 rfl rfl (by go_simp) (by have := HKD.out.gs.sz; have := HBE.out.gr.size; simp; omega) (by omega) ?_
                   intro g9 cap9 w7 ho7 hg7 hgg7
                   obtain ⟨⟨x1, x2⟩, hq⟩ := HPF.out ge w5 HBE.out g9 cap9 w7 ho7 hg7 (hgg7.imp id (fun e => e.trans (by simp)))
                   have HQ := Lib.hid hq
                   clear hq ho7 hg7 hgg7)
                | (go_simp; go_at_call 63; rw [← HWD.out]; refine CB.out.mono ?_; rintro e w5 ⟨ge, rfl, hbe⟩
                   have HBE := Lib.hid hbe
                   have HB5 := Lib.hid (HBG.out ge w5 hbe)
                   obtain ⟨⟨x3, x4⟩, x5⟩ := HBG.out ge w5 hbe
                   have x6 := fun o => (x5 o).1
                   clear hbe x5))
              all_goals
                obtain ⟨W8, hW8⟩ : ∃ W8, W8 = w7.setCell ⟨w.heap.size + 3, 0, none⟩ (.slice (some ⟨g9, 0, none⟩) (r.length + 1 + 1) cap9) := ⟨_, rfl⟩
                obtain ⟨g8, s8, b8, u8⟩ := HQ.out 0 W8 hW8
                have x8 : W8.cell? ⟨wr.heap.size, 4, none⟩ = some (.bool true) := by
                  rw [World.cell?_of_block (w := WD) (u8 wr.heap.size (by omega) (by omega) (fun e => by simp [Value.ownBlock] at e; omega) (fun e => by have := (HVA.out _ e.symm).2; omega)), HWD.out]
                  exact q4
                have G8 := Lib.hid g8
                have S8 := Lib.hid s8
                have B8 := Lib.hid b8
                rw [← hW8]
                have hkf := HKD.out.ksl f (by simp)
                have CE := Lib.hid (grEnd_any g8 (by omega) (by omega) (by show (0 : Nat) ≤ _; omega) (fun kid hkid => by have := hkf.2.2 kid hkid; omega))
                clear g8 s8 b8 u8 hW8 hkf
                go_wp2_with fail
                refine CE.out.mono ?_
                rintro e w9 ⟨rfl, vo9, vk9, g10, b10⟩
                have HN := Lib.hid (HKD.out.pushEnd HA.out hlt ⟨1, nm, tx, ats, true⟩ hszf S8.out B8.out g10 b10 HRUN.out)
                clear g10 b10
                go_wp2_with fail
                go_roundw
                case rel => exact ⟨k + 1, sz + mn, _, _, _, by go_num, by go_num, by omega, HN.out⟩
                case measure => simp [RowKit.intOf]; omega
          · -- an end tag
            have hne := fault_end HC.out rfl
            cases r with
            | nil =>
              exfalso
              obtain ⟨fs, gr, g1, g2, g3⟩ := HK4.out.grd
              have hgr : gr = f := by
                cases fs with
                | nil => simp at g1; exact g1.symm
                | cons a fs => simp at g1
              rw [hgr] at g3
              exact HOKT.out.nm rfl (hne.trans g3)
            | cons f2 r2 =>
              have hk2 := HK4.out.ksl f2 (by simp)
              have hk1 := HK4.out.ksl f (by simp)
              have CE := Lib.hid (grEnd_any HK4.out.gs (by simp at hr; omega) (by omega) (by rw [hk1.1]; simp) (fun kid hkid => by have := hk2.2.2 kid hkid; omega))
              go_wp2_with fail
              refine CE.out.mono ?_
              rintro e w5 ⟨rfl, vo', vk', g5, b5⟩
              have hBH := HK4.out.gs.hB
              have hn := HK4.out.next (sz' := sz + mn) HA.out hlt (g5.less (fun b hb => (futs_apart HA.out k hlt b hb).1)) (fun b hb _ => b5.block b (by omega)) (b5.mono (by omega)) (grd_head (grd_tail HK4.out.grd) rfl rfl) (by simp at hr; omega) hfs (fun fr hfr => by
                rw [List.mem_cons] at hfr
                rcases hfr with rfl | hfr
                · refine ⟨hk2.1, Nat.le_trans (putK_len f2.t.ks f.t) (by omega), fun kid hkid => ?_⟩
                  have := putK_tx f2.t.ks f.t (16000 * k) 0 hk2.2.2 (by rw [hk1.1]; simp) kid hkid
                  omega
                · obtain ⟨y1, y2, y3⟩ := HK4.out.ksl fr (List.mem_cons_of_mem _ (List.mem_cons_of_mem _ hfr))
                  exact ⟨y1, by omega, fun kid hkid => by have := y3 kid hkid; omega⟩) HRUN.out
              have HN := Lib.hid hn
              clear hn g5 b5 hk1 hk2 hne
              go_wp2_with fail
              go_roundw
              case rel => exact ⟨k + 1, sz + mn, _, _, _, by go_num, by go_num, by omega, HN.out⟩
              case measure => simp [RowKit.intOf]; omega
          · -- a text, a comment, an instruction
            replace h345 : kd = 3 ∨ kd = 4 ∨ kd = 5 := h345
            have hb0 := HK4.out.gs.hB
            have hnx : nextT ⟨kd, nm, tx, ats, em⟩ ((f :: r).map (·.t)) = putT (leafT ⟨kd, nm, tx, ats, em⟩) ((f :: r).map (·.t)) := by
              unfold nextT
              rw [if_neg (by show ¬ kd = 1; omega), if_neg (by show ¬ kd = 2; omega)]
            rw [hnx] at HRUN
            have CLF := fun W => Lib.hid (leaf_any W kd nm tx (.slice ot ats.length jt) ⟨_, _, _, rfl⟩ em h345)
            have hkf := HK4.out.ksl f (by simp)
            have htl := HOKT.out.tl
            have hput := fun (W : World) (hW : Below w4.heap.size w4 W) => put_any (HK4.out.gs.below hW) (leafT ⟨kd, nm, tx, ats, em⟩) (.slice none 0 0) (.slice none 0 0) (NdOn.of ⟨none, 0, 0, rfl, rfl, .inl rfl⟩ ⟨none, 0, 0, rfl, rfl, .inl rfl⟩) (by omega) (by omega) (by show tx.length ≤ _; have : tx.length ≤ 16000 := htl; omega) (fun kid hkid => by have := hkf.2.2 kid hkid; omega)
            have HPUT := Lib.hid hput
            have pb : w4.cell? ⟨w.heap.size + 5, 0, none⟩ = some (putFn w.heap.size) := by simp [World.cell?, HK4.out.gs.pb]
            have hs5 : w.heap.size + 5 < w4.heap.size := by omega
            have hd4 : Below w4.heap.size w4 w4.drew := (Below.refl _ _).drew
            have HD4 := Lib.hid hd4
            have k12 : kd ≠ 1 ∧ kd ≠ 2 := by omega
            have k1 : (kd == 1) = false := by simpa using k12.1
            have k2 : (kd == 2) = false := by simpa using k12.2
            clear hput hd4 hkf hfs HL h345 k12 hnx
            unfold putFn at pb
            go_wp2_with fail
            go_region_law (first
              | (go_simp; go_at_call 64; refine (CLF _).out.mono ?_; rintro e w5 ⟨rfl, hb5⟩
                 have hb45 := HD4.out.trans hb5
                 have B45 := Lib.hid hb45
                 have pb5 := (hb45.cell (p := ⟨w.heap.size + 5, 0, none⟩) hs5).trans pb
                 have hs55 : w.heap.size + 5 < w5.heap.size := by have := hb45.size; omega
                 clear hb5 hb45)
              | (go_simp; go_at_call 57; refine (HPUT.out w5 B45.out).mono ?_; rintro e w6 ⟨rfl, vk6, g6, b6⟩
                 have G6 := Lib.hid g6
                 have B6 := Lib.hid b6
                 clear g6 b6))
            all_goals
              have HN := Lib.hid ((HK4.out.below B45.out).put (sz' := sz + mn) HA.out hlt (n := leafT ⟨kd, nm, tx, ats, em⟩) htl (G6.out.less (fun b hb => (futs_apart HA.out k hlt b hb).1)) B6.out hszf HRUN.out)
              go_wp2_with fail
              go_roundw
              case rel => exact ⟨k + 1, sz + mn, _, _, _, by go_num, by go_num, by omega, HN.out⟩
              case measure => simp [RowKit.intOf]; omega
        · have kc : ((c : Int) == 0) = false := by rw [beq_eq_false_iff_ne]; omega
          have hrs := HK4.out.res
          unfold zeroC at hrs
          have z0 : ∀ i, w4.frozen? ⟨w.heap.size, i, none⟩ = false := fun i => by simp [World.frozen?, hrs]
          have z1 : w4.cell? ⟨w.heap.size, 0, none⟩ = some (.int .i64 0) := by simp [World.cell?, hrs]
          have z2 : w4.cell? ⟨w.heap.size, 1, none⟩ = some (.string ⟨#[]⟩) := by simp [World.cell?, hrs]
          have z3 : w4.cell? ⟨w.heap.size, 2, none⟩ = some (.string ⟨#[]⟩) := by simp [World.cell?, hrs]
          have z4 : w4.cell? ⟨w.heap.size, 3, none⟩ = some (.slice none 0 0) := by simp [World.cell?, hrs]
          have z5 : w4.cell? ⟨w.heap.size, 4, none⟩ = some (.slice none 0 0) := by simp [World.cell?, hrs]
          clear hrs
          have HG := HK4.out.faults hlt (by rw [HX.out]) HLB.out (by rw [HMN.out, HC.out]; exact hc0)
          rw [HMN.out, HC.out] at HG
          have HP2 := HP.out
          have HBE := Lib.hid HK4.out.bel
          rw [HG] at HP2
          have HP3 := Lib.hid HP2
          clear HP2 HG HCF
          go_wp2_with fail
          refine end_nd2 Tryz.results31 _ w.heap.size (kd := 0) (n := ⟨#[]⟩) (t := ⟨#[]⟩) (va := .slice none 0 0) (vk := .slice none 0 0) ⟨_, _, _, rfl⟩ ⟨_, _, _, rfl⟩ ⟨by go_simp, by go_simp, by go_simp, by go_simp, by go_simp⟩ rfl rfl rfl ?_
          rw [← HP3.out]
          exact ⟨rfl, (((((HBE.out.setCell (p := ⟨w.heap.size, 0, none⟩) hB _).setCell (p := ⟨w.heap.size, 1, none⟩) hB _).setCell (p := ⟨w.heap.size, 2, none⟩) hB _).setCell (p := ⟨w.heap.size, 3, none⟩) hB _).setCell (p := ⟨w.heap.size, 4, none⟩) hB _)⟩
    · have hke : k = xs.length := by omega
      have hrun := hgk.run
      rw [hke, List.drop_length, List.map_nil, runT] at hrun
      obtain ⟨gv, cap, rfl, hcap, p0, pm, og, ng, cg, pk, hng⟩ := hgk.ground
      have ob : wr.cell? ⟨w.heap.size + 3, 0, none⟩ = some (.slice (some ⟨gv, 0, none⟩) (r.length + 1) cap) := by simp [World.cell?, hgk.gs.ob]
      have hrs := hgk.res
      unfold zeroC at hrs
      have z0 : ∀ i, wr.frozen? ⟨w.heap.size, i, none⟩ = false := fun i => by simp [World.frozen?, hrs]
      have z1 : wr.cell? ⟨w.heap.size, 0, none⟩ = some (.int .i64 0) := by simp [World.cell?, hrs]
      have z2 : wr.cell? ⟨w.heap.size, 1, none⟩ = some (.string ⟨#[]⟩) := by simp [World.cell?, hrs]
      have z3 : wr.cell? ⟨w.heap.size, 2, none⟩ = some (.string ⟨#[]⟩) := by simp [World.cell?, hrs]
      have z4 : wr.cell? ⟨w.heap.size, 3, none⟩ = some (.slice none 0 0) := by simp [World.cell?, hrs]
      have z5 : wr.cell? ⟨w.heap.size, 4, none⟩ = some (.slice none 0 0) := by simp [World.cell?, hrs]
      have hr := hgk.len
      have HBE := Lib.hid hgk.bel
      have HP2 := HP.out
      rw [← hrun] at HP2
      unfold finT at HP2
      cases r with
      | cons f2 r2 =>
        rw [if_pos (by simp)] at HP2
        have HP3 := Lib.hid HP2
        have hlen : (f2 :: r2).length + 1 = r2.length + 2 := by simp
        rw [hlen] at ob
        clear HP2 hgk hrs p0 pm pk hng hrun
        go_wp2_with fail
        refine end_nd2 Tryz.results31 _ w.heap.size (kd := 0) (n := ⟨#[]⟩) (t := ⟨#[]⟩) (va := .slice none 0 0) (vk := .slice none 0 0) ⟨_, _, _, rfl⟩ ⟨_, _, _, rfl⟩ ⟨by go_simp, by go_simp, by go_simp, by go_simp, by go_simp⟩ rfl rfl rfl ?_
        rw [← HP3.out]
        exact ⟨rfl, (((((HBE.out.setCell (p := ⟨w.heap.size, 0, none⟩) hB _).setCell (p := ⟨w.heap.size, 1, none⟩) hB _).setCell (p := ⟨w.heap.size, 2, none⟩) hB _).setCell (p := ⟨w.heap.size, 3, none⟩) hB _).setCell (p := ⟨w.heap.size, 4, none⟩) hB _)⟩
      | nil =>
        rw [if_neg (by simp)] at HP2
        obtain ⟨hfe, hng2⟩ := hng rfl
        have ob2 : wr.cell? ⟨w.heap.size + 3, 0, none⟩ = some (.slice (some ⟨gv, 0, none⟩) 1 cap) := ob
        simp only [List.map_cons, List.map_nil, topT] at HP2
        cases hks : f.t.ks with
        | nil =>
          rw [hks] at HP2 hng2
          rw [hng2] at pk
          have pk0 : wr.cell? ⟨w.heap.size + 1, 4, none⟩ = some (.slice og 0 cg) := pk
          have HP3 := Lib.hid HP2
          clear HP2 hgk hrs p0 pm pk hng hng2 hrun ob hks
          go_wp2_with fail
          refine end_nd2 Tryz.results31 _ w.heap.size (kd := 0) (n := ⟨#[]⟩) (t := ⟨#[]⟩) (va := .slice none 0 0) (vk := .slice none 0 0) ⟨_, _, _, rfl⟩ ⟨_, _, _, rfl⟩ ⟨by go_simp, by go_simp, by go_simp, by go_simp, by go_simp⟩ rfl rfl rfl ?_
          rw [← HP3.out]
          exact ⟨rfl, (((((HBE.out.setCell (p := ⟨w.heap.size, 0, none⟩) hB _).setCell (p := ⟨w.heap.size, 1, none⟩) hB _).setCell (p := ⟨w.heap.size, 2, none⟩) hB _).setCell (p := ⟨w.heap.size, 3, none⟩) hB _).setCell (p := ⟨w.heap.size, 4, none⟩) hB _)⟩
        | cons t0 ks =>
          rw [hks] at HP2 hng2
          obtain ⟨f1, _, ys, hy, hown, hnd⟩ := hgk.gs.frs f (by simp)
          obtain ⟨o9, j9, hv9⟩ := OwnsNd.form ⟨ys, hy, hown, hnd⟩
          have hyl : 0 < ys.length := by
            have := congrArg List.length hy
            rw [hks, List.length_map] at this
            simp at this
            omega
          have hy0 : ys[0].1 = t0 := by
            have := congrArg (fun l => l[0]?) hy
            rw [hks] at this
            simp only [List.getElem?_map, List.getElem?_cons_zero, List.getElem?_eq_getElem hyl, Option.map_some, Option.some.injEq] at this
            exact this
          have hown2 := hown
          rw [hv9] at hown2
          obtain ⟨g9, rfl, c0, c1, c2, c3, c4⟩ := ownsNd_cells hown2 0 hyl
          have hn0 := hnd _ (List.getElem_mem hyl)
          rw [hy0] at hn0 c0 c1 c2
          simp only [Nat.zero_mul, Nat.zero_add] at c0 c1 c2 c3 c4
          have pk0 : wr.cell? ⟨w.heap.size + 1, 4, none⟩ = some (.slice (some ⟨g9, 0, none⟩) f.t.ks.length j9) := by
            have := f1.cells.2.2.2.2
            rw [hfe, hv9] at this
            exact this
          have hg9 : g9 < wr.heap.size := cell_lt c0
          obtain ⟨oa, ja, ok, jk, ha9, hk9⟩ := hn0.form
          rw [ha9] at c3
          rw [hk9] at c4
          rw [ha9, hk9] at hn0
          have HN0 := Lib.hid hn0
          have HP3 := Lib.hid HP2
          have hl9 : f.t.ks.length = ks.length + 1 := by rw [hks]; rfl
          rw [hl9] at pk0
          clear HP2 hgk hrs p0 pm pk hng hng2 hrun ob hown hown2 hnd hn0 hy hks f1 hv9 ha9 hk9
          go_wp2_with fail
          refine end_nd2 Tryz.results31 _ w.heap.size (kd := t0.kd) (n := bs t0.nm) (t := bs t0.tx) (va := .slice oa t0.ats.length ja) (vk := .slice ok t0.ks.length jk) ⟨_, _, _, rfl⟩ ⟨_, _, _, rfl⟩ ⟨by go_simp, by go_simp, by go_simp, by go_simp, by go_simp⟩ rfl rfl rfl ?_
          rw [← HP3.out]
          refine ⟨_, _, rfl, ?_, (((((HBE.out.setCell (p := ⟨w.heap.size, 0, none⟩) hB _).setCell (p := ⟨w.heap.size, 1, none⟩) hB _).setCell (p := ⟨w.heap.size, 2, none⟩) hB _).setCell (p := ⟨w.heap.size, 3, none⟩) hB _).setCell (p := ⟨w.heap.size, 4, none⟩) hB _)⟩
          refine NdOn.move (fun b hb hF => ⟨hF.lo, ?_⟩) _ _ _ HN0.out
          have hbx := hF.bx
          have hne : b ≠ w.heap.size := by omega
          rw [heap_set_ne hne, heap_set_ne hne, heap_set_ne hne, heap_set_ne hne, heap_set_ne hne]
end Char
namespace Char
open Go.RowKit Go.Lib
set_option maxRecDepth 100000 in
set_option maxHeartbeats 4000000 in
theorem parse_any (l : List UInt8) (w : World) (hz : l.length ≤ 9223372036854775807) (hG : Gl6 w) :
  Calls Tryz.prog 23 #[.string (bs l)] w (GrPost w.heap.size w (parseL l)) := by
 obtain ⟨W0, hW0⟩ : ∃ W0, W0 = w.alloc (.cells #[.int .i64 0, .string ⟨#[]⟩, .string ⟨#[]⟩, .slice none 0 0, .slice none 0 0] 25) := ⟨_, rfl⟩
 have b0 : Below w.heap.size w W0 := by rw [hW0]; exact (Below.refl _ _).alloc (Nat.le_refl _) _
 have s0 : W0.heap.size = w.heap.size + 1 := by rw [hW0]; simp
 have hrs : W0.heap[w.heap.size]? = some (.cells #[.int .i64 0, .string ⟨#[]⟩, .string ⟨#[]⟩, .slice none 0 0, .slice none 0 0] 25 (0, 0)) := by rw [hW0]; exact World.alloc_heap_new w _
 have HS := Lib.hid (scanA_any l W0 hz (hG.below b0))
 have HW0 := Lib.hid hW0
 have HB0 := Lib.hid b0
 -- the cell of the result, behind whatever lies above it
 have hcl : ∀ W, Below W0.heap.size W0 W → (∀ i, W.frozen? ⟨w.heap.size, i, none⟩ = false) ∧ W.cell? ⟨w.heap.size, 0, none⟩ = some (.int .i64 0) ∧ W.cell? ⟨w.heap.size, 1, none⟩ = some (.string ⟨#[]⟩) ∧ W.cell? ⟨w.heap.size, 2, none⟩ = some (.string ⟨#[]⟩) ∧ W.cell? ⟨w.heap.size, 3, none⟩ = some (.slice none 0 0) ∧ W.cell? ⟨w.heap.size, 4, none⟩ = some (.slice none 0 0) := fun W hW => by
  have h := (hW.block w.heap.size (by omega)).trans hrs
  exact ⟨fun i => by simp [World.frozen?, h], by simp [World.cell?, h], by simp [World.cell?, h], by simp [World.cell?, h], by simp [World.cell?, h], by simp [World.cell?, h]⟩
 have HCL := Lib.hid hcl
 clear hG hW0 b0 hrs hcl
 unfold parseL
 unfold ScPostA at HS
 cases hs : scanL l with
 | inl err =>
  rw [hs] at HS
  have hne : err ≠ 0 := by
   unfold scanL at hs
   split at hs
   ·cases hs; decide
   ·split at hs
    ·cases hs; decide
    ·exact scanF_errne hs
  have HS2 : Hid (Calls Tryz.prog 30 #[.string (bs l)] W0 fun e w' => e = .returned (.tuple #[.slice none 0 0, .int .i64 (err : Int)]) ∧ Below W0.heap.size W0 w') := HS
  have k1 : ((err : Int) == 0) = false := by rw [beq_eq_false_iff_ne]; omega
  obtain ⟨P, hP⟩ : ∃ P, GrPost w.heap.size w (.inl err) = P := ⟨_, rfl⟩
  dsimp only
  rw [hP]
  have HP := Lib.hid hP
  clear HS hs hP
  go_enter Tryz.func23, Tryz.ntmps23
  go_wp2_with fail
  rw [← HW0.out]
  refine HS2.out.mono ?_
  rintro e w1 ⟨rfl, hb1⟩
  obtain ⟨z0, z1, z2, z3, z4, z5⟩ := HCL.out w1 hb1
  have HB1 := Lib.hid (HB0.out.trans (hb1.mono (by omega)))
  clear hb1
  go_wp2_with fail
  refine end_nd2 Tryz.results23 _ w.heap.size (kd := 0) (n := ⟨#[]⟩) (t := ⟨#[]⟩) (va := .slice none 0 0) (vk := .slice none 0 0) ⟨_, _, _, rfl⟩ ⟨_, _, _, rfl⟩ ⟨by go_simp, by go_simp, by go_simp, by go_simp, by go_simp⟩ rfl rfl rfl ?_
  rw [← HP.out]
  exact ⟨rfl, (((((HB1.out.setCell (p := ⟨w.heap.size, 0, none⟩) (Nat.le_refl _) _).setCell (p := ⟨w.heap.size, 1, none⟩) (Nat.le_refl _) _).setCell (p := ⟨w.heap.size, 2, none⟩) (Nat.le_refl _) _).setCell (p := ⟨w.heap.size, 3, none⟩) (Nat.le_refl _) _).setCell (p := ⟨w.heap.size, 4, none⟩) (Nat.le_refl _) _)⟩
 | inr ts =>
  rw [hs] at HS
  have hl := (scanL_len hs).1
  have hok := scanL_tok hs
  have HS2 : Hid (Calls Tryz.prog 30 #[.string (bs l)] W0 fun e w' => ∃ (xs : List TkV) (o : Option Addr) (i j : Nat), xs.map (·.1) = ts ∧ e = .returned (.tuple #[.slice o i j, .int .i64 0]) ∧ OwnsTk W0.heap.size w' (.slice o i j) xs ∧ ApartT xs ∧ Below W0.heap.size W0 w') := HS
  obtain ⟨P, hP⟩ : ∃ P, GrPost w.heap.size w (runT ts [grd0] 0) = P := ⟨_, rfl⟩
  dsimp only
  rw [hP]
  have HP := Lib.hid hP
  have HOK := Lib.hid hok
  clear HS hs hP hok
  go_enter Tryz.func23, Tryz.ntmps23
  go_wp2_with fail
  rw [← HW0.out]
  refine HS2.out.mono ?_
  rintro e w1 ⟨xs, o, i, j, hx, rfl, ho, ha, hb1⟩
  have hC := grown_any W0.heap.size w1 xs o i j ho hb1.size ha (fun x hxm => HOK.out x.1 (by rw [← hx]; exact List.mem_map_of_mem hxm)) (by have := congrArg List.length hx; simp at this; omega)
  rw [hx] at hC
  have HC := Lib.hid hC
  have HB1 := Lib.hid hb1
  clear hC ho ha hb1 hx
  go_wp2_with fail
  refine HC.out.mono ?_
  intro e w2 hp
  cases hr : runT ts [grd0] 0 with
  | inl err =>
   rw [hr] at hp HP
   obtain ⟨rfl, hb⟩ := hp
   have hb2 := HB1.out.trans hb
   obtain ⟨z0, z1, z2, z3, z4, z5⟩ := HCL.out w2 hb2
   have HB2 := Lib.hid (HB0.out.trans (hb2.mono (by omega)))
   clear hb hb2 hr
   unfold zeroNd
   go_wp2_with fail
   refine end_nd2 Tryz.results23 _ w.heap.size (kd := 0) (n := ⟨#[]⟩) (t := ⟨#[]⟩) (va := .slice none 0 0) (vk := .slice none 0 0) ⟨_, _, _, rfl⟩ ⟨_, _, _, rfl⟩ ⟨by go_simp, by go_simp, by go_simp, by go_simp, by go_simp⟩ rfl rfl rfl ?_
   rw [← HP.out]
   exact ⟨rfl, (((((HB2.out.setCell (p := ⟨w.heap.size, 0, none⟩) (Nat.le_refl _) _).setCell (p := ⟨w.heap.size, 1, none⟩) (Nat.le_refl _) _).setCell (p := ⟨w.heap.size, 2, none⟩) (Nat.le_refl _) _).setCell (p := ⟨w.heap.size, 3, none⟩) (Nat.le_refl _) _).setCell (p := ⟨w.heap.size, 4, none⟩) (Nat.le_refl _) _)⟩
  | inr t =>
   rw [hr] at hp HP
   obtain ⟨va, vk, rfl, hn, hb⟩ := hp
   obtain ⟨oa, ja, ok, jk, rfl, rfl⟩ := hn.form
   have hb2 := HB1.out.trans hb
   obtain ⟨z0, z1, z2, z3, z4, z5⟩ := HCL.out w2 hb2
   have HB2 := Lib.hid (HB0.out.trans (hb2.mono (by omega)))
   have HN := Lib.hid hn
   clear hb hb2 hr hn
   unfold ndV
   go_wp2_with fail
   refine end_nd2 Tryz.results23 _ w.heap.size (kd := t.kd) (n := bs t.nm) (t := bs t.tx) (va := .slice oa t.ats.length ja) (vk := .slice ok t.ks.length jk) ⟨_, _, _, rfl⟩ ⟨_, _, _, rfl⟩ ⟨by go_simp, by go_simp, by go_simp, by go_simp, by go_simp⟩ rfl rfl rfl ?_
   rw [← HP.out]
   refine ⟨_, _, rfl, ?_, (((((HB2.out.setCell (p := ⟨w.heap.size, 0, none⟩) (Nat.le_refl _) _).setCell (p := ⟨w.heap.size, 1, none⟩) (Nat.le_refl _) _).setCell (p := ⟨w.heap.size, 2, none⟩) (Nat.le_refl _) _).setCell (p := ⟨w.heap.size, 3, none⟩) (Nat.le_refl _) _).setCell (p := ⟨w.heap.size, 4, none⟩) (Nat.le_refl _) _)⟩
   refine NdOn.move (fun b hb hF => ⟨by omega, ?_⟩) _ _ _ HN.out
   have hne : b ≠ w.heap.size := by omega
   rw [heap_set_ne hne, heap_set_ne hne, heap_set_ne hne, heap_set_ne hne, heap_set_ne hne]
end Char
end Go.Proofs.YtlmodgnkmlbjhaaGreatDoor
