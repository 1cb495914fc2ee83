import Derived.Test.YtlmodgnkmlbjhaaGreatDoorPkInsM
import Derived.Deep.Cut
import Derived.Deep.CutRange
namespace Go.Proofs.YtlmodgnkmlbjhaaGreatDoor
set_option maxHeartbeats 8000000
set_option maxRecDepth 1000000
namespace Char
open Go.RowKit Go.Lib
theorem inc_merge {w wr : World} {xs : List TkV} {S gt jt p deep sz N p' sz' : Nat} {va vk : Value} {n : Tr} (hSl2 : S < w.heap.size) (_hxl : xs.length ≤ 4000) (_hd11 : deep < 12) (hok : ∀ x, x ∈ xs → TkOk x.1) (hT : TkOn w S (.slice (some ⟨gt, 0, none⟩) xs.length jt) xs) (_hNl : N ≠ w.heap.size ∧ N ≠ S) (_hEl : w.heap.size + 2 ≤ N)
  (hK : InsK w xs S (.slice (some ⟨gt, 0, none⟩) xs.length jt) p deep sz N p' sz' va vk n wr) (hlt : p' < xs.length) (hk0 : xs[p'].1.kd = 3) (hxt : xs[p'].1.tx ≠ []) {mm : Nat} {kk : Tr} (hmm : n.ks.length = mm + 1) (hgk : n.ks.getLast? = some kk) (hkk4 : kk.kd = 4) (Q0 : Exit → Act → World → Prop) (_hret : ∀ a' w', bodyPost Tryz.prog Tryz.f33 (InsPost xs S (.slice (some ⟨gt, 0, none⟩) xs.length jt) p deep sz w) .ret a' w' → Q0 .ret a' w') (u5 u8 u9 By Bz Ca Cb Cc Cd Ce Cf Cg Ch Ci Cj Ck Cl Cm Cn Co Cp Cq Cr Cs Ct Cu Cv Cw Cx Cy Cz Da Db Dc Dd De Df Dg Dh Di Dj Dk Dl Dm Dn Dp Dq Dr Ds Dt Du Dv Dw Dx Dy Dz Ea Eb Ec Ed Ee Ef Eg Eh Ei Ej Ek Em En Eo Ep Er Es Et Eu Ev Ew Ex Ey Ez Fa Fb Fc Fd Fe Ff Fg Fh Fi Fj Fk Fl Fm Fn Fo Fp Fq Fr Fs Ft Fu Fv Fw Fx Fy Fz Ga Gb Gc Gd Ge Gf Gg Gh Gi Gj Gk Gl Gm Gn Gp Gq Gr Gs Gt Gu Gv Gw Gx Gy Gz Ha Hb Hc Hd He Hf Hg c2 c3 c6 Aa Ab Ac Ad Ae Af Ag Ah Ai Aj Ak Al Am Ao Ap Aq Ar As Au Av Aw Ax Ay Az Ba Bb Bc Bd Be Bf Bg Bh Bi Bj Bk Bl Bm Bn Bo Bp Bq Br Bs Bt Bu Bv Bw Bx : Value) :
  Code.wp Tryz.prog insBody (Exit.then (fun a' w'' => InsWI w xs S (.slice (some ⟨gt, 0, none⟩) xs.length jt) p deep sz N c2 c3 c6 Aa Ab Ac Ad Ae Af Ag Ah Ai Aj Ak Al Am Ao Ap Aq Ar As Au Av Aw Ax Ay Az Ba Bb Bc Bd Be Bf Bg Bh Bi Bj Bk Bl Bm Bn Bo Bp Bq Br Bs Bt Bu Bv Bw Bx a' w'' ∧ leftS S xs.length w'' < leftS S xs.length wr) Q0) ⟨#[.pointer (some ⟨S, 0, none⟩), .int .i64 (deep : Int), c2, c3, .pointer (some ⟨w.heap.size, 0, none⟩), u5, c6, .pointer (some ⟨N, 0, none⟩), u8, u9, By, Bz, Aa, Ab, Ac, Ad, Ae, Af, Ag, Ah, Ai, Aj, Ak, Al, Am, Ao, Ap, Aq, Ar, As, Au, Av, Aw, Ax, Ay, Az, Ba, Bb, Bc, Bd, Be, Bf, Bg, Bh, Bi, Bj, Bk, Bl, Bm, Bn, Bo, Bp, Bq, Br, Bs, Bt, Bu, Bv, Bw, Ca, Cb, Cc, Cd, Ce, Cf, Cg, Ch, Ci, Cj, Ck, Cl, Cm, Cn, Co, Cp, Cq, Cr, Cs, Ct, Cu, Cv, Cw, Cx, Cy, Cz, Da, Db, Dc, Dd, De, Df, Dg, Dh, Di, Dj, Dk, Dl, Dm, Dn, Dp, Dq, Dr, Ds, Dt, Du, Dv, Dw, Dx, Dy, Dz, Ea, Eb, Ec, Ed, Ee, Ef, Eg, Eh, Ei, Ej, Ek, Em, En, Eo, Ep, Er, Es, Et, Eu, Ev, Ew, Ex, Ey, Ez, Fa, Fb, Fc, Fd, Fe, Ff, Fg, Fh, Fi, Fj, Fk, Fl, Fm, Fn, Fo, Fp, Fq, Fr, Fs, Ft, Fu, Fv, Fw, Fx, Fy, Fz, Ga, Gb, Gc, Gd, Ge, Gf, Gg, Gh, Gi, Gj, Gk, Gl, Gm, Gn, Gp, Gq, Gr, Gs, Gt, Gu, Gv, Gw, Gx, Gy, Gz, Ha, Hb, Hc, Hd, He, Hf, Hg, Bx], []⟩ wr := by
 conv => arg 2; whnf
 have hSr : S < wr.heap.size := by have := hK.hs; omega
 obtain ⟨ot, jt2, he9, htk⟩ := hT.but hK.bt
 simp only [Value.slice.injEq] at he9
 obtain ⟨rfl, _, rfl⟩ := he9
 obtain ⟨a0, a1, a2, af⟩ := hK.st.cells
 have hlf := leftS_of hK.st (L := xs.length)
 have HLF := hid hlf
 have HK := hid hK
 have hple := hK.le
 have hplt := hK.lt
 have hzr := hK.hs
 clear hlf hK
 obtain ⟨g9, hg9, hgS9, ⟨t0, t1, t2, t3, t4⟩, hat⟩ := htk p' hlt
 obtain rfl : gt = g9 := by cases hg9; rfl
 have hgr := cell_lt t0
 have hxok := hok _ (List.getElem_mem hlt)
 have hpl' : p' < (xs.map (fun x : TkV => x.1)).length := by simpa using hlt
 have hkx : (xs.map (fun x : TkV => x.1))[p']'hpl' = xs[p'].1 := by simp
 generalize hx : xs[p'] = x at *
 obtain ⟨⟨xk, xn, xt, xq, xe⟩, xv⟩ := x
 dsimp only at t0 t1 t2 t3 t4 hxok hkx hk0 hxt
 obtain ⟨oa3, ja3, rfl⟩ : ∃ o j, xv = .slice o xq.length j := hat.form
 subst hk0
 have HXT0 := hid hxt
 have HMM := hid hmm
 have HGK := hid hgk
 have HKK := hid hkk4
 clear hxt hmm hgk hkk4
 have HKX2 := hid hkx
 have HXOK := hid hxok
 clear hx hkx hxok hat htk hg9
 go_wp2_with fail
 go_quiet (fail)
 go_wp2_with fail
 generalize hwq : wr.drewN _ = wq
 have hKq : InsK w xs S (.slice (some ⟨gt, 0, none⟩) xs.length jt) p deep sz N p' sz' va vk n wq := HK.out.below hSl2 (by rw [← hwq]; exact below_drS _ _ _)
 have b0 : wq.cell? ⟨gt, p' * 5, none⟩ = some (.int .i64 3) := by rw [← hwq]; exact t0
 have b1 : wq.cell? ⟨gt, p' * 5 + 1, none⟩ = some (.string (bs xn)) := by rw [← hwq]; exact t1
 have b2 : wq.cell? ⟨gt, p' * 5 + 2, none⟩ = some (.string (bs xt)) := by rw [← hwq]; exact t2
 have b3 : wq.cell? ⟨gt, p' * 5 + 3, none⟩ = some (.slice oa3 xq.length ja3) := by rw [← hwq]; exact t3
 have b4 : wq.cell? ⟨gt, p' * 5 + 4, none⟩ = some (.bool xe) := by rw [← hwq]; exact t4
 have hSq : S < wq.heap.size := by rw [← hwq]; exact hSr
 have hgq : gt < wq.heap.size := by rw [← hwq]; exact hgr
 clear hwq HK t0 t1 t2 t3 t4 a0 a1 a2 af hSr hgr hzr
 obtain ⟨a0, a1, a2, af⟩ := hKq.st.cells
 have HKQ := hid hKq
 clear hKq
 go_region
 obtain ⟨Wx, hWx⟩ : ∃ Wx, Wx = (wq.alloc (.cells #[.int .i64 3, .string (bs xn), .string (bs xt), .slice oa3 xq.length ja3, .bool xe] 72)).drew := ⟨_, rfl⟩
 rw [← hWx]
 have hbx : Below wq.heap.size wq Wx := by rw [hWx]; exact ((Below.refl _ _).alloc (Nat.le_refl _) _).drew
 have hsx : Wx.heap.size = wq.heap.size + 1 := by rw [hWx, World.drew, World.size_alloc]
 have hXb : Wx.heap[wq.heap.size]? = some (.cells #[.int .i64 3, .string (bs xn), .string (bs xt), .slice oa3 xq.length ja3, .bool xe] 72 (0, 0)) := by rw [hWx]; exact World.alloc_heap_new wq _
 have hKx : InsK w xs S (.slice (some ⟨gt, 0, none⟩) xs.length jt) p deep sz N p' sz' va vk n Wx := HKQ.out.below hSl2 hbx
 obtain ⟨X, hX⟩ : ∃ X, X = wq.heap.size := ⟨_, rfl⟩
 have hXlo : w.heap.size + 2 ≤ X := by rw [hX]; exact HKQ.out.hs
 rw [← hX] at hsx hXb ⊢
 clear hWx hbx a0 a1 a2 af b0 b1 b2 b3 b4 hSq hgq hX HKQ
 obtain ⟨oa4, ja4, ok4, jk4, rfl, rfl⟩ := hKx.el.form
 have hNl2 : N < Wx.heap.size := block_of_heap hKx.el.bx
 have HKX3 := hid hKx
 have HXB := hid hXb
 have HEL := hid (fun (m : Nat) (hm : n.ks.length = m + 1) => hKx.el.last hm)
 have hkl : n.ks.length ≤ 4000 := by have := hKx.kl; omega
 -- what lies, behind whatever turns the state's box alone
 have hall : ∀ W : World, W.heap[N]? = Wx.heap[N]? → W.heap[X]? = Wx.heap[X]? → W.heap[w.heap.size]? = Wx.heap[w.heap.size]? →
   ((W.cell? ⟨N, 0, none⟩ = some (.int .i64 n.kd) ∧ W.cell? ⟨N, 1, none⟩ = some (.string (bs n.nm)) ∧ W.cell? ⟨N, 2, none⟩ = some (.string (bs n.tx)) ∧ W.cell? ⟨N, 3, none⟩ = some (.slice oa4 n.ats.length ja4) ∧ W.cell? ⟨N, 4, none⟩ = some (.slice ok4 n.ks.length jk4)) ∧ (∀ i, W.frozen? ⟨N, i, none⟩ = false)) ∧
   (W.cell? ⟨X, 0, none⟩ = some (.int .i64 3) ∧ W.cell? ⟨X, 1, none⟩ = some (.string (bs xn)) ∧ W.cell? ⟨X, 2, none⟩ = some (.string (bs xt))) ∧
   (W.cell? ⟨w.heap.size, 0, none⟩ = some (.int .i64 0) ∧ W.cell? ⟨w.heap.size, 1, none⟩ = some (.string ⟨#[]⟩) ∧ W.cell? ⟨w.heap.size, 2, none⟩ = some (.string ⟨#[]⟩) ∧ W.cell? ⟨w.heap.size, 3, none⟩ = some (.slice none 0 0) ∧ W.cell? ⟨w.heap.size, 4, none⟩ = some (.slice none 0 0)) ∧ (∀ i, W.frozen? ⟨w.heap.size, i, none⟩ = false) := fun W q1 q2 q3 => by
  have e1 := q1.trans HKX3.out.el.bx
  have e2 := q2.trans HXB.out
  have e3 := q3.trans HKX3.out.rs
  exact ⟨⟨⟨by simp [World.cell?, e1], by simp [World.cell?, e1], by simp [World.cell?, e1], by simp [World.cell?, e1], by simp [World.cell?, e1]⟩, fun i => by simp [World.frozen?, e1]⟩,
   ⟨by simp [World.cell?, e2], by simp [World.cell?, e2], by simp [World.cell?, e2]⟩,
   ⟨by simp [World.cell?, e3], by simp [World.cell?, e3], by simp [World.cell?, e3], by simp [World.cell?, e3], by simp [World.cell?, e3]⟩, fun i => by simp [World.frozen?, e3]⟩
 have HALL := hid hall
 obtain ⟨⟨⟨n0, n1, n2, n3, n4⟩, nf⟩, ⟨x0, x1, x2⟩, ⟨r0, r1, r2, r3, r4⟩, rf⟩ := hall Wx rfl rfl rfl
 obtain ⟨a0, a1, a2, af⟩ := hKx.st.cells
 have hkd := HXOK.out.kd
 have hw9 : IntKind.i64.wrap ((n.ks.length : Int) - 1) = (n.ks.length : Int) - 1 := IntWalk.i64_in _ (by omega)
 have hw8 : IntKind.i64.wrap ((p' : Int) + 1) = (p' : Int) + 1 := IntWalk.i64_in _ (by omega)
 have hsl := hKx.sl
 have hw7 : IntKind.i64.wrap ((sz' : Int) + 1) = (sz' : Int) + 1 := IntWalk.i64_in _ (by omega)
 clear hKx hXb hall
 have hNS : N ≠ S ∧ N ≠ w.heap.size ∧ N ≠ X := by
  refine ⟨by omega, by omega, fun e => ?_⟩
  have h1 := HKX3.out.el.bx
  rw [e, HXB.out] at h1
  simp at h1
 clear hkd
 have k2 : ((3 : Int) == 2) = false := rfl
 have k3 : ((3 : Int) == 1) = false := rfl
 go_upto_region 25 with fail
 have e9 : (p' : Int) + 1 = ((p' + 1 : Nat) : Int) := by push_cast; rfl
 obtain ⟨Wy, hWy⟩ : ∃ Wy, Wy = Wx.setCell ⟨S, 1, none⟩ (.int .i64 ((p' : Int) + 1)) := ⟨_, rfl⟩
 rw [← hWy]
 rw [e9] at hWy
 have hSy : StAt Wy S (.slice (some ⟨gt, 0, none⟩) xs.length jt) (p' + 1) sz' := by rw [hWy]; exact HKX3.out.st.at (p' + 1)
 have hBy : But S Wx Wy := by rw [hWy]; exact But.set S 1 Wx _
 have hNy : Wy.heap[N]? = Wx.heap[N]? := by rw [hWy]; exact heap_set_ne (by omega)
 have hXy : Wy.heap[X]? = Wx.heap[X]? := by rw [hWy]; exact heap_set_ne (by omega)
 have hRy : Wy.heap[w.heap.size]? = Wx.heap[w.heap.size]? := by rw [hWy]; exact heap_set_ne (by omega)
 have hzy : Wy.heap.size = Wx.heap.size := by rw [hWy, World.size_setCell]
 have HEy := hid (HKX3.out.el.but hBy (by omega))
 have HSy := hid hSy
 have HBy := hid hBy
 have HNy := hid hNy
 have HXy := hid hXy
 have HRy := hid hRy
 clear hWy e9 n0 n1 n2 n3 n4 nf x0 x1 x2 r0 r1 r2 r3 r4 rf a0 a1 a2 af hw8 HEL
 obtain ⟨⟨⟨n0, n1, n2, n3, n4⟩, nf⟩, ⟨x0, x1, x2⟩, ⟨r0, r1, r2, r3, r4⟩, rf⟩ := HALL.out Wy hNy hXy hRy
 obtain ⟨a0, a1, a2, af⟩ := hSy.cells
 have HEL := hid (fun (m : Nat) (hm : n.ks.length = m + 1) => HEy.out.last hm)
 clear hSy hBy hNy hXy hRy
 have k5 : (bs xt).toList.isEmpty = false := by
  rw [bs_tl]
  cases xt with
  | nil => exact absurd rfl HXT0.out
  | cons _ _ => rfl
 obtain ⟨gk, capk, kk0, hvk, hgl9, hck, hBg, hgw, hcap⟩ := HEL.out mm HMM.out
 obtain rfl : kk = kk0 := Option.some.inj (HGK.out.symm.trans hgl9)
 simp only [Value.slice.injEq] at hvk
 obtain ⟨rfl, hq9, rfl⟩ := hvk
 clear hq9
 have hmi : (mm : Int) < ((mm + 1 : Nat) : Int) := by omega
 have hm0 : (0 : Int) ≤ (mm : Int) := by omega
 have e9m : ((n.ks.length : Nat) : Int) - 1 = (mm : Int) := by have := HMM.out; omega
 rw [e9m]
 clear e9m
 obtain ⟨g2, cap2, hv2, _, _, cm0, cm2, hf2, hq⟩ := HEy.out.merge HGK.out HKK.out (leafT ⟨3, xn, xt, xq, xe⟩) rfl
 simp only [Value.slice.injEq, Option.some.injEq, Addr.mk.injEq, and_true, true_and] at hv2
 obtain ⟨rfl, rfl⟩ := hv2
 rw [HMM.out, Nat.add_sub_cancel] at cm0 cm2 hq
 clear hgl9
 have hkt := HKX3.out.kt kk (List.mem_of_getLast? HGK.out)
 have htl : xt.length ≤ 16000 := HXOK.out.tl
 have hadd : ∀ wx, (Op.stringOp .add (bs kk.tx) (bs xt)).run Tryz.prog wx = .ok (.string (bs (kk.tx ++ xt))) wx := fun wx => by
  have h1 := bs_size kk.tx
  have h2 := bs_size xt
  rw [run_string_add_sum wx (bs kk.tx) (bs xt) (by omega), bs_add]
 have HLT := hid (show lastTx n.ks = true by unfold lastTx; rw [HGK.out]; simp [HKK.out])
 have HQ9 := hid hq
 have HXT := HXT0
 have hgS2 : gk ≠ S := by omega
 have HK9 := hid (fun (W9 : World) (h9 : W9 = (Wy.setCell ⟨gk, mm * 5 + 2, none⟩ (.string (bs (kk.tx ++ xt)))).drew) => (show InsK w xs S (.slice (some ⟨gt, 0, none⟩) xs.length jt) p deep sz N (p' + 1) sz' (.slice oa4 n.ats.length ja4) (.slice (some ⟨gk, 0, none⟩) (mm + 1) jk4) (n.put (leafT ⟨3, xn, xt, xq, xe⟩)) W9 from
  {st := HSy.out.block (by rw [h9]; exact heap_set_ne (Ne.symm hgS2))
   el := by rw [h9]; exact (HQ9.out _ rfl).below (Below.refl _ _).drew
   ia := by
    have h := at_text HKX3.out.ia hpl' (by rw [HKX2.out]) (by rw [HKX2.out]; exact HXT.out) hsl HLT.out
    rw [HKX2.out] at h
    exact h
   sl := hsl
   lt := by omega
   le := by omega
   bt := by rw [h9]; exact ((HKX3.out.bt.trans HBy.out).low rfl hSl2 ((Below.refl w.heap.size Wy).setCell (p := ⟨gk, mm * 5 + 2, none⟩) (by show w.heap.size ≤ gk; omega) _)).drew
   rs := by rw [h9]; exact (heap_set_ne (by omega)).trans (HRy.out.trans HKX3.out.rs)
   hs := by rw [h9]; show _ ≤ (World.setCell _ _ _).heap.size; rw [World.size_setCell, hzy]; exact HKX3.out.hs
   kd := HKX3.out.kd
   tx := HKX3.out.tx
   kl := by have := HKX3.out.kl; have := putK_len n.ks (leafT ⟨3, xn, xt, xq, xe⟩); show (putK n.ks _).length ≤ _; omega
   kt := fun kid h => by have := putK_tx n.ks (leafT ⟨3, xn, xt, xq, xe⟩) (16000 * p') 16000 HKX3.out.kt htl kid h; omega }))
 rw [HMM.out] at n4 hw9
 clear hq hkt HEL hck hmi
 have hmi : (mm : Int) < (mm : Int) + 1 := by omega
 go_wp2_with fail
 refine merge_region n4 x2 cm2 (hf2 _) hm0 hmi hadd _ _ _ _ _ _ _ _ _ _ _ _ _ _ _ _ _ _ _ _ _ _ _ _ _ _ _ _ _ _ _ _ _ _ _ _ _ _ _ _ _ _ _ _ _ _ _ _ _ _ _ _ _ _ _ _ _ _ _ _ _ _ _ _ _ _ _ _ _ _ _ _ _ _ _ _ _ _ _ _ _ _ _ _ _ _ _ _ _ _ _ _ _ _ _ _ _ _ _ _ _ _ _ _ _ _ _ _ _ _ _ _ _ _ _ _ _ _ _ _ _ _ _ _ _ _ _ _ _ _ _ _ _ _ _ _ _ _ _ _ _ _ _ _ _ _ _ _ _ _ _ _ _ _ _ _ _ _ _ _ _ _ _ _ _ _ _ _ _ _ _ _ _ _ _ _ _ _ _ _ _ _ _ _ _ _ _ _ _ _ _ ?_
 intro v151 v152 v153 v154 v155 v156 v157 v158 v159 v160 v161 v162 v163 v164
 obtain ⟨W9, hW9⟩ : ∃ W9, W9 = (Wy.setCell ⟨gk, mm * 5 + 2, none⟩ (.string (bs (kk.tx ++ xt)))).drew := ⟨_, rfl⟩
 rw [← hW9]
 have HK8 := hid (HK9.out W9 hW9)
 clear HK9 hW9
 go_wp2_with fail
 refine ⟨?_, by rw [HLF.out, leftS_of HK8.out.st]; omega⟩
 exact InsWI.mk HK8.out
end Char
namespace Char
open Go.RowKit Go.Lib
theorem inc_leafOok {w wr : World} {xs : List TkV} {S gt jt p deep sz N p' sz' : Nat} {va vk : Value} {n : Tr} (hSl2 : S < w.heap.size) (_hxl : xs.length ≤ 4000) (_hd11 : deep < 12) (hok : ∀ x, x ∈ xs → TkOk x.1) (hT : TkOn w S (.slice (some ⟨gt, 0, none⟩) xs.length jt) xs) (_hNl : N ≠ w.heap.size ∧ N ≠ S) (_hEl : w.heap.size + 2 ≤ N)
  (hK : InsK w xs S (.slice (some ⟨gt, 0, none⟩) xs.length jt) p deep sz N p' sz' va vk n wr) (hlt : p' < xs.length) (hk0 : xs[p'].1.kd = 3) (hxt : xs[p'].1.tx ≠ []) {mm : Nat} {kk : Tr} (hmm : n.ks.length = mm + 1) (hgk : n.ks.getLast? = some kk) (hkk4 : kk.kd ≠ 4) (hmany0 : sz' + 1 ≤ 120) (Q0 : Exit → Act → World → Prop) (_hret : ∀ a' w', bodyPost Tryz.prog Tryz.f33 (InsPost xs S (.slice (some ⟨gt, 0, none⟩) xs.length jt) p deep sz w) .ret a' w' → Q0 .ret a' w') (u5 u8 u9 By Bz Ca Cb Cc Cd Ce Cf Cg Ch Ci Cj Ck Cl Cm Cn Co Cp Cq Cr Cs Ct Cu Cv Cw Cx Cy Cz Da Db Dc Dd De Df Dg Dh Di Dj Dk Dl Dm Dn Dp Dq Dr Ds Dt Du Dv Dw Dx Dy Dz Ea Eb Ec Ed Ee Ef Eg Eh Ei Ej Ek Em En Eo Ep Er Es Et Eu Ev Ew Ex Ey Ez Fa Fb Fc Fd Fe Ff Fg Fh Fi Fj Fk Fl Fm Fn Fo Fp Fq Fr Fs Ft Fu Fv Fw Fx Fy Fz Ga Gb Gc Gd Ge Gf Gg Gh Gi Gj Gk Gl Gm Gn Gp Gq Gr Gs Gt Gu Gv Gw Gx Gy Gz Ha Hb Hc Hd He Hf Hg c2 c3 c6 Aa Ab Ac Ad Ae Af Ag Ah Ai Aj Ak Al Am Ao Ap Aq Ar As Au Av Aw Ax Ay Az Ba Bb Bc Bd Be Bf Bg Bh Bi Bj Bk Bl Bm Bn Bo Bp Bq Br Bs Bt Bu Bv Bw Bx : Value) :
  Code.wp Tryz.prog insBody (Exit.then (fun a' w'' => InsWI w xs S (.slice (some ⟨gt, 0, none⟩) xs.length jt) p deep sz N c2 c3 c6 Aa Ab Ac Ad Ae Af Ag Ah Ai Aj Ak Al Am Ao Ap Aq Ar As Au Av Aw Ax Ay Az Ba Bb Bc Bd Be Bf Bg Bh Bi Bj Bk Bl Bm Bn Bo Bp Bq Br Bs Bt Bu Bv Bw Bx a' w'' ∧ leftS S xs.length w'' < leftS S xs.length wr) Q0) ⟨#[.pointer (some ⟨S, 0, none⟩), .int .i64 (deep : Int), c2, c3, .pointer (some ⟨w.heap.size, 0, none⟩), u5, c6, .pointer (some ⟨N, 0, none⟩), u8, u9, By, Bz, Aa, Ab, Ac, Ad, Ae, Af, Ag, Ah, Ai, Aj, Ak, Al, Am, Ao, Ap, Aq, Ar, As, Au, Av, Aw, Ax, Ay, Az, Ba, Bb, Bc, Bd, Be, Bf, Bg, Bh, Bi, Bj, Bk, Bl, Bm, Bn, Bo, Bp, Bq, Br, Bs, Bt, Bu, Bv, Bw, Ca, Cb, Cc, Cd, Ce, Cf, Cg, Ch, Ci, Cj, Ck, Cl, Cm, Cn, Co, Cp, Cq, Cr, Cs, Ct, Cu, Cv, Cw, Cx, Cy, Cz, Da, Db, Dc, Dd, De, Df, Dg, Dh, Di, Dj, Dk, Dl, Dm, Dn, Dp, Dq, Dr, Ds, Dt, Du, Dv, Dw, Dx, Dy, Dz, Ea, Eb, Ec, Ed, Ee, Ef, Eg, Eh, Ei, Ej, Ek, Em, En, Eo, Ep, Er, Es, Et, Eu, Ev, Ew, Ex, Ey, Ez, Fa, Fb, Fc, Fd, Fe, Ff, Fg, Fh, Fi, Fj, Fk, Fl, Fm, Fn, Fo, Fp, Fq, Fr, Fs, Ft, Fu, Fv, Fw, Fx, Fy, Fz, Ga, Gb, Gc, Gd, Ge, Gf, Gg, Gh, Gi, Gj, Gk, Gl, Gm, Gn, Gp, Gq, Gr, Gs, Gt, Gu, Gv, Gw, Gx, Gy, Gz, Ha, Hb, Hc, Hd, He, Hf, Hg, Bx], []⟩ wr := by
 conv => arg 2; whnf
 have hSr : S < wr.heap.size := by have := hK.hs; omega
 obtain ⟨ot, jt2, he9, htk⟩ := hT.but hK.bt
 simp only [Value.slice.injEq] at he9
 obtain ⟨rfl, _, rfl⟩ := he9
 obtain ⟨a0, a1, a2, af⟩ := hK.st.cells
 have hlf := leftS_of hK.st (L := xs.length)
 have HLF := hid hlf
 have HK := hid hK
 have hple := hK.le
 have hplt := hK.lt
 have hzr := hK.hs
 clear hlf hK
 obtain ⟨g9, hg9, hgS9, ⟨t0, t1, t2, t3, t4⟩, hat⟩ := htk p' hlt
 obtain rfl : gt = g9 := by cases hg9; rfl
 have hgr := cell_lt t0
 have hxok := hok _ (List.getElem_mem hlt)
 have hpl' : p' < (xs.map (fun x : TkV => x.1)).length := by simpa using hlt
 have hkx : (xs.map (fun x : TkV => x.1))[p']'hpl' = xs[p'].1 := by simp
 generalize hx : xs[p'] = x at *
 obtain ⟨⟨xk, xn, xt, xq, xe⟩, xv⟩ := x
 dsimp only at t0 t1 t2 t3 t4 hxok hkx hk0 hxt
 obtain ⟨oa3, ja3, rfl⟩ : ∃ o j, xv = .slice o xq.length j := hat.form
 subst hk0
 have HXT0 := hid hxt
 have HMM := hid hmm
 have HGK := hid hgk
 have HKK := hid hkk4
 clear hxt hmm hgk hkk4
 have HKX2 := hid hkx
 have HXOK := hid hxok
 clear hx hkx hxok hat htk hg9
 go_wp2_with fail
 go_quiet (fail)
 go_wp2_with fail
 generalize hwq : wr.drewN _ = wq
 have hKq : InsK w xs S (.slice (some ⟨gt, 0, none⟩) xs.length jt) p deep sz N p' sz' va vk n wq := HK.out.below hSl2 (by rw [← hwq]; exact below_drS _ _ _)
 have b0 : wq.cell? ⟨gt, p' * 5, none⟩ = some (.int .i64 3) := by rw [← hwq]; exact t0
 have b1 : wq.cell? ⟨gt, p' * 5 + 1, none⟩ = some (.string (bs xn)) := by rw [← hwq]; exact t1
 have b2 : wq.cell? ⟨gt, p' * 5 + 2, none⟩ = some (.string (bs xt)) := by rw [← hwq]; exact t2
 have b3 : wq.cell? ⟨gt, p' * 5 + 3, none⟩ = some (.slice oa3 xq.length ja3) := by rw [← hwq]; exact t3
 have b4 : wq.cell? ⟨gt, p' * 5 + 4, none⟩ = some (.bool xe) := by rw [← hwq]; exact t4
 have hSq : S < wq.heap.size := by rw [← hwq]; exact hSr
 have hgq : gt < wq.heap.size := by rw [← hwq]; exact hgr
 clear hwq HK t0 t1 t2 t3 t4 a0 a1 a2 af hSr hgr hzr
 obtain ⟨a0, a1, a2, af⟩ := hKq.st.cells
 have HKQ := hid hKq
 clear hKq
 go_region
 obtain ⟨Wx, hWx⟩ : ∃ Wx, Wx = (wq.alloc (.cells #[.int .i64 3, .string (bs xn), .string (bs xt), .slice oa3 xq.length ja3, .bool xe] 72)).drew := ⟨_, rfl⟩
 rw [← hWx]
 have hbx : Below wq.heap.size wq Wx := by rw [hWx]; exact ((Below.refl _ _).alloc (Nat.le_refl _) _).drew
 have hsx : Wx.heap.size = wq.heap.size + 1 := by rw [hWx, World.drew, World.size_alloc]
 have hXb : Wx.heap[wq.heap.size]? = some (.cells #[.int .i64 3, .string (bs xn), .string (bs xt), .slice oa3 xq.length ja3, .bool xe] 72 (0, 0)) := by rw [hWx]; exact World.alloc_heap_new wq _
 have hKx : InsK w xs S (.slice (some ⟨gt, 0, none⟩) xs.length jt) p deep sz N p' sz' va vk n Wx := HKQ.out.below hSl2 hbx
 obtain ⟨X, hX⟩ : ∃ X, X = wq.heap.size := ⟨_, rfl⟩
 have hXlo : w.heap.size + 2 ≤ X := by rw [hX]; exact HKQ.out.hs
 rw [← hX] at hsx hXb ⊢
 clear hWx hbx a0 a1 a2 af b0 b1 b2 b3 b4 hSq hgq hX HKQ
 obtain ⟨oa4, ja4, ok4, jk4, rfl, rfl⟩ := hKx.el.form
 have hNl2 : N < Wx.heap.size := block_of_heap hKx.el.bx
 have HKX3 := hid hKx
 have HXB := hid hXb
 have HEL := hid (fun (m : Nat) (hm : n.ks.length = m + 1) => hKx.el.last hm)
 have hkl : n.ks.length ≤ 4000 := by have := hKx.kl; omega
 -- what lies, behind whatever turns the state's box alone
 have hall : ∀ W : World, W.heap[N]? = Wx.heap[N]? → W.heap[X]? = Wx.heap[X]? → W.heap[w.heap.size]? = Wx.heap[w.heap.size]? →
   ((W.cell? ⟨N, 0, none⟩ = some (.int .i64 n.kd) ∧ W.cell? ⟨N, 1, none⟩ = some (.string (bs n.nm)) ∧ W.cell? ⟨N, 2, none⟩ = some (.string (bs n.tx)) ∧ W.cell? ⟨N, 3, none⟩ = some (.slice oa4 n.ats.length ja4) ∧ W.cell? ⟨N, 4, none⟩ = some (.slice ok4 n.ks.length jk4)) ∧ (∀ i, W.frozen? ⟨N, i, none⟩ = false)) ∧
   (W.cell? ⟨X, 0, none⟩ = some (.int .i64 3) ∧ W.cell? ⟨X, 1, none⟩ = some (.string (bs xn)) ∧ W.cell? ⟨X, 2, none⟩ = some (.string (bs xt))) ∧
   (W.cell? ⟨w.heap.size, 0, none⟩ = some (.int .i64 0) ∧ W.cell? ⟨w.heap.size, 1, none⟩ = some (.string ⟨#[]⟩) ∧ W.cell? ⟨w.heap.size, 2, none⟩ = some (.string ⟨#[]⟩) ∧ W.cell? ⟨w.heap.size, 3, none⟩ = some (.slice none 0 0) ∧ W.cell? ⟨w.heap.size, 4, none⟩ = some (.slice none 0 0)) ∧ (∀ i, W.frozen? ⟨w.heap.size, i, none⟩ = false) := fun W q1 q2 q3 => by
  have e1 := q1.trans HKX3.out.el.bx
  have e2 := q2.trans HXB.out
  have e3 := q3.trans HKX3.out.rs
  exact ⟨⟨⟨by simp [World.cell?, e1], by simp [World.cell?, e1], by simp [World.cell?, e1], by simp [World.cell?, e1], by simp [World.cell?, e1]⟩, fun i => by simp [World.frozen?, e1]⟩,
   ⟨by simp [World.cell?, e2], by simp [World.cell?, e2], by simp [World.cell?, e2]⟩,
   ⟨by simp [World.cell?, e3], by simp [World.cell?, e3], by simp [World.cell?, e3], by simp [World.cell?, e3], by simp [World.cell?, e3]⟩, fun i => by simp [World.frozen?, e3]⟩
 have HALL := hid hall
 obtain ⟨⟨⟨n0, n1, n2, n3, n4⟩, nf⟩, ⟨x0, x1, x2⟩, ⟨r0, r1, r2, r3, r4⟩, rf⟩ := hall Wx rfl rfl rfl
 obtain ⟨a0, a1, a2, af⟩ := hKx.st.cells
 have hkd := HXOK.out.kd
 have hw9 : IntKind.i64.wrap ((n.ks.length : Int) - 1) = (n.ks.length : Int) - 1 := IntWalk.i64_in _ (by omega)
 have hw8 : IntKind.i64.wrap ((p' : Int) + 1) = (p' : Int) + 1 := IntWalk.i64_in _ (by omega)
 have hsl := hKx.sl
 have hw7 : IntKind.i64.wrap ((sz' : Int) + 1) = (sz' : Int) + 1 := IntWalk.i64_in _ (by omega)
 clear hKx hXb hall
 have hNS : N ≠ S ∧ N ≠ w.heap.size ∧ N ≠ X := by
  refine ⟨by omega, by omega, fun e => ?_⟩
  have h1 := HKX3.out.el.bx
  rw [e, HXB.out] at h1
  simp at h1
 clear hkd
 have k2 : ((3 : Int) == 2) = false := rfl
 have k3 : ((3 : Int) == 1) = false := rfl
 go_upto_region 25 with fail
 have e9 : (p' : Int) + 1 = ((p' + 1 : Nat) : Int) := by push_cast; rfl
 obtain ⟨Wy, hWy⟩ : ∃ Wy, Wy = Wx.setCell ⟨S, 1, none⟩ (.int .i64 ((p' : Int) + 1)) := ⟨_, rfl⟩
 rw [← hWy]
 rw [e9] at hWy
 have hSy : StAt Wy S (.slice (some ⟨gt, 0, none⟩) xs.length jt) (p' + 1) sz' := by rw [hWy]; exact HKX3.out.st.at (p' + 1)
 have hBy : But S Wx Wy := by rw [hWy]; exact But.set S 1 Wx _
 have hNy : Wy.heap[N]? = Wx.heap[N]? := by rw [hWy]; exact heap_set_ne (by omega)
 have hXy : Wy.heap[X]? = Wx.heap[X]? := by rw [hWy]; exact heap_set_ne (by omega)
 have hRy : Wy.heap[w.heap.size]? = Wx.heap[w.heap.size]? := by rw [hWy]; exact heap_set_ne (by omega)
 have hzy : Wy.heap.size = Wx.heap.size := by rw [hWy, World.size_setCell]
 have HEy := hid (HKX3.out.el.but hBy (by omega))
 have HSy := hid hSy
 have HBy := hid hBy
 have HNy := hid hNy
 have HXy := hid hXy
 have HRy := hid hRy
 clear hWy e9 n0 n1 n2 n3 n4 nf x0 x1 x2 r0 r1 r2 r3 r4 rf a0 a1 a2 af hw8 HEL
 obtain ⟨⟨⟨n0, n1, n2, n3, n4⟩, nf⟩, ⟨x0, x1, x2⟩, ⟨r0, r1, r2, r3, r4⟩, rf⟩ := HALL.out Wy hNy hXy hRy
 obtain ⟨a0, a1, a2, af⟩ := hSy.cells
 have HEL := hid (fun (m : Nat) (hm : n.ks.length = m + 1) => HEy.out.last hm)
 clear hSy hBy hNy hXy hRy
 have k5 : (bs xt).toList.isEmpty = false := by
  rw [bs_tl]
  cases xt with
  | nil => exact absurd rfl HXT0.out
  | cons _ _ => rfl
 obtain ⟨gk, capk, kk0, hvk, hgl9, hck, hBg, hgw, hcap⟩ := HEL.out mm HMM.out
 obtain rfl : kk = kk0 := Option.some.inj (HGK.out.symm.trans hgl9)
 simp only [Value.slice.injEq] at hvk
 obtain ⟨rfl, hq9, rfl⟩ := hvk
 clear hq9
 have hmi : (mm : Int) < ((mm + 1 : Nat) : Int) := by omega
 have hm0 : (0 : Int) ≤ (mm : Int) := by omega
 have e9m : ((n.ks.length : Nat) : Int) - 1 = (mm : Int) := by have := HMM.out; omega
 rw [e9m]
 clear e9m
 have k6 : (kk.kd == 4) = false := by simp [HKK.out]
 have HMG := hid (show (3 : Int) = 3 → lastTx n.ks = false from fun _ => by unfold lastTx; rw [HGK.out]; exact k6)
 have HXT := hid (show (3 : Int) = 3 → xt ≠ [] from fun _ => HXT0.out)
 have HK1 := hid (show (3 : Int) ≠ 1 by decide)
 have HK2 := hid (show (3 : Int) ≠ 2 by decide)
 have hw5 : IntKind.i64.wrap (3 + 1) = 3 + 1 := by decide
 rw [HMM.out] at n4 hw9
 clear hgl9
 go_upto_region 28 with fail
 clear hmi hm0 hck hcap n4
 have n4 := (HALL.out Wy HNy.out HXy.out HRy.out).1.1.2.2.2.2
 have hm8 : (sz' : Int) + 1 ≤ (120 : Int) := by omega
 go_upto_region 31 with fail
 have e7 : (sz' : Int) + 1 = ((sz' + 1 : Nat) : Int) := by push_cast; rfl
 obtain ⟨Wz, hWz⟩ : ∃ Wz, Wz = Wy.setCell ⟨S, 2, none⟩ (.int .i64 ((sz' : Int) + 1)) := ⟨_, rfl⟩
 rw [← hWz]
 rw [e7] at hWz
 have hSz : StAt Wz S (.slice (some ⟨gt, 0, none⟩) xs.length jt) (p' + 1) (sz' + 1) := by rw [hWz]; exact HSy.out.many (sz' + 1)
 have hBz : But S Wy Wz := by rw [hWz]; exact But.set S 2 Wy _
 have hNz : Wz.heap[N]? = Wx.heap[N]? := by rw [hWz]; exact (heap_set_ne (by omega)).trans HNy.out
 have hXz : Wz.heap[X]? = Wx.heap[X]? := by rw [hWz]; exact (heap_set_ne (by omega)).trans HXy.out
 have hRz : Wz.heap[w.heap.size]? = Wx.heap[w.heap.size]? := by rw [hWz]; exact (heap_set_ne (by omega)).trans HRy.out
 have hBz2 : w.heap.size + 2 ≤ Wz.heap.size := by rw [hWz, World.size_setCell, hzy]; exact HKX3.out.hs
 have HEz := hid (HEy.out.but hBz (by omega))
 have HSz := hid hSz
 have HBz := hid hBz
 have HRz := hid hRz
 clear hWz e7 n0 n1 n2 n3 n4 nf x0 x1 x2 r0 r1 r2 r3 r4 rf a0 a1 a2 af HEL
 obtain ⟨⟨⟨n0, n1, n2, n3, n4⟩, nf⟩, ⟨x0, x1, x2⟩, _, _⟩ := HALL.out Wz hNz hXz hRz
 have HF4 := hid (fun (w5 : World) (h5 : w5.heap[N]? = Wz.heap[N]?) => (show w5.cell? ⟨N, 4, none⟩ = some _ ∧ w5.frozen? ⟨N, 4, none⟩ = false from ⟨(cell_of_block h5 4).trans n4, (frozen_of_block h5 4).trans (nf 4)⟩))
 have hl4 : n.ks.length ≤ 100000 := by omega
 have hIA := at_leaf HKX3.out.ia hpl' (by rw [HKX2.out]; exact HK1.out) (by rw [HKX2.out]; exact HK2.out) (by rw [HKX2.out]; exact HXT.out) (by rw [HKX2.out]; exact HMG.out) hmany0
 rw [HKX2.out] at hIA
 have HIA := hid hIA
 clear hSz hBz hNz hXz hRz hIA
 go_wp2_with (with_reducible refine wpList_pushLf rfl (.tmp 180) (.tmp 189) rfl _ xn xt HEz.out rfl rfl hBz2 hl4 ?_)
 intro g cap w5 hN5 hEl5 hb5
 obtain ⟨f0, f1⟩ := HF4.out w5 hN5
 have HK9 := hid (show InsK w xs S (.slice (some ⟨gt, 0, none⟩) xs.length jt) p deep sz N (p' + 1) (sz' + 1) _ _ _ _ from
  {st := HSz.out.block ((heap_set_ne (by omega)).trans (hb5.block S (by omega)))
   el := hEl5
   ia := HIA.out
   sl := by omega
   lt := by omega
   le := by omega
   bt := ((HKX3.out.bt.trans HBy.out).trans HBz.out).low rfl hSl2 ((hb5.mono (by omega)).setCell (p := ⟨N, 4, none⟩) (by show w.heap.size ≤ N; omega) _)
   rs := (heap_set_ne (by omega)).trans ((hb5.block _ (by omega)).trans (HRz.out.trans HKX3.out.rs))
   hs := by rw [World.size_setCell]; have := hb5.size; omega
   kd := HKX3.out.kd
   tx := HKX3.out.tx
   kl := by have := HKX3.out.kl; show (n.ks ++ [_]).length ≤ p' + 1; rw [List.length_append, List.length_singleton]; omega
   kt := fun kid hkid => by
    rcases List.mem_append.1 hkid with h | h
    ·have := HKX3.out.kt kid h; omega
    ·rw [List.mem_singleton] at h; rw [h]; have : xt.length ≤ 16000 := HXOK.out.tl; show xt.length ≤ _; omega })
 clear hN5 hEl5 hb5
 go_wp2_with fail
 refine ⟨?_, by rw [HLF.out, leftS_of HK9.out.st]; omega⟩
 exact InsWI.mk HK9.out
end Char
end Go.Proofs.YtlmodgnkmlbjhaaGreatDoor
