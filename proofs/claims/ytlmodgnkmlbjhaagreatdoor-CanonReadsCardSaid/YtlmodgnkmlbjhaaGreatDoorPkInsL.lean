import Derived.Test.YtlmodgnkmlbjhaaGreatDoorPkIncB
import Derived.Test.YtlmodgnkmlbjhaaGreatDoorPkIncA
import Derived.Test.YtlmodgnkmlbjhaaGreatDoorPkIncC
import Derived.Test.YtlmodgnkmlbjhaaGreatDoorPkIncD
import Derived.Test.YtlmodgnkmlbjhaaGreatDoorPkRef
import Derived.Test.YtlmodgnkmlbjhaaGreatDoorPkScan
import Derived.Test.YtlmodgnkmlbjhaaGreatDoorPkNm
namespace Go.Proofs.YtlmodgnkmlbjhaaGreatDoor
set_option maxHeartbeats 16000000
set_option maxRecDepth 1000000
namespace Char
open Go.RowKit Go.Lib
theorem inc_round {w : World} {xs : List TkV} {S gt jt p deep sz N : Nat} (hSl2 : S < w.heap.size) (hxl : xs.length ≤ 4000) (hd11 : deep < 12) (hok : ∀ x, x ∈ xs → TkOk x.1) (hT : TkOn w S (.slice (some ⟨gt, 0, none⟩) xs.length jt) xs)
  (hih : ∀ W q sq, TkOn W S (.slice (some ⟨gt, 0, none⟩) xs.length jt) xs → StAt W S (.slice (some ⟨gt, 0, none⟩) xs.length jt) q sq → (hq : q < xs.length) → xs[q].1.kd = 1 → sq ≤ 120 → Calls Tryz.prog 33 #[.pointer (some ⟨S, 0, none⟩), .int .i64 ((deep + 1 : Nat) : Int)] W (InsPost xs S (.slice (some ⟨gt, 0, none⟩) xs.length jt) q (deep + 1) sq W)) (c2 c3 c6 Aa Ab Ac Ad Ae Af Ag Ah Ai Aj Ak Al Am Ao Ap Aq Ar As Au Av Aw Ax Ay Az Ba Bb Bc Bd Be Bf Bg Bh Bi Bj Bk Bl Bm Bn Bo Bp Bq Br Bs Bt Bu Bv Bw Bx : Value) (Q0 : Exit → Act → World → Prop) (hret : ∀ a' w', bodyPost Tryz.prog Tryz.f33 (InsPost xs S (.slice (some ⟨gt, 0, none⟩) xs.length jt) p deep sz w) .ret a' w' → Q0 .ret a' w') (hexit : ∀ a' w', InsWX w xs S (.slice (some ⟨gt, 0, none⟩) xs.length jt) p deep sz N c2 c3 c6 Aa Ab Ac Ad Ae Af Ag Ah Ai Aj Ak Al Am Ao Ap Aq Ar As Au Av Aw Ax Ay Az Ba Bb Bc Bd Be Bf Bg Bh Bi Bj Bk Bl Bm Bn Bo Bp Bq Br Bs Bt Bu Bv Bw Bx a' w' → Q0 (.exit 0) a' w') (a : Act) (wr : World) (hI : InsWI w xs S (.slice (some ⟨gt, 0, none⟩) xs.length jt) p deep sz N c2 c3 c6 Aa Ab Ac Ad Ae Af Ag Ah Ai Aj Ak Al Am Ao Ap Aq Ar As Au Av Aw Ax Ay Az Ba Bb Bc Bd Be Bf Bg Bh Bi Bj Bk Bl Bm Bn Bo Bp Bq Br Bs Bt Bu Bv Bw Bx a wr) :
  Code.wp Tryz.prog insBody (Exit.then (fun a' w'' => InsWI w xs S (.slice (some ⟨gt, 0, none⟩) xs.length jt) p deep sz N c2 c3 c6 Aa Ab Ac Ad Ae Af Ag Ah Ai Aj Ak Al Am Ao Ap Aq Ar As Au Av Aw Ax Ay Az Ba Bb Bc Bd Be Bf Bg Bh Bi Bj Bk Bl Bm Bn Bo Bp Bq Br Bs Bt Bu Bv Bw Bx a' w'' ∧ leftS S xs.length w'' < leftS S xs.length wr) Q0) a wr := by
 unfold InsWI at hI
 obtain ⟨u5, u8, u9, By, Bz, Ca, Cb, Cc, Cd, Ce, Cf, Cg, Ch, Ci, Cj, Ck, Cl, Cm, Cn, Co, Cp, Cq, Cr, Cs, Ct, Cu, Cv, Cw, Cx, Cy, Cz, Da, Db, Dc, Dd, De, Df, Dg, Dh, Di, Dj, Dk, Dl, Dm, Dn, Dp, Dq, Dr, Ds, Dt, Du, Dv, Dw, Dx, Dy, Dz, Ea, Eb, Ec, Ed, Ee, Ef, Eg, Eh, Ei, Ej, Ek, Em, En, Eo, Ep, Er, Es, Et, Eu, Ev, Ew, Ex, Ey, Ez, Fa, Fb, Fc, Fd, Fe, Ff, Fg, Fh, Fi, Fj, Fk, Fl, Fm, Fn, Fo, Fp, Fq, Fr, Fs, Ft, Fu, Fv, Fw, Fx, Fy, Fz, Ga, Gb, Gc, Gd, Ge, Gf, Gg, Gh, Gi, Gj, Gk, Gl, Gm, Gn, Gp, Gq, Gr, Gs, Gt, Gu, Gv, Gw, Gx, Gy, Gz, Ha, Hb, Hc, Hd, He, Hf, Hg, hI⟩ := hI
 obtain ⟨⟨p', sz', va, vk, n, hK⟩, rfl⟩ := hI
 have hEl := hK.el.lo
 have hNl : N ≠ w.heap.size ∧ N ≠ S := by omega
 by_cases hlt : p' < xs.length
 ·have hmem := hok _ (List.getElem_mem hlt)
  by_cases k1 : xs[p'].1.kd = 1
  ·exact inc_kid hSl2 hxl hd11 hok hT hNl hEl hK hlt k1 hih Q0 hret u5 u8 u9 By Bz Ca Cb Cc Cd Ce Cf Cg Ch Ci Cj Ck Cl Cm Cn Co Cp Cq Cr Cs Ct Cu Cv Cw Cx Cy Cz Da Db Dc Dd De Df Dg Dh Di Dj Dk Dl Dm Dn Dp Dq Dr Ds Dt Du Dv Dw Dx Dy Dz Ea Eb Ec Ed Ee Ef Eg Eh Ei Ej Ek Em En Eo Ep Er Es Et Eu Ev Ew Ex Ey Ez Fa Fb Fc Fd Fe Ff Fg Fh Fi Fj Fk Fl Fm Fn Fo Fp Fq Fr Fs Ft Fu Fv Fw Fx Fy Fz Ga Gb Gc Gd Ge Gf Gg Gh Gi Gj Gk Gl Gm Gn Gp Gq Gr Gs Gt Gu Gv Gw Gx Gy Gz Ha Hb Hc Hd He Hf Hg c2 c3 c6 Aa Ab Ac Ad Ae Af Ag Ah Ai Aj Ak Al Am Ao Ap Aq Ar As Au Av Aw Ax Ay Az Ba Bb Bc Bd Be Bf Bg Bh Bi Bj Bk Bl Bm Bn Bo Bp Bq Br Bs Bt Bu Bv Bw Bx
  by_cases k2 : xs[p'].1.kd = 2
  ·by_cases hnm : xs[p'].1.nm = n.nm
   ·exact inc_fin hSl2 hxl hd11 hok hT hNl hEl hK hlt k2 hnm Q0 hret u5 u8 u9 By Bz Ca Cb Cc Cd Ce Cf Cg Ch Ci Cj Ck Cl Cm Cn Co Cp Cq Cr Cs Ct Cu Cv Cw Cx Cy Cz Da Db Dc Dd De Df Dg Dh Di Dj Dk Dl Dm Dn Dp Dq Dr Ds Dt Du Dv Dw Dx Dy Dz Ea Eb Ec Ed Ee Ef Eg Eh Ei Ej Ek Em En Eo Ep Er Es Et Eu Ev Ew Ex Ey Ez Fa Fb Fc Fd Fe Ff Fg Fh Fi Fj Fk Fl Fm Fn Fo Fp Fq Fr Fs Ft Fu Fv Fw Fx Fy Fz Ga Gb Gc Gd Ge Gf Gg Gh Gi Gj Gk Gl Gm Gn Gp Gq Gr Gs Gt Gu Gv Gw Gx Gy Gz Ha Hb Hc Hd He Hf Hg c2 c3 c6 Aa Ab Ac Ad Ae Af Ag Ah Ai Aj Ak Al Am Ao Ap Aq Ar As Au Av Aw Ax Ay Az Ba Bb Bc Bd Be Bf Bg Bh Bi Bj Bk Bl Bm Bn Bo Bp Bq Br Bs Bt Bu Bv Bw Bx
   ·exact inc_match hSl2 hxl hd11 hok hT hNl hEl hK hlt k2 hnm Q0 hret u5 u8 u9 By Bz Ca Cb Cc Cd Ce Cf Cg Ch Ci Cj Ck Cl Cm Cn Co Cp Cq Cr Cs Ct Cu Cv Cw Cx Cy Cz Da Db Dc Dd De Df Dg Dh Di Dj Dk Dl Dm Dn Dp Dq Dr Ds Dt Du Dv Dw Dx Dy Dz Ea Eb Ec Ed Ee Ef Eg Eh Ei Ej Ek Em En Eo Ep Er Es Et Eu Ev Ew Ex Ey Ez Fa Fb Fc Fd Fe Ff Fg Fh Fi Fj Fk Fl Fm Fn Fo Fp Fq Fr Fs Ft Fu Fv Fw Fx Fy Fz Ga Gb Gc Gd Ge Gf Gg Gh Gi Gj Gk Gl Gm Gn Gp Gq Gr Gs Gt Gu Gv Gw Gx Gy Gz Ha Hb Hc Hd He Hf Hg c2 c3 c6 Aa Ab Ac Ad Ae Af Ag Ah Ai Aj Ak Al Am Ao Ap Aq Ar As Au Av Aw Ax Ay Az Ba Bb Bc Bd Be Bf Bg Bh Bi Bj Bk Bl Bm Bn Bo Bp Bq Br Bs Bt Bu Bv Bw Bx
  by_cases k3 : xs[p'].1.kd = 3
  ·by_cases hxt : xs[p'].1.tx = []
   ·exact inc_empty hSl2 hxl hd11 hok hT hNl hEl hK hlt k3 hxt Q0 hret u5 u8 u9 By Bz Ca Cb Cc Cd Ce Cf Cg Ch Ci Cj Ck Cl Cm Cn Co Cp Cq Cr Cs Ct Cu Cv Cw Cx Cy Cz Da Db Dc Dd De Df Dg Dh Di Dj Dk Dl Dm Dn Dp Dq Dr Ds Dt Du Dv Dw Dx Dy Dz Ea Eb Ec Ed Ee Ef Eg Eh Ei Ej Ek Em En Eo Ep Er Es Et Eu Ev Ew Ex Ey Ez Fa Fb Fc Fd Fe Ff Fg Fh Fi Fj Fk Fl Fm Fn Fo Fp Fq Fr Fs Ft Fu Fv Fw Fx Fy Fz Ga Gb Gc Gd Ge Gf Gg Gh Gi Gj Gk Gl Gm Gn Gp Gq Gr Gs Gt Gu Gv Gw Gx Gy Gz Ha Hb Hc Hd He Hf Hg c2 c3 c6 Aa Ab Ac Ad Ae Af Ag Ah Ai Aj Ak Al Am Ao Ap Aq Ar As Au Av Aw Ax Ay Az Ba Bb Bc Bd Be Bf Bg Bh Bi Bj Bk Bl Bm Bn Bo Bp Bq Br Bs Bt Bu Bv Bw Bx
   ·by_cases hn0 : n.ks.length = 0
    ·by_cases hm : 120 < sz' + 1
     ·exact inc_leafEno hSl2 hxl hd11 hok hT hNl hEl hK hlt k3 hxt hn0 hm Q0 hret u5 u8 u9 By Bz Ca Cb Cc Cd Ce Cf Cg Ch Ci Cj Ck Cl Cm Cn Co Cp Cq Cr Cs Ct Cu Cv Cw Cx Cy Cz Da Db Dc Dd De Df Dg Dh Di Dj Dk Dl Dm Dn Dp Dq Dr Ds Dt Du Dv Dw Dx Dy Dz Ea Eb Ec Ed Ee Ef Eg Eh Ei Ej Ek Em En Eo Ep Er Es Et Eu Ev Ew Ex Ey Ez Fa Fb Fc Fd Fe Ff Fg Fh Fi Fj Fk Fl Fm Fn Fo Fp Fq Fr Fs Ft Fu Fv Fw Fx Fy Fz Ga Gb Gc Gd Ge Gf Gg Gh Gi Gj Gk Gl Gm Gn Gp Gq Gr Gs Gt Gu Gv Gw Gx Gy Gz Ha Hb Hc Hd He Hf Hg c2 c3 c6 Aa Ab Ac Ad Ae Af Ag Ah Ai Aj Ak Al Am Ao Ap Aq Ar As Au Av Aw Ax Ay Az Ba Bb Bc Bd Be Bf Bg Bh Bi Bj Bk Bl Bm Bn Bo Bp Bq Br Bs Bt Bu Bv Bw Bx
     ·exact inc_leafEok hSl2 hxl hd11 hok hT hNl hEl hK hlt k3 hxt hn0 (Nat.le_of_not_lt hm) Q0 hret u5 u8 u9 By Bz Ca Cb Cc Cd Ce Cf Cg Ch Ci Cj Ck Cl Cm Cn Co Cp Cq Cr Cs Ct Cu Cv Cw Cx Cy Cz Da Db Dc Dd De Df Dg Dh Di Dj Dk Dl Dm Dn Dp Dq Dr Ds Dt Du Dv Dw Dx Dy Dz Ea Eb Ec Ed Ee Ef Eg Eh Ei Ej Ek Em En Eo Ep Er Es Et Eu Ev Ew Ex Ey Ez Fa Fb Fc Fd Fe Ff Fg Fh Fi Fj Fk Fl Fm Fn Fo Fp Fq Fr Fs Ft Fu Fv Fw Fx Fy Fz Ga Gb Gc Gd Ge Gf Gg Gh Gi Gj Gk Gl Gm Gn Gp Gq Gr Gs Gt Gu Gv Gw Gx Gy Gz Ha Hb Hc Hd He Hf Hg c2 c3 c6 Aa Ab Ac Ad Ae Af Ag Ah Ai Aj Ak Al Am Ao Ap Aq Ar As Au Av Aw Ax Ay Az Ba Bb Bc Bd Be Bf Bg Bh Bi Bj Bk Bl Bm Bn Bo Bp Bq Br Bs Bt Bu Bv Bw Bx
    ·obtain ⟨mm, hmm⟩ : ∃ mm, n.ks.length = mm + 1 := ⟨n.ks.length - 1, by omega⟩
     obtain ⟨kk, hgk⟩ : ∃ kk, n.ks.getLast? = some kk := by
      cases hg : n.ks.getLast? with
      | none => rw [List.getLast?_eq_none_iff] at hg; rw [hg] at hmm; cases hmm
      | some kk => exact ⟨kk, rfl⟩
     by_cases h4 : kk.kd = 4
     ·exact inc_merge hSl2 hxl hd11 hok hT hNl hEl hK hlt k3 hxt hmm hgk h4 Q0 hret u5 u8 u9 By Bz Ca Cb Cc Cd Ce Cf Cg Ch Ci Cj Ck Cl Cm Cn Co Cp Cq Cr Cs Ct Cu Cv Cw Cx Cy Cz Da Db Dc Dd De Df Dg Dh Di Dj Dk Dl Dm Dn Dp Dq Dr Ds Dt Du Dv Dw Dx Dy Dz Ea Eb Ec Ed Ee Ef Eg Eh Ei Ej Ek Em En Eo Ep Er Es Et Eu Ev Ew Ex Ey Ez Fa Fb Fc Fd Fe Ff Fg Fh Fi Fj Fk Fl Fm Fn Fo Fp Fq Fr Fs Ft Fu Fv Fw Fx Fy Fz Ga Gb Gc Gd Ge Gf Gg Gh Gi Gj Gk Gl Gm Gn Gp Gq Gr Gs Gt Gu Gv Gw Gx Gy Gz Ha Hb Hc Hd He Hf Hg c2 c3 c6 Aa Ab Ac Ad Ae Af Ag Ah Ai Aj Ak Al Am Ao Ap Aq Ar As Au Av Aw Ax Ay Az Ba Bb Bc Bd Be Bf Bg Bh Bi Bj Bk Bl Bm Bn Bo Bp Bq Br Bs Bt Bu Bv Bw Bx
     ·by_cases hm : 120 < sz' + 1
      ·exact inc_leafOno hSl2 hxl hd11 hok hT hNl hEl hK hlt k3 hxt hmm hgk h4 hm Q0 hret u5 u8 u9 By Bz Ca Cb Cc Cd Ce Cf Cg Ch Ci Cj Ck Cl Cm Cn Co Cp Cq Cr Cs Ct Cu Cv Cw Cx Cy Cz Da Db Dc Dd De Df Dg Dh Di Dj Dk Dl Dm Dn Dp Dq Dr Ds Dt Du Dv Dw Dx Dy Dz Ea Eb Ec Ed Ee Ef Eg Eh Ei Ej Ek Em En Eo Ep Er Es Et Eu Ev Ew Ex Ey Ez Fa Fb Fc Fd Fe Ff Fg Fh Fi Fj Fk Fl Fm Fn Fo Fp Fq Fr Fs Ft Fu Fv Fw Fx Fy Fz Ga Gb Gc Gd Ge Gf Gg Gh Gi Gj Gk Gl Gm Gn Gp Gq Gr Gs Gt Gu Gv Gw Gx Gy Gz Ha Hb Hc Hd He Hf Hg c2 c3 c6 Aa Ab Ac Ad Ae Af Ag Ah Ai Aj Ak Al Am Ao Ap Aq Ar As Au Av Aw Ax Ay Az Ba Bb Bc Bd Be Bf Bg Bh Bi Bj Bk Bl Bm Bn Bo Bp Bq Br Bs Bt Bu Bv Bw Bx
      ·exact inc_leafOok hSl2 hxl hd11 hok hT hNl hEl hK hlt k3 hxt hmm hgk h4 (Nat.le_of_not_lt hm) Q0 hret u5 u8 u9 By Bz Ca Cb Cc Cd Ce Cf Cg Ch Ci Cj Ck Cl Cm Cn Co Cp Cq Cr Cs Ct Cu Cv Cw Cx Cy Cz Da Db Dc Dd De Df Dg Dh Di Dj Dk Dl Dm Dn Dp Dq Dr Ds Dt Du Dv Dw Dx Dy Dz Ea Eb Ec Ed Ee Ef Eg Eh Ei Ej Ek Em En Eo Ep Er Es Et Eu Ev Ew Ex Ey Ez Fa Fb Fc Fd Fe Ff Fg Fh Fi Fj Fk Fl Fm Fn Fo Fp Fq Fr Fs Ft Fu Fv Fw Fx Fy Fz Ga Gb Gc Gd Ge Gf Gg Gh Gi Gj Gk Gl Gm Gn Gp Gq Gr Gs Gt Gu Gv Gw Gx Gy Gz Ha Hb Hc Hd He Hf Hg c2 c3 c6 Aa Ab Ac Ad Ae Af Ag Ah Ai Aj Ak Al Am Ao Ap Aq Ar As Au Av Aw Ax Ay Az Ba Bb Bc Bd Be Bf Bg Bh Bi Bj Bk Bl Bm Bn Bo Bp Bq Br Bs Bt Bu Bv Bw Bx
  ·by_cases hm : 120 < sz' + 1
   ·exact inc_leafKno hSl2 hxl hd11 hok hT hNl hEl hK hlt k1 k2 k3 hm Q0 hret u5 u8 u9 By Bz Ca Cb Cc Cd Ce Cf Cg Ch Ci Cj Ck Cl Cm Cn Co Cp Cq Cr Cs Ct Cu Cv Cw Cx Cy Cz Da Db Dc Dd De Df Dg Dh Di Dj Dk Dl Dm Dn Dp Dq Dr Ds Dt Du Dv Dw Dx Dy Dz Ea Eb Ec Ed Ee Ef Eg Eh Ei Ej Ek Em En Eo Ep Er Es Et Eu Ev Ew Ex Ey Ez Fa Fb Fc Fd Fe Ff Fg Fh Fi Fj Fk Fl Fm Fn Fo Fp Fq Fr Fs Ft Fu Fv Fw Fx Fy Fz Ga Gb Gc Gd Ge Gf Gg Gh Gi Gj Gk Gl Gm Gn Gp Gq Gr Gs Gt Gu Gv Gw Gx Gy Gz Ha Hb Hc Hd He Hf Hg c2 c3 c6 Aa Ab Ac Ad Ae Af Ag Ah Ai Aj Ak Al Am Ao Ap Aq Ar As Au Av Aw Ax Ay Az Ba Bb Bc Bd Be Bf Bg Bh Bi Bj Bk Bl Bm Bn Bo Bp Bq Br Bs Bt Bu Bv Bw Bx
   ·exact inc_leafKok hSl2 hxl hd11 hok hT hNl hEl hK hlt k1 k2 k3 (Nat.le_of_not_lt hm) Q0 hret u5 u8 u9 By Bz Ca Cb Cc Cd Ce Cf Cg Ch Ci Cj Ck Cl Cm Cn Co Cp Cq Cr Cs Ct Cu Cv Cw Cx Cy Cz Da Db Dc Dd De Df Dg Dh Di Dj Dk Dl Dm Dn Dp Dq Dr Ds Dt Du Dv Dw Dx Dy Dz Ea Eb Ec Ed Ee Ef Eg Eh Ei Ej Ek Em En Eo Ep Er Es Et Eu Ev Ew Ex Ey Ez Fa Fb Fc Fd Fe Ff Fg Fh Fi Fj Fk Fl Fm Fn Fo Fp Fq Fr Fs Ft Fu Fv Fw Fx Fy Fz Ga Gb Gc Gd Ge Gf Gg Gh Gi Gj Gk Gl Gm Gn Gp Gq Gr Gs Gt Gu Gv Gw Gx Gy Gz Ha Hb Hc Hd He Hf Hg c2 c3 c6 Aa Ab Ac Ad Ae Af Ag Ah Ai Aj Ak Al Am Ao Ap Aq Ar As Au Av Aw Ax Ay Az Ba Bb Bc Bd Be Bf Bg Bh Bi Bj Bk Bl Bm Bn Bo Bp Bq Br Bs Bt Bu Bv Bw Bx
 ·exact inc_exit hSl2 hxl hd11 hok hT hNl hEl hK (Nat.le_of_not_lt hlt) c2 c3 c6 Aa Ab Ac Ad Ae Af Ag Ah Ai Aj Ak Al Am Ao Ap Aq Ar As Au Av Aw Ax Ay Az Ba Bb Bc Bd Be Bf Bg Bh Bi Bj Bk Bl Bm Bn Bo Bp Bq Br Bs Bt Bu Bv Bw Bx Q0 hret hexit u5 u8 u9 By Bz Ca Cb Cc Cd Ce Cf Cg Ch Ci Cj Ck Cl Cm Cn Co Cp Cq Cr Cs Ct Cu Cv Cw Cx Cy Cz Da Db Dc Dd De Df Dg Dh Di Dj Dk Dl Dm Dn Dp Dq Dr Ds Dt Du Dv Dw Dx Dy Dz Ea Eb Ec Ed Ee Ef Eg Eh Ei Ej Ek Em En Eo Ep Er Es Et Eu Ev Ew Ex Ey Ez Fa Fb Fc Fd Fe Ff Fg Fh Fi Fj Fk Fl Fm Fn Fo Fp Fq Fr Fs Ft Fu Fv Fw Fx Fy Fz Ga Gb Gc Gd Ge Gf Gg Gh Gi Gj Gk Gl Gm Gn Gp Gq Gr Gs Gt Gu Gv Gw Gx Gy Gz Ha Hb Hc Hd He Hf Hg
theorem inc_loop {w wr : World} {xs : List TkV} {S gt jt p deep sz N p' sz' : Nat} {va vk : Value} {n : Tr} (hSl2 : S < w.heap.size) (hxl : xs.length ≤ 4000) (hd11 : deep < 12) (hok : ∀ x, x ∈ xs → TkOk x.1) (hT : TkOn w S (.slice (some ⟨gt, 0, none⟩) xs.length jt) xs)
  (hih : ∀ W q sq, TkOn W S (.slice (some ⟨gt, 0, none⟩) xs.length jt) xs → StAt W S (.slice (some ⟨gt, 0, none⟩) xs.length jt) q sq → (hq : q < xs.length) → xs[q].1.kd = 1 → sq ≤ 120 → Calls Tryz.prog 33 #[.pointer (some ⟨S, 0, none⟩), .int .i64 ((deep + 1 : Nat) : Int)] W (InsPost xs S (.slice (some ⟨gt, 0, none⟩) xs.length jt) q (deep + 1) sq W)) (hK : InsK w xs S (.slice (some ⟨gt, 0, none⟩) xs.length jt) p deep sz N p' sz' va vk n wr) (u5 u8 u9 By Bz Ca Cb Cc Cd Ce Cf Cg Ch Ci Cj Ck Cl Cm Cn Co Cp Cq Cr Cs Ct Cu Cv Cw Cx Cy Cz Da Db Dc Dd De Df Dg Dh Di Dj Dk Dl Dm Dn Dp Dq Dr Ds Dt Du Dv Dw Dx Dy Dz Ea Eb Ec Ed Ee Ef Eg Eh Ei Ej Ek Em En Eo Ep Er Es Et Eu Ev Ew Ex Ey Ez Fa Fb Fc Fd Fe Ff Fg Fh Fi Fj Fk Fl Fm Fn Fo Fp Fq Fr Fs Ft Fu Fv Fw Fx Fy Fz Ga Gb Gc Gd Ge Gf Gg Gh Gi Gj Gk Gl Gm Gn Gp Gq Gr Gs Gt Gu Gv Gw Gx Gy Gz Ha Hb Hc Hd He Hf Hg c2 c3 c6 Aa Ab Ac Ad Ae Af Ag Ah Ai Aj Ak Al Am Ao Ap Aq Ar As Au Av Aw Ax Ay Az Ba Bb Bc Bd Be Bf Bg Bh Bi Bj Bk Bl Bm Bn Bo Bp Bq Br Bs Bt Bu Bv Bw Bx : Value) (Q0 : Exit → Act → World → Prop) (hret : ∀ a' w', bodyPost Tryz.prog Tryz.f33 (InsPost xs S (.slice (some ⟨gt, 0, none⟩) xs.length jt) p deep sz w) .ret a' w' → Q0 .ret a' w') (hexit : ∀ a' w', InsWX w xs S (.slice (some ⟨gt, 0, none⟩) xs.length jt) p deep sz N c2 c3 c6 Aa Ab Ac Ad Ae Af Ag Ah Ai Aj Ak Al Am Ao Ap Aq Ar As Au Av Aw Ax Ay Az Ba Bb Bc Bd Be Bf Bg Bh Bi Bj Bk Bl Bm Bn Bo Bp Bq Br Bs Bt Bu Bv Bw Bx a' w' → Q0 (.exit 0) a' w') :
  Code.wp Tryz.prog (Code.loop insBody) Q0 ⟨#[.pointer (some ⟨S, 0, none⟩), .int .i64 (deep : Int), c2, c3, .pointer (some ⟨w.heap.size, 0, none⟩), u5, c6, .pointer (some ⟨N, 0, none⟩), u8, u9, By, Bz, Aa, Ab, Ac, Ad, Ae, Af, Ag, Ah, Ai, Aj, Ak, Al, Am, Ao, Ap, Aq, Ar, As, Au, Av, Aw, Ax, Ay, Az, Ba, Bb, Bc, Bd, Be, Bf, Bg, Bh, Bi, Bj, Bk, Bl, Bm, Bn, Bo, Bp, Bq, Br, Bs, Bt, Bu, Bv, Bw, Ca, Cb, Cc, Cd, Ce, Cf, Cg, Ch, Ci, Cj, Ck, Cl, Cm, Cn, Co, Cp, Cq, Cr, Cs, Ct, Cu, Cv, Cw, Cx, Cy, Cz, Da, Db, Dc, Dd, De, Df, Dg, Dh, Di, Dj, Dk, Dl, Dm, Dn, Dp, Dq, Dr, Ds, Dt, Du, Dv, Dw, Dx, Dy, Dz, Ea, Eb, Ec, Ed, Ee, Ef, Eg, Eh, Ei, Ej, Ek, Em, En, Eo, Ep, Er, Es, Et, Eu, Ev, Ew, Ex, Ey, Ez, Fa, Fb, Fc, Fd, Fe, Ff, Fg, Fh, Fi, Fj, Fk, Fl, Fm, Fn, Fo, Fp, Fq, Fr, Fs, Ft, Fu, Fv, Fw, Fx, Fy, Fz, Ga, Gb, Gc, Gd, Ge, Gf, Gg, Gh, Gi, Gj, Gk, Gl, Gm, Gn, Gp, Gq, Gr, Gs, Gt, Gu, Gv, Gw, Gx, Gy, Gz, Ha, Hb, Hc, Hd, He, Hf, Hg, Bx], []⟩ wr := by
 refine wp_loop (InsWI w xs S (.slice (some ⟨gt, 0, none⟩) xs.length jt) p deep sz N c2 c3 c6 Aa Ab Ac Ad Ae Af Ag Ah Ai Aj Ak Al Am Ao Ap Aq Ar As Au Av Aw Ax Ay Az Ba Bb Bc Bd Be Bf Bg Bh Bi Bj Bk Bl Bm Bn Bo Bp Bq Br Bs Bt Bu Bv Bw Bx) (fun _ w'' => leftS S xs.length w'') ?_ (fun a w'' hI => inc_round hSl2 hxl hd11 hok hT hih c2 c3 c6 Aa Ab Ac Ad Ae Af Ag Ah Ai Aj Ak Al Am Ao Ap Aq Ar As Au Av Aw Ax Ay Az Ba Bb Bc Bd Be Bf Bg Bh Bi Bj Bk Bl Bm Bn Bo Bp Bq Br Bs Bt Bu Bv Bw Bx Q0 hret hexit a w'' hI)
 exact InsWI.mk hK
end Char
namespace Char
open Go.RowKit Go.Lib
theorem inside_any (xs : List TkV) (hok : ∀ x, x ∈ xs → TkOk x.1) (hxl : xs.length ≤ 4000) : ∀ (f deep : Nat) (w : World) (S : Nat) (tv : Value) (p sz : Nat), 12 - deep < f → deep ≤ 12 → TkOn w S tv xs → StAt w S tv p sz → (hp : p < xs.length) → xs[p].1.kd = 1 → sz ≤ 120 →
    Calls Tryz.prog 33 #[.pointer (some ⟨S, 0, none⟩), .int .i64 (deep : Int)] w (InsPost xs S tv p deep sz w) := by
  intro f
  induction f with
  | zero => intro deep w S tv p sz hf; omega
  | succ f ih =>
    intro deep w S tv p sz hf hd hT hS hp hk1 hz
    have hpl : p < (xs.map (·.1)).length := by simpa using hp
    have hkm : ((xs.map (fun x : TkV => x.1))[p]'hpl).kd = 1 := by simpa using hk1
    have hSl : S < w.heap.size := block_of_heap hS
    have hT0 := hT
    obtain ⟨ot, jt, rfl, htk⟩ := hT
    obtain ⟨gt, rfl, hgS, ⟨t0, t1, t2, t3, t4⟩, hat⟩ := htk p hp
    have htok := hok _ (List.getElem_mem hp)
    obtain ⟨s0, s1, s2, sf⟩ := hS.cells
    have hp' : (p : Int) < (xs.length : Int) := by omega
    go_enter Tryz.func33, Tryz.ntmps33
    go_wp2_with fail
    obtain ⟨W0, hW0⟩ : ∃ W0, W0 = w.alloc (.cells #[.int .i64 0, .string ⟨#[]⟩, .string ⟨#[]⟩, .slice none 0 0, .slice none 0 0] 25) := ⟨_, rfl⟩
    rw [← hW0]
    have hb0 : Below w.heap.size w W0 := by rw [hW0]; exact (Below.refl _ _).alloc (Nat.le_refl _) _
    have hz0 : W0.heap.size = w.heap.size + 1 := by rw [hW0]; simp
    have hgl : gt < w.heap.size := cell_lt t0
    have hkS := hb0.block S hSl
    have hkT := hb0.block gt hgl
    have a0 := (cell_of_block hkS 0).trans s0
    have a1 := (cell_of_block hkS 1).trans s1
    have a2 := (cell_of_block hkS 2).trans s2
    have b0 := (cell_of_block hkT (p * 5)).trans t0
    have b1 := (cell_of_block hkT (p * 5 + 1)).trans t1
    have b2 := (cell_of_block hkT (p * 5 + 2)).trans t2
    have b3 := (cell_of_block hkT (p * 5 + 3)).trans t3
    have b4 := (cell_of_block hkT (p * 5 + 4)).trans t4
    have hSl0 : S < W0.heap.size := by omega
    have hgl0 : gt < W0.heap.size := by omega
    have HW0 := hid hW0
    have HB0 := hid hb0
    have HT := hid hT0
    have HST := hid hS
    have HIH := hid ih
    have HKM := hid hkm
    have HAT := hid hat
    have HOK := hid hok
    have hp0 : (0 : Int) ≤ (p : Int) := by omega
    clear hW0 hb0 hkS hkT s0 s1 s2 sf t0 t1 t2 t3 t4 htk hT0 hS ih hkm hat hok
    generalize hx : xs[p] = x at *
    obtain ⟨⟨tk, tn, tt, tq, te⟩, tv⟩ := x
    dsimp only at b0 b1 b2 b3 b4 hk1
    obtain ⟨oa, ja, rfl⟩ : ∃ o j, tv = .slice o tq.length j := HAT.out.form
    subst hk1
    have HKX := hid (show (xs.map (fun x : TkV => x.1))[p]'hpl = ⟨1, tn, tt, tq, te⟩ by simp [hx])
    clear hx
    go_region
    obtain ⟨W1, hW1⟩ : ∃ W1, W1 = (W0.alloc (.cells #[.int .i64 1, .string (bs tn), .string (bs tt), .slice oa tq.length ja, .bool te] 72)).drew := ⟨_, rfl⟩
    rw [← hW1]
    have hb1 : Below W0.heap.size W0 W1 := by rw [hW1]; exact ((Below.refl _ _).alloc (Nat.le_refl _) _).drew
    have hz1 : W1.heap.size = w.heap.size + 2 := by rw [hW1, World.drew, World.size_alloc]; omega
    have hR1 : W1.heap[w.heap.size]? = some (.cells #[.int .i64 0, .string ⟨#[]⟩, .string ⟨#[]⟩, .slice none 0 0, .slice none 0 0] 25 (0, 0)) := by
      rw [hb1.block _ (by omega), HW0.out]
      exact World.alloc_heap_new w _
    have hT1 : W1.heap[w.heap.size + 1]? = some (.cells #[.int .i64 1, .string (bs tn), .string (bs tt), .slice oa tq.length ja, .bool te] 72 (0, 0)) := by
      rw [hW1, ← hz0]
      exact World.alloc_heap_new W0 _
    clear hW1 a0 a1 a2 b0 b1 b2 b3 b4
    have hbb : Below w.heap.size w W1 := HB0.out.trans (hb1.mono (by omega))
    have HBB := hid hbb
    have HS1 := hid (HST.out.below hbb)
    have HR1 := hid hR1
    have HT1 := hid hT1
    have hcl : ∀ W : World, W.heap[w.heap.size]? = W1.heap[w.heap.size]? → W.heap[w.heap.size + 1]? = W1.heap[w.heap.size + 1]? →
        (W.cell? ⟨w.heap.size, 0, none⟩ = some (.int .i64 0) ∧ W.cell? ⟨w.heap.size, 1, none⟩ = some (.string ⟨#[]⟩) ∧ W.cell? ⟨w.heap.size, 2, none⟩ = some (.string ⟨#[]⟩) ∧ W.cell? ⟨w.heap.size, 3, none⟩ = some (.slice none 0 0) ∧ W.cell? ⟨w.heap.size, 4, none⟩ = some (.slice none 0 0)) ∧ (∀ i, W.frozen? ⟨w.heap.size, i, none⟩ = false) ∧
        W.cell? ⟨w.heap.size + 1, 1, none⟩ = some (.string (bs tn)) ∧ W.cell? ⟨w.heap.size + 1, 3, none⟩ = some (.slice oa tq.length ja) ∧ W.cell? ⟨w.heap.size + 1, 4, none⟩ = some (.bool te) := fun W q1 q2 => by
      have e1 := q1.trans hR1
      have e2 := q2.trans hT1
      exact ⟨⟨by simp [World.cell?, e1], by simp [World.cell?, e1], by simp [World.cell?, e1], by simp [World.cell?, e1], by simp [World.cell?, e1]⟩, fun i => by simp [World.frozen?, e1], by simp [World.cell?, e2], by simp [World.cell?, e2], by simp [World.cell?, e2]⟩
    have HCL := hid hcl
    obtain ⟨a0, a1, a2, af⟩ := HS1.out.cells
    obtain ⟨⟨r0, r1, r2, r3, r4⟩, rf, d1, d3, d4⟩ := hcl W1 rfl rfl
    clear hb1 hR1 hT1 hbb hcl
    by_cases hd12 : deep = 12
    · subst hd12
      go_wp2_with fail
      refine end_nd2 Tryz.results33 _ w.heap.size (kd := 0) (n := ⟨#[]⟩) (t := ⟨#[]⟩) (va := .slice none 0 0) (vk := .slice none 0 0) ⟨_, _, _, rfl⟩ ⟨_, _, _, rfl⟩ ⟨by go_simp, by go_simp, by go_simp, by go_simp, by go_simp⟩ rfl rfl rfl ?_
      refine InsPost.no 18 (by decide) (But.of ?_ hSl) (ins_deep hpl HKM.out)
      exact (set5 HBB.out (Nat.le_refl _))
    have hd11 : deep < 12 := by omega
    have hql : tq.length ≤ 12 := htok.al
    have hw1 : IntKind.i64.wrap ((sz : Int) + 1) = (sz : Int) + 1 := IntWalk.i64_in _ (by omega)
    have hw2 : IntKind.i64.wrap ((sz : Int) + 1 + (tq.length : Int)) = ((sz + 1 + tq.length : Nat) : Int) := by rw [IntWalk.i64_in _ (by omega)]; push_cast; rfl
    go_wp2_with fail
    go_region
    clear hw1 hw2
    obtain ⟨m, hm⟩ : ∃ m, m = sz + 1 + tq.length := ⟨_, rfl⟩
    have e2 : (sz : Int) + 1 + (tq.length : Int) = (m : Int) := by omega
    rw [e2]
    obtain ⟨W2, hW2⟩ : ∃ W2, W2 = (W1.setCell ⟨S, 2, none⟩ (.int .i64 (m : Int))).drew := ⟨_, rfl⟩
    rw [← hW2]
    have hS2 : StAt W2 S (.slice (some ⟨gt, 0, none⟩) xs.length jt) p m := by rw [hW2]; exact HS1.out.many m
    have hR2 : W2.heap[w.heap.size]? = W1.heap[w.heap.size]? := by rw [hW2]; exact heap_set_ne (by omega)
    have hT2 : W2.heap[w.heap.size + 1]? = W1.heap[w.heap.size + 1]? := by rw [hW2]; exact heap_set_ne (by omega)
    have hB2 : But S w W2 := by rw [hW2]; exact ((But.of HBB.out hSl).trans (But.set S 2 W1 _)).drew
    have hz2 : W2.heap.size = w.heap.size + 2 := by rw [hW2, World.drew, World.size_setCell]; exact hz1
    have HM := hid hm
    have HS2 := hid hS2
    have HB2 := hid hB2
    have HR2 := hid hR2
    have HT2 := hid hT2
    clear a0 a1 a2 af r0 r1 r2 r3 r4 rf d1 d3 d4 e2 hm hW2
    obtain ⟨a0, a1, a2, af⟩ := hS2.cells
    obtain ⟨⟨r0, r1, r2, r3, r4⟩, rf, d1, d3, d4⟩ := HCL.out W2 hR2 hT2
    clear hS2 hR2 hT2 hB2
    by_cases hm120 : 120 < m
    · have hm2 : (120 : Int) < (m : Int) := by omega
      go_wp2_with fail
      refine end_nd2 Tryz.results33 _ w.heap.size (kd := 0) (n := ⟨#[]⟩) (t := ⟨#[]⟩) (va := .slice none 0 0) (vk := .slice none 0 0) ⟨_, _, _, rfl⟩ ⟨_, _, _, rfl⟩ ⟨by go_simp, by go_simp, by go_simp, by go_simp, by go_simp⟩ rfl rfl rfl ?_
      refine InsPost.no 19 (by decide) (HB2.out.low rfl hSl ?_) (ins_many hpl HKM.out hd11 (by rw [HKX.out]; show 120 < sz + 1 + tq.length; have := HM.out; omega))
      exact (set5 (Below.refl w.heap.size W2) (Nat.le_refl _))
    have hm2 : (m : Int) ≤ (120 : Int) := by omega
    have hso : ∀ W, Below W2.heap.size W2 W → Calls Tryz.prog 67 #[.slice oa tq.length ja] W (SoPost tq W) := fun W hW =>
      sorted_any tq oa ja (fun _ => True) W (AtsOn.move (w := w) (w' := W) (fun b hb hF => ⟨trivial, (hW.block b (by omega)).trans (HB2.out.2 b hb hF)⟩) HAT.out) (by omega)
    have HSO := hid hso
    have hkt : ∀ W, Below W2.heap.size W2 W → W.cell? ⟨w.heap.size + 1, 1, none⟩ = some (.string (bs tn)) ∧ W.cell? ⟨w.heap.size + 1, 3, none⟩ = some (.slice oa tq.length ja) := fun W hW => by
      have := HCL.out W ((hW.block _ (by omega)).trans HR2.out) ((hW.block _ (by omega)).trans HT2.out)
      exact ⟨this.2.2.1, this.2.2.2.1⟩
    have HKT := hid hkt
    have hnc : ∀ W3, Below (W2.alloc (.cells #[.int .i64 0, .string ⟨#[]⟩, .string ⟨#[]⟩, .slice none 0 0, .slice none 0 0] 25)).drew.heap.size (W2.alloc (.cells #[.int .i64 0, .string ⟨#[]⟩, .string ⟨#[]⟩, .slice none 0 0, .slice none 0 0] 25)).drew W3 →
        Below W2.heap.size W2 W3 ∧ w.heap.size + 2 < W3.heap.size ∧ W3.heap[w.heap.size + 2]? = some (.cells #[.int .i64 0, .string ⟨#[]⟩, .string ⟨#[]⟩, .slice none 0 0, .slice none 0 0] 25 (0, 0)) := fun W3 h3 => by
      have hsz : (W2.alloc (.cells #[.int .i64 0, .string ⟨#[]⟩, .string ⟨#[]⟩, .slice none 0 0, .slice none 0 0] 25)).drew.heap.size = w.heap.size + 3 := by show (W2.alloc _).heap.size = _; rw [World.size_alloc]; omega
      have h4 := h3.size
      refine ⟨((Below.refl W2.heap.size W2).alloc (Nat.le_refl _) _).drew.trans (h3.mono (by omega)), by omega, ?_⟩
      rw [h3.block _ (by omega), ← hz2]
      exact World.alloc_heap_new W2 _
    have HNC := hid hnc
    have HBD := hid (show Below W2.heap.size W2 (W2.alloc (.cells #[.int .i64 0, .string ⟨#[]⟩, .string ⟨#[]⟩, .slice none 0 0, .slice none 0 0] 25)).drew from ((Below.refl _ _).alloc (Nat.le_refl _) _).drew)
    clear hso hkt hnc
    go_upto_region 7 with fail
    go_cut [7] (fun s7 wx => ∃ (N : Nat) (va : Value), s7 = .pointer (some ⟨N, 0, none⟩) ∧ Hid (El (w.heap.size + 2) wx N va (.slice none 0 0) (beginT ⟨1, tn, tt, tq, te⟩) ∧ Below W2.heap.size W2 wx))
    case first =>
      go_region_held3 (fun W => W.cell? ⟨w.heap.size + 1, 1, none⟩ = some (.string (bs tn)) ∧ W.cell? ⟨w.heap.size + 1, 3, none⟩ = some (.slice oa tq.length ja))
        (first | (with_reducible exact HKT.out W2.drew (Below.refl _ _).drew) | (with_reducible exact HKT.out _ HBD.out) | (with_reducible exact ⟨by assumption, by assumption⟩) | (refine ⟨?_, ?_⟩ <;> go_simp))
        ((go_at_call 67
          first
            | ((with_reducible refine (HSO.out W2.drew (Below.refl _ _).drew).mono ?_)
               rintro e w3 ⟨o3, i3, j3, rfl, ho3, hb3⟩
               have hk3 := HKT.out w3 ((Below.refl W2.heap.size W2).drew.trans hb3)
               obtain ⟨k1, k3⟩ := hk3
               have hs3 : w.heap.size + 2 ≤ w3.heap.size := by rw [← hz2]; exact hb3.size
               have hs4 : w.heap.size + 1 < w3.heap.size := by omega)
            | ((with_reducible refine (HSO.out _ HBD.out).mono ?_)
               rintro e w3 ⟨o3, i3, j3, rfl, ho3, hb3⟩
               obtain ⟨hb4, hs4, hn3⟩ := HNC.out w3 hb3
               obtain ⟨k1, k3⟩ := HKT.out w3 hb4
               have n0 : w3.cell? ⟨w.heap.size + 2, 0, none⟩ = some (.int .i64 0) := by simp [World.cell?, hn3]
               have n1 : w3.cell? ⟨w.heap.size + 2, 1, none⟩ = some (.string ⟨#[]⟩) := by simp [World.cell?, hn3]
               have n2 : w3.cell? ⟨w.heap.size + 2, 2, none⟩ = some (.string ⟨#[]⟩) := by simp [World.cell?, hn3]
               have n3 : w3.cell? ⟨w.heap.size + 2, 3, none⟩ = some (.slice none 0 0) := by simp [World.cell?, hn3]
               have n4 : w3.cell? ⟨w.heap.size + 2, 4, none⟩ = some (.slice none 0 0) := by simp [World.cell?, hn3]
               have nf : ∀ i, w3.frozen? ⟨w.heap.size + 2, i, none⟩ = false := fun i => by simp [World.frozen?, hn3])))
      all_goals
        go_wp2_with fail
        go_meet
      · refine ⟨_, _, rfl, hid ⟨El.new (n := beginT ⟨1, tn, tt, tq, te⟩) (by omega) (ho3.on (fun g hg => Nat.le_trans (Nat.le_of_eq hz2.symm) (ho3.blkS hg).1)) rfl, ?_⟩⟩
        exact ((Below.refl W2.heap.size W2).drew.trans hb3).alloc (by omega) _
      · refine ⟨_, _, rfl, hid ⟨El.fill (n := beginT ⟨1, tn, tt, tq, te⟩) hn3 (Nat.le_refl _) (ho3.on (fun g hg => ?_)) rfl, ?_⟩⟩
        · have := (ho3.blkS hg).1
          have hsz : (W2.alloc (.cells #[.int .i64 0, .string ⟨#[]⟩, .string ⟨#[]⟩, .slice none 0 0, .slice none 0 0] 25)).drew.heap.size = w.heap.size + 3 := by show (W2.alloc _).heap.size = _; rw [World.size_alloc]; omega
          omega
        · exact (((((hb4.setCell (p := ⟨w.heap.size + 2, 0, none⟩) (Nat.le_of_eq hz2) _).setCell (p := ⟨w.heap.size + 2, 1, none⟩) (Nat.le_of_eq hz2) _).setCell (p := ⟨w.heap.size + 2, 2, none⟩) (Nat.le_of_eq hz2) _).setCell (p := ⟨w.heap.size + 2, 3, none⟩) (Nat.le_of_eq hz2) _).setCell (p := ⟨w.heap.size + 2, 4, none⟩) (Nat.le_of_eq hz2) _)
    case rest =>
      obtain ⟨N, va, rfl, hD⟩ := hcut
      obtain ⟨hE, hbW⟩ := hD.out
      have hzc : w.heap.size + 2 ≤ wc.heap.size := by rw [← hz2]; exact hbW.size
      have hSc := HS2.out.below hbW
      have hRc : wc.heap[w.heap.size]? = some (.cells #[.int .i64 0, .string ⟨#[]⟩, .string ⟨#[]⟩, .slice none 0 0, .slice none 0 0] 25 (0, 0)) := ((hbW.block _ (by omega)).trans HR2.out).trans HR1.out
      have hTc := (hbW.block (w.heap.size + 1) (by omega)).trans HT2.out
      have hRq := (hbW.block w.heap.size (by omega)).trans HR2.out
      have hBc : But S w wc := HB2.out.low rfl hSl (hbW.mono (by omega))
      obtain ⟨a0', a1', a2', af'⟩ := hSc.cells
      obtain ⟨⟨r0', r1', r2', r3', r4'⟩, rf', d1', d3', d4'⟩ := HCL.out wc hRq hTc
      have hNc := hE.cells
      have hNl : N ≠ w.heap.size ∧ N ≠ S := by have := hE.lo; omega
      have hEl := hE.lo
      obtain ⟨oa2, ja2, ok2, jk2, rfl, _⟩ := hE.form
      have hal : (beginT ⟨1, tn, tt, tq, te⟩).ats.length = tq.length := sortA_len tq
      rw [hal] at hE hNc
      have HE := hid hE
      have HSC := hid hSc
      have HBC := hid hBc
      have HRC := hid hRc
      clear hD hE hbW hSc hBc hRc hRq hTc hal a0 a1 a2 af r0 r1 r2 r3 r4 rf d1 d3 d4 HSO HKT HNC HBD HCL HS2 HB2 HR2 HT2 HS1 HR1 HT1 HBB HB0 HW0 HAT hz0 hz1 hz2 hm2
      have e0 : wc.cell? ⟨N, 0, none⟩ = some (.int .i64 2) := hNc.1
      have e1 : wc.cell? ⟨N, 1, none⟩ = some (.string (bs tn)) := hNc.2.1
      have e2 : wc.cell? ⟨N, 2, none⟩ = some (.string ⟨#[]⟩) := hNc.2.2.1
      have e3 : wc.cell? ⟨N, 3, none⟩ = some (.slice oa2 tq.length ja2) := hNc.2.2.2.1
      have e4 : wc.cell? ⟨N, 4, none⟩ = some (.slice none 0 0) := hNc.2.2.2.2
      clear hNc
      have hp1 : IntKind.i64.wrap ((p : Int) + 1) = ((p + 1 : Nat) : Int) := by rw [IntWalk.i64_in _ (by omega)]; push_cast; rfl
      have hz3 : sz + 1 + tq.length ≤ 120 := by have := HM.out; omega
      cases te with
      | true =>
        go_wp2_with fail
        refine end_nd2 Tryz.results33 _ w.heap.size (kd := 2) (n := bs tn) (t := ⟨#[]⟩) (va := .slice oa2 tq.length ja2) (vk := .slice none 0 0) ⟨_, _, _, rfl⟩ ⟨_, _, _, rfl⟩ ⟨by go_simp, by go_simp, by go_simp, by go_simp, by go_simp⟩ rfl rfl rfl ?_
        have e9 : (p : Int) + 1 = ((p + 1 : Nat) : Int) := by push_cast; rfl
        rw [e9]
        have hS1 := HSC.out.at (p + 1)
        have hB1 : But S wc (wc.setCell ⟨S, 1, none⟩ (.int .i64 ((p + 1 : Nat) : Int))) := But.set S 1 wc _
        have hio := ins_empty (ts := xs.map (fun x : TkV => x.1)) (deep := deep) (sz := sz) hpl HKM.out hd11 (by rw [HKX.out]; exact hz3) (by rw [HKX.out])
        rw [HKX.out] at hio
        refine .inr ⟨beginT ⟨1, tn, tt, tq, true⟩, .slice oa2 tq.length ja2, .slice none 0 0, p + 1, m, rfl, ?_, rfl, rfl, ?_, ?_, ?_, by omega, by omega, by omega⟩
        · refine NdOn.move (fun b _ hF => ⟨by omega, ?_⟩) _ _ _ HE.out.on
          have hne : b ≠ w.heap.size := by omega
          rw [heap_set_ne hne, heap_set_ne hne, heap_set_ne hne, heap_set_ne hne, heap_set_ne hne, heap_set_ne (by omega)]
        · refine hS1.block ?_
          have hne : S ≠ w.heap.size := by omega
          rw [heap_set_ne hne, heap_set_ne hne, heap_set_ne hne, heap_set_ne hne, heap_set_ne hne]
        · refine (HBC.out.trans hB1).low rfl hSl ?_
          exact (set5 (Below.refl w.heap.size _) (Nat.le_refl _))
        · rw [HM.out]
          exact hio
      | false =>
        go_wp2_with fail
        have HK0 := hid (show InsK w xs S (.slice (some ⟨gt, 0, none⟩) xs.length jt) p deep sz N (p + 1) m (.slice oa2 tq.length ja2) (.slice none 0 0) (beginT ⟨1, tn, tt, tq, false⟩) (wc.setCell ⟨S, 1, none⟩ (.int .i64 ((p + 1 : Nat) : Int))) from by
          have hS1 := HSC.out.at (p + 1)
          have hB1 : But S wc (wc.setCell ⟨S, 1, none⟩ (.int .i64 ((p + 1 : Nat) : Int))) := But.set S 1 wc _
          have hia := ins_open (ts := xs.map (fun x : TkV => x.1)) (deep := deep) (sz := sz) hpl HKM.out hd11 (by rw [HKX.out]; exact hz3) (by rw [HKX.out])
          rw [HKX.out] at hia
          refine ⟨hS1, HE.out.but hB1 (by omega), ?_, by have := HM.out; omega, by omega, by omega, HBC.out.trans hB1, (heap_set_ne (by omega)).trans HRC.out, by rw [World.size_setCell]; exact hzc, rfl, rfl, Nat.zero_le _, fun kid hk => by cases hk⟩
          rw [HM.out]
          exact hia)
        have e9 : (p : Int) + 1 = ((p + 1 : Nat) : Int) := by push_cast; rfl
        rw [← e9] at HK0
        obtain ⟨Wl, hWl⟩ : ∃ Wl, Wl = wc.setCell ⟨S, 1, none⟩ (.int .i64 ((p : Int) + 1)) := ⟨_, rfl⟩
        rw [← hWl] at HK0 ⊢
        clear hWl e9 hp1 a0' a1' a2' af' r0' r1' r2' r3' r4' rf' d1' d3' d4' e0 e1 e2 e3 e4 HE HSC HBC HRC hzc HM hz3 hm120
        have hih2 : ∀ W q sq, TkOn W S (.slice (some ⟨gt, 0, none⟩) xs.length jt) xs → StAt W S (.slice (some ⟨gt, 0, none⟩) xs.length jt) q sq → (hq : q < xs.length) → xs[q].1.kd = 1 → sq ≤ 120 → Calls Tryz.prog 33 #[.pointer (some ⟨S, 0, none⟩), .int .i64 ((deep + 1 : Nat) : Int)] W (InsPost xs S (.slice (some ⟨gt, 0, none⟩) xs.length jt) q (deep + 1) sq W) := fun W q sq a1 a2 a3 a4 a5 => HIH.out (deep + 1) W S _ q sq (by omega) (by omega) a1 a2 a3 a4 a5
        refine inc_loop hSl hxl hd11 HOK.out HT.out hih2 HK0.out _ _ _ _ _ _ _ _ _ _ _ _ _ _ _ _ _ _ _ _ _ _ _ _ _ _ _ _ _ _ _ _ _ _ _ _ _ _ _ _ _ _ _ _ _ _ _ _ _ _ _ _ _ _ _ _ _ _ _ _ _ _ _ _ _ _ _ _ _ _ _ _ _ _ _ _ _ _ _ _ _ _ _ _ _ _ _ _ _ _ _ _ _ _ _ _ _ _ _ _ _ _ _ _ _ _ _ _ _ _ _ _ _ _ _ _ _ _ _ _ _ _ _ _ _ _ _ _ _ _ _ _ _ _ _ _ _ _ _ _ _ _ _ _ _ _ _ _ _ _ _ _ _ _ _ _ _ _ _ _ _ _ _ _ _ _ _ _ _ _ _ _ _ _ _ _ _ _ _ _ _ _ _ _ _ _ _ _ _ _ ?_ ?_
        · intro a' w' h
          exact h
        · intro a' w' hX
          unfold InsWX at hX
          obtain ⟨u5, hX⟩ := hX
          obtain ⟨u8, hX⟩ := hX
          obtain ⟨u9, hX⟩ := hX
          obtain ⟨By, hX⟩ := hX
          obtain ⟨Bz, hX⟩ := hX
          obtain ⟨Ca, hX⟩ := hX
          obtain ⟨Cb, hX⟩ := hX
          obtain ⟨Cc, hX⟩ := hX
          obtain ⟨Cd, hX⟩ := hX
          obtain ⟨Ce, hX⟩ := hX
          obtain ⟨Cf, hX⟩ := hX
          obtain ⟨Cg, hX⟩ := hX
          obtain ⟨Ch, hX⟩ := hX
          obtain ⟨Ci, hX⟩ := hX
          obtain ⟨Cj, hX⟩ := hX
          obtain ⟨Ck, hX⟩ := hX
          obtain ⟨Cl, hX⟩ := hX
          obtain ⟨Cm, hX⟩ := hX
          obtain ⟨Cn, hX⟩ := hX
          obtain ⟨Co, hX⟩ := hX
          obtain ⟨Cp, hX⟩ := hX
          obtain ⟨Cq, hX⟩ := hX
          obtain ⟨Cr, hX⟩ := hX
          obtain ⟨Cs, hX⟩ := hX
          obtain ⟨Ct, hX⟩ := hX
          obtain ⟨Cu, hX⟩ := hX
          obtain ⟨Cv, hX⟩ := hX
          obtain ⟨Cw, hX⟩ := hX
          obtain ⟨Cx, hX⟩ := hX
          obtain ⟨Cy, hX⟩ := hX
          obtain ⟨Cz, hX⟩ := hX
          obtain ⟨Da, hX⟩ := hX
          obtain ⟨Db, hX⟩ := hX
          obtain ⟨Dc, hX⟩ := hX
          obtain ⟨Dd, hX⟩ := hX
          obtain ⟨De, hX⟩ := hX
          obtain ⟨Df, hX⟩ := hX
          obtain ⟨Dg, hX⟩ := hX
          obtain ⟨Dh, hX⟩ := hX
          obtain ⟨Di, hX⟩ := hX
          obtain ⟨Dj, hX⟩ := hX
          obtain ⟨Dk, hX⟩ := hX
          obtain ⟨Dl, hX⟩ := hX
          obtain ⟨Dm, hX⟩ := hX
          obtain ⟨Dn, hX⟩ := hX
          obtain ⟨Dp, hX⟩ := hX
          obtain ⟨Dq, hX⟩ := hX
          obtain ⟨Dr, hX⟩ := hX
          obtain ⟨Ds, hX⟩ := hX
          obtain ⟨Dt, hX⟩ := hX
          obtain ⟨Du, hX⟩ := hX
          obtain ⟨Dv, hX⟩ := hX
          obtain ⟨Dw, hX⟩ := hX
          obtain ⟨Dx, hX⟩ := hX
          obtain ⟨Dy, hX⟩ := hX
          obtain ⟨Dz, hX⟩ := hX
          obtain ⟨Ea, hX⟩ := hX
          obtain ⟨Eb, hX⟩ := hX
          obtain ⟨Ec, hX⟩ := hX
          obtain ⟨Ed, hX⟩ := hX
          obtain ⟨Ee, hX⟩ := hX
          obtain ⟨Ef, hX⟩ := hX
          obtain ⟨Eg, hX⟩ := hX
          obtain ⟨Eh, hX⟩ := hX
          obtain ⟨Ei, hX⟩ := hX
          obtain ⟨Ej, hX⟩ := hX
          obtain ⟨Ek, hX⟩ := hX
          obtain ⟨Em, hX⟩ := hX
          obtain ⟨En, hX⟩ := hX
          obtain ⟨Eo, hX⟩ := hX
          obtain ⟨Ep, hX⟩ := hX
          obtain ⟨Er, hX⟩ := hX
          obtain ⟨Es, hX⟩ := hX
          obtain ⟨Et, hX⟩ := hX
          obtain ⟨Eu, hX⟩ := hX
          obtain ⟨Ev, hX⟩ := hX
          obtain ⟨Ew, hX⟩ := hX
          obtain ⟨Ex, hX⟩ := hX
          obtain ⟨Ey, hX⟩ := hX
          obtain ⟨Ez, hX⟩ := hX
          obtain ⟨Fa, hX⟩ := hX
          obtain ⟨Fb, hX⟩ := hX
          obtain ⟨Fc, hX⟩ := hX
          obtain ⟨Fd, hX⟩ := hX
          obtain ⟨Fe, hX⟩ := hX
          obtain ⟨Ff, hX⟩ := hX
          obtain ⟨Fg, hX⟩ := hX
          obtain ⟨Fh, hX⟩ := hX
          obtain ⟨Fi, hX⟩ := hX
          obtain ⟨Fj, hX⟩ := hX
          obtain ⟨Fk, hX⟩ := hX
          obtain ⟨Fl, hX⟩ := hX
          obtain ⟨Fm, hX⟩ := hX
          obtain ⟨Fn, hX⟩ := hX
          obtain ⟨Fo, hX⟩ := hX
          obtain ⟨Fp, hX⟩ := hX
          obtain ⟨Fq, hX⟩ := hX
          obtain ⟨Fr, hX⟩ := hX
          obtain ⟨Fs, hX⟩ := hX
          obtain ⟨Ft, hX⟩ := hX
          obtain ⟨Fu, hX⟩ := hX
          obtain ⟨Fv, hX⟩ := hX
          obtain ⟨Fw, hX⟩ := hX
          obtain ⟨Fx, hX⟩ := hX
          obtain ⟨Fy, hX⟩ := hX
          obtain ⟨Fz, hX⟩ := hX
          obtain ⟨Ga, hX⟩ := hX
          obtain ⟨Gb, hX⟩ := hX
          obtain ⟨Gc, hX⟩ := hX
          obtain ⟨Gd, hX⟩ := hX
          obtain ⟨Ge, hX⟩ := hX
          obtain ⟨Gf, hX⟩ := hX
          obtain ⟨Gg, hX⟩ := hX
          obtain ⟨Gh, hX⟩ := hX
          obtain ⟨Gi, hX⟩ := hX
          obtain ⟨Gj, hX⟩ := hX
          obtain ⟨Gk, hX⟩ := hX
          obtain ⟨Gl, hX⟩ := hX
          obtain ⟨Gm, hX⟩ := hX
          obtain ⟨Gn, hX⟩ := hX
          obtain ⟨Gp, hX⟩ := hX
          obtain ⟨Gq, hX⟩ := hX
          obtain ⟨Gr, hX⟩ := hX
          obtain ⟨Gs, hX⟩ := hX
          obtain ⟨Gt, hX⟩ := hX
          obtain ⟨Gu, hX⟩ := hX
          obtain ⟨Gv, hX⟩ := hX
          obtain ⟨Gw, hX⟩ := hX
          obtain ⟨Gx, hX⟩ := hX
          obtain ⟨Gy, hX⟩ := hX
          obtain ⟨Gz, hX⟩ := hX
          obtain ⟨Ha, hX⟩ := hX
          obtain ⟨Hb, hX⟩ := hX
          obtain ⟨Hc, hX⟩ := hX
          obtain ⟨Hd, hX⟩ := hX
          obtain ⟨He, hX⟩ := hX
          obtain ⟨Hf, hX⟩ := hX
          obtain ⟨Hg, hX⟩ := hX
          obtain ⟨⟨p', sz', va, vk, n, hK, hge⟩, rfl⟩ := hX
          have hrs := hK.rs
          have HK := hid hK
          have r0 : w'.cell? ⟨w.heap.size, 0, none⟩ = some (.int .i64 0) := by simp [World.cell?, hrs]
          have r1 : w'.cell? ⟨w.heap.size, 1, none⟩ = some (.string ⟨#[]⟩) := by simp [World.cell?, hrs]
          have r2 : w'.cell? ⟨w.heap.size, 2, none⟩ = some (.string ⟨#[]⟩) := by simp [World.cell?, hrs]
          have r3 : w'.cell? ⟨w.heap.size, 3, none⟩ = some (.slice none 0 0) := by simp [World.cell?, hrs]
          have r4 : w'.cell? ⟨w.heap.size, 4, none⟩ = some (.slice none 0 0) := by simp [World.cell?, hrs]
          have rf : ∀ i, w'.frozen? ⟨w.heap.size, i, none⟩ = false := fun i => by simp [World.frozen?, hrs]
          clear hrs hK
          go_wp2_with fail
          refine end_nd2 Tryz.results33 _ w.heap.size (kd := 0) (n := ⟨#[]⟩) (t := ⟨#[]⟩) (va := .slice none 0 0) (vk := .slice none 0 0) ⟨_, _, _, rfl⟩ ⟨_, _, _, rfl⟩ ⟨by go_simp, by go_simp, by go_simp, by go_simp, by go_simp⟩ rfl rfl rfl ?_
          refine InsPost.no 16 (by decide) (HK.out.bt.low rfl hSl ?_) (at_out HK.out.ia (by rw [List.length_map]; omega))
          exact (set5 (Below.refl w.heap.size w') (Nat.le_refl _))
end Char
namespace Char
open Go.RowKit Go.Lib
def grdK (ks : List Tr) : Tr := .mk 1 [] [] [] ks
theorem wpList_pushRt {ops : Array Oper} {rest : List Oper} {o : Oper} {a : Act} {Q : Exit → Act → World → Prop} {B : Nat} {W : World} {F : Nat → Prop}
  (hgd : o.guard = none) (s x : Operand) (ho : o.op = .call { callee := .builtin .append, args := #[s, x], argTypes := #[23, 23] })
  (k : Tr) (oa : Option Addr) (ia ja : Nat) (ok : Option Addr) (ik jk : Nat) (hn : NdOn W F k (.slice oa ia ja) (.slice ok ik jk)) (hs : a.eval s = .slice none 0 0) (hx : a.eval x = .slice (some ⟨W.heap.size, 0, none⟩) 1 1) (hB : B ≤ W.heap.size)
  (h : ∀ g cap w1, W.heap.size ≤ g → OwnsNd B w1 F (.slice (some ⟨g, 0, none⟩) 1 cap) [k] → Below W.heap.size W w1 → wpList Tryz.prog ops Q rest (a.put o.dst (.slice (some ⟨g, 0, none⟩) 1 cap)) w1) :
  wpList Tryz.prog ops Q (o :: rest) a (W.alloc (.cells #[.int .i64 k.kd, .string (bs k.nm), .string (bs k.tx), .slice oa ia ja, .slice ok ik jk] 25)) := by
 obtain ⟨i0, hi, hz0, hz1, hz2⟩ := info_parts info_nd
 refine wpList_append_lies _ hgd s x 23 ho B 25 i0 (.agg #[.int .i64 0, .string ⟨#[]⟩, .string ⟨#[]⟩, .slice none 0 0, .slice none 0 0]) 5 88 Tryz.underlying23 hi hz0 hz1 hz2 rfl (by decide) (.slice none 0 0) 0 [] hs (World.ownsRow_nil _ _ _ _) ⟨W.heap.size, 0, none⟩ 1 1 (ndC (k, .slice oa ia ja, .slice ok ik jk)) hx rfl ?_ ?_ (by decide) ?_ ?_ ?_ (W.heap.size + 1) (by simp) ?_
 ·intro j u hj
  rw [Addr.add_lit, Nat.zero_add]
  exact nd_cells W k _ _ j u hj
 ·intro u hu
  simp [ndC] at hu
  rcases hu with rfl | rfl | rfl | rfl | rfl <;> rfl
 ·unfold maxLen; omega
 ·omega
 ·simp; omega
 ·intro g cap w1 ho1 hg1 hgg _
  have hgl : W.heap.size ≤ g := by
   rcases hgg with hgg | hgg
   ·cases hgg
   ·omega
  have hb : Below W.heap.size W w1 := ((Below.refl W.heap.size W).alloc (Nat.le_refl _) _).grown hg1 (by simp) (fun k hk => by cases hk)
  refine h g cap w1 hgl ⟨[(k, .slice oa ia ja, .slice ok ik jk)], rfl, ?_, fun x hx => ?_⟩ hb
  ·simpa [ndsC] using ho1
  ·rw [List.mem_singleton] at hx
   subst hx
   exact NdOn.move (fun b hb2 hF => ⟨hF, hb.block b hb2⟩) _ _ _ hn
structure RpK (w : World) (xs : List TkV) (S : Nat) (tv : Value) (G : Nat ⊕ Tr) (p sz : Nat) (v : Value) (ks : List Tr) (wr : World) : Prop where
 st : StAt wr S tv p sz
 tk : TkOn wr S tv xs
 rt : OwnsNd w.heap.size wr (fun b => w.heap.size < b ∧ b ≠ S) v ks
 nS : v.ownBlock ≠ some S
 bl : Below w.heap.size w wr
 rs : wr.heap[w.heap.size]? = some (.cells #[.int .i64 0, .string ⟨#[]⟩, .string ⟨#[]⟩, .slice none 0 0, .slice none 0 0] 25 (0, 0))
 run : runT ((xs.map (·.1)).drop p) [grdK ks] sz = G
 le : p ≤ xs.length
 sl : sz ≤ 120
 kl : ks.length ≤ 1
 nl : ks = [] → v = .slice none 0 0
theorem RpK.below {w : World} {xs : List TkV} {S : Nat} {tv : Value} {G : Nat ⊕ Tr} {p sz : Nat} {v : Value} {ks : List Tr} {wr w' : World} (h : RpK w xs S tv G p sz v ks wr) (hS : S < wr.heap.size) (hb : Below wr.heap.size wr w') : RpK w xs S tv G p sz v ks w' :=
 ⟨h.st.below hb, h.tk.but (But.of hb hS), h.rt.move (fun b hb2 hF => ⟨hF, hb.block b hb2⟩) (fun g hg => hb.block g (h.rt.blk hg).2), h.nS, h.bl.trans (hb.mono h.bl.size), (hb.block _ (block_of_heap h.rs)).trans h.rs, h.run, h.le, h.sl, h.kl, h.nl⟩
theorem RpK.at {w : World} {xs : List TkV} {S : Nat} {tv : Value} {G : Nat ⊕ Tr} {p sz : Nat} {v : Value} {ks : List Tr} {wr : World} (h : RpK w xs S tv G p sz v ks wr) (hS : w.heap.size < S) (p' : Nat) (hr : runT ((xs.map (·.1)).drop p') [grdK ks] sz = G) (hp : p' ≤ xs.length) : RpK w xs S tv G p' sz v ks (wr.setCell ⟨S, 1, none⟩ (.int .i64 (p' : Int))) := by
 have hb : But S wr (wr.setCell ⟨S, 1, none⟩ (.int .i64 (p' : Int))) := But.set S 1 wr _
 exact ⟨h.st.at p', h.tk.but hb, h.rt.move (fun b hb2 hF => ⟨hF, hb.2 b hb2 hF.2⟩) (fun g hg => hb.2 g (h.rt.blk hg).2 (fun e => h.nS (by rw [hg, e]))), h.nS, h.bl.trans (hb.1.mono (by omega)), (hb.2 _ (block_of_heap h.rs) (by omega)).trans h.rs, hr, hp, h.sl, h.kl, h.nl⟩
theorem RpK.kid {w : World} {xs : List TkV} {S : Nat} {tv : Value} {G : Nat ⊕ Tr} {p sz p' sz' : Nat} {v : Value} {wr w3 w5 : World} {n : Tr} {g cap : Nat} (h : RpK w xs S tv G p sz v [] wr) (hS : w.heap.size < S) (hSl : S < wr.heap.size) (hb3 : But S wr w3) (hst : StAt w3 S tv p' sz') (h5 : Below w3.heap.size w3 w5)
  (hg : w3.heap.size ≤ g) (ho : OwnsNd w.heap.size w5 (fun b => w.heap.size < b ∧ b ≠ S) (.slice (some ⟨g, 0, none⟩) 1 cap) [n]) (hio : InsOk (xs.map (·.1)) p 0 sz n p' sz') (hp : p' ≤ xs.length) (hs : sz' ≤ 120) : RpK w xs S tv G p' sz' (.slice (some ⟨g, 0, none⟩) 1 cap) [n] w5 := by
 have hz := hb3.1.size
 have hb35 : But S w3 w5 := But.of h5 (by omega)
 refine ⟨hst.below h5, (h.tk.but hb3).but hb35, ho, ?_, h.bl.trans ((hb3.1.trans hb35.1).mono (by omega)), ?_, ?_, hp, hs, Nat.le_refl _, fun e => by cases e⟩
 ·simp only [Value.ownBlock, ne_eq, Option.some.injEq]; omega
 ·exact (hb35.2 _ (Nat.lt_of_lt_of_le (block_of_heap h.rs) hz) (by omega)).trans ((hb3.2 _ (block_of_heap h.rs) (by omega)).trans h.rs)
 ·have := hio [grdK []] rfl (fun _ => rfl)
  rw [h.run] at this
  exact this.symm
theorem refParse_any (l : List UInt8) (w : World) (hz : l.length ≤ 9223372036854775807) :
  Calls Tryz.prog 24 #[.string (bs l)] w (GrPost w.heap.size w (parseL l)) := by
 obtain ⟨W0, hW0⟩ : ∃ W0, W0 = w.alloc (.cells #[.int .i64 0, .string ⟨#[]⟩, .string ⟨#[]⟩, .slice none 0 0, .slice none 0 0] 25) := ⟨_, rfl⟩
 have b0 : Below w.heap.size w W0 := by rw [hW0]; exact (Below.refl _ _).alloc (Nat.le_refl _) _
 have s0 : W0.heap.size = w.heap.size + 1 := by rw [hW0]; simp
 have hrs : W0.heap[w.heap.size]? = some (.cells #[.int .i64 0, .string ⟨#[]⟩, .string ⟨#[]⟩, .slice none 0 0, .slice none 0 0] 25 (0, 0)) := by rw [hW0]; exact World.alloc_heap_new w _
 have HS := hid (refScan_any l W0 hz)
 have HW0 := hid hW0
 have HB0 := hid b0
 have HRS := hid hrs
 -- the cell of the result, wherever its block is as it was
 have hcl : ∀ W : World, W.heap[w.heap.size]? = some (.cells #[.int .i64 0, .string ⟨#[]⟩, .string ⟨#[]⟩, .slice none 0 0, .slice none 0 0] 25 (0, 0)) → (∀ i, W.frozen? ⟨w.heap.size, i, none⟩ = false) ∧ W.cell? ⟨w.heap.size, 0, none⟩ = some (.int .i64 0) ∧ W.cell? ⟨w.heap.size, 1, none⟩ = some (.string ⟨#[]⟩) ∧ W.cell? ⟨w.heap.size, 2, none⟩ = some (.string ⟨#[]⟩) ∧ W.cell? ⟨w.heap.size, 3, none⟩ = some (.slice none 0 0) ∧ W.cell? ⟨w.heap.size, 4, none⟩ = some (.slice none 0 0) := fun W h => by
  exact ⟨fun i => by simp [World.frozen?, h], by simp [World.cell?, h], by simp [World.cell?, h], by simp [World.cell?, h], by simp [World.cell?, h], by simp [World.cell?, h]⟩
 have HCL := hid hcl
 clear hW0 b0 hrs hcl
 unfold parseL
 unfold ScPost at HS
 cases hs : scanL l with
 | inl err =>
  rw [hs] at HS
  have hne : err ≠ 0 := by
   unfold scanL at hs
   split at hs
   ·cases hs; decide
   ·split at hs
    ·cases hs; decide
    ·exact scanF_errne hs
  have HS2 : Hid (Calls Tryz.prog 32 #[.string (bs l)] W0 fun e w' => e = .returned (.tuple #[.slice none 0 0, .int .i64 (err : Int)]) ∧ Below W0.heap.size W0 w') := HS
  have k1 : ((err : Int) != 0) = true := by rw [bne_iff_ne]; omega
  obtain ⟨P, hP⟩ : ∃ P, GrPost w.heap.size w (.inl err) = P := ⟨_, rfl⟩
  dsimp only
  rw [hP]
  have HP := hid hP
  clear HS hs hP
  go_enter Tryz.func24, Tryz.ntmps24
  go_wp2_with fail
  rw [← HW0.out]
  refine HS2.out.mono ?_
  rintro e w1 ⟨rfl, hb1⟩
  obtain ⟨z0, z1, z2, z3, z4, z5⟩ := HCL.out w1 ((hb1.block _ (by omega)).trans HRS.out)
  have HB1 := hid (HB0.out.trans (hb1.mono (by omega)))
  clear hb1
  go_wp2_with fail
  refine end_nd2 Tryz.results24 _ w.heap.size (c := .int .i64 (err : Int)) (kd := 0) (n := ⟨#[]⟩) (t := ⟨#[]⟩) (va := .slice none 0 0) (vk := .slice none 0 0) ⟨_, _, _, rfl⟩ ⟨_, _, _, rfl⟩ ⟨by go_simp, by go_simp, by go_simp, by go_simp, by go_simp⟩ rfl rfl rfl ?_
  rw [← HP.out]
  exact ⟨rfl, (set5 HB1.out (Nat.le_refl _))⟩
 | inr ts =>
  rw [hs] at HS
  have hl := (scanL_len hs).1
  have hok := scanL_tok hs
  have HS2 : Hid (Calls Tryz.prog 32 #[.string (bs l)] W0 fun e w' => ∃ (xs : List TkV) (o : Option Addr) (i j : Nat), xs.map (·.1) = ts ∧ e = .returned (.tuple #[.slice o i j, .int .i64 0]) ∧ OwnsTk W0.heap.size w' (.slice o i j) xs ∧ Below W0.heap.size W0 w') := HS
  obtain ⟨G, hG⟩ : ∃ G, runT ts [grd0] 0 = G := ⟨_, rfl⟩
  dsimp only
  rw [hG]
  obtain ⟨P, hP⟩ : ∃ P, GrPost w.heap.size w G = P := ⟨_, rfl⟩
  rw [hP]
  have HP := hid hP
  have HOK := hid hok
  have HG := hid hG
  clear HS hs hP hok hG
  go_enter Tryz.func24, Tryz.ntmps24
  go_wp2_with fail
  rw [← HW0.out]
  refine HS2.out.mono ?_
  rintro e w1 ⟨xs, o, i, j, hx, rfl, ho, hb1⟩
  obtain rfl := ho.len
  subst hx
  have hxl : xs.length ≤ 4000 := by simpa using hl
  have hok2 : ∀ x, x ∈ xs → TkOk x.1 := fun x hxm => HOK.out x.1 (List.mem_map_of_mem hxm)
  have HOX := hid hok2
  have HO := hid ho
  have HB1 := hid hb1
  have hz1 : w.heap.size < w1.heap.size := by have := hb1.size; omega
  clear ho hb1 hok2 HOK hl
  go_wp2_with fail
  obtain ⟨S, hS⟩ : ∃ S, S = w1.heap.size := ⟨_, rfl⟩
  obtain ⟨W2, hW2⟩ : ∃ W2, W2 = w1.alloc (.cells #[.slice o xs.length j, .int .i64 0, .int .i64 0] 70) := ⟨_, rfl⟩
  rw [← hW2, ← hS]
  have hK0 : RpK w xs S (.slice o xs.length j) G 0 0 (.slice none 0 0) [] W2 := by
   have hb2 : Below w1.heap.size w1 W2 := by rw [hW2]; exact (Below.refl _ _).alloc (Nat.le_refl _) _
   refine ⟨?_, TkOn.of HO.out hb2 (by omega), OwnsNd.nil _ _ _, by simp [Value.ownBlock], HB0.out.trans ((HB1.out.trans (hb2.mono HB1.out.size)).mono (by omega)), ?_, HG.out, Nat.zero_le _, Nat.zero_le _, Nat.zero_le _, fun _ => rfl⟩
   ·unfold StAt; rw [hW2, hS]; exact World.alloc_heap_new w1 _
   ·exact (hb2.block _ hz1).trans ((HB1.out.block _ (by omega)).trans HRS.out)
  have hSw : w.heap.size < S := by omega
  have hSl : S < W2.heap.size := by rw [hW2, World.size_alloc]; omega
  have HK0 := hid hK0
  clear hK0 hW2 hS HO HG HS2
  go_loopw [7] (fun v wr => ∃ (p sz : Nat) (ks : List Tr), S < wr.heap.size ∧ RpK w xs S (.slice o xs.length j) G p sz v ks wr) (fun _ wr => leftS S xs.length wr)
  case atStart => exact ⟨0, 0, [], hSl, HK0.out⟩
  case round =>
   obtain ⟨p, sz, ks, hSr, hK⟩ := hrel
   obtain ⟨ok7, jk7, rfl⟩ := hK.rt.form
   obtain ⟨nk, hnk⟩ : ∃ nk, nk = ks.length := ⟨_, rfl⟩
   rw [← hnk] at hK ⊢
   obtain ⟨a0, a1, a2, af⟩ := hK.st.cells
   have hlf := leftS_of hK.st (L := xs.length)
   have HLF := hid hlf
   have HNK := hid hnk
   have hple := hK.le
   have hkl := hK.kl
   have hzr := hK.bl.size
   have htk0 := hK.tk
   have HK := hid hK
   obtain ⟨ot, jt2, he9, htk⟩ := htk0
   simp only [Value.slice.injEq] at he9
   obtain ⟨rfl, _, rfl⟩ := he9
   clear hlf hK hnk
   by_cases hlt : p < xs.length
   ·obtain ⟨gt, rfl, hgS9, ⟨t0, t1, t2, t3, t4⟩, hat⟩ := htk p hlt
    have hgr := cell_lt t0
    have hxok := HOX.out _ (List.getElem_mem hlt)
    have hpl : p < (xs.map (fun x : TkV => x.1)).length := by simpa using hlt
    have hkx : (xs.map (fun x : TkV => x.1))[p]'hpl = xs[p].1 := by simp
    generalize hx : xs[p] = x at *
    obtain ⟨⟨xk, xn, xt, xq, xe⟩, xv⟩ := x
    dsimp only at t0 t1 t2 t3 t4 hxok hkx
    obtain ⟨oa3, ja3, rfl⟩ : ∃ o j, xv = .slice o xq.length j := hat.form
    have HKX2 := hid hkx
    have HXOK := hid hxok
    clear hx hkx hxok hat htk
    go_upto_region 8 with fail
    obtain ⟨Wx, hWx⟩ : ∃ Wx, Wx = wr.alloc (.cells #[.int .i64 xk, .string (bs xn), .string (bs xt), .slice oa3 xq.length ja3, .bool xe] 72) := ⟨_, rfl⟩
    rw [← hWx]
    have hbx : Below wr.heap.size wr Wx := by rw [hWx]; exact (Below.refl _ _).alloc (Nat.le_refl _) _
    have hsx : Wx.heap.size = wr.heap.size + 1 := by rw [hWx, World.size_alloc]
    have hXb : Wx.heap[wr.heap.size]? = some (.cells #[.int .i64 xk, .string (bs xn), .string (bs xt), .slice oa3 xq.length ja3, .bool xe] 72 (0, 0)) := by rw [hWx]; exact World.alloc_heap_new wr _
    have hKx : RpK w xs S (.slice (some ⟨gt, 0, none⟩) xs.length j) G p sz (.slice ok7 nk jk7) ks Wx := HK.out.below hSr hbx
    obtain ⟨X, hX⟩ : ∃ X, X = wr.heap.size := ⟨_, rfl⟩
    rw [← hX] at hsx hXb hSr hzr ⊢
    clear hWx hbx a0 a1 a2 af t0 t1 t2 t3 t4 hgr hX HK
    have hSx : S < Wx.heap.size := by omega
    obtain ⟨a0, a1, a2, af⟩ := hKx.st.cells
    obtain ⟨rf, r0, r1, r2, r3, r4⟩ := HCL.out Wx hKx.rs
    have x0 : Wx.cell? ⟨X, 0, none⟩ = some (.int .i64 xk) := by simp [World.cell?, hXb]
    have x2 : Wx.cell? ⟨X, 2, none⟩ = some (.string (bs xt)) := by simp [World.cell?, hXb]
    have HKX := hid hKx
    have HBL := hid hKx.bl
    have hkd := HXOK.out.kd
    have hzx : w.heap.size < Wx.heap.size := Nat.lt_of_lt_of_le (block_of_heap HKX.out.rs) (Nat.le_refl _)
    have hw8 : IntKind.i64.wrap ((p : Int) + 1) = (p : Int) + 1 := IntWalk.i64_in _ (by omega)
    clear hKx hXb
    by_cases hk2 : xk = 2
    ·subst hk2
     have HGG := hid (show G = .inl 14 by rw [← HKX.out.run]; exact out_end hpl (by rw [HKX2.out]) (by rw [HKX2.out]; exact HXOK.out.nm rfl))
     go_wp2_with fail
     refine end_nd2 Tryz.results24 _ w.heap.size (c := .int .i64 14) (kd := 0) (n := ⟨#[]⟩) (t := ⟨#[]⟩) (va := .slice none 0 0) (vk := .slice none 0 0) ⟨_, _, _, rfl⟩ ⟨_, _, _, rfl⟩ ⟨by go_simp, by go_simp, by go_simp, by go_simp, by go_simp⟩ rfl rfl rfl ?_
     rw [← HP.out, HGG.out]
     exact ⟨rfl, (set5 HBL.out (Nat.le_refl _))⟩
    have k2 : (xk == 2) = false := by simp [hk2]
    by_cases hk1 : xk = 1
    ·subst hk1
     by_cases hnk0 : nk = 0
     ·subst hnk0
      have hks : ks = [] := List.eq_nil_of_length_eq_zero HNK.out.symm
      subst hks
      have hnl := HKX.out.nl rfl
      simp only [Value.slice.injEq] at hnl
      obtain ⟨rfl, _, rfl⟩ := hnl
      have hC := inside_any xs HOX.out hxl 13 0 Wx S (.slice (some ⟨gt, 0, none⟩) xs.length j) p sz (by omega) (by omega) HKX.out.tk HKX.out.st hlt (by have := HKX2.out; simp only [List.getElem_map] at this; rw [this]) HKX.out.sl
      rw [show ((0 : Nat) : Int) = 0 from rfl] at hC
      have HC := hid hC
      clear hC
      go_wp2_with fail
      refine HC.out.mono ?_
      clear HC
      rintro e w3 (⟨err, h0, rfl, hb3, hno⟩ | ⟨k, ka, kk, p2, sz2, rfl, hon, hkd2, htx2, hst, hb3, hio, hsl2, hp12, hp2⟩)
      ·have k4 : ((err : Int) != 0) = true := by rw [bne_iff_ne]; omega
       have HGG := hid (show G = .inl err by rw [← HKX.out.run]; exact hno [grdK []] rfl (fun _ => rfl))
       clear r0 r1 r2 r3 r4 rf a0 a1 a2 af x0 x2
       have hR3 := (hb3.2 _ hzx (by omega)).trans HKX.out.rs
       obtain ⟨rf, r0, r1, r2, r3, r4⟩ := HCL.out w3 hR3
       have HB3 := hid (HKX.out.bl.trans (hb3.1.mono (show w.heap.size ≤ S by omega)))
       have hz3 := hb3.1.size
       have hRl3 : w.heap.size < w3.heap.size := by omega
       unfold zeroNd
       clear hb3 hno hR3
       go_wp2_with fail
       refine end_nd2 Tryz.results24 _ w.heap.size (c := .int .i64 (err : Int)) (kd := 0) (n := ⟨#[]⟩) (t := ⟨#[]⟩) (va := .slice none 0 0) (vk := .slice none 0 0) ⟨_, _, _, rfl⟩ ⟨_, _, _, rfl⟩ ⟨by go_simp, by go_simp, by go_simp, by go_simp, by go_simp⟩ rfl rfl rfl ?_
       rw [← HP.out, HGG.out]
       exact ⟨rfl, (((set5 HB3.out (Nat.le_refl _)).alloc (by simp only [World.size_setCell]; exact Nat.le_of_lt hRl3) _))⟩
      ·obtain ⟨oa5, ja5, ok5, jk5, rfl, rfl⟩ := hon.form
       have hz3 := hb3.1.size
       clear r0 r1 r2 r3 r4 rf a0 a1 a2 af x0 x2
       have HON := hid hon
       have HIO := hid hio
       have HST3 := hid hst
       have HB3 := hid hb3
       clear hon hio hst hb3 hkd2 htx2
       unfold ndV
       go_upto_region 14 with fail
       obtain ⟨W4, hW4⟩ : ∃ W4, W4 = w3.alloc (.cells #[.int .i64 k.kd, .string (bs k.nm), .string (bs k.tx), .slice oa5 k.ats.length ja5, .slice ok5 k.ks.length jk5] 25) := ⟨_, rfl⟩
       rw [← hW4]
       have hb4 : Below w3.heap.size w3 W4 := by rw [hW4]; exact (Below.refl _ _).alloc (Nat.le_refl _) _
       have hs4 : W4.heap.size = w3.heap.size + 1 := by rw [hW4, World.size_alloc]
       have hk4 : W4.heap[w3.heap.size]? = some (.cells #[.int .i64 k.kd, .string (bs k.nm), .string (bs k.tx), .slice oa5 k.ats.length ja5, .slice ok5 k.ks.length jk5] 25 (0, 0)) := by rw [hW4]; exact World.alloc_heap_new w3 _
       have d0 : W4.cell? ⟨w3.heap.size, 0, none⟩ = some (.int .i64 k.kd) := by simp [World.cell?, hk4]
       have d1 : W4.cell? ⟨w3.heap.size, 1, none⟩ = some (.string (bs k.nm)) := by simp [World.cell?, hk4]
       have d2 : W4.cell? ⟨w3.heap.size, 2, none⟩ = some (.string (bs k.tx)) := by simp [World.cell?, hk4]
       have d3 : W4.cell? ⟨w3.heap.size, 3, none⟩ = some (.slice oa5 k.ats.length ja5) := by simp [World.cell?, hk4]
       have d4 : W4.cell? ⟨w3.heap.size, 4, none⟩ = some (.slice ok5 k.ks.length jk5) := by simp [World.cell?, hk4]
       have HN4 := hid (show NdOn W4 (fun b => w.heap.size < b ∧ b ≠ S) k (.slice oa5 k.ats.length ja5) (.slice ok5 k.ks.length jk5) from NdOn.move (fun b hb hF => ⟨⟨by omega, by omega⟩, hb4.block b hb⟩) _ _ _ HON.out)
       have HB4 := hid hb4
       have hB4 : w.heap.size ≤ W4.heap.size := by omega
       have HS4 := hid hs4
       clear hs4 hW4 hb4 hk4
       go_wp2_with (with_reducible refine wpList_pushRt rfl (.tmp 58) (.tmp 60) rfl k oa5 k.ats.length ja5 ok5 k.ks.length jk5 HN4.out rfl rfl hB4 ?_)
       intro g cap w5 hg5 ho5 hb5
       have HK9 := hid (HKX.out.kid hSw hSx HB3.out HST3.out (HB4.out.trans (hb5.mono (by have := HS4.out; omega))) (by have := HS4.out; omega) ho5 HIO.out hp2 hsl2)
       have hS5 : S < w5.heap.size := by have := hb5.size; have := HS4.out; omega
       clear ho5 hb5
       go_wp2_with fail
       go_roundw
       case rel => exact ⟨p2, sz2, [k], hS5, HK9.out⟩
       case measure => rw [HLF.out, leftS_of HK9.out.st]; omega
     ·have k5 : ((nk : Int) == 0) = false := by rw [beq_eq_false_iff_ne]; omega
      have HGG := hid (show G = .inl 17 by
       rw [← HKX.out.run]
       refine out_no hpl (by rw [HKX2.out]; exact (show ¬ (1 : Int) = 2 by decide)) (fun _ e => ?_) (fun e => by rw [HKX2.out] at e; cases e)
       have e2 : ks = [] := e
       have := HNK.out
       rw [e2] at this
       exact hnk0 this)
      clear hnk0
      go_wp2_with fail
      refine end_nd2 Tryz.results24 _ w.heap.size (c := .int .i64 17) (kd := 0) (n := ⟨#[]⟩) (t := ⟨#[]⟩) (va := .slice none 0 0) (vk := .slice none 0 0) ⟨_, _, _, rfl⟩ ⟨_, _, _, rfl⟩ ⟨by go_simp, by go_simp, by go_simp, by go_simp, by go_simp⟩ rfl rfl rfl ?_
      rw [← HP.out, HGG.out]
      exact ⟨rfl, (set5 HBL.out (Nat.le_refl _))⟩
    have k3 : (xk == 1) = false := by simp [hk1]
    by_cases hk3 : xk = 3
    ·subst hk3
     have hbl := refBlank_any (bs xt) Wx (by have : xt.length ≤ 16000 := HXOK.out.tl; have := bs_size xt; omega)
     obtain ⟨q, hq⟩ : ∃ q, allR spC (bs xt).data.toList = q := ⟨_, rfl⟩
     rw [hq] at hbl
     have hq2 : (xt.all fun c => spC (c.toNat : Int)) = q := by rw [← hq, blank_bytes _ _ (Nat.le_refl _)]; rfl
     have HBK := hid hbl
     have HQ := hid hq2
     clear hbl hq hq2
     cases q
     ·have HGG := hid (show G = .inl 17 by
       rw [← HKX.out.run]
       exact out_no hpl (by rw [HKX2.out]; exact (show ¬ (3 : Int) = 2 by decide)) (fun e => by rw [HKX2.out] at e; cases e) (fun _ => by rw [HKX2.out]; exact HQ.out))
      go_wp2_with fail
      refine HBK.out.mono ?_
      rintro e w3 ⟨rfl, rfl⟩
      go_wp2_with fail
      refine end_nd2 Tryz.results24 _ w.heap.size (c := .int .i64 17) (kd := 0) (n := ⟨#[]⟩) (t := ⟨#[]⟩) (va := .slice none 0 0) (vk := .slice none 0 0) ⟨_, _, _, rfl⟩ ⟨_, _, _, rfl⟩ ⟨by go_simp, by go_simp, by go_simp, by go_simp, by go_simp⟩ rfl rfl rfl ?_
      rw [← HP.out, HGG.out]
      exact ⟨rfl, (set5 HBL.out (Nat.le_refl _))⟩
     ·have HRU := hid (show runT ((xs.map (·.1)).drop (p + 1)) [grdK ks] sz = G by rw [← HKX.out.run]; exact (out_blank hpl (by rw [HKX2.out]) (by rw [HKX2.out]; exact HQ.out)).symm)
      have HK9 := hid (HKX.out.at hSw (p + 1) HRU.out (by omega))
      have e9 : ((p + 1 : Nat) : Int) = (p : Int) + 1 := by push_cast; rfl
      rw [e9] at HK9
      clear e9
      go_wp2_with fail
      refine HBK.out.mono ?_
      rintro e w3 ⟨rfl, rfl⟩
      go_wp2_with fail
      go_roundw
      case rel => exact ⟨p + 1, sz, ks, by rw [World.size_setCell]; exact hSx, HK9.out⟩
      case measure => rw [HLF.out, leftS_of HK9.out.st]; omega
    ·have k7 : (xk != 3) = true := by simp [hk3]
     have HGG := hid (show G = .inl 17 by
      rw [← HKX.out.run]
      exact out_no hpl (by rw [HKX2.out]; exact hk2) (fun e => by rw [HKX2.out] at e; exact absurd e hk1) (fun e => by rw [HKX2.out] at e; exact absurd e hk3))
     go_wp2_with fail
     refine end_nd2 Tryz.results24 _ w.heap.size (c := .int .i64 17) (kd := 0) (n := ⟨#[]⟩) (t := ⟨#[]⟩) (va := .slice none 0 0) (vk := .slice none 0 0) ⟨_, _, _, rfl⟩ ⟨_, _, _, rfl⟩ ⟨by go_simp, by go_simp, by go_simp, by go_simp, by go_simp⟩ rfl rfl rfl ?_
     rw [← HP.out, HGG.out]
     exact ⟨rfl, (set5 HBL.out (Nat.le_refl _))⟩
   ·have hd : decide (p < xs.length) = false := by simpa using hlt
    have hfin := out_fin (ts := xs.map (fun x : TkV => x.1)) (at1 := p) (sz := sz) (g := grdK ks) (by simpa using hlt)
    rw [HK.out.run] at hfin
    have HFI := hid hfin
    clear hfin htk
    obtain ⟨rf, r0, r1, r2, r3, r4⟩ := HCL.out wr HK.out.rs
    by_cases hnk0 : nk = 0
    ·subst hnk0
     have hks : ks = [] := List.eq_nil_of_length_eq_zero HNK.out.symm
     subst hks
     have HGG := hid (show G = .inl 17 from HFI.out)
     have HBL := hid HK.out.bl
     go_wp2_with fail
     refine end_nd2 Tryz.results24 _ w.heap.size (c := .int .i64 17) (kd := 0) (n := ⟨#[]⟩) (t := ⟨#[]⟩) (va := .slice none 0 0) (vk := .slice none 0 0) ⟨_, _, _, rfl⟩ ⟨_, _, _, rfl⟩ ⟨by go_simp, by go_simp, by go_simp, by go_simp, by go_simp⟩ rfl rfl rfl ?_
     rw [← HP.out, HGG.out]
     exact ⟨rfl, (set5 HBL.out (Nat.le_refl _))⟩
    ·have k5 : ((nk : Int) == 0) = false := by rw [beq_eq_false_iff_ne]; omega
     obtain ⟨nd, hks⟩ : ∃ nd, ks = [nd] := by
      have h1 := HNK.out
      match ks, hkl, h1 with
      | [], _, h1 => exact absurd h1 hnk0
      | [nd], _, _ => exact ⟨nd, rfl⟩
      | a :: b :: r, h, _ => simp at h
     subst hks
     have hn1 : nk = 1 := HNK.out
     subst hn1
     have HGG := hid (show G = .inr nd from HFI.out)
     obtain ⟨ys, hys, hown, hnd⟩ := HK.out.rt
     obtain ⟨y, rfl⟩ : ∃ y, ys = [y] := by
      have := congrArg List.length hys
      rw [List.length_map] at this
      exact List.length_eq_one_iff.1 this
     obtain ⟨g, hg, hc⟩ := ownsNd_cells hown 0 (by simp)
     obtain rfl := hg
     have hy : y.1 = nd := by simpa using hys
     obtain ⟨yt, ya, yk⟩ := y
     dsimp only at hy
     subst hy
     have hN := hnd _ (List.mem_singleton.2 rfl)
     dsimp only at hN
     obtain ⟨oa5, ja5, ok5, jk5, rfl, rfl⟩ := hN.form
     have HN := hid hN
     obtain ⟨c0, c1, c2, c3, c4⟩ := hc
     simp only [List.getElem_cons_zero, Nat.zero_mul, Nat.zero_add] at c0 c1 c2 c3 c4
     clear hown hnd hys hN
     have HBL := hid HK.out.bl
     go_wp2_with fail
     refine end_nd2 Tryz.results24 _ w.heap.size (c := .int .i64 0) (kd := yt.kd) (n := bs yt.nm) (t := bs yt.tx) (va := .slice oa5 yt.ats.length ja5) (vk := .slice ok5 yt.ks.length jk5) ⟨_, _, _, rfl⟩ ⟨_, _, _, rfl⟩ ⟨by go_simp, by go_simp, by go_simp, by go_simp, by go_simp⟩ rfl rfl rfl ?_
     rw [← HP.out, HGG.out]
     refine ⟨_, _, rfl, ?_, (set5 HBL.out (Nat.le_refl _))⟩
     refine NdOn.move (fun b hb hF => ⟨by have := hF.1; omega, ?_⟩) _ _ _ HN.out
     have hne : b ≠ w.heap.size := by have := hF.1; omega
     rw [heap_set_ne hne, heap_set_ne hne, heap_set_ne hne, heap_set_ne hne, heap_set_ne hne]
end Char
end Go.Proofs.YtlmodgnkmlbjhaaGreatDoor
