import Derived.Test.YtlmpkpjjakallaaGreatDoorPt08
import Derived.Deep.RegionHeld3
import Derived.Deep.CutBlock
import Derived.Deep.DeepCutAuto
import Derived.Test.YtlmpkpjjakallaaGreatDoorPt07
namespace Go.Proofs.YtlmpkpjjakallaaGreatDoor
namespace Char
open Go.RowKit Go.Lib
set_option maxRecDepth 100000 in
set_option maxHeartbeats 8000000 in
theorem partsC_of (c:Nat)(hS:ChC c)(n:Nat)(ks:List Ex)(v:Value)(w:World)(F:Nat→Prop)(p:Nat)(m:Bool)(hp:w.cell? ⟨p,2,none⟩=some (.bool m))(hn:n≤2)(hc:cntEs ks≤c)(hcm:c≤1001)(hr:rightEs ks=true)(h1:KdOn w F v ks):
 Calls Tryz.prog 139 #[.agg #[.int .i64 (n:Int)],v,.func (.func 171) #[] #[.pointer (some ⟨p,0,none⟩)]] w (PtP w (ptR m true (ckKs ks n))):=by
 have hcl:=cntEs_len ks
 obtain⟨o1,j1,rfl⟩:=h1.form
 have hm:ks.length≤1001:=by omega
 have HM:Hid (∀(t:Int) (W:World),Below w.heap.size w W→Calls Tryz.prog 171 #[.int .i64 t,.pointer (some ⟨p,0,none⟩)] W fun e w'=>e= .returned (.bool (okT m t))∧w'=W):=Lib.hid fun t W hW=>fn_cl p m t W ((hW.cell (p:=⟨p,2,none⟩) (cell_lt hp)).trans hp)
 have HS:=Lib.hid fun(j:Nat) (hj:j<ks.length) (va vk:Value) (W:World) (ho:ExOn W F ks[j] va vk)=>hS n ks[j] va vk W F hn (by have :=cntEs_at ks j hj;omega) (rightEs_c hr j hj) ho
 have HK:=Lib.hid h1
 have HB0:=Lib.hid (below_box (w:=w) (.cells #[.int .i64 (n:Int)] 122))
 have HD:=Lib.hid (fun(j:Nat) (r:Bool) (h:j<ks.length)=>ptR_step m r ks n j h)
 have HE:=Lib.hid (fun(r:Bool)=>ptR_end m r ks n)
 obtain⟨P,hP⟩:∃P,ptR m true (ckKs ks n)=P:=⟨_,rfl⟩
 have hP0:ptR m true (ckKs (ks.drop 0) n)=P:=by rw[List.drop_zero];exact hP
 have HP0:=Lib.hid hP0
 rw[hP]
 clear hS h1 hP hP0 hcl hc hcm hr hn hp
 go_enter Tryz.func139,Tryz.ntmps139
 go_wp2_with fail
 go_loopw [6,12] (fun v6 v wr=>∃(j:Nat) (r:Bool),v= .int .i64 (j:Int)∧v6= .bool r∧j≤ks.length∧Hid (Below w.heap.size w wr∧wr.cell? ⟨w.heap.size,0,none⟩=some (.int .i64 (n:Int))∧ptR m r (ckKs (ks.drop j) n)=P)) (fun _ v _=>ks.length-(RowKit.intOf v).toNat)
 case atStart=>exact⟨0,true,rfl,rfl,Nat.zero_le _,Lib.hid ⟨HB0.out,by go_simp,HP0.out⟩⟩
 case round=>
  obtain⟨j,r,rfl,rfl,hj,HR⟩:=hrel
  by_cases hlt:j<ks.length
  ·obtain⟨g,off,va,vk,rfl,hg,hat,hon⟩:=HK.out.read j hlt
   obtain⟨hbr,hcn,hpr⟩:=HR.out
   rw[HD.out j r hlt]at hpr
   have hc2:=fun W (hW:Below w.heap.size w W)=>HS.out j hlt va vk W (hon.below hW)
   have hq1:∀W,Below w.heap.size w W→ExAt W g (off+j*7) ks[j] va vk:=fun W hW=>hat.move (hW.block g hat.lt)
   generalize ks[j]=kid at *
   obtain⟨hn1,hn2⟩:=ExOn.iff.1 hon
   obtain⟨oa',ja',rfl⟩:=hn1.form
   obtain⟨ok',jk',rfl⟩:=hn2.form
   unfold exV at hc2
   have HC2:=Lib.hid hc2
   have HBR:=Lib.hid hbr
   have hgl0:w.heap.size<wr.heap.size:=cell_lt (a:=⟨w.heap.size,0,none⟩) hcn
   obtain⟨a0,a1,a2,a3,a4,a5,a6⟩:=(hq1 wr hbr).cells
   have hgl:g<wr.heap.size:=cell_lt a0
   have HCN:Hid (∀W,Below wr.heap.size wr W→W.cell? ⟨w.heap.size,0,none⟩=some (.int .i64 (n:Int))):=Lib.hid fun W hW=>(hW.cell (p:=⟨w.heap.size,0,none⟩) hgl0).trans hcn
   clear hc2 hon hat hq1 hn1 hn2 HR hbr
   obtain⟨R,hR⟩:∃R,ckE kid n=R:=⟨_,rfl⟩
   rw[hR]at hpr HC2
   clear hR
   cases R with
   |inl e=>
    dsimp only at hpr
    have HPR:=Lib.hid hpr
    clear hpr
    go_wp2_with fail
    obtain⟨W2,hW2⟩:∃W2,W2=wr.alloc (boxEx kid (.slice oa' kid.ks.length ja') (.slice ok' kid.ss.length jk')):=⟨_,rfl⟩
    have hb2:Below w.heap.size w W2:=by rw[hW2];exact HBR.out.alloc HBR.out.size _
    unfold boxEx at hW2
    rw[←hW2]
    clear hW2
    refine(HC2.out W2 hb2).mono ?_
    rintro e' w2 ⟨hb3,rfl⟩
    have HB4:=Lib.hid (hb2.trans (hb3.mono hb2.size))
    clear hb2 hb3
    unfold panE
    go_wp2_with fail
    refine⟨rfl,?_⟩
    rw[←HPR.out]
    exact PtP.no HB4.out
   |inr t=>
    dsimp only at hpr
    have HPR:=Lib.hid hpr
    clear hpr
    cases r
    ·go_wp2_with fail
     obtain⟨W2,hW2⟩:∃W2,W2=wr.alloc (boxEx kid (.slice oa' kid.ks.length ja') (.slice ok' kid.ss.length jk')):=⟨_,rfl⟩
     have hb2:Below w.heap.size w W2:=by rw[hW2];exact HBR.out.alloc HBR.out.size _
     have hb5:Below wr.heap.size wr W2:=by rw[hW2];exact below_box _
     unfold boxEx at hW2
     rw[←hW2]
     clear hW2
     refine(HC2.out W2 hb2).mono ?_
     rintro e' w2 ⟨hb3,rfl⟩
     have HB4:=Lib.hid (hb2.trans (hb3.mono hb2.size))
     have HC4:=Lib.hid (HCN.out _ (hb5.trans (hb3.mono hb5.size)))
     clear hb2 hb3 hb5
     go_wp2_with fail
     go_roundw
     case rel=>exact⟨j+1,false,by go_num,rfl,by omega,Lib.hid ⟨HB4.out,HC4.out,HPR.out⟩⟩
     case measure=>simp[RowKit.intOf];omega
    ·go_wp2_with fail
     obtain⟨W2,hW2⟩:∃W2,W2=wr.alloc (boxEx kid (.slice oa' kid.ks.length ja') (.slice ok' kid.ss.length jk')):=⟨_,rfl⟩
     have hb2:Below w.heap.size w W2:=by rw[hW2];exact HBR.out.alloc HBR.out.size _
     have hb5:Below wr.heap.size wr W2:=by rw[hW2];exact below_box _
     unfold boxEx at hW2
     rw[←hW2]
     clear hW2
     refine(HC2.out W2 hb2).mono ?_
     rintro e' w2 ⟨hb3,rfl⟩
     have HB4:=Lib.hid (hb2.trans (hb3.mono hb2.size))
     have HC4:=Lib.hid (HCN.out _ (hb5.trans (hb3.mono hb5.size)))
     clear hb2 hb3 hb5
     go_wp2_with fail
     refine(HM.out t _ HB4.out).mono ?_
     rintro e' w3 ⟨rfl,hw3⟩
     have hw3:=hw3.symm
     subst hw3
     rw[Bool.true_and]at HPR
     generalize okT m t=r' at *
     go_wp2_with fail
     go_roundw
     case rel=>exact⟨j+1,r',by go_num,rfl,by omega,Lib.hid ⟨HB4.out,HC4.out,HPR.out⟩⟩
     case measure=>simp[RowKit.intOf];omega
  ·have e:j=ks.length:=by omega
   subst e
   obtain⟨hbr,_,hpr⟩:=HR.out
   rw[HE.out r]at hpr
   have HBR:=Lib.hid hbr
   have HPR:=Lib.hid hpr
   clear HR hbr hpr
   cases r
   ·go_wp2_with fail
    refine⟨rfl,?_⟩
    rw[←HPR.out]
    exact PtP.no HBR.out
   ·go_wp2_with fail
    rw[←HPR.out]
    exact⟨rfl,.tuple #[],by simp[results,go_sem],PtP.ok HBR.out⟩
end Char
namespace Char
open Go.RowKit Go.Lib
def clD (x:Ex)(n:Nat):Int ⊕ Int:=match fnF x.s with
 |none=> .inl 32
 |some f=>if (x.ks.length:Int)<f.least∨f.most<(x.ks.length:Int) then .inl 33 else finT f.nodes f.ty (ckKs x.ks n)
set_option maxRecDepth 100000 in
set_option maxHeartbeats 8000000 in
theorem callC_of (c:Nat)(hS:ChC c)(hcm:c≤1001)(n:Nat)(x:Ex)(vk vs:Value)(w:World)(F:Nat→Prop)(hn:n≤2)(hc:cntEs x.ks≤c)(hr:rightEs x.ks=true)(hx:ExOn w F x vk vs):
 Calls Tryz.prog 141 #[.agg #[.int .i64 (n:Int)],exV x vk vs] w (CkP w (clD x n)):=by
 have hmf:∀(fn:Fn) (first cap:Array Value) (w:World),(Instr.makeFunc fn first cap).run Tryz.prog w= .ok (.func fn first cap) w:=fun _ _ _ _=>rfl
 obtain⟨h1,h2⟩:=ExOn.iff.1 hx
 obtain⟨o1,j1,rfl⟩:=h1.form
 obtain⟨o2,j2,rfl⟩:=h2.form
 obtain⟨W1,hW1⟩:∃W1,W1=(w.alloc (.cells #[.int .i64 (n:Int)] 122)).alloc (boxEx x (.slice o1 x.ks.length j1) (.slice o2 x.ss.length j2)):=⟨_,rfl⟩
 have b1:Below w.heap.size w W1:=by rw[hW1];exact((Below.refl _ _).alloc (Nat.le_refl _) _).alloc (by simp) _
 have s1:W1.heap.size=w.heap.size+2:=by rw[hW1];simp
 have q0:W1.cell? ⟨w.heap.size,0,none⟩=some (.int .i64 (n:Int)):=by rw[hW1];unfold boxEx;go_simp
 have q5:W1.cell? ⟨w.heap.size+1,4+1,none⟩=some (.slice o1 x.ks.length j1):=by rw[hW1];unfold boxEx;go_simp
 have HCL:=Lib.hid fun W (hW:Below W1.heap.size W1 W)=>And.intro ((hW.cell (p:=⟨w.heap.size,0,none⟩) (by show w.heap.size<_;omega)).trans q0) ((hW.cell (p:=⟨w.heap.size+1,5,none⟩) (by show w.heap.size+1<_;omega)).trans q5)
 have HFN:=Lib.hid (func_any x.s W1)
 unfold clD
 have HB1:=Lib.hid b1
 unfold boxEx at hW1
 have HW:=Lib.hid hW1
 cases hf:fnF x.s with
 |none=>
  rw[hf]at HFN
  unfold FnP fncV fn0 at HFN
  unfold exV
  clear hS hc hr hx h1 h2 b1 s1 q0 q5 hW1 hf
  go_enter Tryz.func141,Tryz.ntmps141
  go_wp2_with fail
  rw[←HW.out]
  refine HFN.out.mono ?_
  rintro e w2 ⟨hb2,rfl⟩
  have HB2:=Lib.hid (HB1.out.trans (hb2.mono HB1.out.size))
  clear hb2
  go_wp2_with fail
  exact⟨rfl,CkP.no (HB2.out.alloc HB2.out.size _)⟩
 |some f=>
  obtain⟨le,mo,nd,ty⟩:=f
  rw[hf]at HFN
  unfold FnP fncV at HFN
  dsimp only at HFN
  dsimp only
  have HPC:=Lib.hid fun W2 (hW:Below W1.heap.size W1 W2)=>partsC_of c hS n x.ks (.slice o1 x.ks.length j1) (W2.alloc (.cells #[.int .i64 le,.int .i64 mo,.bool nd,.int .i64 ty] 124)) F W2.heap.size nd (by go_simp) hn hc hcm hr (h1.below ((b1.trans (hW.mono b1.size)).alloc (b1.trans (hW.mono b1.size)).size _))
  have e1:((x.ks.length:Int)<le∨mo<(x.ks.length:Int))↔(decide ((x.ks.length:Int)<le)||decide (mo<(x.ks.length:Int)))=true:=by simp
  have hFT:=finT_eq nd ty (ckKs x.ks n)
  generalize ckKs x.ks n=Y at *
  obtain⟨D1,hD1⟩:∃D,decide ((x.ks.length:Int)<le)=D:=⟨_,rfl⟩
  obtain⟨D2,hD2⟩:∃D,decide (mo<(x.ks.length:Int))=D:=⟨_,rfl⟩
  rw[hD1,hD2]at e1
  have HE1:=Lib.hid e1
  have HFT:=Lib.hid hFT
  unfold exV
  clear hS hc hr hx h1 h2 b1 s1 q0 q5 hW1 hf e1 hFT hn
  generalize x.ks.length=N at *
  cases D1
  ·cases D2
   ·rw[if_neg (by rw[HE1.out];simp),HFT.out]
    clear HE1 HFT
    obtain⟨P,hP⟩:∃P,ptR nd true Y=P:=⟨_,rfl⟩
    rw[hP]at HPC ⊢
    clear hP
    go_enter Tryz.func141,Tryz.ntmps141
    go_wp2_with fail
    rw[←HW.out]
    refine HFN.out.mono ?_
    rintro e w2 ⟨hb2,rfl⟩
    have HP2:=Lib.hid (HPC.out w2 hb2)
    have hb3:Below W1.heap.size W1 (w2.alloc (.cells #[.int .i64 le,.int .i64 mo,.bool nd,.int .i64 ty] 124)):=hb2.alloc hb2.size _
    obtain⟨z0,z5⟩:=HCL.out _ hb3
    have HB3:=Lib.hid (HB1.out.trans (hb3.mono HB1.out.size))
    have hty:(w2.alloc (.cells #[.int .i64 le,.int .i64 mo,.bool nd,.int .i64 ty] 124)).cell? ⟨w2.heap.size,3,none⟩=some (.int .i64 ty):=by go_simp
    have HTY:=Lib.hid hty
    clear hb2 hb3 HPC HFN hty
    go_wp2_with fail
    refine HP2.out.mono ?_
    cases P with
    |none=>
     rintro e w4 ⟨hb4,rfl⟩
     have cty:=(hb4.cell (p:=⟨w2.heap.size,3,none⟩) (cell_lt HTY.out)).trans HTY.out
     have HB4:=Lib.hid (HB3.out.trans (hb4.mono HB3.out.size))
     clear hb4
     go_wp2_with fail
     go_ret
     exact CkP.ok HB4.out
    |some k=>
     rintro e w4 ⟨hb4,rfl⟩
     have HB4:=Lib.hid (HB3.out.trans (hb4.mono HB3.out.size))
     clear hb4
     unfold panE
     go_wp2_with fail
     refine⟨rfl,?_⟩
     exact CkP.no HB4.out
   ·rw[if_pos (by rw[HE1.out];rfl)]
    clear HE1 HFT HPC
    go_enter Tryz.func141,Tryz.ntmps141
    go_wp2_with fail
    rw[←HW.out]
    refine HFN.out.mono ?_
    rintro e w2 ⟨hb2,rfl⟩
    have hb3:Below W1.heap.size W1 (w2.alloc (.cells #[.int .i64 le,.int .i64 mo,.bool nd,.int .i64 ty] 124)):=hb2.alloc hb2.size _
    obtain⟨z0,z5⟩:=HCL.out _ hb3
    have HB3:=Lib.hid (HB1.out.trans (hb3.mono HB1.out.size))
    clear hb2 hb3 HFN
    go_wp2_with fail
    exact⟨rfl,CkP.no HB3.out⟩
  ·rw[if_pos (by rw[HE1.out];rfl)]
   clear HE1 HFT HPC
   go_enter Tryz.func141,Tryz.ntmps141
   go_wp2_with fail
   rw[←HW.out]
   refine HFN.out.mono ?_
   rintro e w2 ⟨hb2,rfl⟩
   have hb3:Below W1.heap.size W1 (w2.alloc (.cells #[.int .i64 le,.int .i64 mo,.bool nd,.int .i64 ty] 124)):=hb2.alloc hb2.size _
   obtain⟨z0,z5⟩:=HCL.out _ hb3
   have HB3:=Lib.hid (HB1.out.trans (hb3.mono HB1.out.size))
   clear hb2 hb3 HFN
   go_wp2_with fail
   exact⟨rfl,CkP.no HB3.out⟩
end Char
namespace Char
open Go.RowKit Go.Lib
set_option maxRecDepth 100000 in
set_option maxHeartbeats 8000000 in
theorem exprC_18 (c:Nat)(_:ChC c)(_:c≤1001)(n:Nat)(s:List UInt8)(tg vl:Int)(ab:Bool)(ks:List Ex)(ss:List St)(vk vs:Value)(w:World)(F:Nat→Prop)(_:n≤2)(_:cntEs ks+cntSs ss≤c)(_:rightEs ks=true)(_:rightSs ss=true)(hx:ExOn w F (.mk 18 s tg vl ab ks ss) vk vs):
 Calls Tryz.prog 91 #[.agg #[.int .i64 (n:Int)],exV (.mk 18 s tg vl ab ks ss) vk vs] w (CkP w (ckE (.mk 18 s tg vl ab ks ss) n)):=by
 obtain⟨h1,h2⟩:=ExOn.iff.1 hx
 change KdOn w F vk ks at h1
 change SdOn w F vs ss at h2
 obtain⟨o1,j1,rfl⟩:=h1.form
 obtain⟨o2,j2,rfl⟩:=h2.form
 obtain⟨W1,hW1⟩:∃W1,W1=(w.alloc (.cells #[.int .i64 (n:Int)] 122)).alloc (boxEx (.mk 18 s tg vl ab ks ss) (.slice o1 ks.length j1) (.slice o2 ss.length j2)):=⟨_,rfl⟩
 have b1:Below w.heap.size w W1:=by rw[hW1];exact((Below.refl _ _).alloc (Nat.le_refl _) _).alloc (by simp) _
 have s1:W1.heap.size=w.heap.size+2:=by rw[hW1];simp
 have q0:W1.cell? ⟨w.heap.size,0,none⟩=some (.int .i64 (n:Int)):=by rw[hW1];unfold boxEx;go_simp
 have q5:W1.cell? ⟨w.heap.size+1,4+1,none⟩=some (.slice o1 ks.length j1):=by rw[hW1];unfold boxEx;go_simp
 have q6:W1.cell? ⟨w.heap.size+1,4+2,none⟩=some (.slice o2 ss.length j2):=by rw[hW1];unfold boxEx;go_simp
 have HCL:=Lib.hid fun W (hW:Below W1.heap.size W1 W)=>And.intro ((hW.cell (p:=⟨w.heap.size,0,none⟩) (by show w.heap.size<_;omega)).trans q0) (And.intro ((hW.cell (p:=⟨w.heap.size+1,5,none⟩) (by show w.heap.size+1<_;omega)).trans q5) ((hW.cell (p:=⟨w.heap.size+1,6,none⟩) (by show w.heap.size+1<_;omega)).trans q6))
 have hdef:ckE (.mk 18 s tg vl ab ks ss) n= .inr 4:=by rw[ckE,if_neg (by decide),if_neg (by decide),if_neg (by decide),if_neg (by decide),if_neg (by decide),if_pos (by decide)]
 rw[hdef]
 have HB1:=Lib.hid b1
 unfold boxEx Ex.op Ex.s Ex.tg Ex.vl Ex.abs at hW1
 dsimp only at hW1
 have HW:=Lib.hid hW1
 unfold exV Ex.op Ex.s Ex.tg Ex.vl Ex.abs
 dsimp only
 clear hx h1 h2 b1 s1 q0 q5 q6 hW1 hdef HCL
 go_enter Tryz.func91,Tryz.ntmps91
 go_wp2_with fail
 rw[←HW.out]
 go_ret
 exact CkP.ok HB1.out
set_option maxRecDepth 100000 in
set_option maxHeartbeats 8000000 in
theorem exprC_19 (c:Nat)(_:ChC c)(_:c≤1001)(n:Nat)(s:List UInt8)(tg vl:Int)(ab:Bool)(ks:List Ex)(ss:List St)(vk vs:Value)(w:World)(F:Nat→Prop)(_:n≤2)(_:cntEs ks+cntSs ss≤c)(_:rightEs ks=true)(_:rightSs ss=true)(hx:ExOn w F (.mk 19 s tg vl ab ks ss) vk vs):
 Calls Tryz.prog 91 #[.agg #[.int .i64 (n:Int)],exV (.mk 19 s tg vl ab ks ss) vk vs] w (CkP w (ckE (.mk 19 s tg vl ab ks ss) n)):=by
 obtain⟨h1,h2⟩:=ExOn.iff.1 hx
 change KdOn w F vk ks at h1
 change SdOn w F vs ss at h2
 obtain⟨o1,j1,rfl⟩:=h1.form
 obtain⟨o2,j2,rfl⟩:=h2.form
 obtain⟨W1,hW1⟩:∃W1,W1=(w.alloc (.cells #[.int .i64 (n:Int)] 122)).alloc (boxEx (.mk 19 s tg vl ab ks ss) (.slice o1 ks.length j1) (.slice o2 ss.length j2)):=⟨_,rfl⟩
 have b1:Below w.heap.size w W1:=by rw[hW1];exact((Below.refl _ _).alloc (Nat.le_refl _) _).alloc (by simp) _
 have s1:W1.heap.size=w.heap.size+2:=by rw[hW1];simp
 have q0:W1.cell? ⟨w.heap.size,0,none⟩=some (.int .i64 (n:Int)):=by rw[hW1];unfold boxEx;go_simp
 have q5:W1.cell? ⟨w.heap.size+1,4+1,none⟩=some (.slice o1 ks.length j1):=by rw[hW1];unfold boxEx;go_simp
 have q6:W1.cell? ⟨w.heap.size+1,4+2,none⟩=some (.slice o2 ss.length j2):=by rw[hW1];unfold boxEx;go_simp
 have HCL:=Lib.hid fun W (hW:Below W1.heap.size W1 W)=>And.intro ((hW.cell (p:=⟨w.heap.size,0,none⟩) (by show w.heap.size<_;omega)).trans q0) (And.intro ((hW.cell (p:=⟨w.heap.size+1,5,none⟩) (by show w.heap.size+1<_;omega)).trans q5) ((hW.cell (p:=⟨w.heap.size+1,6,none⟩) (by show w.heap.size+1<_;omega)).trans q6))
 have hdef:ckE (.mk 19 s tg vl ab ks ss) n= .inr 3:=by rw[ckE,if_neg (by decide),if_neg (by decide),if_neg (by decide),if_neg (by decide),if_neg (by decide),if_neg (by decide),if_pos (by decide)]
 rw[hdef]
 have HB1:=Lib.hid b1
 unfold boxEx Ex.op Ex.s Ex.tg Ex.vl Ex.abs at hW1
 dsimp only at hW1
 have HW:=Lib.hid hW1
 unfold exV Ex.op Ex.s Ex.tg Ex.vl Ex.abs
 dsimp only
 clear hx h1 h2 b1 s1 q0 q5 q6 hW1 hdef HCL
 go_enter Tryz.func91,Tryz.ntmps91
 go_wp2_with fail
 rw[←HW.out]
 go_ret
 exact CkP.ok HB1.out
set_option maxRecDepth 100000 in
set_option maxHeartbeats 8000000 in
theorem exprC_21 (c:Nat)(_:ChC c)(_:c≤1001)(n:Nat)(s:List UInt8)(tg vl:Int)(ab:Bool)(ks:List Ex)(ss:List St)(vk vs:Value)(w:World)(F:Nat→Prop)(_:n≤2)(_:cntEs ks+cntSs ss≤c)(_:rightEs ks=true)(_:rightSs ss=true)(hx:ExOn w F (.mk 21 s tg vl ab ks ss) vk vs):
 Calls Tryz.prog 91 #[.agg #[.int .i64 (n:Int)],exV (.mk 21 s tg vl ab ks ss) vk vs] w (CkP w (ckE (.mk 21 s tg vl ab ks ss) n)):=by
 obtain⟨h1,h2⟩:=ExOn.iff.1 hx
 change KdOn w F vk ks at h1
 change SdOn w F vs ss at h2
 obtain⟨o1,j1,rfl⟩:=h1.form
 obtain⟨o2,j2,rfl⟩:=h2.form
 obtain⟨W1,hW1⟩:∃W1,W1=(w.alloc (.cells #[.int .i64 (n:Int)] 122)).alloc (boxEx (.mk 21 s tg vl ab ks ss) (.slice o1 ks.length j1) (.slice o2 ss.length j2)):=⟨_,rfl⟩
 have b1:Below w.heap.size w W1:=by rw[hW1];exact((Below.refl _ _).alloc (Nat.le_refl _) _).alloc (by simp) _
 have s1:W1.heap.size=w.heap.size+2:=by rw[hW1];simp
 have q0:W1.cell? ⟨w.heap.size,0,none⟩=some (.int .i64 (n:Int)):=by rw[hW1];unfold boxEx;go_simp
 have q5:W1.cell? ⟨w.heap.size+1,4+1,none⟩=some (.slice o1 ks.length j1):=by rw[hW1];unfold boxEx;go_simp
 have q6:W1.cell? ⟨w.heap.size+1,4+2,none⟩=some (.slice o2 ss.length j2):=by rw[hW1];unfold boxEx;go_simp
 have HCL:=Lib.hid fun W (hW:Below W1.heap.size W1 W)=>And.intro ((hW.cell (p:=⟨w.heap.size,0,none⟩) (by show w.heap.size<_;omega)).trans q0) (And.intro ((hW.cell (p:=⟨w.heap.size+1,5,none⟩) (by show w.heap.size+1<_;omega)).trans q5) ((hW.cell (p:=⟨w.heap.size+1,6,none⟩) (by show w.heap.size+1<_;omega)).trans q6))
 have hdef:ckE (.mk 21 s tg vl ab ks ss) n= .inl 32:=by rw[ckE,if_neg (by decide),if_neg (by decide),if_neg (by decide),if_neg (by decide),if_neg (by decide),if_neg (by decide),if_neg (by decide),if_neg (by decide)]
 rw[hdef]
 have HB1:=Lib.hid b1
 unfold boxEx Ex.op Ex.s Ex.tg Ex.vl Ex.abs at hW1
 dsimp only at hW1
 have HW:=Lib.hid hW1
 unfold exV Ex.op Ex.s Ex.tg Ex.vl Ex.abs
 dsimp only
 clear hx h1 h2 b1 s1 q0 q5 q6 hW1 hdef HCL
 go_enter Tryz.func91,Tryz.ntmps91
 go_wp2_with fail
 rw[←HW.out]
 exact⟨rfl,CkP.no HB1.out⟩
set_option maxRecDepth 100000 in
set_option maxHeartbeats 8000000 in
theorem exprC_20 (c:Nat)(hS:ChC c)(hcm:c≤1001)(n:Nat)(s:List UInt8)(tg vl:Int)(ab:Bool)(ks:List Ex)(ss:List St)(vk vs:Value)(w:World)(F:Nat→Prop)(hn:n≤2)(hc:cntEs ks+cntSs ss≤c)(hr:rightEs ks=true)(_:rightSs ss=true)(hx:ExOn w F (.mk 20 s tg vl ab ks ss) vk vs):
 Calls Tryz.prog 91 #[.agg #[.int .i64 (n:Int)],exV (.mk 20 s tg vl ab ks ss) vk vs] w (CkP w (ckE (.mk 20 s tg vl ab ks ss) n)):=by
 obtain⟨h1,h2⟩:=ExOn.iff.1 hx
 change KdOn w F vk ks at h1
 change SdOn w F vs ss at h2
 obtain⟨o1,j1,rfl⟩:=h1.form
 obtain⟨o2,j2,rfl⟩:=h2.form
 obtain⟨W1,hW1⟩:∃W1,W1=(w.alloc (.cells #[.int .i64 (n:Int)] 122)).alloc (boxEx (.mk 20 s tg vl ab ks ss) (.slice o1 ks.length j1) (.slice o2 ss.length j2)):=⟨_,rfl⟩
 have b1:Below w.heap.size w W1:=by rw[hW1];exact((Below.refl _ _).alloc (Nat.le_refl _) _).alloc (by simp) _
 have s1:W1.heap.size=w.heap.size+2:=by rw[hW1];simp
 have q0:W1.cell? ⟨w.heap.size,0,none⟩=some (.int .i64 (n:Int)):=by rw[hW1];unfold boxEx;go_simp
 have q5:W1.cell? ⟨w.heap.size+1,4+1,none⟩=some (.slice o1 ks.length j1):=by rw[hW1];unfold boxEx;go_simp
 have q6:W1.cell? ⟨w.heap.size+1,4+2,none⟩=some (.slice o2 ss.length j2):=by rw[hW1];unfold boxEx;go_simp
 have HCL:=Lib.hid fun W (hW:Below W1.heap.size W1 W)=>And.intro ((hW.cell (p:=⟨w.heap.size,0,none⟩) (by show w.heap.size<_;omega)).trans q0) (And.intro ((hW.cell (p:=⟨w.heap.size+1,5,none⟩) (by show w.heap.size+1<_;omega)).trans q5) ((hW.cell (p:=⟨w.heap.size+1,6,none⟩) (by show w.heap.size+1<_;omega)).trans q6))
 have hdef:ckE (.mk 20 s tg vl ab ks ss) n=clD (.mk 20 s tg vl ab ks ss) n:=by rw[ckE,if_neg (by decide),if_neg (by decide),if_neg (by decide),if_neg (by decide),if_neg (by decide),if_neg (by decide),if_neg (by decide),if_pos (by decide)];rfl
 rw[hdef]
 have hcl:=callC_of c hS hcm n (.mk 20 s tg vl ab ks ss) (.slice o1 ks.length j1) (.slice o2 ss.length j2) W1 F hn (by show cntEs ks≤c;omega) hr (hx.below b1)
 unfold exV Ex.op Ex.s Ex.tg Ex.vl Ex.abs at hcl
 dsimp only at hcl
 have HPT:=Lib.hid hcl
 obtain⟨P,hP⟩:∃P,clD (.mk 20 s tg vl ab ks ss) n=P:=⟨_,rfl⟩
 rw[hP]at HPT ⊢
 have HB1:=Lib.hid b1
 unfold boxEx Ex.op Ex.s Ex.tg Ex.vl Ex.abs at hW1
 dsimp only at hW1
 have HW:=Lib.hid hW1
 unfold exV Ex.op Ex.s Ex.tg Ex.vl Ex.abs
 dsimp only
 clear hS hc hr hx h1 h2 b1 s1 q0 q5 q6 hW1 hdef hP HCL hcl
 go_enter Tryz.func91,Tryz.ntmps91
 go_wp2_with fail
 rw[←HW.out]
 refine HPT.out.mono ?_
 cases P with
 |inr t=>
  rintro e w4 ⟨hb4,rfl⟩
  have HB4:=Lib.hid (HB1.out.trans (hb4.mono HB1.out.size))
  clear hb4
  go_wp2_with fail
  go_ret
  exact CkP.ok HB4.out
 |inl k=>
  rintro e w4 ⟨hb4,rfl⟩
  have HB4:=Lib.hid (HB1.out.trans (hb4.mono HB1.out.size))
  clear hb4
  unfold panE
  go_wp2_with fail
  exact⟨rfl,CkP.no HB4.out⟩
end Char
namespace Char
open Go.RowKit Go.Lib
theorem ckPs_drop (ks:List Ex)(n j:Nat)(h:j<ks.length):ckPs (ks.drop j) n=if 2≤n then some 34 else match ckE ks[j] (n+1) with
 | .inl e=>some e
 | .inr _=>ckPs (ks.drop (j+1)) n:=by
 rw[List.drop_eq_getElem_cons h,ckPs]
 split
 ·rfl
 ·cases ckE ks[j] (n+1)<;>rfl
theorem ckPs_end (ks:List Ex)(n:Nat):ckPs (ks.drop ks.length) n=none:=by rw[List.drop_length,ckPs]
set_option maxRecDepth 100000 in
set_option maxHeartbeats 8000000 in
theorem predsC_of (c:Nat)(hS:ChC c)(n:Nat)(ks:List Ex)(v:Value)(w:World)(F:Nat→Prop)(hn:n≤2)(hc:cntEs ks≤c)(hcm:c≤1001)(hr:rightEs ks=true)(h1:KdOn w F v ks):
 Calls Tryz.prog 140 #[.agg #[.int .i64 (n:Int)],v] w (PtP w (ckPs ks n)):=by
 have hcl:=cntEs_len ks
 obtain⟨o1,j1,rfl⟩:=h1.form
 have hm:ks.length≤1001:=by omega
 have HS:=Lib.hid fun(hn2:¬2≤n) (j:Nat) (hj:j<ks.length) (va vk:Value) (W:World) (ho:ExOn W F ks[j] va vk)=>hS (n+1) ks[j] va vk W F (by omega) (by have :=cntEs_at ks j hj;omega) (rightEs_c hr j hj) ho
 have HK:=Lib.hid h1
 have HB0:=Lib.hid (below_box (w:=w) (.cells #[.int .i64 (n:Int)] 122))
 have HD:=Lib.hid (fun(j:Nat) (h:j<ks.length)=>ckPs_drop ks n j h)
 have HE:=Lib.hid (ckPs_end ks n)
 obtain⟨P,hP⟩:∃P,ckPs ks n=P:=⟨_,rfl⟩
 have hP0:ckPs (ks.drop 0) n=P:=by rw[List.drop_zero];exact hP
 have HP0:=Lib.hid hP0
 have HN:=Lib.hid hn
 rw[hP]
 clear hS h1 hP hP0 hcl hc hcm hr hn
 go_enter Tryz.func140,Tryz.ntmps140
 go_wp2_with fail
 go_loopw [8] (fun v wr=>∃(j:Nat),v= .int .i64 (j:Int)∧j≤ks.length∧Hid (Below w.heap.size w wr∧wr.cell? ⟨w.heap.size,0,none⟩=some (.int .i64 (n:Int))∧ckPs (ks.drop j) n=P)) (fun v _=>ks.length-(RowKit.intOf v).toNat)
 case atStart=>exact⟨0,rfl,Nat.zero_le _,Lib.hid ⟨HB0.out,by go_simp,HP0.out⟩⟩
 case round=>
  obtain⟨j,rfl,hj,HR⟩:=hrel
  by_cases hlt:j<ks.length
  ·obtain⟨g,off,va,vk,rfl,hg,hat,hon⟩:=HK.out.read j hlt
   obtain⟨hbr,hcn,hpr⟩:=HR.out
   rw[HD.out j hlt]at hpr
   have hc2:=fun hn2 W (hW:Below w.heap.size w W)=>HS.out hn2 j hlt va vk W (hon.below hW)
   have hq1:∀W,Below w.heap.size w W→ExAt W g (off+j*7) ks[j] va vk:=fun W hW=>hat.move (hW.block g hat.lt)
   generalize ks[j]=kid at *
   obtain⟨hn1,hn2⟩:=ExOn.iff.1 hon
   obtain⟨oa',ja',rfl⟩:=hn1.form
   obtain⟨ok',jk',rfl⟩:=hn2.form
   unfold exV at hc2
   have HBR:=Lib.hid hbr
   have hgl0:w.heap.size<wr.heap.size:=cell_lt (a:=⟨w.heap.size,0,none⟩) hcn
   obtain⟨a0,a1,a2,a3,a4,a5,a6⟩:=(hq1 wr hbr).cells
   have hgl:g<wr.heap.size:=cell_lt a0
   have HCN:Hid (∀W,Below wr.heap.size wr W→W.cell? ⟨w.heap.size,0,none⟩=some (.int .i64 (n:Int))):=Lib.hid fun W hW=>(hW.cell (p:=⟨w.heap.size,0,none⟩) hgl0).trans hcn
   by_cases h2:2≤n
   ·have k0:decide ((2:Int)≤(n:Int))=true:=decide_eq_true (by omega)
    rw[if_pos h2]at hpr
    have HPR:=Lib.hid hpr
    clear hc2 hon hat hq1 hn1 hn2 HR hbr hpr h2
    go_wp2_with fail
    refine⟨rfl,?_⟩
    rw[←HPR.out]
    exact PtP.no (HBR.out.alloc HBR.out.size _)
   ·have k0:decide ((2:Int)≤(n:Int))=false:=decide_eq_false (by omega)
    have k1:(n:Int)<2:=by omega
    have k2:(0:Int)≤(n:Int):=by omega
    rw[if_neg h2]at hpr
    have hc3:=hc2 h2
    simp only[Int.natCast_add,Int.natCast_one]at hc3
    have HC2:=Lib.hid hc3
    clear hc2 hc3 hon hat hq1 hn1 hn2 HR hbr h2
    obtain⟨R,hR⟩:∃R,ckE kid (n+1)=R:=⟨_,rfl⟩
    rw[hR]at hpr HC2
    clear hR
    cases R with
    |inl e=>
     dsimp only at hpr
     have HPR:=Lib.hid hpr
     clear hpr
     go_wp2_with fail
     obtain⟨W2,hW2⟩:∃W2,W2=wr.alloc (boxEx kid (.slice oa' kid.ks.length ja') (.slice ok' kid.ss.length jk')):=⟨_,rfl⟩
     have hb2:Below w.heap.size w W2:=by rw[hW2];exact HBR.out.alloc HBR.out.size _
     unfold boxEx at hW2
     rw[←hW2]
     clear hW2
     refine(HC2.out W2 hb2).mono ?_
     rintro e' w2 ⟨hb3,rfl⟩
     have HB4:=Lib.hid (hb2.trans (hb3.mono hb2.size))
     clear hb2 hb3
     unfold panE
     go_wp2_with fail
     refine⟨rfl,?_⟩
     rw[←HPR.out]
     exact PtP.no HB4.out
    |inr t=>
     dsimp only at hpr
     have HPR:=Lib.hid hpr
     clear hpr
     go_wp2_with fail
     obtain⟨W2,hW2⟩:∃W2,W2=wr.alloc (boxEx kid (.slice oa' kid.ks.length ja') (.slice ok' kid.ss.length jk')):=⟨_,rfl⟩
     have hb2:Below w.heap.size w W2:=by rw[hW2];exact HBR.out.alloc HBR.out.size _
     have hb5:Below wr.heap.size wr W2:=by rw[hW2];exact below_box _
     unfold boxEx at hW2
     rw[←hW2]
     clear hW2
     refine(HC2.out W2 hb2).mono ?_
     rintro e' w2 ⟨hb3,rfl⟩
     have HB4:=Lib.hid (hb2.trans (hb3.mono hb2.size))
     have HC4:=Lib.hid (HCN.out _ (hb5.trans (hb3.mono hb5.size)))
     clear hb2 hb3 hb5
     go_wp2_with fail
     go_roundw
     case rel=>exact⟨j+1,by go_num,by omega,Lib.hid ⟨HB4.out,HC4.out,HPR.out⟩⟩
     case measure=>simp[RowKit.intOf];omega
  ·have e:j=ks.length:=by omega
   subst e
   obtain⟨hbr,_,hpr⟩:=HR.out
   rw[HE.out]at hpr
   have HBR:=Lib.hid hbr
   have HPR:=Lib.hid hpr
   clear HR hbr hpr
   go_wp2_with fail
   rw[←HPR.out]
   exact⟨rfl,.tuple #[],by simp[results,go_sem],PtP.ok HBR.out⟩
end Char
namespace Char
open Go.RowKit Go.Lib
theorem ckSs_drop (ss:List St)(n j:Nat)(h:j<ss.length):ckSs (ss.drop j) n=match ckPs ss[j].ps n with
 |some e=>some e
 |none=>ckSs (ss.drop (j+1)) n:=by
 rw[List.drop_eq_getElem_cons h,ckSs,ckS_def]
 cases ckPs ss[j].ps n<;>rfl
theorem ckSs_end (ss:List St)(n:Nat):ckSs (ss.drop ss.length) n=none:=by rw[List.drop_length,ckSs]
set_option maxRecDepth 100000 in
set_option maxHeartbeats 8000000 in
theorem exprC_16 (c:Nat)(hS:ChC c)(hcm:c≤1001)(n:Nat)(s:List UInt8)(tg vl:Int)(ab:Bool)(ks:List Ex)(ss:List St)(vk vs:Value)(w:World)(F:Nat→Prop)(hn:n≤2)(hc:cntEs ks+cntSs ss≤c)(hr:rightEs ks=true)(hrs:rightSs ss=true)(hx:ExOn w F (.mk 16 s tg vl ab ks ss) vk vs):
 Calls Tryz.prog 91 #[.agg #[.int .i64 (n:Int)],exV (.mk 16 s tg vl ab ks ss) vk vs] w (CkP w (ckE (.mk 16 s tg vl ab ks ss) n)):=by
 obtain⟨h1,h2⟩:=ExOn.iff.1 hx
 change KdOn w F vk ks at h1
 change SdOn w F vs ss at h2
 obtain⟨o1,j1,rfl⟩:=h1.form
 obtain⟨o2,j2,rfl⟩:=h2.form
 obtain⟨W1,hW1⟩:∃W1,W1=(w.alloc (.cells #[.int .i64 (n:Int)] 122)).alloc (boxEx (.mk 16 s tg vl ab ks ss) (.slice o1 ks.length j1) (.slice o2 ss.length j2)):=⟨_,rfl⟩
 have b1:Below w.heap.size w W1:=by rw[hW1];exact((Below.refl _ _).alloc (Nat.le_refl _) _).alloc (by simp) _
 have s1:W1.heap.size=w.heap.size+2:=by rw[hW1];simp
 have q0:W1.cell? ⟨w.heap.size,0,none⟩=some (.int .i64 (n:Int)):=by rw[hW1];unfold boxEx;go_simp
 have q5:W1.cell? ⟨w.heap.size+1,4+1,none⟩=some (.slice o1 ks.length j1):=by rw[hW1];unfold boxEx;go_simp
 have q6:W1.cell? ⟨w.heap.size+1,4+2,none⟩=some (.slice o2 ss.length j2):=by rw[hW1];unfold boxEx;go_simp
 have HCL:=Lib.hid fun W (hW:Below W1.heap.size W1 W)=>And.intro ((hW.cell (p:=⟨w.heap.size,0,none⟩) (by show w.heap.size<_;omega)).trans q0) (And.intro ((hW.cell (p:=⟨w.heap.size+1,5,none⟩) (by show w.heap.size+1<_;omega)).trans q5) ((hW.cell (p:=⟨w.heap.size+1,6,none⟩) (by show w.heap.size+1<_;omega)).trans q6))
 have hdef:ckE (.mk 16 s tg vl ab ks ss) n=orT2 (ptR true true (ckKs ks n)) (ckSs ss n):=by
  rw[ckE,if_neg (by decide),if_neg (by decide),if_neg (by decide),if_pos (by decide),finT_eq]
  cases ptR true true (ckKs ks n)<;>cases ckSs ss n<;>rfl
 rw[hdef]
 have HPT:=Lib.hid (partsN_of c hS n ks (.slice o1 ks.length j1) W1 F hn (by omega) hcm hr (h1.below b1))
 have hsl:=cntSs_len ss
 have hm:ss.length≤1001:=by omega
 have HPS:=Lib.hid fun(j:Nat) (hj:j<ss.length) (vp:Value) (W:World) (ho:StOn W F ss[j] vp)=>predsC_of c hS n ss[j].ps vp W F hn (by have h3:=cntSs_at ss j hj;rw[cntS_def]at h3;omega) hcm (by have h3:=rightSs_c hrs j hj;rw[rightS_def,Bool.and_eq_true]at h3;exact h3.2) (StOn.iff.1 ho)
 have HK:=Lib.hid h2
 have HD:=Lib.hid (fun(j:Nat) (h:j<ss.length)=>ckSs_drop ss n j h)
 have HE:=Lib.hid (ckSs_end ss n)
 obtain⟨P,hP⟩:∃P,ptR true true (ckKs ks n)=P:=⟨_,rfl⟩
 obtain⟨S,hSS⟩:∃S,ckSs ss n=S:=⟨_,rfl⟩
 have hS0:ckSs (ss.drop 0) n=S:=by rw[List.drop_zero];exact hSS
 have HS0:=Lib.hid hS0
 rw[hP]at HPT
 rw[hP,hSS]
 have HB1:=Lib.hid b1
 unfold boxEx Ex.op Ex.s Ex.tg Ex.vl Ex.abs at hW1
 dsimp only at hW1
 have HW:=Lib.hid hW1
 unfold exV Ex.op Ex.s Ex.tg Ex.vl Ex.abs
 dsimp only
 clear hS hc hr hrs hx h1 h2 b1 s1 q0 q5 q6 hW1 hdef hP hsl hS0 hSS
 go_enter Tryz.func91,Tryz.ntmps91
 go_wp2_with fail
 rw[←HW.out]
 refine HPT.out.mono ?_
 cases P with
 |some k=>
  rintro e w4 ⟨hb4,rfl⟩
  have HB4:=Lib.hid (HB1.out.trans (hb4.mono HB1.out.size))
  clear hb4
  unfold panE
  go_wp2_with fail
  refine⟨rfl,?_⟩
  exact CkP.no HB4.out
 |none=>
  rintro e w4 ⟨hb4,rfl⟩
  obtain⟨z0,z5,z6⟩:=HCL.out w4 hb4
  have HB4:=Lib.hid hb4
  clear hb4
  go_wp2_with fail
  go_loopw [54] (fun v wr=>∃(j:Nat),v= .int .i64 (j:Int)∧j≤ss.length∧Hid (Below W1.heap.size W1 wr∧ckSs (ss.drop j) n=S)) (fun v _=>ss.length-(RowKit.intOf v).toNat)
  case atStart=>exact⟨0,rfl,Nat.zero_le _,Lib.hid ⟨HB4.out,HS0.out⟩⟩
  case round=>
   clear z0 z5 z6
   obtain⟨j,rfl,hj,HR⟩:=hrel
   by_cases hlt:j<ss.length
   ·obtain⟨g,off,vp,rfl,hg,hat,hon⟩:=HK.out.read j hlt
    obtain⟨hbr,hpr⟩:=HR.out
    rw[HD.out j hlt]at hpr
    have hbw:Below w.heap.size w wr:=HB1.out.trans (hbr.mono HB1.out.size)
    have hc2:=fun W (hW:Below w.heap.size w W)=>HPS.out j hlt vp W (hon.below hW)
    have hq1:StAt wr g (off+j*5) ss[j] vp:=hat.move (hbw.block g hat.lt)
    generalize ss[j]=st at *
    obtain⟨op',jp',rfl⟩:=(StOn.iff.1 hon).form
    obtain⟨a0,a1,a2,a3,a4⟩:=hq1.cells
    have hgl:g<wr.heap.size:=cell_lt a0
    have hbs:∀ob,Below W1.heap.size W1 (wr.alloc ob):=fun ob=>hbr.alloc hbr.size ob
    have z0:∀ob,(wr.alloc ob).cell? ⟨w.heap.size,0,none⟩=some (.int .i64 (n:Int)):=fun ob=>(HCL.out _ (hbs ob)).1
    have HC2:=Lib.hid hc2
    have HBR:=Lib.hid hbr
    have HBW:=Lib.hid hbw
    clear hc2 hon hat hq1 HR hbr hbw hbs
    obtain⟨R,hR⟩:∃R,ckPs st.ps n=R:=⟨_,rfl⟩
    rw[hR]at hpr HC2
    clear hR
    cases R with
    |some e=>
     dsimp only at hpr
     have HPR:=Lib.hid hpr
     clear hpr
     go_wp2_with fail
     obtain⟨W2,hW2⟩:∃W2,W2=wr.alloc (boxSt st (.slice op' st.ps.length jp')):=⟨_,rfl⟩
     have hb2:Below w.heap.size w W2:=by rw[hW2];exact HBW.out.alloc HBW.out.size _
     unfold boxSt at hW2
     rw[←hW2]
     clear hW2
     refine(HC2.out W2 hb2).mono ?_
     rintro e' w2 ⟨hb3,rfl⟩
     have HB5:=Lib.hid (hb2.trans (hb3.mono hb2.size))
     clear hb2 hb3
     unfold panE
     go_wp2_with fail
     refine⟨rfl,?_⟩
     rw[←HPR.out]
     exact CkP.no HB5.out
    |none=>
     dsimp only at hpr
     have HPR:=Lib.hid hpr
     clear hpr
     go_wp2_with fail
     obtain⟨W2,hW2⟩:∃W2,W2=wr.alloc (boxSt st (.slice op' st.ps.length jp')):=⟨_,rfl⟩
     have hb2:Below w.heap.size w W2:=by rw[hW2];exact HBW.out.alloc HBW.out.size _
     have hb5:Below W1.heap.size W1 W2:=by rw[hW2];exact HBR.out.alloc HBR.out.size _
     unfold boxSt at hW2
     rw[←hW2]
     clear hW2
     refine(HC2.out W2 hb2).mono ?_
     rintro e' w2 ⟨hb3,rfl⟩
     have HB5:=Lib.hid (hb5.trans (hb3.mono hb5.size))
     clear hb2 hb3 hb5
     go_wp2_with fail
     go_roundw
     case rel=>exact⟨j+1,by go_num,by omega,Lib.hid ⟨HB5.out,HPR.out⟩⟩
     case measure=>simp[RowKit.intOf];omega
   ·have e:j=ss.length:=by omega
    subst e
    obtain⟨hbr,hpr⟩:=HR.out
    rw[HE.out]at hpr
    have HBR:=Lib.hid (HB1.out.trans (hbr.mono HB1.out.size))
    have HPR:=Lib.hid hpr
    clear HR hbr hpr
    go_wp2_with fail
    go_ret
    rw[←HPR.out]
    exact CkP.ok HBR.out
end Char
namespace Char
open Go.RowKit Go.Lib
theorem below_drewC (W:World):Below W.heap.size W W.drew:=(Below.refl _ _).drew
set_option maxRecDepth 100000 in
set_option maxHeartbeats 8000000 in
theorem exprC_17 (c:Nat)(hS:ChC c)(hcm:c≤1001)(n:Nat)(s:List UInt8)(tg vl:Int)(ab:Bool)(ks:List Ex)(ss:List St)(vk vs:Value)(w:World)(F:Nat→Prop)(hn:n≤2)(hc:cntEs ks+cntSs ss≤c)(hl:2≤ks.length)(hr:rightEs ks=true)(_:rightSs ss=true)(hx:ExOn w F (.mk 17 s tg vl ab ks ss) vk vs):
 Calls Tryz.prog 91 #[.agg #[.int .i64 (n:Int)],exV (.mk 17 s tg vl ab ks ss) vk vs] w (CkP w (ckE (.mk 17 s tg vl ab ks ss) n)):=by
 obtain⟨h1,h2⟩:=ExOn.iff.1 hx
 change KdOn w F vk ks at h1
 change SdOn w F vs ss at h2
 obtain⟨o1,j1,rfl⟩:=h1.form
 obtain⟨o2,j2,rfl⟩:=h2.form
 obtain⟨W1,hW1⟩:∃W1,W1=(w.alloc (.cells #[.int .i64 (n:Int)] 122)).alloc (boxEx (.mk 17 s tg vl ab ks ss) (.slice o1 ks.length j1) (.slice o2 ss.length j2)):=⟨_,rfl⟩
 have b1:Below w.heap.size w W1:=by rw[hW1];exact((Below.refl _ _).alloc (Nat.le_refl _) _).alloc (by simp) _
 have s1:W1.heap.size=w.heap.size+2:=by rw[hW1];simp
 have q0:W1.cell? ⟨w.heap.size,0,none⟩=some (.int .i64 (n:Int)):=by rw[hW1];unfold boxEx;go_simp
 have q5:W1.cell? ⟨w.heap.size+1,4+1,none⟩=some (.slice o1 ks.length j1):=by rw[hW1];unfold boxEx;go_simp
 have q6:W1.cell? ⟨w.heap.size+1,4+2,none⟩=some (.slice o2 ss.length j2):=by rw[hW1];unfold boxEx;go_simp
 have HCL:=Lib.hid fun W (hW:Below W1.heap.size W1 W)=>And.intro ((hW.cell (p:=⟨w.heap.size,0,none⟩) (by show w.heap.size<_;omega)).trans q0) (And.intro ((hW.cell (p:=⟨w.heap.size+1,5,none⟩) (by show w.heap.size+1<_;omega)).trans q5) ((hW.cell (p:=⟨w.heap.size+1,6,none⟩) (by show w.heap.size+1<_;omega)).trans q6))
 obtain⟨k0,kr,rfl⟩:∃k kr,ks=k::kr:=by
  cases ks with
  |nil=>simp at hl
  |cons a c=>exact⟨a,c,rfl⟩
 have hdef:ckE (.mk 17 s tg vl ab (k0::kr) ss) n=orT2 (ptR true true (ckKs [k0] n)) (ckPs kr n):=by
  rw[ckE,if_neg (by decide),if_neg (by decide),if_neg (by decide),if_neg (by decide),if_pos (by decide),ckF,ckKs,ckKs]
  cases ckE k0 n with
  |inl e=>rfl
  |inr t=>
   dsimp only
   by_cases h:t=1
   ·rw[if_pos h,decide_eq_true h]
    cases ckPs kr n<;>rfl
   ·rw[if_neg h,decide_eq_false h]
    rfl
 rw[hdef]
 rw[List.length_cons]at *
 obtain⟨g,off,va,ua,rfl,hg,hat,hko⟩:=h1.read 0 (by simp)
 have hcap:=h1.cap (by simp)
 rw[List.length_cons]at hcap
 have htl:=h1.tail
 simp only[List.getElem_cons_zero,Nat.zero_mul,Nat.add_zero]at hat hko
 have hone:KdOn w F (.slice (some ⟨g,off,none⟩) 1 j1) [k0]:=⟨_,_,rfl,.inr ⟨g,off,rfl,⟨hg,by simp;omega⟩,KsOn.of fun k hk=>by
  have :k=0:=by simp at hk;omega
  subst this
  simp only[List.getElem_cons_zero,Nat.zero_mul,Nat.add_zero]
  exact⟨va,ua,hat,hko⟩⟩⟩
 rw[rightEs,Bool.and_eq_true]at hr
 rw[cntEs]at hc
 have HPT:=Lib.hid fun W (hW:Below w.heap.size w W)=>partsN_of c hS n [k0] _ W F hn (by rw[cntEs,cntEs];omega) hcm (by rw[rightEs,hr.1,rightEs];rfl) (hone.below hW)
 have HPS:=Lib.hid fun W (hW:Below w.heap.size w W)=>predsC_of c hS n kr _ W F hn (by omega) hcm hr.2 (htl.below hW)
 obtain⟨P,hP⟩:∃P,ptR true true (ckKs [k0] n)=P:=⟨_,rfl⟩
 obtain⟨S,hSS⟩:∃S,ckPs kr n=S:=⟨_,rfl⟩
 rw[hP]at HPT
 rw[hSS]at HPS
 rw[hP,hSS]
 have HBD:Hid (∀W,Below w.heap.size w W→Below w.heap.size w W.drew):=Lib.hid fun W h=>h.trans ((below_drewC W).mono h.size)
 have HST:=Lib.hid fun W (hW:Below W1.heap.size W1 W)=>And.intro (HCL.out W hW).1 (HCL.out W hW).2.1
 have HDR:Hid (Below W1.heap.size W1 W1.drew):=Lib.hid (below_drewC W1)
 have HB1:=Lib.hid b1
 unfold boxEx Ex.op Ex.s Ex.tg Ex.vl Ex.abs at hW1
 dsimp only at hW1
 have HW:=Lib.hid hW1
 unfold exV Ex.op Ex.s Ex.tg Ex.vl Ex.abs
 dsimp only
 clear hS hc hr hx h1 h2 b1 s1 q0 q5 q6 hW1 hdef hP hSS hone htl hat hko hg
 have hj1:¬((j1:Int)<1):=by omega
 have hj2:¬(j1=1):=by omega
 have hj3:¬(j1=0):=by omega
 generalize kr.length=m at *
 have hj4:¬((m:Int)+1<1):=by omega
 go_enter Tryz.func91,Tryz.ntmps91
 go_upto_region 34 with fail
 rw[←HW.out]
 refine wp_region_held (S:=fun W'=>W'.cell? ⟨w.heap.size,0,none⟩=some (.int .i64 (n:Int))∧W'.cell? ⟨w.heap.size+1,5,none⟩=some (.slice (some ⟨g,off,none⟩) (m+1) j1)) (by kernel_rfl) ?_
 change wpAnyH _ _ _ _ _ _ _ _ W1.drew
 have hH0:=HST.out W1.drew HDR.out
 refine wpAnyH_take (i:=0) (oi:=_) (v:= .agg #[.int .i64 (n:Int)]) rfl (by kernel_rfl) (by kernel_rfl) (by kernel_rfl) (fun _ _ _ h=>h) (Or.inl ⟨by rfl,fun W hSw=>by dsimp only at hSw;go_simp⟩) hH0 ?_
 simp only[Act.put,List.setIfInBounds_toArray]
 refine wpAnyH_take (i:=1) (oi:=_) (v:= .pointer (some ⟨w.heap.size+1,5,none⟩)) rfl (by kernel_rfl) (by kernel_rfl) (by kernel_rfl) (fun _ _ _ h=>h) (Or.inl ⟨by rfl,fun W hSw=>by dsimp only at hSw;go_simp⟩) hH0 ?_
 simp only[Act.put]
 refine wpAnyH_take (i:=2) (oi:=_) (v:= .slice (some ⟨g,off,none⟩) (m+1) j1) rfl (by kernel_rfl) (by kernel_rfl) (by kernel_rfl) (fun _ _ _ h=>h) (Or.inl ⟨by rfl,fun W hSw=>by dsimp only at hSw;go_simp⟩) hH0 ?_
 simp only[Act.put]
 refine wpAnyH_take (i:=3) (oi:=_) (v:= .slice (some ⟨g,off,none⟩) 1 j1) rfl (by kernel_rfl) (by kernel_rfl) (by kernel_rfl) (fun _ _ _ h=>h) (Or.inl ⟨by rfl,fun W hSw=>by dsimp only at hSw;go_simp⟩) hH0 ?_
 simp only[Act.put]
 refine wpAnyH_take (i:=4) (oi:=_) (v:= .func (.func 138) #[] #[]) rfl (by kernel_rfl) (by kernel_rfl) (by kernel_rfl) (fun _ _ _ h=>h) (Or.inl ⟨by rfl,fun W hSw=>by dsimp only at hSw;go_simp⟩) hH0 ?_
 simp only[Act.put]
 clear hH0
 refine wpAnyH_ready (rs:=[5]) (by kernel_rfl) (by simp) ?_
 refine AllReadyH.cons rfl (fun K hK=> ?_) (AllReadyH.nil)
 go_simp
 refine(HPT.out W1.drew (HBD.out W1 HB1.out)).mono ?_
 cases P with
 |some k=>
  rintro e w4 ⟨hb4,rfl⟩
  have HB4:=Lib.hid ((HBD.out W1 HB1.out).trans (hb4.mono (HBD.out W1 HB1.out).size))
  clear hb4
  unfold panE
  exact⟨rfl,CkP.no HB4.out⟩
 |none=>
  rintro e w4 ⟨hb4,rfl⟩
  have hb5:Below W1.heap.size W1 w4:=HDR.out.trans (hb4.mono HDR.out.size)
  have hh5:=HST.out w4 hb5
  have HB5:=Lib.hid (HB1.out.trans (hb5.mono HB1.out.size))
  have HB6:=Lib.hid (hb5.trans ((below_drewC w4).mono hb5.size))
  clear hb4 hb5
  refine hK.out _ _ hh5 (fun _=> ?_)
  clear hK K
  refine wpAnyH_done (by kernel_rfl) ?_ _
  go_upto_region 35 with fail
  refine wp_region_held (S:=fun W'=>W'.cell? ⟨w.heap.size,0,none⟩=some (.int .i64 (n:Int))∧W'.cell? ⟨w.heap.size+1,5,none⟩=some (.slice (some ⟨g,off,none⟩) (m+1) j1)) (by kernel_rfl) ?_
  change wpAnyH _ _ _ _ _ _ _ _ w4.drew
  have hH0:=HST.out w4.drew HB6.out
  refine wpAnyH_take (i:=0) (oi:=_) (v:= .agg #[.int .i64 (n:Int)]) rfl (by kernel_rfl) (by kernel_rfl) (by kernel_rfl) (fun _ _ _ h=>h) (Or.inl ⟨by rfl,fun W hSw=>by dsimp only at hSw;go_simp⟩) hH0 ?_
  simp only[Act.put,List.setIfInBounds_toArray]
  refine wpAnyH_take (i:=1) (oi:=_) (v:= .pointer (some ⟨w.heap.size+1,5,none⟩)) rfl (by kernel_rfl) (by kernel_rfl) (by kernel_rfl) (fun _ _ _ h=>h) (Or.inl ⟨by rfl,fun W hSw=>by dsimp only at hSw;go_simp⟩) hH0 ?_
  simp only[Act.put]
  refine wpAnyH_take (i:=2) (oi:=_) (v:= .slice (some ⟨g,off,none⟩) (m+1) j1) rfl (by kernel_rfl) (by kernel_rfl) (by kernel_rfl) (fun _ _ _ h=>h) (Or.inl ⟨by rfl,fun W hSw=>by dsimp only at hSw;go_simp⟩) hH0 ?_
  simp only[Act.put]
  refine wpAnyH_take (i:=3) (oi:=_) (v:= .slice (some ⟨g,off+7,none⟩) m (j1-1)) rfl (by kernel_rfl) (by kernel_rfl) (by kernel_rfl) (fun _ _ _ h=>h) (Or.inl ⟨by rfl,fun W hSw=>by dsimp only at hSw;go_simp⟩) hH0 ?_
  simp only[Act.put]
  clear hH0
  refine wpAnyH_ready (rs:=[4]) (by kernel_rfl) (by simp) ?_
  refine AllReadyH.cons rfl (fun K hK=> ?_) (AllReadyH.nil)
  go_simp
  refine(HPS.out w4.drew (HBD.out w4 HB5.out)).mono ?_
  cases S with
  |some k=>
   rintro e w6 ⟨hb7,rfl⟩
   have HB7:=Lib.hid ((HBD.out w4 HB5.out).trans (hb7.mono (HBD.out w4 HB5.out).size))
   clear hb7
   unfold panE
   exact⟨rfl,CkP.no HB7.out⟩
  |none=>
   rintro e w6 ⟨hb7,rfl⟩
   have hb8:Below w4.heap.size w4 w6:=(below_drewC w4).trans (hb7.mono (below_drewC w4).size)
   have HB8:=Lib.hid (HB5.out.trans (hb8.mono HB5.out.size))
   have hh8:=HST.out w6 (HB6.out.trans (hb7.mono HB6.out.size))
   clear hb7 hb8
   refine hK.out _ _ hh8 (fun _=> ?_)
   clear hK K
   refine wpAnyH_done (by kernel_rfl) ?_ _
   go_wp2_with fail
   go_ret
   exact CkP.ok HB8.out
end Char
namespace Char
open Go.RowKit Go.Lib
open Go.Proofs.YtlmpkpjjakallaaGreatDoor.Fig (outT outV)
set_option maxHeartbeats 4000000 in
theorem next_ok (R:Nat)(x:Wd)(r:List Wd)(w:World)(h:LfB R (x::r) w):Calls Tryz.prog 228 #[.pointer (some ⟨R,0,none⟩)] w (TkP R (wdV x) r w):=by
 have hlt:=h.lt
 obtain⟨g,off,c,h1,h2,⟨x0,x1,x2,x3⟩,o',hs,h3⟩:=h.cons
 have hg:=cell_lt x0
 dsimp only at hg
 unfold TkP wdV
 have hpos:((r.length+1:Nat):Int)≠0:=by omega
 have hpos2:(0:Int)<((r.length+1:Nat):Int):=by omega
 have k0:(((r.length+1:Nat):Int)==0)=false:=by rw[beq_eq_false_iff_ne];exact hpos
 have H3:=Lib.hid h3
 clear h h3
 generalize r.length+1=n at *
 generalize (x.k:Int)=c0 at *
 generalize bs x.s=c1 at *
 generalize outT x.n=c2 at *
 generalize outV x.n=c3 at *
 go_enter Tryz.func228,Tryz.ntmps228
 go_wp2_with fail
 refine endCWd Tryz.results228 w.heap.size ?_ rfl rfl ⟨rfl,(H3.out.box _).box _,((But.set R 0 w _).box hlt _).box hlt _⟩
 simpa using heap_box2 (w.setCell ⟨R,0,none⟩ (.slice o' r.length (c-1))) _ _
def nextL (ts:List Wd):Option (Wd×List Wd):=match ts with
 |[]=>none
 |x::r=>some (x,r)
def priL (ts:List Wd):Bool:=atL 10 ts||atL 8 ts||atL 9 ts||atL 6 ts||aheadL 1 [40] ts
def stpL (ts:List Wd):Bool:=atL 2 ts||atL 3 ts||atL 4 ts||atL 7 ts||aheadL 1 [46] ts||aheadL 1 [46,46] ts||aheadL 1 [64] ts
set_option maxHeartbeats 4000000 in
theorem atPrimary_any (R:Nat)(ts:List Wd)(w:World)(h:LfB R ts w):Calls Tryz.prog 197 #[.pointer (some ⟨R,0,none⟩)] w fun e w'=>e= .returned (.bool (priL ts))∧w'=w:=by
 have A0:=Lib.hid (at_any R 10 ts w h)
 have A1:=Lib.hid (at_any R 8 ts w h)
 have A2:=Lib.hid (at_any R 9 ts w h)
 have A3:=Lib.hid (at_any R 6 ts w h)
 have a4:Calls Tryz.prog 196 #[.pointer (some ⟨R,0,none⟩),.int .i64 1,.string ⟨#[40]⟩] w (fun e w'=>e= .returned (.bool (aheadL 1 [40] ts))∧w'=w):=ahead_any R 1 [40] ts w h
 have A4:=Lib.hid a4
 clear a4
 unfold priL
 generalize atL 10 ts=b0 at *
 generalize atL 8 ts=b1 at *
 generalize atL 9 ts=b2 at *
 generalize atL 6 ts=b3 at *
 generalize aheadL 1 [40] ts=b4 at *
 clear h
 have hcs:(b0=true)∨(b0=false∧b1=true)∨(b0=false∧b1=false∧b2=true)∨(b0=false∧b1=false∧b2=false∧b3=true)∨(b0=false∧b1=false∧b2=false∧b3=false):=by cases b0<;>cases b1<;>cases b2<;>cases b3<;>simp
 rcases hcs with rfl|⟨rfl,rfl⟩|⟨rfl,rfl,rfl⟩|⟨rfl,rfl,rfl,rfl⟩|⟨rfl,rfl,rfl,rfl⟩
 all_goals
  go_enter Tryz.func197,Tryz.ntmps197
  go_wp2_with (first
   |(go_at_call 214
     first
      |(with_reducible refine A0.out.mono ?_)
      |(with_reducible refine A1.out.mono ?_)
      |(with_reducible refine A2.out.mono ?_)
      |(with_reducible refine A3.out.mono ?_)
     rintro e w1 ⟨rfl,rfl⟩)
   |(go_at_call 196
     refine A4.out.mono ?_
     rintro e w1 ⟨rfl,rfl⟩))
  go_ret
  exact⟨rfl,rfl⟩
set_option maxHeartbeats 4000000 in
theorem atStep_any (R:Nat)(ts:List Wd)(w:World)(h:LfB R ts w):Calls Tryz.prog 215 #[.pointer (some ⟨R,0,none⟩)] w fun e w'=>e= .returned (.bool (stpL ts))∧w'=w:=by
 have A0:=Lib.hid (at_any R 2 ts w h)
 have A1:=Lib.hid (at_any R 3 ts w h)
 have A2:=Lib.hid (at_any R 4 ts w h)
 have A3:=Lib.hid (at_any R 7 ts w h)
 have a4:Calls Tryz.prog 196 #[.pointer (some ⟨R,0,none⟩),.int .i64 1,.string ⟨#[46]⟩] w (fun e w'=>e= .returned (.bool (aheadL 1 [46] ts))∧w'=w):=ahead_any R 1 [46] ts w h
 have A4:=Lib.hid a4
 clear a4
 have a5:Calls Tryz.prog 196 #[.pointer (some ⟨R,0,none⟩),.int .i64 1,.string ⟨#[46,46]⟩] w (fun e w'=>e= .returned (.bool (aheadL 1 [46,46] ts))∧w'=w):=ahead_any R 1 [46,46] ts w h
 have A5:=Lib.hid a5
 clear a5
 have a6:Calls Tryz.prog 196 #[.pointer (some ⟨R,0,none⟩),.int .i64 1,.string ⟨#[64]⟩] w (fun e w'=>e= .returned (.bool (aheadL 1 [64] ts))∧w'=w):=ahead_any R 1 [64] ts w h
 have A6:=Lib.hid a6
 clear a6
 unfold stpL
 generalize atL 2 ts=b0 at *
 generalize atL 3 ts=b1 at *
 generalize atL 4 ts=b2 at *
 generalize atL 7 ts=b3 at *
 generalize aheadL 1 [46] ts=b4 at *
 generalize aheadL 1 [46,46] ts=b5 at *
 generalize aheadL 1 [64] ts=b6 at *
 clear h
 have hcs:(b0=true)∨(b0=false∧b1=true)∨(b0=false∧b1=false∧b2=true)∨(b0=false∧b1=false∧b2=false∧b3=true)∨(b0=false∧b1=false∧b2=false∧b3=false∧b4=true)∨(b0=false∧b1=false∧b2=false∧b3=false∧b4=false∧b5=true)∨(b0=false∧b1=false∧b2=false∧b3=false∧b4=false∧b5=false):=by cases b0<;>cases b1<;>cases b2<;>cases b3<;>cases b4<;>cases b5<;>simp
 rcases hcs with rfl|⟨rfl,rfl⟩|⟨rfl,rfl,rfl⟩|⟨rfl,rfl,rfl,rfl⟩|⟨rfl,rfl,rfl,rfl,rfl⟩|⟨rfl,rfl,rfl,rfl,rfl,rfl⟩|⟨rfl,rfl,rfl,rfl,rfl,rfl⟩
 all_goals
  go_enter Tryz.func215,Tryz.ntmps215
  go_wp2_with (first
   |(go_at_call 214
     first
      |(with_reducible refine A0.out.mono ?_)
      |(with_reducible refine A1.out.mono ?_)
      |(with_reducible refine A2.out.mono ?_)
      |(with_reducible refine A3.out.mono ?_)
     rintro e w1 ⟨rfl,rfl⟩)
   |(go_at_call 196
     first
      |(with_reducible refine A4.out.mono ?_)
      |(with_reducible refine A5.out.mono ?_)
      |(with_reducible refine A6.out.mono ?_)
     rintro e w1 ⟨rfl,rfl⟩))
  go_ret
  exact⟨rfl,rfl⟩
set_option maxHeartbeats 4000000 in
theorem anyNode_any (a:Int)(w:World):Calls Tryz.prog 219 #[.int .i64 a] w fun e w'=>e= .returned (stpV (.mk a 3 [] false []) (.slice none 0 0))∧Below w.heap.size w w':=by
 unfold stpV
 go_enter Tryz.func219,Tryz.ntmps219
 go_wp2_with fail
 exact endCSt Tryz.results219 w.heap.size (World.alloc_heap_new w _) rfl rfl ⟨rfl,below_box _⟩
end Char
end Go.Proofs.YtlmpkpjjakallaaGreatDoor
