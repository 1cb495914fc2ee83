import Derived.Test.YtlmpkpjjakallaaGreatDoorPt07
namespace Go.Proofs.YtlmpkpjjakallaaGreatDoor
namespace Char
open Go.RowKit Go.Lib
theorem rightEs_c:∀{ks:List Ex},rightEs ks=true→∀(j:Nat) (h:j<ks.length),rightE ks[j]=true
 |[],_,j,h=>by cases h
 |x::r,hr,0,_=>by rw[rightEs,Bool.and_eq_true]at hr;exact hr.1
 |x::r,hr,j+1,h=>by rw[rightEs,Bool.and_eq_true]at hr;exact rightEs_c hr.2 j (by simpa using h)
theorem rightSs_c:∀{ks:List St},rightSs ks=true→∀(j:Nat) (h:j<ks.length),rightS ks[j]=true
 |[],_,j,h=>by cases h
 |x::r,hr,0,_=>by rw[rightSs,Bool.and_eq_true]at hr;exact hr.1
 |x::r,hr,j+1,h=>by rw[rightSs,Bool.and_eq_true]at hr;exact rightSs_c hr.2 j (by simpa using h)
set_option maxRecDepth 100000 in
set_option maxHeartbeats 8000000 in
theorem partsA_of (c:Nat)(hS:ChC c)(n:Nat)(ks:List Ex)(v:Value)(w:World)(F:Nat→Prop)(hn:n≤2)(hc:cntEs ks≤c)(hcm:c≤1001)(hr:rightEs ks=true)(h1:KdOn w F v ks):
 Calls Tryz.prog 139 #[.agg #[.int .i64 (n:Int)],v,.func (.func 137) #[] #[]] w (PtP w (ptR false true (ckKs ks n))):=by
 have hcl:=cntEs_len ks
 obtain⟨o1,j1,rfl⟩:=h1.form
 have hm:ks.length≤1001:=by omega
 have HM:Hid (∀(t:Int) (W:World),Below w.heap.size w W→Calls Tryz.prog 137 #[.int .i64 t] W fun e w'=>e= .returned (.bool (okT false t))∧w'=W):=Lib.hid fun t W hW=>any_cl t W
 have HS:=Lib.hid fun(j:Nat) (hj:j<ks.length) (va vk:Value) (W:World) (ho:ExOn W F ks[j] va vk)=>hS n ks[j] va vk W F hn (by have :=cntEs_at ks j hj;omega) (rightEs_c hr j hj) ho
 have HK:=Lib.hid h1
 have HB0:=Lib.hid (below_box (w:=w) (.cells #[.int .i64 (n:Int)] 122))
 have HD:=Lib.hid (fun(j:Nat) (r:Bool) (h:j<ks.length)=>ptR_step false r ks n j h)
 have HE:=Lib.hid (fun(r:Bool)=>ptR_end false r ks n)
 obtain⟨P,hP⟩:∃P,ptR false true (ckKs ks n)=P:=⟨_,rfl⟩
 have hP0:ptR false true (ckKs (ks.drop 0) n)=P:=by rw[List.drop_zero];exact hP
 have HP0:=Lib.hid hP0
 rw[hP]
 clear hS h1 hP hP0 hcl hc hcm hr hn
 go_enter Tryz.func139,Tryz.ntmps139
 go_wp2_with fail
 go_loopw [6,12] (fun v6 v wr=>∃(j:Nat) (r:Bool),v= .int .i64 (j:Int)∧v6= .bool r∧j≤ks.length∧Hid (Below w.heap.size w wr∧wr.cell? ⟨w.heap.size,0,none⟩=some (.int .i64 (n:Int))∧ptR false r (ckKs (ks.drop j) n)=P)) (fun _ v _=>ks.length-(RowKit.intOf v).toNat)
 case atStart=>exact⟨0,true,rfl,rfl,Nat.zero_le _,Lib.hid ⟨HB0.out,by go_simp,HP0.out⟩⟩
 case round=>
  obtain⟨j,r,rfl,rfl,hj,HR⟩:=hrel
  by_cases hlt:j<ks.length
  ·obtain⟨g,off,va,vk,rfl,hg,hat,hon⟩:=HK.out.read j hlt
   obtain⟨hbr,hcn,hpr⟩:=HR.out
   rw[HD.out j r hlt]at hpr
   have hc2:=fun W (hW:Below w.heap.size w W)=>HS.out j hlt va vk W (hon.below hW)
   have hq1:∀W,Below w.heap.size w W→ExAt W g (off+j*7) ks[j] va vk:=fun W hW=>hat.move (hW.block g hat.lt)
   generalize ks[j]=kid at *
   obtain⟨hn1,hn2⟩:=ExOn.iff.1 hon
   obtain⟨oa',ja',rfl⟩:=hn1.form
   obtain⟨ok',jk',rfl⟩:=hn2.form
   unfold exV at hc2
   have HC2:=Lib.hid hc2
   have HBR:=Lib.hid hbr
   have hgl0:w.heap.size<wr.heap.size:=cell_lt (a:=⟨w.heap.size,0,none⟩) hcn
   obtain⟨a0,a1,a2,a3,a4,a5,a6⟩:=(hq1 wr hbr).cells
   have hgl:g<wr.heap.size:=cell_lt a0
   have HCN:Hid (∀W,Below wr.heap.size wr W→W.cell? ⟨w.heap.size,0,none⟩=some (.int .i64 (n:Int))):=Lib.hid fun W hW=>(hW.cell (p:=⟨w.heap.size,0,none⟩) hgl0).trans hcn
   clear hc2 hon hat hq1 hn1 hn2 HR hbr
   obtain⟨R,hR⟩:∃R,ckE kid n=R:=⟨_,rfl⟩
   rw[hR]at hpr HC2
   clear hR
   cases R with
   |inl e=>
    dsimp only at hpr
    have HPR:=Lib.hid hpr
    clear hpr
    go_wp2_with fail
    obtain⟨W2,hW2⟩:∃W2,W2=wr.alloc (boxEx kid (.slice oa' kid.ks.length ja') (.slice ok' kid.ss.length jk')):=⟨_,rfl⟩
    have hb2:Below w.heap.size w W2:=by rw[hW2];exact HBR.out.alloc HBR.out.size _
    unfold boxEx at hW2
    rw[←hW2]
    clear hW2
    refine(HC2.out W2 hb2).mono ?_
    rintro e' w2 ⟨hb3,rfl⟩
    have HB4:=Lib.hid (hb2.trans (hb3.mono hb2.size))
    clear hb2 hb3
    unfold panE
    go_wp2_with fail
    refine⟨rfl,?_⟩
    rw[←HPR.out]
    exact PtP.no HB4.out
   |inr t=>
    dsimp only at hpr
    have HPR:=Lib.hid hpr
    clear hpr
    cases r
    ·go_wp2_with fail
     obtain⟨W2,hW2⟩:∃W2,W2=wr.alloc (boxEx kid (.slice oa' kid.ks.length ja') (.slice ok' kid.ss.length jk')):=⟨_,rfl⟩
     have hb2:Below w.heap.size w W2:=by rw[hW2];exact HBR.out.alloc HBR.out.size _
     have hb5:Below wr.heap.size wr W2:=by rw[hW2];exact below_box _
     unfold boxEx at hW2
     rw[←hW2]
     clear hW2
     refine(HC2.out W2 hb2).mono ?_
     rintro e' w2 ⟨hb3,rfl⟩
     have HB4:=Lib.hid (hb2.trans (hb3.mono hb2.size))
     have HC4:=Lib.hid (HCN.out _ (hb5.trans (hb3.mono hb5.size)))
     clear hb2 hb3 hb5
     go_wp2_with fail
     go_roundw
     case rel=>exact⟨j+1,false,by go_num,rfl,by omega,Lib.hid ⟨HB4.out,HC4.out,HPR.out⟩⟩
     case measure=>simp[RowKit.intOf];omega
    ·go_wp2_with fail
     obtain⟨W2,hW2⟩:∃W2,W2=wr.alloc (boxEx kid (.slice oa' kid.ks.length ja') (.slice ok' kid.ss.length jk')):=⟨_,rfl⟩
     have hb2:Below w.heap.size w W2:=by rw[hW2];exact HBR.out.alloc HBR.out.size _
     have hb5:Below wr.heap.size wr W2:=by rw[hW2];exact below_box _
     unfold boxEx at hW2
     rw[←hW2]
     clear hW2
     refine(HC2.out W2 hb2).mono ?_
     rintro e' w2 ⟨hb3,rfl⟩
     have HB4:=Lib.hid (hb2.trans (hb3.mono hb2.size))
     have HC4:=Lib.hid (HCN.out _ (hb5.trans (hb3.mono hb5.size)))
     clear hb2 hb3 hb5
     go_wp2_with fail
     refine(HM.out t _ HB4.out).mono ?_
     rintro e' w3 ⟨rfl,hw3⟩
     have hw3:=hw3.symm
     subst hw3
     rw[Bool.true_and]at HPR
     generalize okT false t=r' at *
     go_wp2_with fail
     go_roundw
     case rel=>exact⟨j+1,r',by go_num,rfl,by omega,Lib.hid ⟨HB4.out,HC4.out,HPR.out⟩⟩
     case measure=>simp[RowKit.intOf];omega
  ·have e:j=ks.length:=by omega
   subst e
   obtain⟨hbr,_,hpr⟩:=HR.out
   rw[HE.out r]at hpr
   have HBR:=Lib.hid hbr
   have HPR:=Lib.hid hpr
   clear HR hbr hpr
   cases r
   ·go_wp2_with fail
    refine⟨rfl,?_⟩
    rw[←HPR.out]
    exact PtP.no HBR.out
   ·go_wp2_with fail
    rw[←HPR.out]
    exact⟨rfl,.tuple #[],by simp[results,go_sem],PtP.ok HBR.out⟩
end Char
namespace Char
open Go.RowKit Go.Lib
set_option maxRecDepth 100000 in
set_option maxHeartbeats 8000000 in
theorem partsN_of (c:Nat)(hS:ChC c)(n:Nat)(ks:List Ex)(v:Value)(w:World)(F:Nat→Prop)(hn:n≤2)(hc:cntEs ks≤c)(hcm:c≤1001)(hr:rightEs ks=true)(h1:KdOn w F v ks):
 Calls Tryz.prog 139 #[.agg #[.int .i64 (n:Int)],v,.func (.func 138) #[] #[]] w (PtP w (ptR true true (ckKs ks n))):=by
 have hcl:=cntEs_len ks
 obtain⟨o1,j1,rfl⟩:=h1.form
 have hm:ks.length≤1001:=by omega
 have HM:Hid (∀(t:Int) (W:World),Below w.heap.size w W→Calls Tryz.prog 138 #[.int .i64 t] W fun e w'=>e= .returned (.bool (okT true t))∧w'=W):=Lib.hid fun t W hW=>nds_cl t W
 have HS:=Lib.hid fun(j:Nat) (hj:j<ks.length) (va vk:Value) (W:World) (ho:ExOn W F ks[j] va vk)=>hS n ks[j] va vk W F hn (by have :=cntEs_at ks j hj;omega) (rightEs_c hr j hj) ho
 have HK:=Lib.hid h1
 have HB0:=Lib.hid (below_box (w:=w) (.cells #[.int .i64 (n:Int)] 122))
 have HD:=Lib.hid (fun(j:Nat) (r:Bool) (h:j<ks.length)=>ptR_step true r ks n j h)
 have HE:=Lib.hid (fun(r:Bool)=>ptR_end true r ks n)
 obtain⟨P,hP⟩:∃P,ptR true true (ckKs ks n)=P:=⟨_,rfl⟩
 have hP0:ptR true true (ckKs (ks.drop 0) n)=P:=by rw[List.drop_zero];exact hP
 have HP0:=Lib.hid hP0
 rw[hP]
 clear hS h1 hP hP0 hcl hc hcm hr hn
 go_enter Tryz.func139,Tryz.ntmps139
 go_wp2_with fail
 go_loopw [6,12] (fun v6 v wr=>∃(j:Nat) (r:Bool),v= .int .i64 (j:Int)∧v6= .bool r∧j≤ks.length∧Hid (Below w.heap.size w wr∧wr.cell? ⟨w.heap.size,0,none⟩=some (.int .i64 (n:Int))∧ptR true r (ckKs (ks.drop j) n)=P)) (fun _ v _=>ks.length-(RowKit.intOf v).toNat)
 case atStart=>exact⟨0,true,rfl,rfl,Nat.zero_le _,Lib.hid ⟨HB0.out,by go_simp,HP0.out⟩⟩
 case round=>
  obtain⟨j,r,rfl,rfl,hj,HR⟩:=hrel
  by_cases hlt:j<ks.length
  ·obtain⟨g,off,va,vk,rfl,hg,hat,hon⟩:=HK.out.read j hlt
   obtain⟨hbr,hcn,hpr⟩:=HR.out
   rw[HD.out j r hlt]at hpr
   have hc2:=fun W (hW:Below w.heap.size w W)=>HS.out j hlt va vk W (hon.below hW)
   have hq1:∀W,Below w.heap.size w W→ExAt W g (off+j*7) ks[j] va vk:=fun W hW=>hat.move (hW.block g hat.lt)
   generalize ks[j]=kid at *
   obtain⟨hn1,hn2⟩:=ExOn.iff.1 hon
   obtain⟨oa',ja',rfl⟩:=hn1.form
   obtain⟨ok',jk',rfl⟩:=hn2.form
   unfold exV at hc2
   have HC2:=Lib.hid hc2
   have HBR:=Lib.hid hbr
   have hgl0:w.heap.size<wr.heap.size:=cell_lt (a:=⟨w.heap.size,0,none⟩) hcn
   obtain⟨a0,a1,a2,a3,a4,a5,a6⟩:=(hq1 wr hbr).cells
   have hgl:g<wr.heap.size:=cell_lt a0
   have HCN:Hid (∀W,Below wr.heap.size wr W→W.cell? ⟨w.heap.size,0,none⟩=some (.int .i64 (n:Int))):=Lib.hid fun W hW=>(hW.cell (p:=⟨w.heap.size,0,none⟩) hgl0).trans hcn
   clear hc2 hon hat hq1 hn1 hn2 HR hbr
   obtain⟨R,hR⟩:∃R,ckE kid n=R:=⟨_,rfl⟩
   rw[hR]at hpr HC2
   clear hR
   cases R with
   |inl e=>
    dsimp only at hpr
    have HPR:=Lib.hid hpr
    clear hpr
    go_wp2_with fail
    obtain⟨W2,hW2⟩:∃W2,W2=wr.alloc (boxEx kid (.slice oa' kid.ks.length ja') (.slice ok' kid.ss.length jk')):=⟨_,rfl⟩
    have hb2:Below w.heap.size w W2:=by rw[hW2];exact HBR.out.alloc HBR.out.size _
    unfold boxEx at hW2
    rw[←hW2]
    clear hW2
    refine(HC2.out W2 hb2).mono ?_
    rintro e' w2 ⟨hb3,rfl⟩
    have HB4:=Lib.hid (hb2.trans (hb3.mono hb2.size))
    clear hb2 hb3
    unfold panE
    go_wp2_with fail
    refine⟨rfl,?_⟩
    rw[←HPR.out]
    exact PtP.no HB4.out
   |inr t=>
    dsimp only at hpr
    have HPR:=Lib.hid hpr
    clear hpr
    cases r
    ·go_wp2_with fail
     obtain⟨W2,hW2⟩:∃W2,W2=wr.alloc (boxEx kid (.slice oa' kid.ks.length ja') (.slice ok' kid.ss.length jk')):=⟨_,rfl⟩
     have hb2:Below w.heap.size w W2:=by rw[hW2];exact HBR.out.alloc HBR.out.size _
     have hb5:Below wr.heap.size wr W2:=by rw[hW2];exact below_box _
     unfold boxEx at hW2
     rw[←hW2]
     clear hW2
     refine(HC2.out W2 hb2).mono ?_
     rintro e' w2 ⟨hb3,rfl⟩
     have HB4:=Lib.hid (hb2.trans (hb3.mono hb2.size))
     have HC4:=Lib.hid (HCN.out _ (hb5.trans (hb3.mono hb5.size)))
     clear hb2 hb3 hb5
     go_wp2_with fail
     go_roundw
     case rel=>exact⟨j+1,false,by go_num,rfl,by omega,Lib.hid ⟨HB4.out,HC4.out,HPR.out⟩⟩
     case measure=>simp[RowKit.intOf];omega
    ·go_wp2_with fail
     obtain⟨W2,hW2⟩:∃W2,W2=wr.alloc (boxEx kid (.slice oa' kid.ks.length ja') (.slice ok' kid.ss.length jk')):=⟨_,rfl⟩
     have hb2:Below w.heap.size w W2:=by rw[hW2];exact HBR.out.alloc HBR.out.size _
     have hb5:Below wr.heap.size wr W2:=by rw[hW2];exact below_box _
     unfold boxEx at hW2
     rw[←hW2]
     clear hW2
     refine(HC2.out W2 hb2).mono ?_
     rintro e' w2 ⟨hb3,rfl⟩
     have HB4:=Lib.hid (hb2.trans (hb3.mono hb2.size))
     have HC4:=Lib.hid (HCN.out _ (hb5.trans (hb3.mono hb5.size)))
     clear hb2 hb3 hb5
     go_wp2_with fail
     refine(HM.out t _ HB4.out).mono ?_
     rintro e' w3 ⟨rfl,hw3⟩
     have hw3:=hw3.symm
     subst hw3
     rw[Bool.true_and]at HPR
     generalize okT true t=r' at *
     go_wp2_with fail
     go_roundw
     case rel=>exact⟨j+1,r',by go_num,rfl,by omega,Lib.hid ⟨HB4.out,HC4.out,HPR.out⟩⟩
     case measure=>simp[RowKit.intOf];omega
  ·have e:j=ks.length:=by omega
   subst e
   obtain⟨hbr,_,hpr⟩:=HR.out
   rw[HE.out r]at hpr
   have HBR:=Lib.hid hbr
   have HPR:=Lib.hid hpr
   clear HR hbr hpr
   cases r
   ·go_wp2_with fail
    refine⟨rfl,?_⟩
    rw[←HPR.out]
    exact PtP.no HBR.out
   ·go_wp2_with fail
    rw[←HPR.out]
    exact⟨rfl,.tuple #[],by simp[results,go_sem],PtP.ok HBR.out⟩
end Char
namespace Char
open Go.RowKit Go.Lib
set_option maxRecDepth 100000 in
set_option maxHeartbeats 8000000 in
theorem exprC_1 (c:Nat)(hS:ChC c)(hcm:c≤1001)(n:Nat)(s:List UInt8)(tg vl:Int)(ab:Bool)(ks:List Ex)(ss:List St)(vk vs:Value)(w:World)(F:Nat→Prop)(hn:n≤2)(hc:cntEs ks+cntSs ss≤c)(hr:rightEs ks=true)(_:rightSs ss=true)(hx:ExOn w F (.mk 1 s tg vl ab ks ss) vk vs):
 Calls Tryz.prog 91 #[.agg #[.int .i64 (n:Int)],exV (.mk 1 s tg vl ab ks ss) vk vs] w (CkP w (ckE (.mk 1 s tg vl ab ks ss) n)):=by
 obtain⟨h1,h2⟩:=ExOn.iff.1 hx
 change KdOn w F vk ks at h1
 change SdOn w F vs ss at h2
 obtain⟨o1,j1,rfl⟩:=h1.form
 obtain⟨o2,j2,rfl⟩:=h2.form
 obtain⟨W1,hW1⟩:∃W1,W1=(w.alloc (.cells #[.int .i64 (n:Int)] 122)).alloc (boxEx (.mk 1 s tg vl ab ks ss) (.slice o1 ks.length j1) (.slice o2 ss.length j2)):=⟨_,rfl⟩
 have b1:Below w.heap.size w W1:=by rw[hW1];exact((Below.refl _ _).alloc (Nat.le_refl _) _).alloc (by simp) _
 have s1:W1.heap.size=w.heap.size+2:=by rw[hW1];simp
 have q0:W1.cell? ⟨w.heap.size,0,none⟩=some (.int .i64 (n:Int)):=by rw[hW1];unfold boxEx;go_simp
 have q5:W1.cell? ⟨w.heap.size+1,4+1,none⟩=some (.slice o1 ks.length j1):=by rw[hW1];unfold boxEx;go_simp
 have q6:W1.cell? ⟨w.heap.size+1,4+2,none⟩=some (.slice o2 ss.length j2):=by rw[hW1];unfold boxEx;go_simp
 have HCL:=Lib.hid fun W (hW:Below W1.heap.size W1 W)=>And.intro ((hW.cell (p:=⟨w.heap.size,0,none⟩) (by show w.heap.size<_;omega)).trans q0) (And.intro ((hW.cell (p:=⟨w.heap.size+1,5,none⟩) (by show w.heap.size+1<_;omega)).trans q5) ((hW.cell (p:=⟨w.heap.size+1,6,none⟩) (by show w.heap.size+1<_;omega)).trans q6))
 have hdef:ckE (.mk 1 s tg vl ab ks ss) n=finT false 2 (ckKs ks n):=by rw[ckE,if_pos (by decide)]
 rw[hdef,finT_eq]
 have HPT:=Lib.hid (partsA_of c hS n ks (.slice o1 ks.length j1) W1 F hn (by omega) hcm hr (h1.below b1))
 obtain⟨P,hP⟩:∃P,ptR false true (ckKs ks n)=P:=⟨_,rfl⟩
 rw[hP]at HPT ⊢
 have HB1:=Lib.hid b1
 unfold boxEx Ex.op Ex.s Ex.tg Ex.vl Ex.abs at hW1
 dsimp only at hW1
 have HW:=Lib.hid hW1
 unfold exV Ex.op Ex.s Ex.tg Ex.vl Ex.abs
 dsimp only
 clear hS hc hr hx h1 h2 b1 s1 q0 q5 q6 hW1 hdef hP HCL
 go_enter Tryz.func91,Tryz.ntmps91
 go_wp2_with fail
 rw[←HW.out]
 refine HPT.out.mono ?_
 cases P with
 |none=>
  rintro e w4 ⟨hb4,rfl⟩
  have HB4:=Lib.hid (HB1.out.trans (hb4.mono HB1.out.size))
  clear hb4
  go_wp2_with fail
  go_ret
  exact CkP.ok HB4.out
 |some k=>
  rintro e w4 ⟨hb4,rfl⟩
  have HB4:=Lib.hid (HB1.out.trans (hb4.mono HB1.out.size))
  clear hb4
  unfold panE
  go_wp2_with fail
  refine⟨rfl,?_⟩
  exact CkP.no HB4.out
set_option maxRecDepth 100000 in
set_option maxHeartbeats 8000000 in
theorem exprC_2 (c:Nat)(hS:ChC c)(hcm:c≤1001)(n:Nat)(s:List UInt8)(tg vl:Int)(ab:Bool)(ks:List Ex)(ss:List St)(vk vs:Value)(w:World)(F:Nat→Prop)(hn:n≤2)(hc:cntEs ks+cntSs ss≤c)(hr:rightEs ks=true)(_:rightSs ss=true)(hx:ExOn w F (.mk 2 s tg vl ab ks ss) vk vs):
 Calls Tryz.prog 91 #[.agg #[.int .i64 (n:Int)],exV (.mk 2 s tg vl ab ks ss) vk vs] w (CkP w (ckE (.mk 2 s tg vl ab ks ss) n)):=by
 obtain⟨h1,h2⟩:=ExOn.iff.1 hx
 change KdOn w F vk ks at h1
 change SdOn w F vs ss at h2
 obtain⟨o1,j1,rfl⟩:=h1.form
 obtain⟨o2,j2,rfl⟩:=h2.form
 obtain⟨W1,hW1⟩:∃W1,W1=(w.alloc (.cells #[.int .i64 (n:Int)] 122)).alloc (boxEx (.mk 2 s tg vl ab ks ss) (.slice o1 ks.length j1) (.slice o2 ss.length j2)):=⟨_,rfl⟩
 have b1:Below w.heap.size w W1:=by rw[hW1];exact((Below.refl _ _).alloc (Nat.le_refl _) _).alloc (by simp) _
 have s1:W1.heap.size=w.heap.size+2:=by rw[hW1];simp
 have q0:W1.cell? ⟨w.heap.size,0,none⟩=some (.int .i64 (n:Int)):=by rw[hW1];unfold boxEx;go_simp
 have q5:W1.cell? ⟨w.heap.size+1,4+1,none⟩=some (.slice o1 ks.length j1):=by rw[hW1];unfold boxEx;go_simp
 have q6:W1.cell? ⟨w.heap.size+1,4+2,none⟩=some (.slice o2 ss.length j2):=by rw[hW1];unfold boxEx;go_simp
 have HCL:=Lib.hid fun W (hW:Below W1.heap.size W1 W)=>And.intro ((hW.cell (p:=⟨w.heap.size,0,none⟩) (by show w.heap.size<_;omega)).trans q0) (And.intro ((hW.cell (p:=⟨w.heap.size+1,5,none⟩) (by show w.heap.size+1<_;omega)).trans q5) ((hW.cell (p:=⟨w.heap.size+1,6,none⟩) (by show w.heap.size+1<_;omega)).trans q6))
 have hdef:ckE (.mk 2 s tg vl ab ks ss) n=finT false 2 (ckKs ks n):=by rw[ckE,if_pos (by decide)]
 rw[hdef,finT_eq]
 have HPT:=Lib.hid (partsA_of c hS n ks (.slice o1 ks.length j1) W1 F hn (by omega) hcm hr (h1.below b1))
 obtain⟨P,hP⟩:∃P,ptR false true (ckKs ks n)=P:=⟨_,rfl⟩
 rw[hP]at HPT ⊢
 have HB1:=Lib.hid b1
 unfold boxEx Ex.op Ex.s Ex.tg Ex.vl Ex.abs at hW1
 dsimp only at hW1
 have HW:=Lib.hid hW1
 unfold exV Ex.op Ex.s Ex.tg Ex.vl Ex.abs
 dsimp only
 clear hS hc hr hx h1 h2 b1 s1 q0 q5 q6 hW1 hdef hP HCL
 go_enter Tryz.func91,Tryz.ntmps91
 go_wp2_with fail
 rw[←HW.out]
 refine HPT.out.mono ?_
 cases P with
 |none=>
  rintro e w4 ⟨hb4,rfl⟩
  have HB4:=Lib.hid (HB1.out.trans (hb4.mono HB1.out.size))
  clear hb4
  go_wp2_with fail
  go_ret
  exact CkP.ok HB4.out
 |some k=>
  rintro e w4 ⟨hb4,rfl⟩
  have HB4:=Lib.hid (HB1.out.trans (hb4.mono HB1.out.size))
  clear hb4
  unfold panE
  go_wp2_with fail
  refine⟨rfl,?_⟩
  exact CkP.no HB4.out
set_option maxRecDepth 100000 in
set_option maxHeartbeats 8000000 in
theorem exprC_3 (c:Nat)(hS:ChC c)(hcm:c≤1001)(n:Nat)(s:List UInt8)(tg vl:Int)(ab:Bool)(ks:List Ex)(ss:List St)(vk vs:Value)(w:World)(F:Nat→Prop)(hn:n≤2)(hc:cntEs ks+cntSs ss≤c)(hr:rightEs ks=true)(_:rightSs ss=true)(hx:ExOn w F (.mk 3 s tg vl ab ks ss) vk vs):
 Calls Tryz.prog 91 #[.agg #[.int .i64 (n:Int)],exV (.mk 3 s tg vl ab ks ss) vk vs] w (CkP w (ckE (.mk 3 s tg vl ab ks ss) n)):=by
 obtain⟨h1,h2⟩:=ExOn.iff.1 hx
 change KdOn w F vk ks at h1
 change SdOn w F vs ss at h2
 obtain⟨o1,j1,rfl⟩:=h1.form
 obtain⟨o2,j2,rfl⟩:=h2.form
 obtain⟨W1,hW1⟩:∃W1,W1=(w.alloc (.cells #[.int .i64 (n:Int)] 122)).alloc (boxEx (.mk 3 s tg vl ab ks ss) (.slice o1 ks.length j1) (.slice o2 ss.length j2)):=⟨_,rfl⟩
 have b1:Below w.heap.size w W1:=by rw[hW1];exact((Below.refl _ _).alloc (Nat.le_refl _) _).alloc (by simp) _
 have s1:W1.heap.size=w.heap.size+2:=by rw[hW1];simp
 have q0:W1.cell? ⟨w.heap.size,0,none⟩=some (.int .i64 (n:Int)):=by rw[hW1];unfold boxEx;go_simp
 have q5:W1.cell? ⟨w.heap.size+1,4+1,none⟩=some (.slice o1 ks.length j1):=by rw[hW1];unfold boxEx;go_simp
 have q6:W1.cell? ⟨w.heap.size+1,4+2,none⟩=some (.slice o2 ss.length j2):=by rw[hW1];unfold boxEx;go_simp
 have HCL:=Lib.hid fun W (hW:Below W1.heap.size W1 W)=>And.intro ((hW.cell (p:=⟨w.heap.size,0,none⟩) (by show w.heap.size<_;omega)).trans q0) (And.intro ((hW.cell (p:=⟨w.heap.size+1,5,none⟩) (by show w.heap.size+1<_;omega)).trans q5) ((hW.cell (p:=⟨w.heap.size+1,6,none⟩) (by show w.heap.size+1<_;omega)).trans q6))
 have hdef:ckE (.mk 3 s tg vl ab ks ss) n=finT false 2 (ckKs ks n):=by rw[ckE,if_pos (by decide)]
 rw[hdef,finT_eq]
 have HPT:=Lib.hid (partsA_of c hS n ks (.slice o1 ks.length j1) W1 F hn (by omega) hcm hr (h1.below b1))
 obtain⟨P,hP⟩:∃P,ptR false true (ckKs ks n)=P:=⟨_,rfl⟩
 rw[hP]at HPT ⊢
 have HB1:=Lib.hid b1
 unfold boxEx Ex.op Ex.s Ex.tg Ex.vl Ex.abs at hW1
 dsimp only at hW1
 have HW:=Lib.hid hW1
 unfold exV Ex.op Ex.s Ex.tg Ex.vl Ex.abs
 dsimp only
 clear hS hc hr hx h1 h2 b1 s1 q0 q5 q6 hW1 hdef hP HCL
 go_enter Tryz.func91,Tryz.ntmps91
 go_wp2_with fail
 rw[←HW.out]
 refine HPT.out.mono ?_
 cases P with
 |none=>
  rintro e w4 ⟨hb4,rfl⟩
  have HB4:=Lib.hid (HB1.out.trans (hb4.mono HB1.out.size))
  clear hb4
  go_wp2_with fail
  go_ret
  exact CkP.ok HB4.out
 |some k=>
  rintro e w4 ⟨hb4,rfl⟩
  have HB4:=Lib.hid (HB1.out.trans (hb4.mono HB1.out.size))
  clear hb4
  unfold panE
  go_wp2_with fail
  refine⟨rfl,?_⟩
  exact CkP.no HB4.out
set_option maxRecDepth 100000 in
set_option maxHeartbeats 8000000 in
theorem exprC_4 (c:Nat)(hS:ChC c)(hcm:c≤1001)(n:Nat)(s:List UInt8)(tg vl:Int)(ab:Bool)(ks:List Ex)(ss:List St)(vk vs:Value)(w:World)(F:Nat→Prop)(hn:n≤2)(hc:cntEs ks+cntSs ss≤c)(hr:rightEs ks=true)(_:rightSs ss=true)(hx:ExOn w F (.mk 4 s tg vl ab ks ss) vk vs):
 Calls Tryz.prog 91 #[.agg #[.int .i64 (n:Int)],exV (.mk 4 s tg vl ab ks ss) vk vs] w (CkP w (ckE (.mk 4 s tg vl ab ks ss) n)):=by
 obtain⟨h1,h2⟩:=ExOn.iff.1 hx
 change KdOn w F vk ks at h1
 change SdOn w F vs ss at h2
 obtain⟨o1,j1,rfl⟩:=h1.form
 obtain⟨o2,j2,rfl⟩:=h2.form
 obtain⟨W1,hW1⟩:∃W1,W1=(w.alloc (.cells #[.int .i64 (n:Int)] 122)).alloc (boxEx (.mk 4 s tg vl ab ks ss) (.slice o1 ks.length j1) (.slice o2 ss.length j2)):=⟨_,rfl⟩
 have b1:Below w.heap.size w W1:=by rw[hW1];exact((Below.refl _ _).alloc (Nat.le_refl _) _).alloc (by simp) _
 have s1:W1.heap.size=w.heap.size+2:=by rw[hW1];simp
 have q0:W1.cell? ⟨w.heap.size,0,none⟩=some (.int .i64 (n:Int)):=by rw[hW1];unfold boxEx;go_simp
 have q5:W1.cell? ⟨w.heap.size+1,4+1,none⟩=some (.slice o1 ks.length j1):=by rw[hW1];unfold boxEx;go_simp
 have q6:W1.cell? ⟨w.heap.size+1,4+2,none⟩=some (.slice o2 ss.length j2):=by rw[hW1];unfold boxEx;go_simp
 have HCL:=Lib.hid fun W (hW:Below W1.heap.size W1 W)=>And.intro ((hW.cell (p:=⟨w.heap.size,0,none⟩) (by show w.heap.size<_;omega)).trans q0) (And.intro ((hW.cell (p:=⟨w.heap.size+1,5,none⟩) (by show w.heap.size+1<_;omega)).trans q5) ((hW.cell (p:=⟨w.heap.size+1,6,none⟩) (by show w.heap.size+1<_;omega)).trans q6))
 have hdef:ckE (.mk 4 s tg vl ab ks ss) n=finT false 2 (ckKs ks n):=by rw[ckE,if_pos (by decide)]
 rw[hdef,finT_eq]
 have HPT:=Lib.hid (partsA_of c hS n ks (.slice o1 ks.length j1) W1 F hn (by omega) hcm hr (h1.below b1))
 obtain⟨P,hP⟩:∃P,ptR false true (ckKs ks n)=P:=⟨_,rfl⟩
 rw[hP]at HPT ⊢
 have HB1:=Lib.hid b1
 unfold boxEx Ex.op Ex.s Ex.tg Ex.vl Ex.abs at hW1
 dsimp only at hW1
 have HW:=Lib.hid hW1
 unfold exV Ex.op Ex.s Ex.tg Ex.vl Ex.abs
 dsimp only
 clear hS hc hr hx h1 h2 b1 s1 q0 q5 q6 hW1 hdef hP HCL
 go_enter Tryz.func91,Tryz.ntmps91
 go_wp2_with fail
 rw[←HW.out]
 refine HPT.out.mono ?_
 cases P with
 |none=>
  rintro e w4 ⟨hb4,rfl⟩
  have HB4:=Lib.hid (HB1.out.trans (hb4.mono HB1.out.size))
  clear hb4
  go_wp2_with fail
  go_ret
  exact CkP.ok HB4.out
 |some k=>
  rintro e w4 ⟨hb4,rfl⟩
  have HB4:=Lib.hid (HB1.out.trans (hb4.mono HB1.out.size))
  clear hb4
  unfold panE
  go_wp2_with fail
  refine⟨rfl,?_⟩
  exact CkP.no HB4.out
set_option maxRecDepth 100000 in
set_option maxHeartbeats 8000000 in
theorem exprC_5 (c:Nat)(hS:ChC c)(hcm:c≤1001)(n:Nat)(s:List UInt8)(tg vl:Int)(ab:Bool)(ks:List Ex)(ss:List St)(vk vs:Value)(w:World)(F:Nat→Prop)(hn:n≤2)(hc:cntEs ks+cntSs ss≤c)(hr:rightEs ks=true)(_:rightSs ss=true)(hx:ExOn w F (.mk 5 s tg vl ab ks ss) vk vs):
 Calls Tryz.prog 91 #[.agg #[.int .i64 (n:Int)],exV (.mk 5 s tg vl ab ks ss) vk vs] w (CkP w (ckE (.mk 5 s tg vl ab ks ss) n)):=by
 obtain⟨h1,h2⟩:=ExOn.iff.1 hx
 change KdOn w F vk ks at h1
 change SdOn w F vs ss at h2
 obtain⟨o1,j1,rfl⟩:=h1.form
 obtain⟨o2,j2,rfl⟩:=h2.form
 obtain⟨W1,hW1⟩:∃W1,W1=(w.alloc (.cells #[.int .i64 (n:Int)] 122)).alloc (boxEx (.mk 5 s tg vl ab ks ss) (.slice o1 ks.length j1) (.slice o2 ss.length j2)):=⟨_,rfl⟩
 have b1:Below w.heap.size w W1:=by rw[hW1];exact((Below.refl _ _).alloc (Nat.le_refl _) _).alloc (by simp) _
 have s1:W1.heap.size=w.heap.size+2:=by rw[hW1];simp
 have q0:W1.cell? ⟨w.heap.size,0,none⟩=some (.int .i64 (n:Int)):=by rw[hW1];unfold boxEx;go_simp
 have q5:W1.cell? ⟨w.heap.size+1,4+1,none⟩=some (.slice o1 ks.length j1):=by rw[hW1];unfold boxEx;go_simp
 have q6:W1.cell? ⟨w.heap.size+1,4+2,none⟩=some (.slice o2 ss.length j2):=by rw[hW1];unfold boxEx;go_simp
 have HCL:=Lib.hid fun W (hW:Below W1.heap.size W1 W)=>And.intro ((hW.cell (p:=⟨w.heap.size,0,none⟩) (by show w.heap.size<_;omega)).trans q0) (And.intro ((hW.cell (p:=⟨w.heap.size+1,5,none⟩) (by show w.heap.size+1<_;omega)).trans q5) ((hW.cell (p:=⟨w.heap.size+1,6,none⟩) (by show w.heap.size+1<_;omega)).trans q6))
 have hdef:ckE (.mk 5 s tg vl ab ks ss) n=finT false 2 (ckKs ks n):=by rw[ckE,if_pos (by decide)]
 rw[hdef,finT_eq]
 have HPT:=Lib.hid (partsA_of c hS n ks (.slice o1 ks.length j1) W1 F hn (by omega) hcm hr (h1.below b1))
 obtain⟨P,hP⟩:∃P,ptR false true (ckKs ks n)=P:=⟨_,rfl⟩
 rw[hP]at HPT ⊢
 have HB1:=Lib.hid b1
 unfold boxEx Ex.op Ex.s Ex.tg Ex.vl Ex.abs at hW1
 dsimp only at hW1
 have HW:=Lib.hid hW1
 unfold exV Ex.op Ex.s Ex.tg Ex.vl Ex.abs
 dsimp only
 clear hS hc hr hx h1 h2 b1 s1 q0 q5 q6 hW1 hdef hP HCL
 go_enter Tryz.func91,Tryz.ntmps91
 go_wp2_with fail
 rw[←HW.out]
 refine HPT.out.mono ?_
 cases P with
 |none=>
  rintro e w4 ⟨hb4,rfl⟩
  have HB4:=Lib.hid (HB1.out.trans (hb4.mono HB1.out.size))
  clear hb4
  go_wp2_with fail
  go_ret
  exact CkP.ok HB4.out
 |some k=>
  rintro e w4 ⟨hb4,rfl⟩
  have HB4:=Lib.hid (HB1.out.trans (hb4.mono HB1.out.size))
  clear hb4
  unfold panE
  go_wp2_with fail
  refine⟨rfl,?_⟩
  exact CkP.no HB4.out
set_option maxRecDepth 100000 in
set_option maxHeartbeats 8000000 in
theorem exprC_6 (c:Nat)(hS:ChC c)(hcm:c≤1001)(n:Nat)(s:List UInt8)(tg vl:Int)(ab:Bool)(ks:List Ex)(ss:List St)(vk vs:Value)(w:World)(F:Nat→Prop)(hn:n≤2)(hc:cntEs ks+cntSs ss≤c)(hr:rightEs ks=true)(_:rightSs ss=true)(hx:ExOn w F (.mk 6 s tg vl ab ks ss) vk vs):
 Calls Tryz.prog 91 #[.agg #[.int .i64 (n:Int)],exV (.mk 6 s tg vl ab ks ss) vk vs] w (CkP w (ckE (.mk 6 s tg vl ab ks ss) n)):=by
 obtain⟨h1,h2⟩:=ExOn.iff.1 hx
 change KdOn w F vk ks at h1
 change SdOn w F vs ss at h2
 obtain⟨o1,j1,rfl⟩:=h1.form
 obtain⟨o2,j2,rfl⟩:=h2.form
 obtain⟨W1,hW1⟩:∃W1,W1=(w.alloc (.cells #[.int .i64 (n:Int)] 122)).alloc (boxEx (.mk 6 s tg vl ab ks ss) (.slice o1 ks.length j1) (.slice o2 ss.length j2)):=⟨_,rfl⟩
 have b1:Below w.heap.size w W1:=by rw[hW1];exact((Below.refl _ _).alloc (Nat.le_refl _) _).alloc (by simp) _
 have s1:W1.heap.size=w.heap.size+2:=by rw[hW1];simp
 have q0:W1.cell? ⟨w.heap.size,0,none⟩=some (.int .i64 (n:Int)):=by rw[hW1];unfold boxEx;go_simp
 have q5:W1.cell? ⟨w.heap.size+1,4+1,none⟩=some (.slice o1 ks.length j1):=by rw[hW1];unfold boxEx;go_simp
 have q6:W1.cell? ⟨w.heap.size+1,4+2,none⟩=some (.slice o2 ss.length j2):=by rw[hW1];unfold boxEx;go_simp
 have HCL:=Lib.hid fun W (hW:Below W1.heap.size W1 W)=>And.intro ((hW.cell (p:=⟨w.heap.size,0,none⟩) (by show w.heap.size<_;omega)).trans q0) (And.intro ((hW.cell (p:=⟨w.heap.size+1,5,none⟩) (by show w.heap.size+1<_;omega)).trans q5) ((hW.cell (p:=⟨w.heap.size+1,6,none⟩) (by show w.heap.size+1<_;omega)).trans q6))
 have hdef:ckE (.mk 6 s tg vl ab ks ss) n=finT false 2 (ckKs ks n):=by rw[ckE,if_pos (by decide)]
 rw[hdef,finT_eq]
 have HPT:=Lib.hid (partsA_of c hS n ks (.slice o1 ks.length j1) W1 F hn (by omega) hcm hr (h1.below b1))
 obtain⟨P,hP⟩:∃P,ptR false true (ckKs ks n)=P:=⟨_,rfl⟩
 rw[hP]at HPT ⊢
 have HB1:=Lib.hid b1
 unfold boxEx Ex.op Ex.s Ex.tg Ex.vl Ex.abs at hW1
 dsimp only at hW1
 have HW:=Lib.hid hW1
 unfold exV Ex.op Ex.s Ex.tg Ex.vl Ex.abs
 dsimp only
 clear hS hc hr hx h1 h2 b1 s1 q0 q5 q6 hW1 hdef hP HCL
 go_enter Tryz.func91,Tryz.ntmps91
 go_wp2_with fail
 rw[←HW.out]
 refine HPT.out.mono ?_
 cases P with
 |none=>
  rintro e w4 ⟨hb4,rfl⟩
  have HB4:=Lib.hid (HB1.out.trans (hb4.mono HB1.out.size))
  clear hb4
  go_wp2_with fail
  go_ret
  exact CkP.ok HB4.out
 |some k=>
  rintro e w4 ⟨hb4,rfl⟩
  have HB4:=Lib.hid (HB1.out.trans (hb4.mono HB1.out.size))
  clear hb4
  unfold panE
  go_wp2_with fail
  refine⟨rfl,?_⟩
  exact CkP.no HB4.out
set_option maxRecDepth 100000 in
set_option maxHeartbeats 8000000 in
theorem exprC_7 (c:Nat)(hS:ChC c)(hcm:c≤1001)(n:Nat)(s:List UInt8)(tg vl:Int)(ab:Bool)(ks:List Ex)(ss:List St)(vk vs:Value)(w:World)(F:Nat→Prop)(hn:n≤2)(hc:cntEs ks+cntSs ss≤c)(hr:rightEs ks=true)(_:rightSs ss=true)(hx:ExOn w F (.mk 7 s tg vl ab ks ss) vk vs):
 Calls Tryz.prog 91 #[.agg #[.int .i64 (n:Int)],exV (.mk 7 s tg vl ab ks ss) vk vs] w (CkP w (ckE (.mk 7 s tg vl ab ks ss) n)):=by
 obtain⟨h1,h2⟩:=ExOn.iff.1 hx
 change KdOn w F vk ks at h1
 change SdOn w F vs ss at h2
 obtain⟨o1,j1,rfl⟩:=h1.form
 obtain⟨o2,j2,rfl⟩:=h2.form
 obtain⟨W1,hW1⟩:∃W1,W1=(w.alloc (.cells #[.int .i64 (n:Int)] 122)).alloc (boxEx (.mk 7 s tg vl ab ks ss) (.slice o1 ks.length j1) (.slice o2 ss.length j2)):=⟨_,rfl⟩
 have b1:Below w.heap.size w W1:=by rw[hW1];exact((Below.refl _ _).alloc (Nat.le_refl _) _).alloc (by simp) _
 have s1:W1.heap.size=w.heap.size+2:=by rw[hW1];simp
 have q0:W1.cell? ⟨w.heap.size,0,none⟩=some (.int .i64 (n:Int)):=by rw[hW1];unfold boxEx;go_simp
 have q5:W1.cell? ⟨w.heap.size+1,4+1,none⟩=some (.slice o1 ks.length j1):=by rw[hW1];unfold boxEx;go_simp
 have q6:W1.cell? ⟨w.heap.size+1,4+2,none⟩=some (.slice o2 ss.length j2):=by rw[hW1];unfold boxEx;go_simp
 have HCL:=Lib.hid fun W (hW:Below W1.heap.size W1 W)=>And.intro ((hW.cell (p:=⟨w.heap.size,0,none⟩) (by show w.heap.size<_;omega)).trans q0) (And.intro ((hW.cell (p:=⟨w.heap.size+1,5,none⟩) (by show w.heap.size+1<_;omega)).trans q5) ((hW.cell (p:=⟨w.heap.size+1,6,none⟩) (by show w.heap.size+1<_;omega)).trans q6))
 have hdef:ckE (.mk 7 s tg vl ab ks ss) n=finT false 2 (ckKs ks n):=by rw[ckE,if_pos (by decide)]
 rw[hdef,finT_eq]
 have HPT:=Lib.hid (partsA_of c hS n ks (.slice o1 ks.length j1) W1 F hn (by omega) hcm hr (h1.below b1))
 obtain⟨P,hP⟩:∃P,ptR false true (ckKs ks n)=P:=⟨_,rfl⟩
 rw[hP]at HPT ⊢
 have HB1:=Lib.hid b1
 unfold boxEx Ex.op Ex.s Ex.tg Ex.vl Ex.abs at hW1
 dsimp only at hW1
 have HW:=Lib.hid hW1
 unfold exV Ex.op Ex.s Ex.tg Ex.vl Ex.abs
 dsimp only
 clear hS hc hr hx h1 h2 b1 s1 q0 q5 q6 hW1 hdef hP HCL
 go_enter Tryz.func91,Tryz.ntmps91
 go_wp2_with fail
 rw[←HW.out]
 refine HPT.out.mono ?_
 cases P with
 |none=>
  rintro e w4 ⟨hb4,rfl⟩
  have HB4:=Lib.hid (HB1.out.trans (hb4.mono HB1.out.size))
  clear hb4
  go_wp2_with fail
  go_ret
  exact CkP.ok HB4.out
 |some k=>
  rintro e w4 ⟨hb4,rfl⟩
  have HB4:=Lib.hid (HB1.out.trans (hb4.mono HB1.out.size))
  clear hb4
  unfold panE
  go_wp2_with fail
  refine⟨rfl,?_⟩
  exact CkP.no HB4.out
set_option maxRecDepth 100000 in
set_option maxHeartbeats 8000000 in
theorem exprC_8 (c:Nat)(hS:ChC c)(hcm:c≤1001)(n:Nat)(s:List UInt8)(tg vl:Int)(ab:Bool)(ks:List Ex)(ss:List St)(vk vs:Value)(w:World)(F:Nat→Prop)(hn:n≤2)(hc:cntEs ks+cntSs ss≤c)(hr:rightEs ks=true)(_:rightSs ss=true)(hx:ExOn w F (.mk 8 s tg vl ab ks ss) vk vs):
 Calls Tryz.prog 91 #[.agg #[.int .i64 (n:Int)],exV (.mk 8 s tg vl ab ks ss) vk vs] w (CkP w (ckE (.mk 8 s tg vl ab ks ss) n)):=by
 obtain⟨h1,h2⟩:=ExOn.iff.1 hx
 change KdOn w F vk ks at h1
 change SdOn w F vs ss at h2
 obtain⟨o1,j1,rfl⟩:=h1.form
 obtain⟨o2,j2,rfl⟩:=h2.form
 obtain⟨W1,hW1⟩:∃W1,W1=(w.alloc (.cells #[.int .i64 (n:Int)] 122)).alloc (boxEx (.mk 8 s tg vl ab ks ss) (.slice o1 ks.length j1) (.slice o2 ss.length j2)):=⟨_,rfl⟩
 have b1:Below w.heap.size w W1:=by rw[hW1];exact((Below.refl _ _).alloc (Nat.le_refl _) _).alloc (by simp) _
 have s1:W1.heap.size=w.heap.size+2:=by rw[hW1];simp
 have q0:W1.cell? ⟨w.heap.size,0,none⟩=some (.int .i64 (n:Int)):=by rw[hW1];unfold boxEx;go_simp
 have q5:W1.cell? ⟨w.heap.size+1,4+1,none⟩=some (.slice o1 ks.length j1):=by rw[hW1];unfold boxEx;go_simp
 have q6:W1.cell? ⟨w.heap.size+1,4+2,none⟩=some (.slice o2 ss.length j2):=by rw[hW1];unfold boxEx;go_simp
 have HCL:=Lib.hid fun W (hW:Below W1.heap.size W1 W)=>And.intro ((hW.cell (p:=⟨w.heap.size,0,none⟩) (by show w.heap.size<_;omega)).trans q0) (And.intro ((hW.cell (p:=⟨w.heap.size+1,5,none⟩) (by show w.heap.size+1<_;omega)).trans q5) ((hW.cell (p:=⟨w.heap.size+1,6,none⟩) (by show w.heap.size+1<_;omega)).trans q6))
 have hdef:ckE (.mk 8 s tg vl ab ks ss) n=finT false 2 (ckKs ks n):=by rw[ckE,if_pos (by decide)]
 rw[hdef,finT_eq]
 have HPT:=Lib.hid (partsA_of c hS n ks (.slice o1 ks.length j1) W1 F hn (by omega) hcm hr (h1.below b1))
 obtain⟨P,hP⟩:∃P,ptR false true (ckKs ks n)=P:=⟨_,rfl⟩
 rw[hP]at HPT ⊢
 have HB1:=Lib.hid b1
 unfold boxEx Ex.op Ex.s Ex.tg Ex.vl Ex.abs at hW1
 dsimp only at hW1
 have HW:=Lib.hid hW1
 unfold exV Ex.op Ex.s Ex.tg Ex.vl Ex.abs
 dsimp only
 clear hS hc hr hx h1 h2 b1 s1 q0 q5 q6 hW1 hdef hP HCL
 go_enter Tryz.func91,Tryz.ntmps91
 go_wp2_with fail
 rw[←HW.out]
 refine HPT.out.mono ?_
 cases P with
 |none=>
  rintro e w4 ⟨hb4,rfl⟩
  have HB4:=Lib.hid (HB1.out.trans (hb4.mono HB1.out.size))
  clear hb4
  go_wp2_with fail
  go_ret
  exact CkP.ok HB4.out
 |some k=>
  rintro e w4 ⟨hb4,rfl⟩
  have HB4:=Lib.hid (HB1.out.trans (hb4.mono HB1.out.size))
  clear hb4
  unfold panE
  go_wp2_with fail
  refine⟨rfl,?_⟩
  exact CkP.no HB4.out
set_option maxRecDepth 100000 in
set_option maxHeartbeats 8000000 in
theorem exprC_9 (c:Nat)(hS:ChC c)(hcm:c≤1001)(n:Nat)(s:List UInt8)(tg vl:Int)(ab:Bool)(ks:List Ex)(ss:List St)(vk vs:Value)(w:World)(F:Nat→Prop)(hn:n≤2)(hc:cntEs ks+cntSs ss≤c)(hr:rightEs ks=true)(_:rightSs ss=true)(hx:ExOn w F (.mk 9 s tg vl ab ks ss) vk vs):
 Calls Tryz.prog 91 #[.agg #[.int .i64 (n:Int)],exV (.mk 9 s tg vl ab ks ss) vk vs] w (CkP w (ckE (.mk 9 s tg vl ab ks ss) n)):=by
 obtain⟨h1,h2⟩:=ExOn.iff.1 hx
 change KdOn w F vk ks at h1
 change SdOn w F vs ss at h2
 obtain⟨o1,j1,rfl⟩:=h1.form
 obtain⟨o2,j2,rfl⟩:=h2.form
 obtain⟨W1,hW1⟩:∃W1,W1=(w.alloc (.cells #[.int .i64 (n:Int)] 122)).alloc (boxEx (.mk 9 s tg vl ab ks ss) (.slice o1 ks.length j1) (.slice o2 ss.length j2)):=⟨_,rfl⟩
 have b1:Below w.heap.size w W1:=by rw[hW1];exact((Below.refl _ _).alloc (Nat.le_refl _) _).alloc (by simp) _
 have s1:W1.heap.size=w.heap.size+2:=by rw[hW1];simp
 have q0:W1.cell? ⟨w.heap.size,0,none⟩=some (.int .i64 (n:Int)):=by rw[hW1];unfold boxEx;go_simp
 have q5:W1.cell? ⟨w.heap.size+1,4+1,none⟩=some (.slice o1 ks.length j1):=by rw[hW1];unfold boxEx;go_simp
 have q6:W1.cell? ⟨w.heap.size+1,4+2,none⟩=some (.slice o2 ss.length j2):=by rw[hW1];unfold boxEx;go_simp
 have HCL:=Lib.hid fun W (hW:Below W1.heap.size W1 W)=>And.intro ((hW.cell (p:=⟨w.heap.size,0,none⟩) (by show w.heap.size<_;omega)).trans q0) (And.intro ((hW.cell (p:=⟨w.heap.size+1,5,none⟩) (by show w.heap.size+1<_;omega)).trans q5) ((hW.cell (p:=⟨w.heap.size+1,6,none⟩) (by show w.heap.size+1<_;omega)).trans q6))
 have hdef:ckE (.mk 9 s tg vl ab ks ss) n=finT false 3 (ckKs ks n):=by rw[ckE,if_neg (by decide),if_pos (by decide)]
 rw[hdef,finT_eq]
 have HPT:=Lib.hid (partsA_of c hS n ks (.slice o1 ks.length j1) W1 F hn (by omega) hcm hr (h1.below b1))
 obtain⟨P,hP⟩:∃P,ptR false true (ckKs ks n)=P:=⟨_,rfl⟩
 rw[hP]at HPT ⊢
 have HB1:=Lib.hid b1
 unfold boxEx Ex.op Ex.s Ex.tg Ex.vl Ex.abs at hW1
 dsimp only at hW1
 have HW:=Lib.hid hW1
 unfold exV Ex.op Ex.s Ex.tg Ex.vl Ex.abs
 dsimp only
 clear hS hc hr hx h1 h2 b1 s1 q0 q5 q6 hW1 hdef hP HCL
 go_enter Tryz.func91,Tryz.ntmps91
 go_wp2_with fail
 rw[←HW.out]
 refine HPT.out.mono ?_
 cases P with
 |none=>
  rintro e w4 ⟨hb4,rfl⟩
  have HB4:=Lib.hid (HB1.out.trans (hb4.mono HB1.out.size))
  clear hb4
  go_wp2_with fail
  go_ret
  exact CkP.ok HB4.out
 |some k=>
  rintro e w4 ⟨hb4,rfl⟩
  have HB4:=Lib.hid (HB1.out.trans (hb4.mono HB1.out.size))
  clear hb4
  unfold panE
  go_wp2_with fail
  refine⟨rfl,?_⟩
  exact CkP.no HB4.out
set_option maxRecDepth 100000 in
set_option maxHeartbeats 8000000 in
theorem exprC_10 (c:Nat)(hS:ChC c)(hcm:c≤1001)(n:Nat)(s:List UInt8)(tg vl:Int)(ab:Bool)(ks:List Ex)(ss:List St)(vk vs:Value)(w:World)(F:Nat→Prop)(hn:n≤2)(hc:cntEs ks+cntSs ss≤c)(hr:rightEs ks=true)(_:rightSs ss=true)(hx:ExOn w F (.mk 10 s tg vl ab ks ss) vk vs):
 Calls Tryz.prog 91 #[.agg #[.int .i64 (n:Int)],exV (.mk 10 s tg vl ab ks ss) vk vs] w (CkP w (ckE (.mk 10 s tg vl ab ks ss) n)):=by
 obtain⟨h1,h2⟩:=ExOn.iff.1 hx
 change KdOn w F vk ks at h1
 change SdOn w F vs ss at h2
 obtain⟨o1,j1,rfl⟩:=h1.form
 obtain⟨o2,j2,rfl⟩:=h2.form
 obtain⟨W1,hW1⟩:∃W1,W1=(w.alloc (.cells #[.int .i64 (n:Int)] 122)).alloc (boxEx (.mk 10 s tg vl ab ks ss) (.slice o1 ks.length j1) (.slice o2 ss.length j2)):=⟨_,rfl⟩
 have b1:Below w.heap.size w W1:=by rw[hW1];exact((Below.refl _ _).alloc (Nat.le_refl _) _).alloc (by simp) _
 have s1:W1.heap.size=w.heap.size+2:=by rw[hW1];simp
 have q0:W1.cell? ⟨w.heap.size,0,none⟩=some (.int .i64 (n:Int)):=by rw[hW1];unfold boxEx;go_simp
 have q5:W1.cell? ⟨w.heap.size+1,4+1,none⟩=some (.slice o1 ks.length j1):=by rw[hW1];unfold boxEx;go_simp
 have q6:W1.cell? ⟨w.heap.size+1,4+2,none⟩=some (.slice o2 ss.length j2):=by rw[hW1];unfold boxEx;go_simp
 have HCL:=Lib.hid fun W (hW:Below W1.heap.size W1 W)=>And.intro ((hW.cell (p:=⟨w.heap.size,0,none⟩) (by show w.heap.size<_;omega)).trans q0) (And.intro ((hW.cell (p:=⟨w.heap.size+1,5,none⟩) (by show w.heap.size+1<_;omega)).trans q5) ((hW.cell (p:=⟨w.heap.size+1,6,none⟩) (by show w.heap.size+1<_;omega)).trans q6))
 have hdef:ckE (.mk 10 s tg vl ab ks ss) n=finT false 3 (ckKs ks n):=by rw[ckE,if_neg (by decide),if_pos (by decide)]
 rw[hdef,finT_eq]
 have HPT:=Lib.hid (partsA_of c hS n ks (.slice o1 ks.length j1) W1 F hn (by omega) hcm hr (h1.below b1))
 obtain⟨P,hP⟩:∃P,ptR false true (ckKs ks n)=P:=⟨_,rfl⟩
 rw[hP]at HPT ⊢
 have HB1:=Lib.hid b1
 unfold boxEx Ex.op Ex.s Ex.tg Ex.vl Ex.abs at hW1
 dsimp only at hW1
 have HW:=Lib.hid hW1
 unfold exV Ex.op Ex.s Ex.tg Ex.vl Ex.abs
 dsimp only
 clear hS hc hr hx h1 h2 b1 s1 q0 q5 q6 hW1 hdef hP HCL
 go_enter Tryz.func91,Tryz.ntmps91
 go_wp2_with fail
 rw[←HW.out]
 refine HPT.out.mono ?_
 cases P with
 |none=>
  rintro e w4 ⟨hb4,rfl⟩
  have HB4:=Lib.hid (HB1.out.trans (hb4.mono HB1.out.size))
  clear hb4
  go_wp2_with fail
  go_ret
  exact CkP.ok HB4.out
 |some k=>
  rintro e w4 ⟨hb4,rfl⟩
  have HB4:=Lib.hid (HB1.out.trans (hb4.mono HB1.out.size))
  clear hb4
  unfold panE
  go_wp2_with fail
  refine⟨rfl,?_⟩
  exact CkP.no HB4.out
set_option maxRecDepth 100000 in
set_option maxHeartbeats 8000000 in
theorem exprC_11 (c:Nat)(hS:ChC c)(hcm:c≤1001)(n:Nat)(s:List UInt8)(tg vl:Int)(ab:Bool)(ks:List Ex)(ss:List St)(vk vs:Value)(w:World)(F:Nat→Prop)(hn:n≤2)(hc:cntEs ks+cntSs ss≤c)(hr:rightEs ks=true)(_:rightSs ss=true)(hx:ExOn w F (.mk 11 s tg vl ab ks ss) vk vs):
 Calls Tryz.prog 91 #[.agg #[.int .i64 (n:Int)],exV (.mk 11 s tg vl ab ks ss) vk vs] w (CkP w (ckE (.mk 11 s tg vl ab ks ss) n)):=by
 obtain⟨h1,h2⟩:=ExOn.iff.1 hx
 change KdOn w F vk ks at h1
 change SdOn w F vs ss at h2
 obtain⟨o1,j1,rfl⟩:=h1.form
 obtain⟨o2,j2,rfl⟩:=h2.form
 obtain⟨W1,hW1⟩:∃W1,W1=(w.alloc (.cells #[.int .i64 (n:Int)] 122)).alloc (boxEx (.mk 11 s tg vl ab ks ss) (.slice o1 ks.length j1) (.slice o2 ss.length j2)):=⟨_,rfl⟩
 have b1:Below w.heap.size w W1:=by rw[hW1];exact((Below.refl _ _).alloc (Nat.le_refl _) _).alloc (by simp) _
 have s1:W1.heap.size=w.heap.size+2:=by rw[hW1];simp
 have q0:W1.cell? ⟨w.heap.size,0,none⟩=some (.int .i64 (n:Int)):=by rw[hW1];unfold boxEx;go_simp
 have q5:W1.cell? ⟨w.heap.size+1,4+1,none⟩=some (.slice o1 ks.length j1):=by rw[hW1];unfold boxEx;go_simp
 have q6:W1.cell? ⟨w.heap.size+1,4+2,none⟩=some (.slice o2 ss.length j2):=by rw[hW1];unfold boxEx;go_simp
 have HCL:=Lib.hid fun W (hW:Below W1.heap.size W1 W)=>And.intro ((hW.cell (p:=⟨w.heap.size,0,none⟩) (by show w.heap.size<_;omega)).trans q0) (And.intro ((hW.cell (p:=⟨w.heap.size+1,5,none⟩) (by show w.heap.size+1<_;omega)).trans q5) ((hW.cell (p:=⟨w.heap.size+1,6,none⟩) (by show w.heap.size+1<_;omega)).trans q6))
 have hdef:ckE (.mk 11 s tg vl ab ks ss) n=finT false 3 (ckKs ks n):=by rw[ckE,if_neg (by decide),if_pos (by decide)]
 rw[hdef,finT_eq]
 have HPT:=Lib.hid (partsA_of c hS n ks (.slice o1 ks.length j1) W1 F hn (by omega) hcm hr (h1.below b1))
 obtain⟨P,hP⟩:∃P,ptR false true (ckKs ks n)=P:=⟨_,rfl⟩
 rw[hP]at HPT ⊢
 have HB1:=Lib.hid b1
 unfold boxEx Ex.op Ex.s Ex.tg Ex.vl Ex.abs at hW1
 dsimp only at hW1
 have HW:=Lib.hid hW1
 unfold exV Ex.op Ex.s Ex.tg Ex.vl Ex.abs
 dsimp only
 clear hS hc hr hx h1 h2 b1 s1 q0 q5 q6 hW1 hdef hP HCL
 go_enter Tryz.func91,Tryz.ntmps91
 go_wp2_with fail
 rw[←HW.out]
 refine HPT.out.mono ?_
 cases P with
 |none=>
  rintro e w4 ⟨hb4,rfl⟩
  have HB4:=Lib.hid (HB1.out.trans (hb4.mono HB1.out.size))
  clear hb4
  go_wp2_with fail
  go_ret
  exact CkP.ok HB4.out
 |some k=>
  rintro e w4 ⟨hb4,rfl⟩
  have HB4:=Lib.hid (HB1.out.trans (hb4.mono HB1.out.size))
  clear hb4
  unfold panE
  go_wp2_with fail
  refine⟨rfl,?_⟩
  exact CkP.no HB4.out
set_option maxRecDepth 100000 in
set_option maxHeartbeats 8000000 in
theorem exprC_12 (c:Nat)(hS:ChC c)(hcm:c≤1001)(n:Nat)(s:List UInt8)(tg vl:Int)(ab:Bool)(ks:List Ex)(ss:List St)(vk vs:Value)(w:World)(F:Nat→Prop)(hn:n≤2)(hc:cntEs ks+cntSs ss≤c)(hr:rightEs ks=true)(_:rightSs ss=true)(hx:ExOn w F (.mk 12 s tg vl ab ks ss) vk vs):
 Calls Tryz.prog 91 #[.agg #[.int .i64 (n:Int)],exV (.mk 12 s tg vl ab ks ss) vk vs] w (CkP w (ckE (.mk 12 s tg vl ab ks ss) n)):=by
 obtain⟨h1,h2⟩:=ExOn.iff.1 hx
 change KdOn w F vk ks at h1
 change SdOn w F vs ss at h2
 obtain⟨o1,j1,rfl⟩:=h1.form
 obtain⟨o2,j2,rfl⟩:=h2.form
 obtain⟨W1,hW1⟩:∃W1,W1=(w.alloc (.cells #[.int .i64 (n:Int)] 122)).alloc (boxEx (.mk 12 s tg vl ab ks ss) (.slice o1 ks.length j1) (.slice o2 ss.length j2)):=⟨_,rfl⟩
 have b1:Below w.heap.size w W1:=by rw[hW1];exact((Below.refl _ _).alloc (Nat.le_refl _) _).alloc (by simp) _
 have s1:W1.heap.size=w.heap.size+2:=by rw[hW1];simp
 have q0:W1.cell? ⟨w.heap.size,0,none⟩=some (.int .i64 (n:Int)):=by rw[hW1];unfold boxEx;go_simp
 have q5:W1.cell? ⟨w.heap.size+1,4+1,none⟩=some (.slice o1 ks.length j1):=by rw[hW1];unfold boxEx;go_simp
 have q6:W1.cell? ⟨w.heap.size+1,4+2,none⟩=some (.slice o2 ss.length j2):=by rw[hW1];unfold boxEx;go_simp
 have HCL:=Lib.hid fun W (hW:Below W1.heap.size W1 W)=>And.intro ((hW.cell (p:=⟨w.heap.size,0,none⟩) (by show w.heap.size<_;omega)).trans q0) (And.intro ((hW.cell (p:=⟨w.heap.size+1,5,none⟩) (by show w.heap.size+1<_;omega)).trans q5) ((hW.cell (p:=⟨w.heap.size+1,6,none⟩) (by show w.heap.size+1<_;omega)).trans q6))
 have hdef:ckE (.mk 12 s tg vl ab ks ss) n=finT false 3 (ckKs ks n):=by rw[ckE,if_neg (by decide),if_pos (by decide)]
 rw[hdef,finT_eq]
 have HPT:=Lib.hid (partsA_of c hS n ks (.slice o1 ks.length j1) W1 F hn (by omega) hcm hr (h1.below b1))
 obtain⟨P,hP⟩:∃P,ptR false true (ckKs ks n)=P:=⟨_,rfl⟩
 rw[hP]at HPT ⊢
 have HB1:=Lib.hid b1
 unfold boxEx Ex.op Ex.s Ex.tg Ex.vl Ex.abs at hW1
 dsimp only at hW1
 have HW:=Lib.hid hW1
 unfold exV Ex.op Ex.s Ex.tg Ex.vl Ex.abs
 dsimp only
 clear hS hc hr hx h1 h2 b1 s1 q0 q5 q6 hW1 hdef hP HCL
 go_enter Tryz.func91,Tryz.ntmps91
 go_wp2_with fail
 rw[←HW.out]
 refine HPT.out.mono ?_
 cases P with
 |none=>
  rintro e w4 ⟨hb4,rfl⟩
  have HB4:=Lib.hid (HB1.out.trans (hb4.mono HB1.out.size))
  clear hb4
  go_wp2_with fail
  go_ret
  exact CkP.ok HB4.out
 |some k=>
  rintro e w4 ⟨hb4,rfl⟩
  have HB4:=Lib.hid (HB1.out.trans (hb4.mono HB1.out.size))
  clear hb4
  unfold panE
  go_wp2_with fail
  refine⟨rfl,?_⟩
  exact CkP.no HB4.out
set_option maxRecDepth 100000 in
set_option maxHeartbeats 8000000 in
theorem exprC_13 (c:Nat)(hS:ChC c)(hcm:c≤1001)(n:Nat)(s:List UInt8)(tg vl:Int)(ab:Bool)(ks:List Ex)(ss:List St)(vk vs:Value)(w:World)(F:Nat→Prop)(hn:n≤2)(hc:cntEs ks+cntSs ss≤c)(hr:rightEs ks=true)(_:rightSs ss=true)(hx:ExOn w F (.mk 13 s tg vl ab ks ss) vk vs):
 Calls Tryz.prog 91 #[.agg #[.int .i64 (n:Int)],exV (.mk 13 s tg vl ab ks ss) vk vs] w (CkP w (ckE (.mk 13 s tg vl ab ks ss) n)):=by
 obtain⟨h1,h2⟩:=ExOn.iff.1 hx
 change KdOn w F vk ks at h1
 change SdOn w F vs ss at h2
 obtain⟨o1,j1,rfl⟩:=h1.form
 obtain⟨o2,j2,rfl⟩:=h2.form
 obtain⟨W1,hW1⟩:∃W1,W1=(w.alloc (.cells #[.int .i64 (n:Int)] 122)).alloc (boxEx (.mk 13 s tg vl ab ks ss) (.slice o1 ks.length j1) (.slice o2 ss.length j2)):=⟨_,rfl⟩
 have b1:Below w.heap.size w W1:=by rw[hW1];exact((Below.refl _ _).alloc (Nat.le_refl _) _).alloc (by simp) _
 have s1:W1.heap.size=w.heap.size+2:=by rw[hW1];simp
 have q0:W1.cell? ⟨w.heap.size,0,none⟩=some (.int .i64 (n:Int)):=by rw[hW1];unfold boxEx;go_simp
 have q5:W1.cell? ⟨w.heap.size+1,4+1,none⟩=some (.slice o1 ks.length j1):=by rw[hW1];unfold boxEx;go_simp
 have q6:W1.cell? ⟨w.heap.size+1,4+2,none⟩=some (.slice o2 ss.length j2):=by rw[hW1];unfold boxEx;go_simp
 have HCL:=Lib.hid fun W (hW:Below W1.heap.size W1 W)=>And.intro ((hW.cell (p:=⟨w.heap.size,0,none⟩) (by show w.heap.size<_;omega)).trans q0) (And.intro ((hW.cell (p:=⟨w.heap.size+1,5,none⟩) (by show w.heap.size+1<_;omega)).trans q5) ((hW.cell (p:=⟨w.heap.size+1,6,none⟩) (by show w.heap.size+1<_;omega)).trans q6))
 have hdef:ckE (.mk 13 s tg vl ab ks ss) n=finT false 3 (ckKs ks n):=by rw[ckE,if_neg (by decide),if_pos (by decide)]
 rw[hdef,finT_eq]
 have HPT:=Lib.hid (partsA_of c hS n ks (.slice o1 ks.length j1) W1 F hn (by omega) hcm hr (h1.below b1))
 obtain⟨P,hP⟩:∃P,ptR false true (ckKs ks n)=P:=⟨_,rfl⟩
 rw[hP]at HPT ⊢
 have HB1:=Lib.hid b1
 unfold boxEx Ex.op Ex.s Ex.tg Ex.vl Ex.abs at hW1
 dsimp only at hW1
 have HW:=Lib.hid hW1
 unfold exV Ex.op Ex.s Ex.tg Ex.vl Ex.abs
 dsimp only
 clear hS hc hr hx h1 h2 b1 s1 q0 q5 q6 hW1 hdef hP HCL
 go_enter Tryz.func91,Tryz.ntmps91
 go_wp2_with fail
 rw[←HW.out]
 refine HPT.out.mono ?_
 cases P with
 |none=>
  rintro e w4 ⟨hb4,rfl⟩
  have HB4:=Lib.hid (HB1.out.trans (hb4.mono HB1.out.size))
  clear hb4
  go_wp2_with fail
  go_ret
  exact CkP.ok HB4.out
 |some k=>
  rintro e w4 ⟨hb4,rfl⟩
  have HB4:=Lib.hid (HB1.out.trans (hb4.mono HB1.out.size))
  clear hb4
  unfold panE
  go_wp2_with fail
  refine⟨rfl,?_⟩
  exact CkP.no HB4.out
set_option maxRecDepth 100000 in
set_option maxHeartbeats 8000000 in
theorem exprC_14 (c:Nat)(hS:ChC c)(hcm:c≤1001)(n:Nat)(s:List UInt8)(tg vl:Int)(ab:Bool)(ks:List Ex)(ss:List St)(vk vs:Value)(w:World)(F:Nat→Prop)(hn:n≤2)(hc:cntEs ks+cntSs ss≤c)(hr:rightEs ks=true)(_:rightSs ss=true)(hx:ExOn w F (.mk 14 s tg vl ab ks ss) vk vs):
 Calls Tryz.prog 91 #[.agg #[.int .i64 (n:Int)],exV (.mk 14 s tg vl ab ks ss) vk vs] w (CkP w (ckE (.mk 14 s tg vl ab ks ss) n)):=by
 obtain⟨h1,h2⟩:=ExOn.iff.1 hx
 change KdOn w F vk ks at h1
 change SdOn w F vs ss at h2
 obtain⟨o1,j1,rfl⟩:=h1.form
 obtain⟨o2,j2,rfl⟩:=h2.form
 obtain⟨W1,hW1⟩:∃W1,W1=(w.alloc (.cells #[.int .i64 (n:Int)] 122)).alloc (boxEx (.mk 14 s tg vl ab ks ss) (.slice o1 ks.length j1) (.slice o2 ss.length j2)):=⟨_,rfl⟩
 have b1:Below w.heap.size w W1:=by rw[hW1];exact((Below.refl _ _).alloc (Nat.le_refl _) _).alloc (by simp) _
 have s1:W1.heap.size=w.heap.size+2:=by rw[hW1];simp
 have q0:W1.cell? ⟨w.heap.size,0,none⟩=some (.int .i64 (n:Int)):=by rw[hW1];unfold boxEx;go_simp
 have q5:W1.cell? ⟨w.heap.size+1,4+1,none⟩=some (.slice o1 ks.length j1):=by rw[hW1];unfold boxEx;go_simp
 have q6:W1.cell? ⟨w.heap.size+1,4+2,none⟩=some (.slice o2 ss.length j2):=by rw[hW1];unfold boxEx;go_simp
 have HCL:=Lib.hid fun W (hW:Below W1.heap.size W1 W)=>And.intro ((hW.cell (p:=⟨w.heap.size,0,none⟩) (by show w.heap.size<_;omega)).trans q0) (And.intro ((hW.cell (p:=⟨w.heap.size+1,5,none⟩) (by show w.heap.size+1<_;omega)).trans q5) ((hW.cell (p:=⟨w.heap.size+1,6,none⟩) (by show w.heap.size+1<_;omega)).trans q6))
 have hdef:ckE (.mk 14 s tg vl ab ks ss) n=finT true 1 (ckKs ks n):=by rw[ckE,if_neg (by decide),if_neg (by decide),if_pos (by decide)]
 rw[hdef,finT_eq]
 have HPT:=Lib.hid (partsN_of c hS n ks (.slice o1 ks.length j1) W1 F hn (by omega) hcm hr (h1.below b1))
 obtain⟨P,hP⟩:∃P,ptR true true (ckKs ks n)=P:=⟨_,rfl⟩
 rw[hP]at HPT ⊢
 have HB1:=Lib.hid b1
 unfold boxEx Ex.op Ex.s Ex.tg Ex.vl Ex.abs at hW1
 dsimp only at hW1
 have HW:=Lib.hid hW1
 unfold exV Ex.op Ex.s Ex.tg Ex.vl Ex.abs
 dsimp only
 clear hS hc hr hx h1 h2 b1 s1 q0 q5 q6 hW1 hdef hP HCL
 go_enter Tryz.func91,Tryz.ntmps91
 go_wp2_with fail
 rw[←HW.out]
 refine HPT.out.mono ?_
 cases P with
 |none=>
  rintro e w4 ⟨hb4,rfl⟩
  have HB4:=Lib.hid (HB1.out.trans (hb4.mono HB1.out.size))
  clear hb4
  go_wp2_with fail
  go_ret
  exact CkP.ok HB4.out
 |some k=>
  rintro e w4 ⟨hb4,rfl⟩
  have HB4:=Lib.hid (HB1.out.trans (hb4.mono HB1.out.size))
  clear hb4
  unfold panE
  go_wp2_with fail
  refine⟨rfl,?_⟩
  exact CkP.no HB4.out
set_option maxRecDepth 100000 in
set_option maxHeartbeats 8000000 in
theorem exprC_15 (c:Nat)(hS:ChC c)(hcm:c≤1001)(n:Nat)(s:List UInt8)(tg vl:Int)(ab:Bool)(ks:List Ex)(ss:List St)(vk vs:Value)(w:World)(F:Nat→Prop)(hn:n≤2)(hc:cntEs ks+cntSs ss≤c)(hr:rightEs ks=true)(_:rightSs ss=true)(hx:ExOn w F (.mk 15 s tg vl ab ks ss) vk vs):
 Calls Tryz.prog 91 #[.agg #[.int .i64 (n:Int)],exV (.mk 15 s tg vl ab ks ss) vk vs] w (CkP w (ckE (.mk 15 s tg vl ab ks ss) n)):=by
 obtain⟨h1,h2⟩:=ExOn.iff.1 hx
 change KdOn w F vk ks at h1
 change SdOn w F vs ss at h2
 obtain⟨o1,j1,rfl⟩:=h1.form
 obtain⟨o2,j2,rfl⟩:=h2.form
 obtain⟨W1,hW1⟩:∃W1,W1=(w.alloc (.cells #[.int .i64 (n:Int)] 122)).alloc (boxEx (.mk 15 s tg vl ab ks ss) (.slice o1 ks.length j1) (.slice o2 ss.length j2)):=⟨_,rfl⟩
 have b1:Below w.heap.size w W1:=by rw[hW1];exact((Below.refl _ _).alloc (Nat.le_refl _) _).alloc (by simp) _
 have s1:W1.heap.size=w.heap.size+2:=by rw[hW1];simp
 have q0:W1.cell? ⟨w.heap.size,0,none⟩=some (.int .i64 (n:Int)):=by rw[hW1];unfold boxEx;go_simp
 have q5:W1.cell? ⟨w.heap.size+1,4+1,none⟩=some (.slice o1 ks.length j1):=by rw[hW1];unfold boxEx;go_simp
 have q6:W1.cell? ⟨w.heap.size+1,4+2,none⟩=some (.slice o2 ss.length j2):=by rw[hW1];unfold boxEx;go_simp
 have HCL:=Lib.hid fun W (hW:Below W1.heap.size W1 W)=>And.intro ((hW.cell (p:=⟨w.heap.size,0,none⟩) (by show w.heap.size<_;omega)).trans q0) (And.intro ((hW.cell (p:=⟨w.heap.size+1,5,none⟩) (by show w.heap.size+1<_;omega)).trans q5) ((hW.cell (p:=⟨w.heap.size+1,6,none⟩) (by show w.heap.size+1<_;omega)).trans q6))
 have hdef:ckE (.mk 15 s tg vl ab ks ss) n=finT false 3 (ckKs ks n):=by rw[ckE,if_neg (by decide),if_pos (by decide)]
 rw[hdef,finT_eq]
 have HPT:=Lib.hid (partsA_of c hS n ks (.slice o1 ks.length j1) W1 F hn (by omega) hcm hr (h1.below b1))
 obtain⟨P,hP⟩:∃P,ptR false true (ckKs ks n)=P:=⟨_,rfl⟩
 rw[hP]at HPT ⊢
 have HB1:=Lib.hid b1
 unfold boxEx Ex.op Ex.s Ex.tg Ex.vl Ex.abs at hW1
 dsimp only at hW1
 have HW:=Lib.hid hW1
 unfold exV Ex.op Ex.s Ex.tg Ex.vl Ex.abs
 dsimp only
 clear hS hc hr hx h1 h2 b1 s1 q0 q5 q6 hW1 hdef hP HCL
 go_enter Tryz.func91,Tryz.ntmps91
 go_wp2_with fail
 rw[←HW.out]
 refine HPT.out.mono ?_
 cases P with
 |none=>
  rintro e w4 ⟨hb4,rfl⟩
  have HB4:=Lib.hid (HB1.out.trans (hb4.mono HB1.out.size))
  clear hb4
  go_wp2_with fail
  go_ret
  exact CkP.ok HB4.out
 |some k=>
  rintro e w4 ⟨hb4,rfl⟩
  have HB4:=Lib.hid (HB1.out.trans (hb4.mono HB1.out.size))
  clear hb4
  unfold panE
  go_wp2_with fail
  refine⟨rfl,?_⟩
  exact CkP.no HB4.out
end Char
end Go.Proofs.YtlmpkpjjakallaaGreatDoor
