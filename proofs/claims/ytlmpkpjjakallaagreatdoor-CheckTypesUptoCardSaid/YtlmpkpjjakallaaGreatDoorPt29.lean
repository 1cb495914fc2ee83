import Derived.Test.YtlmpkpjjakallaaGreatDoorPt28
import Derived.Test.YtlmpkpjjakallaaGreatDoorPt11
import Derived.Test.YtlmpkpjjakallaaGreatDoorPt25
import Derived.Test.YtlmpkpjjakallaaGreatDoorPt26
import Derived.Test.YtlmpkpjjakallaaGreatDoorPt04
import Derived.Test.YtlmpkpjjakallaaGreatDoorPt24
import Derived.Test.YtlmpkpjjakallaaGreatDoorPt07
import Derived.Test.YtlmpkpjjakallaaGreatDoorPt12
namespace Go.Proofs.YtlmpkpjjakallaaGreatDoor
namespace Char
open Go.RowKit Go.Lib
theorem fB_way {op tg vl:Int}{s:List UInt8}{ab:Bool}{nk ns:Nat}(h:op≠16)(hw:way0 ab ns=false):fieldsB op tg vl s ab nk ns=false:=by
 unfold fieldsB
 simp[h,hw]
theorem fB_dec {op tg vl:Int}{s:List UInt8}{ab:Bool}{nk ns:Nat}(h:op≠19)(hd:¬(tg=0∧vl=0)):fieldsB op tg vl s ab nk ns=false:=by
 unfold fieldsB
 simp[h,hd]
theorem fB_txt {op tg vl:Int}{s:List UInt8}{ab:Bool}{nk ns:Nat}(h:op≠18)(h2:op<20)(hs:s.isEmpty=false):fieldsB op tg vl s ab nk ns=false:=by
 have e1:op≠20:=by omega
 have e2:op≠21:=by omega
 unfold fieldsB
 simp[h,e1,e2,hs]
theorem fB_out {op tg vl:Int}{s:List UInt8}{ab:Bool}{nk ns:Nat}(h:op<1∨21<op):fieldsB op tg vl s ab nk ns=false:=by
 have e:opB op=false:=by unfold opB;exact decide_eq_false (by omega)
 unfold fieldsB
 rw[if_neg (by omega),if_neg (by omega),if_neg (by omega),if_neg (by omega),if_neg (by omega),if_neg (by omega),if_neg (by omega),e]
 simp
theorem rt_to {f:Nat}{args:Array Value}{w:World}{a b:Bool}(h:Calls Tryz.prog f args w fun e w'=>e= .returned (.bool a)∧Below w.heap.size w w')(hab:a=b):Calls Tryz.prog f args w fun e w'=>e= .returned (.bool b)∧Below w.heap.size w w':=by rw[←hab];exact h
theorem is_emp (s:List UInt8):((bs s).toList==[])=s.isEmpty:=by rw[bs_tl];cases s<;>rfl
theorem nat_eqI (a b:Nat):(((a:Nat):Int)==((b:Nat):Int))=decide (a=b):=by
 rw[Bool.eq_iff_iff,beq_iff_eq,decide_eq_true_iff]
 omega
end Char
namespace Char
open Go.RowKit Go.Lib
theorem fnd_neg (c:UInt8)(l:List UInt8):∀(n p:Nat),l.length≤p+n→decide (fnd l [c] p<0)= !(l.drop p).contains c
 |0,p,h=>by
  rw[fnd_end (by simp;omega) (by simp),List.drop_eq_nil_of_le (by omega)]
  rfl
 |n+1,p,h=>by
  by_cases hp:p<l.length
  ·have hd:=List.drop_eq_getElem_cons hp
   cases hpre:([c]:List UInt8).isPrefixOf (l.drop p) with
   |true=>
    rw[fnd_here hpre,hd]
    rw[hd]at hpre
    have e:c=l[p]:=by simpa [List.isPrefixOf] using hpre
    rw[decide_eq_false (by omega:¬(p:Int)<0),List.contains_cons,beq_iff_eq.2 e]
    rfl
   |false=>
    rw[fnd_next hp hpre,fnd_neg c l n (p+1) (by omega),hd]
    rw[hd]at hpre
    have e:¬c=l[p]:=by simpa [List.isPrefixOf] using hpre
    rw[List.contains_cons,beq_eq_false_iff_ne.2 e,Bool.false_or]
  ·rw[fnd_end (by simp;omega) (by simp),List.drop_eq_nil_of_le (by omega)]
   rfl
set_option maxRecDepth 100000 in
set_option maxHeartbeats 4000000 in
theorem text14_any (l:List UInt8)(w:World)(hl:l.length≤1048576):Calls Tryz.prog 39 #[.string (bs l)] w fun e w'=>e= .returned (.bool (litD l))∧Below w.heap.size w w':=by
 have HT:=Lib.hid fun W=>refText_any (bs l) W (by rw[bs_size];exact hl)
 rw[show(bs l).data.toList=l from rfl]at HT
 have HA:=Lib.hid fun W=>findL_any l [34] 0 W hl (by omega) (by simp) (by simp)
 have HB:=Lib.hid fun W=>findL_any l [39] 0 W hl (by omega) (by simp) (by simp)
 have na:=fnd_neg 34 l l.length 0 (by omega)
 have nb:=fnd_neg 39 l l.length 0 (by omega)
 rw[List.drop_zero]at na nb
 have hq:litD l=(txD l&&(decide (fnd l [34] 0<0)||decide (fnd l [39] 0<0))):=by rw[na,nb];unfold litD;cases l.contains 34<;>cases l.contains 39<;>rfl
 rw[hq]
 rw[show bs [34]=⟨#[34]⟩ from rfl]at HA
 rw[show bs [39]=⟨#[39]⟩ from rfl]at HB
 simp only[show((0:Nat):Int)=0 from rfl]at HA HB
 generalize fnd l [34] 0=ia at *
 generalize fnd l [39] 0=ib at *
 generalize txD l=q at *
 generalize bs l=S at *
 clear hq na nb hl
 cases q with
 |false=>
  go_enter Tryz.func39,Tryz.ntmps39
  go_wp2_with (first
   |(go_at_call 50
     refine(HT.out _).mono ?_
     rintro e w1 ⟨rfl,hb⟩
     have HB1:=Lib.hid hb
     clear hb)
   |(go_at_call 77
     with_reducible refine(HA.out _).mono ?_
     rintro e w2 ⟨rfl,hw⟩
     subst hw)
   |(go_at_call 77
     with_reducible refine(HB.out _).mono ?_
     rintro e w3 ⟨rfl,hw⟩
     subst hw))
  go_ret
  exact⟨rfl,HB1.out⟩
 |true=>
  by_cases h1:ia<0
  ·rw[decide_eq_true h1]
   go_enter Tryz.func39,Tryz.ntmps39
   go_wp2_with (first
    |(go_at_call 50
      refine(HT.out _).mono ?_
      rintro e w1 ⟨rfl,hb⟩
      have HB1:=Lib.hid hb
      clear hb)
    |(go_at_call 77
      with_reducible refine(HA.out _).mono ?_
      rintro e w2 ⟨rfl,hw⟩
      subst hw)
    |(go_at_call 77
      with_reducible refine(HB.out _).mono ?_
      rintro e w3 ⟨rfl,hw⟩
      subst hw))
   go_ret
   exact⟨rfl,HB1.out⟩
  ·rw[decide_eq_false h1]
   by_cases h2:ib<0
   ·rw[decide_eq_true h2]
    go_enter Tryz.func39,Tryz.ntmps39
    go_wp2_with (first
     |(go_at_call 50
       refine(HT.out _).mono ?_
       rintro e w1 ⟨rfl,hb⟩
       have HB1:=Lib.hid hb
       clear hb)
     |(go_at_call 77
       with_reducible refine(HA.out _).mono ?_
       rintro e w2 ⟨rfl,hw⟩
       subst hw)
     |(go_at_call 77
       with_reducible refine(HB.out _).mono ?_
       rintro e w3 ⟨rfl,hw⟩
       subst hw))
    go_ret
    exact⟨rfl,HB1.out⟩
   ·rw[decide_eq_false h2]
    go_enter Tryz.func39,Tryz.ntmps39
    go_wp2_with (first
     |(go_at_call 50
       refine(HT.out _).mono ?_
       rintro e w1 ⟨rfl,hb⟩
       have HB1:=Lib.hid hb
       clear hb)
     |(go_at_call 77
       with_reducible refine(HA.out _).mono ?_
       rintro e w2 ⟨rfl,hw⟩
       subst hw)
     |(go_at_call 77
       with_reducible refine(HB.out _).mono ?_
       rintro e w3 ⟨rfl,hw⟩
       subst hw))
    go_ret
    exact⟨by show Ending.returned (.bool (decide (ia<0)||decide (ib<0)))=_;rw[decide_eq_false (by omega:¬ia<0),decide_eq_false (by omega:¬ib<0)];rfl,HB1.out⟩
set_option maxRecDepth 100000 in
set_option maxHeartbeats 4000000 in
theorem all14_of (c:Nat)(hS:RtC 16 c)(ks:List Ex)(v:Value)(w:World)(F:Nat→Prop)(hc:cntEs ks≤c)(hcm:c≤1000)(hw:wfEs 1048576 ks)(h1:KdOn w F v ks)(hG:Gl w):
 Calls Tryz.prog 36 #[v] w fun e w'=>e= .returned (.bool (rightEs ks))∧Below w.heap.size w w':=by
 have HS:=Lib.hid hS
 clear hS
 have hcl:=cntEs_len ks
 obtain⟨o1,j1,rfl⟩:=h1.form
 have hm:ks.length≤1000:=by omega
 have HK:=Lib.hid h1
 have HW:=Lib.hid hw
 have HG:=Lib.hid hG
 clear h1 hw hG
 go_enter Tryz.func36,Tryz.ntmps36
 go_wp2_with fail
 go_loopw [3] (fun v wr=>∃j:Nat,v= .int .i64 (j:Int)∧j≤ks.length∧Hid (Below w.heap.size w wr∧rightEs ks=rightEs (ks.drop j))) (fun v _=>ks.length-(RowKit.intOf v).toNat)
 case atStart=>exact⟨0,rfl,Nat.zero_le _,Lib.hid ⟨Below.refl _ _,by simp⟩⟩
 case round=>
  obtain⟨j,rfl,hj,HR⟩:=hrel
  by_cases hlt:j<ks.length
  ·obtain⟨g,off,va,vk,rfl,hg,hat,hon⟩:=HK.out.read j hlt
   have heq:=HR.out.2
   rw[rightEs_drop hlt]at heq
   have hc3:=cntEs_at ks j hlt
   have hq1:∀W,Below w.heap.size w W→ExAt W g (off+j*7) ks[j] va vk:=fun W hW=>hat.move (hW.block g hat.lt)
   have hc2:=fun W (hW:Below w.heap.size w W)=>HS.out ks[j] va vk W F (by omega) (wfEs_at HW.out j hlt) (hon.below hW) (HG.out.below hW)
   generalize ks[j]=kid at *
   obtain⟨hn1,hn2⟩:=ExOn.iff.1 hon
   obtain⟨oa',ja',rfl⟩:=hn1.form
   obtain⟨ok',jk',rfl⟩:=hn2.form
   unfold exV at hc2
   have HC2:=Lib.hid hc2
   have HE:=Lib.hid heq
   have HBR:=Lib.hid HR.out.1
   obtain⟨a0,a1,a2,a3,a4,a5,a6⟩:=(hq1 wr HR.out.1).cells
   have hgl:g<wr.heap.size:=cell_lt a0
   clear hc2 hon hat heq hq1 hn1 hn2 HR
   cases hr:rightE kid with
   |false=>
    have HRR:=Lib.hid hr
    clear hr
    go_wp2_with fail
    refine(HC2.out wr HBR.out).mono ?_
    rintro e w2 ⟨rfl,hb3⟩
    have HB4:=Lib.hid (HBR.out.trans (hb3.mono HBR.out.size))
    clear hb3
    rw[HRR.out]
    go_wp2_with fail
    go_ret
    rw[HE.out,HRR.out]
    exact⟨rfl,HB4.out⟩
   |true=>
    have HRR:=Lib.hid hr
    clear hr
    go_wp2_with fail
    refine(HC2.out wr HBR.out).mono ?_
    rintro e w2 ⟨rfl,hb3⟩
    have HB4:=Lib.hid (HBR.out.trans (hb3.mono HBR.out.size))
    clear hb3
    rw[HRR.out]
    go_wp2_with fail
    go_roundw
    case rel=>exact⟨j+1,by go_num,by omega,Lib.hid ⟨HB4.out,by rw[HE.out,HRR.out,Bool.true_and]⟩⟩
    case measure=>simp[RowKit.intOf];omega
  ·have e:j=ks.length:=by omega
   subst e
   have heq:=HR.out.2
   rw[rightEs_end]at heq
   have HE:=Lib.hid heq
   have HF:=Lib.hid HR.out.1
   clear heq HR
   go_wp2_with fail
   go_ret
   rw[HE.out]
   exact⟨rfl,HF.out⟩
end Char
namespace Char
open Go.RowKit Go.Lib
def boxT (ax tk:Int)(N:ByteArray)(has:Bool)(o:Option Addr)(n j:Nat):Obj:= .cells #[.int .i64 ax,.int .i64 tk,.string N,.bool has,.slice o n j] 62
theorem boxT_blk {w:World}{b:Nat}{ax tk:Int}{N:ByteArray}{has:Bool}{o:Option Addr}{n j:Nat}(h:w.heap[b]? =some (boxT ax tk N has o n j)):
 w.cell? ⟨b,0,none⟩=some (.int .i64 ax)∧w.cell? ⟨b,1,none⟩=some (.int .i64 tk)∧w.cell? ⟨b,2,none⟩=some (.string N)∧w.cell? ⟨b,3,none⟩=some (.bool has)∧w.cell? ⟨b,4,none⟩=some (.slice o n j):=by
 unfold boxT at h
 exact⟨by simp[World.cell?,h],by simp[World.cell?,h],by simp[World.cell?,h],by simp[World.cell?,h],by simp[World.cell?,h]⟩
theorem lit_other {tk:Int}{nm:List UInt8}{has:Bool}(h:rightT tk nm has=true)(h1:tk≠1)(h6:tk≠6):litD nm=true:=by
 unfold rightT at h
 rw[if_neg h1,if_neg h6]at h
 split at h
 ·cases nm with
  |nil=>rfl
  |cons a r=>simp at h
 ·cases h
set_option maxRecDepth 100000 in
set_option maxHeartbeats 4000000 in
theorem steps14_of (c:Nat)(hS:RtC 16 c)(ks:List St)(v:Value)(w:World)(F:Nat→Prop)(hc:cntSs ks≤c)(hcm:c≤1000)(hw:wfSs 1048576 ks)(h1:SdOn w F v ks)(hG:Gl w):
 Calls Tryz.prog 37 #[v] w fun e w'=>e= .returned (.bool (rightSs ks))∧Below w.heap.size w w':=by
 have HS:=Lib.hid hS
 clear hS
 have hcl:=cntSs_len ks
 obtain⟨o1,j1,rfl⟩:=h1.form
 have hm:ks.length≤1000:=by omega
 have HK:=Lib.hid h1
 have HW:=Lib.hid hw
 have HG:=Lib.hid hG
 clear h1 hw hG
 go_enter Tryz.func37,Tryz.ntmps37
 go_wp2_with fail
 go_loopw [3] (fun v wr=>∃j:Nat,v= .int .i64 (j:Int)∧j≤ks.length∧Hid (Below w.heap.size w wr∧rightSs ks=rightSs (ks.drop j))) (fun v _=>ks.length-(RowKit.intOf v).toNat)
 case atStart=>exact⟨0,rfl,Nat.zero_le _,Lib.hid ⟨Below.refl _ _,by simp⟩⟩
 case round=>
  obtain⟨j,rfl,hj,HR⟩:=hrel
  by_cases hlt:j<ks.length
  ·obtain⟨g,off,vp,rfl,hg,hat,hon⟩:=HK.out.read j hlt
   have heq:=HR.out.2
   rw[rightSs_drop hlt]at heq
   have hc3:=cntSs_at ks j hlt
   have hcd:=cntS_def ks[j]
   have hwS:=wfSs_at HW.out j hlt
   obtain⟨⟨_,_,hnl,_⟩,hwp⟩:=(wfS_def _ _).1 hwS
   have hpon:=StOn.iff.1 hon
   have hq1:∀W,Below w.heap.size w W→StAt W g (off+j*5) ks[j] vp:=fun W hW=>hat.move (hW.block g hat.lt)
   have hAL:=fun W (hW:Below w.heap.size w W)=>all14_of c HS.out ks[j].ps vp W F (by omega) hcm hwp (hpon.below hW) (HG.out.below hW)
   have hrd:=rightS_def ks[j]
   have hTR:=fun W=>rightTR_any ks[j].tk ks[j].nm ks[j].has W
   have hNM:=fun W=>refName_any (bs ks[j].nm) W (by rw[bs_size];exact hnl)
   have hTX:=fun W=>text14_any ks[j].nm W hnl
   unfold stepD testD at hrd
   generalize ks[j]=kid at *
   obtain⟨oa',ja',rfl⟩:=hpon.form
   obtain⟨a0,a1,a2,a3,a4⟩:=(hq1 wr HR.out.1).cells
   have hgl:g<wr.heap.size:=cell_lt a0
   have HBR:=Lib.hid HR.out.1
   have HE:=Lib.hid heq
   clear hc3 hcd hwS hwp hon hat hpon hq1 heq HR hnl
   unfold teW at hTR
   obtain⟨ax,tk,nm,has,ps⟩:=kid
   simp only[St.ax,St.tk,St.nm,St.has,St.ps]at a0 a1 a2 a3 a4 hAL hrd hTR hNM hTX HE
   have HAL:=Lib.hid hAL
   have HTR:=Lib.hid hTR
   have HNM:=Lib.hid hNM
   have HTX:=Lib.hid hTX
   clear hAL hTR hNM hTX
   obtain⟨qA,hqA⟩:∃q,rightEs ps=q:=⟨_,rfl⟩
   obtain⟨qT,hqT⟩:∃q,rightT tk nm has=q:=⟨_,rfl⟩
   obtain⟨qN,hqN⟩:∃q,nmD (bs nm)=q:=⟨_,rfl⟩
   obtain⟨qL,hqL⟩:∃q,litD nm=q:=⟨_,rfl⟩
   rw[hqA]at HAL hrd
   rw[hqT]at HTR hrd
   rw[hqN]at HNM hrd
   rw[hqL]at HTX hrd
   have h6:qT=true→tk≠1→tk≠6→qL=true:=fun h k1 k6=>by
    rw[←hqL]
    exact lit_other (nm:=nm) (has:=has) (by rw[hqT];exact h) k1 k6
   have HRD:=Lib.hid hrd
   have H6:=Lib.hid h6
   obtain⟨RS,hRS⟩:∃R,rightS (.mk ax tk nm has ps)=R:=⟨_,rfl⟩
   rw[hRS]at HE HRD
   obtain⟨N,hN⟩:∃N,bs nm=N:=⟨_,rfl⟩
   rw[hN]at a2 HTR HNM HTX
   obtain⟨PL,hPL⟩:∃n,ps.length=n:=⟨_,rfl⟩
   rw[hPL]at a4 HAL
   clear hqA hqT hqN hqL hrd h6 hRS hN hPL
   have BX:=fun(W:World) (hW:Below wr.heap.size wr W)=>HBR.out.trans (hW.mono HBR.out.size)
   obtain⟨WB,hWB⟩:∃WB,WB=wr.alloc (boxT ax tk N has oa' PL ja'):=⟨_,rfl⟩
   have kB:WB.heap[wr.heap.size]? =some (boxT ax tk N has oa' PL ja'):=by rw[hWB];exact World.alloc_heap_new wr _
   have bB:Below w.heap.size w WB:=by rw[hWB];exact HBR.out.alloc HBR.out.size _
   have HC:=Lib.hid fun(W:World) (hW:Below WB.heap.size WB W)=>boxT_blk ((hW.block wr.heap.size (Array.getElem?_eq_some_iff.1 kB).1).trans kB)
   have HBB:=Lib.hid bB
   unfold boxT at hWB
   have HWB:=Lib.hid hWB
   clear hWB kB bB BX
   have HR0:=Lib.hid (Below.refl WB.heap.size WB)
   have fin:=fun(W:World) (h:Below WB.heap.size WB W)=>HBB.out.trans (h.mono HBB.out.size)
   have FIN:=Lib.hid fin
   clear fin
   by_cases x1:ax<1
   ·have HRS:Hid (RS=false):=Lib.hid (by have e:¬(1≤ax∧ax≤12):=(by omega);rw[HRD.out];simp[e])
    go_wp2_with (first
     |(go_at_call 73
       with_reducible refine(HTR.out _).mono ?_
       rintro e w1 ⟨rfl,hb⟩
       rw[←HWB.out]at hb
       obtain⟨c0,c1,c2,c3,c4⟩:=HC.out w1 hb
       have H1:=Lib.hid hb
       clear hb)
     |(go_at_call 36
       with_reducible refine(HAL.out _ (FIN.out _ H1.out)).mono ?_
       rintro e w2 ⟨rfl,hb⟩
       have hb:=H1.out.trans (hb.mono H1.out.size)
       obtain⟨c0,c1,c2,c3,c4⟩:=HC.out w2 hb
       have H2:=Lib.hid hb
       clear hb)
     |(go_at_call 38
       with_reducible refine(HNM.out _).mono ?_
       rintro e w3 ⟨rfl,hb⟩
       have hb:=H2.out.trans (hb.mono H2.out.size)
       obtain⟨c0,c1,c2,c3,c4⟩:=HC.out w3 hb
       have H3:=Lib.hid hb
       clear hb)
     |(go_at_call 39
       with_reducible refine(HTX.out _).mono ?_
       rintro e w3 ⟨rfl,hb⟩
       have hb:=H2.out.trans (hb.mono H2.out.size)
       obtain⟨c0,c1,c2,c3,c4⟩:=HC.out w3 hb
       have H3:=Lib.hid hb
       clear hb))
    rw[←HWB.out]
    go_ret
    rw[HE.out,HRS.out]
    exact⟨rfl,FIN.out _ HR0.out⟩
   ·by_cases x2:12<ax
    ·have HRS:Hid (RS=false):=Lib.hid (by have e:¬(1≤ax∧ax≤12):=(by omega);rw[HRD.out];simp[e])
     go_wp2_with (first
      |(go_at_call 73
        with_reducible refine(HTR.out _).mono ?_
        rintro e w1 ⟨rfl,hb⟩
        rw[←HWB.out]at hb
        obtain⟨c0,c1,c2,c3,c4⟩:=HC.out w1 hb
        have H1:=Lib.hid hb
        clear hb)
      |(go_at_call 36
        with_reducible refine(HAL.out _ (FIN.out _ H1.out)).mono ?_
        rintro e w2 ⟨rfl,hb⟩
        have hb:=H1.out.trans (hb.mono H1.out.size)
        obtain⟨c0,c1,c2,c3,c4⟩:=HC.out w2 hb
        have H2:=Lib.hid hb
        clear hb)
      |(go_at_call 38
        with_reducible refine(HNM.out _).mono ?_
        rintro e w3 ⟨rfl,hb⟩
        have hb:=H2.out.trans (hb.mono H2.out.size)
        obtain⟨c0,c1,c2,c3,c4⟩:=HC.out w3 hb
        have H3:=Lib.hid hb
        clear hb)
      |(go_at_call 39
        with_reducible refine(HTX.out _).mono ?_
        rintro e w3 ⟨rfl,hb⟩
        have hb:=H2.out.trans (hb.mono H2.out.size)
        obtain⟨c0,c1,c2,c3,c4⟩:=HC.out w3 hb
        have H3:=Lib.hid hb
        clear hb))
     rw[←HWB.out]
     go_ret
     rw[HE.out,HRS.out]
     exact⟨rfl,FIN.out _ HR0.out⟩
    ·cases qT with
     |false=>
      have HRS:Hid (RS=false):=Lib.hid (by rw[HRD.out];simp)
      go_wp2_with (first
       |(go_at_call 73
         with_reducible refine(HTR.out _).mono ?_
         rintro e w1 ⟨rfl,hb⟩
         rw[←HWB.out]at hb
         obtain⟨c0,c1,c2,c3,c4⟩:=HC.out w1 hb
         have H1:=Lib.hid hb
         clear hb)
       |(go_at_call 36
         with_reducible refine(HAL.out _ (FIN.out _ H1.out)).mono ?_
         rintro e w2 ⟨rfl,hb⟩
         have hb:=H1.out.trans (hb.mono H1.out.size)
         obtain⟨c0,c1,c2,c3,c4⟩:=HC.out w2 hb
         have H2:=Lib.hid hb
         clear hb)
       |(go_at_call 38
         with_reducible refine(HNM.out _).mono ?_
         rintro e w3 ⟨rfl,hb⟩
         have hb:=H2.out.trans (hb.mono H2.out.size)
         obtain⟨c0,c1,c2,c3,c4⟩:=HC.out w3 hb
         have H3:=Lib.hid hb
         clear hb)
       |(go_at_call 39
         with_reducible refine(HTX.out _).mono ?_
         rintro e w3 ⟨rfl,hb⟩
         have hb:=H2.out.trans (hb.mono H2.out.size)
         obtain⟨c0,c1,c2,c3,c4⟩:=HC.out w3 hb
         have H3:=Lib.hid hb
         clear hb))
      go_ret
      rw[HE.out,HRS.out]
      exact⟨rfl,FIN.out _ H1.out⟩
     |true=>
      cases qA with
      |false=>
       have HRS:Hid (RS=false):=Lib.hid (by rw[HRD.out];simp)
       go_wp2_with (first
        |(go_at_call 73
          with_reducible refine(HTR.out _).mono ?_
          rintro e w1 ⟨rfl,hb⟩
          rw[←HWB.out]at hb
          obtain⟨c0,c1,c2,c3,c4⟩:=HC.out w1 hb
          have H1:=Lib.hid hb
          clear hb)
        |(go_at_call 36
          with_reducible refine(HAL.out _ (FIN.out _ H1.out)).mono ?_
          rintro e w2 ⟨rfl,hb⟩
          have hb:=H1.out.trans (hb.mono H1.out.size)
          obtain⟨c0,c1,c2,c3,c4⟩:=HC.out w2 hb
          have H2:=Lib.hid hb
          clear hb)
        |(go_at_call 38
          with_reducible refine(HNM.out _).mono ?_
          rintro e w3 ⟨rfl,hb⟩
          have hb:=H2.out.trans (hb.mono H2.out.size)
          obtain⟨c0,c1,c2,c3,c4⟩:=HC.out w3 hb
          have H3:=Lib.hid hb
          clear hb)
        |(go_at_call 39
          with_reducible refine(HTX.out _).mono ?_
          rintro e w3 ⟨rfl,hb⟩
          have hb:=H2.out.trans (hb.mono H2.out.size)
          obtain⟨c0,c1,c2,c3,c4⟩:=HC.out w3 hb
          have H3:=Lib.hid hb
          clear hb))
       go_ret
       rw[HE.out,HRS.out]
       exact⟨rfl,FIN.out _ H2.out⟩
      |true=>
       have hax:1≤ax∧ax≤12:=by omega
       have HAX:=Lib.hid hax
       clear hax
       by_cases k1:tk=1
       ·subst k1
        clear H6
        cases qN with
        |false=>
         have HRS:Hid (RS=false):=Lib.hid (by rw[HRD.out];simp)
         go_wp2_with (first
          |(go_at_call 73
            with_reducible refine(HTR.out _).mono ?_
            rintro e w1 ⟨rfl,hb⟩
            rw[←HWB.out]at hb
            obtain⟨c0,c1,c2,c3,c4⟩:=HC.out w1 hb
            have H1:=Lib.hid hb
            clear hb)
          |(go_at_call 36
            with_reducible refine(HAL.out _ (FIN.out _ H1.out)).mono ?_
            rintro e w2 ⟨rfl,hb⟩
            have hb:=H1.out.trans (hb.mono H1.out.size)
            obtain⟨c0,c1,c2,c3,c4⟩:=HC.out w2 hb
            have H2:=Lib.hid hb
            clear hb)
          |(go_at_call 38
            with_reducible refine(HNM.out _).mono ?_
            rintro e w3 ⟨rfl,hb⟩
            have hb:=H2.out.trans (hb.mono H2.out.size)
            obtain⟨c0,c1,c2,c3,c4⟩:=HC.out w3 hb
            have H3:=Lib.hid hb
            clear hb)
          |(go_at_call 39
            with_reducible refine(HTX.out _).mono ?_
            rintro e w3 ⟨rfl,hb⟩
            have hb:=H2.out.trans (hb.mono H2.out.size)
            obtain⟨c0,c1,c2,c3,c4⟩:=HC.out w3 hb
            have H3:=Lib.hid hb
            clear hb))
         go_ret
         rw[HE.out,HRS.out]
         exact⟨rfl,FIN.out _ H3.out⟩
        |true=>
         have HRS:Hid (RS=true):=Lib.hid (by rw[HRD.out];simp[HAX.out])
         go_wp2_with (first
          |(go_at_call 73
            with_reducible refine(HTR.out _).mono ?_
            rintro e w1 ⟨rfl,hb⟩
            rw[←HWB.out]at hb
            obtain⟨c0,c1,c2,c3,c4⟩:=HC.out w1 hb
            have H1:=Lib.hid hb
            clear hb)
          |(go_at_call 36
            with_reducible refine(HAL.out _ (FIN.out _ H1.out)).mono ?_
            rintro e w2 ⟨rfl,hb⟩
            have hb:=H1.out.trans (hb.mono H1.out.size)
            obtain⟨c0,c1,c2,c3,c4⟩:=HC.out w2 hb
            have H2:=Lib.hid hb
            clear hb)
          |(go_at_call 38
            with_reducible refine(HNM.out _).mono ?_
            rintro e w3 ⟨rfl,hb⟩
            have hb:=H2.out.trans (hb.mono H2.out.size)
            obtain⟨c0,c1,c2,c3,c4⟩:=HC.out w3 hb
            have H3:=Lib.hid hb
            clear hb)
          |(go_at_call 39
            with_reducible refine(HTX.out _).mono ?_
            rintro e w3 ⟨rfl,hb⟩
            have hb:=H2.out.trans (hb.mono H2.out.size)
            obtain⟨c0,c1,c2,c3,c4⟩:=HC.out w3 hb
            have H3:=Lib.hid hb
            clear hb))
         go_roundw
         case rel=>exact⟨j+1,by go_num,by omega,Lib.hid ⟨FIN.out _ H3.out,by rw[HE.out,HRS.out,Bool.true_and]⟩⟩
         case measure=>simp[RowKit.intOf];omega
       ·by_cases k6:tk=6
        ·subst k6
         clear H6 k1
         cases qL with
         |false=>
          have HRS:Hid (RS=false):=Lib.hid (by rw[HRD.out];simp)
          go_wp2_with (first
           |(go_at_call 73
             with_reducible refine(HTR.out _).mono ?_
             rintro e w1 ⟨rfl,hb⟩
             rw[←HWB.out]at hb
             obtain⟨c0,c1,c2,c3,c4⟩:=HC.out w1 hb
             have H1:=Lib.hid hb
             clear hb)
           |(go_at_call 36
             with_reducible refine(HAL.out _ (FIN.out _ H1.out)).mono ?_
             rintro e w2 ⟨rfl,hb⟩
             have hb:=H1.out.trans (hb.mono H1.out.size)
             obtain⟨c0,c1,c2,c3,c4⟩:=HC.out w2 hb
             have H2:=Lib.hid hb
             clear hb)
           |(go_at_call 38
             with_reducible refine(HNM.out _).mono ?_
             rintro e w3 ⟨rfl,hb⟩
             have hb:=H2.out.trans (hb.mono H2.out.size)
             obtain⟨c0,c1,c2,c3,c4⟩:=HC.out w3 hb
             have H3:=Lib.hid hb
             clear hb)
           |(go_at_call 39
             with_reducible refine(HTX.out _).mono ?_
             rintro e w3 ⟨rfl,hb⟩
             have hb:=H2.out.trans (hb.mono H2.out.size)
             obtain⟨c0,c1,c2,c3,c4⟩:=HC.out w3 hb
             have H3:=Lib.hid hb
             clear hb))
          go_ret
          rw[HE.out,HRS.out]
          exact⟨rfl,FIN.out _ H3.out⟩
         |true=>
          have HRS:Hid (RS=true):=Lib.hid (by rw[HRD.out];simp[HAX.out])
          go_wp2_with (first
           |(go_at_call 73
             with_reducible refine(HTR.out _).mono ?_
             rintro e w1 ⟨rfl,hb⟩
             rw[←HWB.out]at hb
             obtain⟨c0,c1,c2,c3,c4⟩:=HC.out w1 hb
             have H1:=Lib.hid hb
             clear hb)
           |(go_at_call 36
             with_reducible refine(HAL.out _ (FIN.out _ H1.out)).mono ?_
             rintro e w2 ⟨rfl,hb⟩
             have hb:=H1.out.trans (hb.mono H1.out.size)
             obtain⟨c0,c1,c2,c3,c4⟩:=HC.out w2 hb
             have H2:=Lib.hid hb
             clear hb)
           |(go_at_call 38
             with_reducible refine(HNM.out _).mono ?_
             rintro e w3 ⟨rfl,hb⟩
             have hb:=H2.out.trans (hb.mono H2.out.size)
             obtain⟨c0,c1,c2,c3,c4⟩:=HC.out w3 hb
             have H3:=Lib.hid hb
             clear hb)
           |(go_at_call 39
             with_reducible refine(HTX.out _).mono ?_
             rintro e w3 ⟨rfl,hb⟩
             have hb:=H2.out.trans (hb.mono H2.out.size)
             obtain⟨c0,c1,c2,c3,c4⟩:=HC.out w3 hb
             have H3:=Lib.hid hb
             clear hb))
          go_roundw
          case rel=>exact⟨j+1,by go_num,by omega,Lib.hid ⟨FIN.out _ H3.out,by rw[HE.out,HRS.out,Bool.true_and]⟩⟩
          case measure=>simp[RowKit.intOf];omega
        ·have n1:(tk==1)=false:=beq_eq_false_iff_ne.2 k1
         have n6:(tk==6)=false:=beq_eq_false_iff_ne.2 k6
         have hq:=H6.out rfl k1 k6
         subst hq
         have HRS0:Hid (RS=true):=Lib.hid (by rw[HRD.out];simp[HAX.out,k1])
         clear k1 k6 H6
         have HRS:Hid (RS=true):=Lib.hid (by exact HRS0.out)
         go_wp2_with (first
          |(go_at_call 73
            with_reducible refine(HTR.out _).mono ?_
            rintro e w1 ⟨rfl,hb⟩
            rw[←HWB.out]at hb
            obtain⟨c0,c1,c2,c3,c4⟩:=HC.out w1 hb
            have H1:=Lib.hid hb
            clear hb)
          |(go_at_call 36
            with_reducible refine(HAL.out _ (FIN.out _ H1.out)).mono ?_
            rintro e w2 ⟨rfl,hb⟩
            have hb:=H1.out.trans (hb.mono H1.out.size)
            obtain⟨c0,c1,c2,c3,c4⟩:=HC.out w2 hb
            have H2:=Lib.hid hb
            clear hb)
          |(go_at_call 38
            with_reducible refine(HNM.out _).mono ?_
            rintro e w3 ⟨rfl,hb⟩
            have hb:=H2.out.trans (hb.mono H2.out.size)
            obtain⟨c0,c1,c2,c3,c4⟩:=HC.out w3 hb
            have H3:=Lib.hid hb
            clear hb)
          |(go_at_call 39
            with_reducible refine(HTX.out _).mono ?_
            rintro e w3 ⟨rfl,hb⟩
            have hb:=H2.out.trans (hb.mono H2.out.size)
            obtain⟨c0,c1,c2,c3,c4⟩:=HC.out w3 hb
            have H3:=Lib.hid hb
            clear hb))
         go_roundw
         case rel=>exact⟨j+1,by go_num,by omega,Lib.hid ⟨FIN.out _ H2.out,by rw[HE.out,HRS.out,Bool.true_and]⟩⟩
         case measure=>simp[RowKit.intOf];omega
  ·have e:j=ks.length:=by omega
   subst e
   have heq:=HR.out.2
   rw[rightSs_end]at heq
   have HE:=Lib.hid heq
   have HF:=Lib.hid HR.out.1
   clear heq HR
   go_wp2_with fail
   go_ret
   rw[HE.out]
   exact⟨rfl,HF.out⟩
end Char
namespace Char
open Go.RowKit Go.Lib
open Go.Proofs.YtlmpkpjjakallaaGreatDoor.Fig (rightB)
set_option maxRecDepth 100000 in
set_option maxHeartbeats 1000000 in
theorem rt16 (tg vl:Int)(s:List UInt8)(ab:Bool)(ok os:Option Addr)(nk jk ns js:Nat)(w:World)(qA qS:Bool)(K:RtK w (bs s) tg vl ok os nk jk ns js qA qS (nmD (bs s)) (litD s) (rightB tg vl))(hA:qA=true):
 Calls Tryz.prog 16 #[.agg #[.int .i64 16,.string (bs s),.int .i64 tg,.int .i64 vl,.bool ab,.slice ok nk jk,.slice os ns js]] w fun e w'=>e= .returned (.bool (fieldsB 16 tg vl s ab nk ns&&(true&&qS)))∧Below w.heap.size w w':=by
 by_cases hd:tg=0∧vl=0
 ·obtain⟨htg,hvl⟩:=hd
  cases hs:s.isEmpty with
  |false=>exact rt_to (rtw_txt16 16 tg vl (bs s) ab ok os nk jk ns js w _ _ _ _ _ K hA rfl htg hvl (by rw[is_emp,hs])) (by rw[fB_txt (by decide) (by decide) hs];rfl)
  |true=>
   have hs':((bs s).toList==[])=true:=by rw[is_emp,hs]
   have hse:s=[]:=by simpa using hs
   by_cases k2:(1:Int)<(nk:Int)
   ·exact rt_to (rtw_p2 16 tg vl (bs s) ab ok os nk jk ns js w _ _ _ _ _ K hA rfl htg hvl hs' k2) (by have :¬nk≤1:=(by omega);simp[fieldsB,this])
   ·by_cases k1:nk=1
    ·cases ab with
     |true=>exact rt_to (rtw_p1a 16 tg vl (bs s) true ok os nk jk ns js w _ _ _ _ _ K hA rfl htg hvl hs' k1 rfl) (by simp[fieldsB,k1,leadsB])
     |false=>
      by_cases kn:ns=0
      ·exact rt_to (rtw_p1b 16 tg vl (bs s) false ok os nk jk ns js w _ _ _ _ _ K hA rfl htg hvl hs' k1 rfl kn) (by simp[fieldsB,k1,leadsB,kn,hse,htg,hvl])
      ·exact rt_to (rtw_p1c 16 tg vl (bs s) false ok os nk jk ns js w _ _ _ _ _ K hA rfl htg hvl hs' k1 rfl (beq_eq_false_iff_ne.2 (by omega))) (by simp[fieldsB,k1,leadsB,kn,hse,htg,hvl])
    ·have k0:nk=0:=by omega
     by_cases kn:ns=0
     ·cases ab with
      |false=>exact rt_to (rtw_p0a 16 tg vl (bs s) false ok os nk jk ns js w _ _ _ _ _ K hA rfl htg hvl hs' k0 rfl kn) (by simp[fieldsB,k0,leadsB,kn,hse,htg,hvl])
      |true=>exact rt_to (rtw_p0b 16 tg vl (bs s) true ok os nk jk ns js w _ _ _ _ _ K hA rfl htg hvl hs' k0 rfl kn) (by simp[fieldsB,k0,leadsB,kn,hse,htg,hvl])
     ·exact rt_to (rtw_p0c 16 tg vl (bs s) ab ok os nk jk ns js w _ _ _ _ _ K hA rfl htg hvl hs' k0 (beq_eq_false_iff_ne.2 (by omega))) (by simp[fieldsB,k0,leadsB,kn,hse,htg,hvl])
 ·exact rt_to (rtw_dec16 16 tg vl (bs s) ab ok os nk jk ns js w _ _ _ _ _ K hA rfl hd) (by rw[fB_dec (by decide) hd];rfl)
set_option maxRecDepth 100000 in
set_option maxHeartbeats 1000000 in
theorem rt20 (tg vl:Int)(s:List UInt8)(ab:Bool)(ok os:Option Addr)(nk jk ns js:Nat)(w:World)(qA:Bool)(K:RtK w (bs s) tg vl ok os nk jk ns js qA true (nmD (bs s)) (litD s) (rightB tg vl))(hA:qA=true)(hab:ab=false)(hns:¬(0:Int)<(ns:Int))(hn0:ns=0)(htg:tg=0)(hvl:vl=0):
 Calls Tryz.prog 16 #[.agg #[.int .i64 20,.string (bs s),.int .i64 tg,.int .i64 vl,.bool ab,.slice ok nk jk,.slice os ns js]] w fun e w'=>e= .returned (.bool (fieldsB 20 tg vl s false nk ns&&(true&&true)))∧Below w.heap.size w w':=by
 have e1:((bs s).toList==[99,111,109,109,101,110,116])=decide (s=comL):=by rw[bs_tl];exact beq_decX _ _
 have e2:((bs s).toList==[116,101,120,116])=decide (s=txtL):=by rw[bs_tl];exact beq_decX _ _
 have e3:((bs s).toList==[112,114,111,99,101,115,115,105,110,103,45,105,110,115,116,114,117,99,116,105,111,110])=decide (s=pinL):=by rw[bs_tl];exact beq_decX _ _
 have e4:((bs s).toList==[110,111,100,101])=decide (s=[110,111,100,101]):=by rw[bs_tl];exact beq_decX _ _
 have hf:fieldsB 20 tg vl s false nk ns=fnD s:=by simp[fieldsB,htg,hvl,way0,hn0]
 have hfn:fnD s=(!(decide (s=comL)||(decide (s=txtL)||(decide (s=pinL)||decide (s=[110,111,100,101]))))&&nmD (bs s)):=by
  unfold fnD
  rw[show typesL=[comL,txtL,pinL,[110,111,100,101]] from rfl]
  simp only[List.contains_cons,List.contains_nil,Bool.or_false,beq_decX]
 cases hN:nmD (bs s) with
 |false=>exact rt_to (rtw_f0 20 tg vl (bs s) ab ok os nk jk ns js w _ _ _ _ _ K hA hab hns rfl htg hvl hN) (by rw[hf,hfn,hN];simp)
 |true=>
  rw[hN]at hfn
  by_cases c1:s=comL
  ·exact rt_to (rtw_f1 20 tg vl (bs s) ab ok os nk jk ns js w _ _ _ _ _ K hA hab hns rfl htg hvl hN (by rw[e1];exact decide_eq_true c1)) (by rw[hf,hfn,decide_eq_true c1];rfl)
  by_cases c2:s=txtL
  ·exact rt_to (rtw_f2 20 tg vl (bs s) ab ok os nk jk ns js w _ _ _ _ _ K hA hab hns rfl htg hvl hN (by rw[e1];exact decide_eq_false c1) (by rw[e2];exact decide_eq_true c2)) (by rw[hf,hfn,decide_eq_true c2];simp)
  by_cases c3:s=pinL
  ·exact rt_to (rtw_f3 20 tg vl (bs s) ab ok os nk jk ns js w _ _ _ _ _ K hA hab hns rfl htg hvl hN (by rw[e1];exact decide_eq_false c1) (by rw[e2];exact decide_eq_false c2) (by rw[e3];exact decide_eq_true c3)) (by rw[hf,hfn,decide_eq_true c3];simp)
  by_cases c4:s=[110,111,100,101]
  ·exact rt_to (rtw_f4 20 tg vl (bs s) ab ok os nk jk ns js w _ _ _ _ _ K hA hab hns rfl htg hvl hN (by rw[e1];exact decide_eq_false c1) (by rw[e2];exact decide_eq_false c2) (by rw[e3];exact decide_eq_false c3) (by rw[e4];exact decide_eq_true c4)) (by rw[hf,hfn,decide_eq_true c4];simp)
  ·exact rt_to (rtw_f5 20 tg vl (bs s) ab ok os nk jk ns js w _ _ _ _ _ K hA hab hns rfl htg hvl hN (by rw[e1];exact decide_eq_false c1) (by rw[e2];exact decide_eq_false c2) (by rw[e3];exact decide_eq_false c3) (by rw[e4];exact decide_eq_false c4)) (by rw[hf,hfn,decide_eq_false c1,decide_eq_false c2,decide_eq_false c3,decide_eq_false c4];rfl)
set_option maxRecDepth 100000 in
set_option maxHeartbeats 1000000 in
theorem rt19 (tg vl:Int)(s:List UInt8)(ab:Bool)(ok os:Option Addr)(nk jk ns js:Nat)(w:World)(qA:Bool)(K:RtK w (bs s) tg vl ok os nk jk ns js qA true (nmD (bs s)) (litD s) (rightB tg vl))(hA:qA=true)(hab:ab=false)(hns:¬(0:Int)<(ns:Int))(hn0:ns=0):
 Calls Tryz.prog 16 #[.agg #[.int .i64 19,.string (bs s),.int .i64 tg,.int .i64 vl,.bool ab,.slice ok nk jk,.slice os ns js]] w fun e w'=>e= .returned (.bool (fieldsB 19 tg vl s false nk ns&&(true&&true)))∧Below w.heap.size w w':=by
 cases hs:s.isEmpty with
 |false=>exact rt_to (rtw_txt19 19 tg vl (bs s) ab ok os nk jk ns js w _ _ _ _ _ K hA hab hns rfl (by rw[is_emp,hs])) (by rw[fB_txt (by decide) (by decide) hs];rfl)
 |true=>
  have hs':((bs s).toList==[])=true:=by rw[is_emp,hs]
  by_cases k1:(0:Int)<(nk:Int)
  ·exact rt_to (rtw_n1 19 tg vl (bs s) ab ok os nk jk ns js w _ _ _ _ _ K hA hab hns rfl hs' k1) (by have :¬nk=0:=(by omega);simp[fieldsB,this])
  ·have k0:nk=0:=by omega
   cases hD:rightB tg vl with
   |false=>exact rt_to (rtw_n0 19 tg vl (bs s) ab ok os nk jk ns js w _ _ _ _ _ K hA hab hns rfl hs' k1 hD) (by simp[fieldsB,numD,hD])
   |true=>
    by_cases ht:tg=0
    ·exact rt_to (rtw_n3 19 tg vl (bs s) ab ok os nk jk ns js w _ _ _ _ _ K hA hab hns rfl hs' k1 hD ht) (by rw[ht]at hD;simp[fieldsB,numD,hD,ht,k0,way0,hn0,hs])
    ·exact rt_to (rtw_n2 19 tg vl (bs s) ab ok os nk jk ns js w _ _ _ _ _ K hA hab hns rfl hs' k1 hD (beq_eq_false_iff_ne.2 ht)) (by simp[fieldsB,numD,ht])
set_option maxRecDepth 100000 in
set_option maxHeartbeats 1000000 in
theorem rt18 (tg vl:Int)(s:List UInt8)(ab:Bool)(ok os:Option Addr)(nk jk ns js:Nat)(w:World)(qA:Bool)(K:RtK w (bs s) tg vl ok os nk jk ns js qA true (nmD (bs s)) (litD s) (rightB tg vl))(hA:qA=true)(hab:ab=false)(hns:¬(0:Int)<(ns:Int))(hn0:ns=0)(htg:tg=0)(hvl:vl=0):
 Calls Tryz.prog 16 #[.agg #[.int .i64 18,.string (bs s),.int .i64 tg,.int .i64 vl,.bool ab,.slice ok nk jk,.slice os ns js]] w fun e w'=>e= .returned (.bool (fieldsB 18 tg vl s false nk ns&&(true&&true)))∧Below w.heap.size w w':=by
 by_cases k1:(0:Int)<(nk:Int)
 ·exact rt_to (rtw_l1 18 tg vl (bs s) ab ok os nk jk ns js w _ _ _ _ _ K hA hab hns rfl htg hvl k1) (by have :¬nk=0:=(by omega);simp[fieldsB,this])
 ·have k0:nk=0:=by omega
  exact rt_to (rtw_l0 18 tg vl (bs s) ab ok os nk jk ns js w _ _ _ _ _ K hA hab hns rfl htg hvl k1) (by simp[fieldsB,htg,hvl,k0,way0,hn0])
set_option maxRecDepth 100000 in
set_option maxHeartbeats 1000000 in
theorem rt21 (tg vl:Int)(s:List UInt8)(ab:Bool)(ok os:Option Addr)(nk jk ns js:Nat)(w:World)(qA:Bool)(K:RtK w (bs s) tg vl ok os nk jk ns js qA true (nmD (bs s)) (litD s) (rightB tg vl))(hA:qA=true)(hab:ab=false)(hns:¬(0:Int)<(ns:Int))(hn0:ns=0)(htg:tg=0)(hvl:vl=0):
 Calls Tryz.prog 16 #[.agg #[.int .i64 21,.string (bs s),.int .i64 tg,.int .i64 vl,.bool ab,.slice ok nk jk,.slice os ns js]] w fun e w'=>e= .returned (.bool (fieldsB 21 tg vl s false nk ns&&(true&&true)))∧Below w.heap.size w w':=by
 by_cases k1:(0:Int)<(nk:Int)
 ·exact rt_to (rtw_v1 21 tg vl (bs s) ab ok os nk jk ns js w _ _ _ _ _ K hA hab hns rfl htg hvl k1) (by have :¬nk=0:=(by omega);simp[fieldsB,this])
 ·have k0:nk=0:=by omega
  exact rt_to (rtw_v0 21 tg vl (bs s) ab ok os nk jk ns js w _ _ _ _ _ K hA hab hns rfl htg hvl k1) (by simp[fieldsB,htg,hvl,k0,way0,hn0])
set_option maxRecDepth 100000 in
set_option maxHeartbeats 1000000 in
theorem rtR (op:Int)(tg vl:Int)(s:List UInt8)(ab:Bool)(ok os:Option Addr)(nk jk ns js:Nat)(w:World)(qA:Bool)(K:RtK w (bs s) tg vl ok os nk jk ns js qA true (nmD (bs s)) (litD s) (rightB tg vl))(hA:qA=true)(hab:ab=false)(hns:¬(0:Int)<(ns:Int))(hn0:ns=0)(htg:tg=0)(hvl:vl=0)(g1:¬op<1)(g2:¬21<op)(n16:¬op=16)(b16:(op != 16)=true)(n19:¬op=19)(b19:(op != 19)=true)(n18:¬op=18)(n20:¬op=20)(n21:¬op=21):
 Calls Tryz.prog 16 #[.agg #[.int .i64 op,.string (bs s),.int .i64 tg,.int .i64 vl,.bool ab,.slice ok nk jk,.slice os ns js]] w fun e w'=>e= .returned (.bool (fieldsB op tg vl s false nk ns&&(true&&true)))∧Below w.heap.size w w':=by
 have g20:op<20:=by omega
 have b18:(op != 18)=true:=bne_iff_ne.2 n18
 cases hs:s.isEmpty with
 |false=>exact rt_to (rtw_txt op tg vl (bs s) ab ok os nk jk ns js w _ _ _ _ _ K g1 g2 hA b16 hab hns b19 htg hvl b18 g20 (by rw[is_emp,hs])) (by rw[fB_txt n18 g20 hs];rfl)
 |true=>
  have hs':((bs s).toList==[])=true:=by rw[is_emp,hs]
  by_cases g14:op≤14
  ·have eo:opB op=true:=by unfold opB;exact decide_eq_true (by omega)
   exact rt_to (rtw_bin op tg vl (bs s) ab ok os nk jk ns js w _ _ _ _ _ K g1 g2 hA b16 hab hns b19 htg hvl b18 g20 hs' g14) (by
    rw[show((nk:Int)==2)=decide (nk=2) from nat_eqI nk 2,fieldsB,if_neg (by omega),if_neg n16,if_neg (by omega),if_neg n18,if_neg n19,if_neg n20,if_neg n21,eo]
    simp[hs,htg,hvl,way0,hn0])
  by_cases n15:op=15
  ·subst n15
   exact rt_to (rtw_neg 15 tg vl (bs s) ab ok os nk jk ns js w _ _ _ _ _ K hA hab hns rfl htg hvl hs') (by rw[show((nk:Int)==1)=decide (nk=1) from nat_eqI nk 1];simp[fieldsB,hs,htg,hvl,way0,hn0])
  ·have n17:op=17:=by omega
   subst n17
   exact rt_to (rtw_flt 17 tg vl (bs s) ab ok os nk jk ns js w _ _ _ _ _ K hA hab hns rfl htg hvl hs') (by
    have :decide ((2:Int)≤(nk:Int))=decide (2≤nk):=by rw[decide_eq_decide];omega
    rw[this];simp[fieldsB,hs,htg,hvl,way0,hn0])
set_option maxRecDepth 100000 in
set_option maxHeartbeats 4000000 in
theorem rtF_any (op tg vl:Int)(s:List UInt8)(ab:Bool)(ok os:Option Addr)(nk jk ns js:Nat)(w:World)(qA qS:Bool)(K:RtK w (bs s) tg vl ok os nk jk ns js qA qS (nmD (bs s)) (litD s) (rightB tg vl))(hS:ns=0→qS=true):
 Calls Tryz.prog 16 #[.agg #[.int .i64 op,.string (bs s),.int .i64 tg,.int .i64 vl,.bool ab,.slice ok nk jk,.slice os ns js]] w fun e w'=>e= .returned (.bool (fieldsB op tg vl s ab nk ns&&(qA&&qS)))∧Below w.heap.size w w':=by
 by_cases g1:op<1
 ·exact rt_to (rtw_lo op tg vl (bs s) ab ok os nk jk ns js w g1) (by rw[fB_out (.inl g1)];rfl)
 by_cases g2:21<op
 ·exact rt_to (rtw_hi op tg vl (bs s) ab ok os nk jk ns js w g1 g2) (by rw[fB_out (.inr g2)];rfl)
 cases hA:qA with
 |false=>exact rt_to (rtw_all op tg vl (bs s) ab ok os nk jk ns js w _ _ _ _ _ K g1 g2 hA) (by simp)
 |true=>
 by_cases n16:op=16
 ·subst n16
  exact rt16 tg vl s ab ok os nk jk ns js w qA qS K hA
 ·have b16:(op != 16)=true:=bne_iff_ne.2 n16
  cases ab with
  |true=>exact rt_to (rtw_abs op tg vl (bs s) true ok os nk jk ns js w _ _ _ _ _ K g1 g2 hA b16 rfl) (by rw[fB_way n16 (by simp[way0])];rfl)
  |false=>
  by_cases hns:(0:Int)<(ns:Int)
  ·exact rt_to (rtw_stp op tg vl (bs s) false ok os nk jk ns js w _ _ _ _ _ K g1 g2 hA b16 rfl hns) (by rw[fB_way n16 (by have :¬ns=0:=(by omega);simp[way0,this])];rfl)
  have hn0:ns=0:=by omega
  have hqS:=hS hn0
  subst hqS
  by_cases n19:op=19
  ·subst n19
   exact rt19 tg vl s false ok os nk jk ns js w qA K hA rfl hns hn0
  ·have b19:(op != 19)=true:=bne_iff_ne.2 n19
   by_cases hd:tg=0∧vl=0
   ·obtain⟨htg,hvl⟩:=hd
    by_cases n18:op=18
    ·subst n18
     exact rt18 tg vl s false ok os nk jk ns js w qA K hA rfl hns hn0 htg hvl
    by_cases n20:op=20
    ·subst n20
     exact rt20 tg vl s false ok os nk jk ns js w qA K hA rfl hns hn0 htg hvl
    by_cases n21:op=21
    ·subst n21
     exact rt21 tg vl s false ok os nk jk ns js w qA K hA rfl hns hn0 htg hvl
    exact rtR op tg vl s false ok os nk jk ns js w qA K hA rfl hns hn0 htg hvl g1 g2 n16 b16 n19 b19 n18 n20 n21
   ·exact rt_to (rtw_dec op tg vl (bs s) false ok os nk jk ns js w _ _ _ _ _ K g1 g2 hA b16 rfl hns b19 hd) (by rw[fB_dec n19 hd];rfl)
theorem rtE_of (c:Nat)(hS:RtC 16 c)(hcm:c≤1000):RtC 16 (c+1):=by
 intro x vk vs w F hc hw hx hG
 obtain⟨hx1,hx2⟩:=ExOn.iff.1 hx
 obtain⟨oa,ja,rfl⟩:=hx1.form
 obtain⟨ob,jb,rfl⟩:=hx2.form
 have hcd:=cntE_def x
 obtain⟨⟨_,_,_,hsl,_⟩,hwk,hws⟩:=(wfE_def _ _).1 hw
 have K:RtK w (bs x.s) x.tg x.vl oa ob x.ks.length ja x.ss.length jb (rightEs x.ks) (rightSs x.ss) (nmD (bs x.s)) (litD x.s) (rightB x.tg x.vl):=
  ⟨fun W hW=>all14_of c hS x.ks _ W F (by omega) hcm hwk (hx1.below hW) (hG.below hW),fun W hW=>steps14_of c hS x.ss _ W F (by omega) hcm hws (hx2.below hW) (hG.below hW),
   fun W=>refName_any (bs x.s) W (by rw[bs_size];exact hsl),fun W=>text14_any x.s W hsl,fun W=>Fig.refRight_any x.tg x.vl W⟩
 have h:=rtF_any x.op x.tg x.vl x.s x.abs oa ob x.ks.length ja x.ss.length jb w _ _ K (fun h=>by rw[List.eq_nil_of_length_eq_zero h];rfl)
 rw[rightE_def]
 exact h
theorem rtE_any:∀c,c≤1001→RtC 16 c
 |0,_=>fun x _ _ _ _ hc=>by have :=cntE_pos x;omega
 |c+1,h=>rtE_of c (rtE_any c (by omega)) (by omega)
end Char
namespace Char
open Go.RowKit Go.Lib
def intCd (zs:List Int):List Value:=zs.map fun z=> .int .i64 z
def OwnsI (B:Nat)(w:World)(v:Value)(zs:List Int):Prop:=w.ownsRow B 3 1 v zs.length (intCd zs)
theorem OwnsI.nil (B:Nat)(w:World):OwnsI B w (.slice none 0 0) []:=World.ownsRow_nil _ _ _ _
theorem OwnsI.keep {B:Nat}{w w':World}{v:Value}{zs:List Int}(h:OwnsI B w v zs)(hk:∀g,v.ownBlock=some g→w'.heap[g]? =w.heap[g]?):OwnsI B w' v zs:=by
 obtain⟨h1,h2⟩:=h
 refine⟨h1,?_⟩
 rcases h2 with h0|⟨g,cap,cur,e1,e2,hg,e3⟩
 ·exact .inl h0
 ·exact .inr ⟨g,cap,cur,e1,e2,(hk g (by rw[e1];rfl)).trans hg,e3⟩
theorem OwnsI.below {B:Nat}{w w':World}{v:Value}{zs:List Int}(h:OwnsI B w v zs)(hb:Below w.heap.size w w'):OwnsI B w' v zs:=h.keep fun g hg=>hb.block _ (World.ownsRow.lt h g hg).2
theorem OwnsI.form {B:Nat}{w:World}{v:Value}{zs:List Int}(h:OwnsI B w v zs):∃o j,v= .slice o zs.length j:=by
 rcases h.2 with⟨h0,h1⟩|⟨g,cap,cur,e1,_⟩
 ·exact⟨none,0,by rw[h0,←h1]⟩
 ·exact⟨_,_,e1⟩
theorem OwnsI.read {B:Nat}{w:World}{o:Option Addr}{n j:Nat}{zs:List Int}(h:OwnsI B w (.slice o n j) zs)(k:Nat)(hk:k<zs.length):∃g,o=some ⟨g,0,none⟩∧w.cell? ⟨g,k,none⟩=some (.int .i64 zs[k]):=by
 have h0:=h
 rcases h.2 with⟨h1,h2⟩|⟨g,cap,cur,e1,e2,hg,e3⟩
 ·omega
 ·injection e1 with q1 _ _
  refine⟨g,q1,?_⟩
  have hc:=World.ownsRow.cells h0 (g:=g) (by rw[q1];rfl) k (.int .i64 zs[k]) (by simp[intCd,hk])
  rw[Addr.add_lit,Nat.zero_add]at hc
  exact hc
theorem info_in15:(Tryz.prog.info? 3).map (fun i=>(i.zero,i.size,i.bytes))=some (some (.int .i64 0),1,8):=by kernel_rfl
theorem wpList_pushI {ops:Array Oper}{rest:List Oper}{o:Oper}{a:Act}{Q:Exit→Act→World→Prop}{B:Nat}{W:World}{v:Value}{zs:List Int}
 (hgd:o.guard=none) (s x:Operand) (ho:o.op= .call {callee:= .builtin .append,args:= #[s,x],argTypes:= #[104,104]})
 (z:Int) (hown:OwnsI B W v zs) (hs:a.eval s=v) (hx:a.eval x= .slice (some ⟨W.heap.size,0,none⟩) 1 1) (hB:B≤W.heap.size) (hlen:zs.length≤1001)
 (h:∀v' w1,OwnsI B w1 v' (zs++[z])→Below B W w1→wpList Tryz.prog ops Q rest (a.put o.dst v') w1):
 wpList Tryz.prog ops Q (o::rest) a (W.alloc (.cells #[.int .i64 z] 3)):=by
 refine wpList_push info_in15 Tryz.underlying104 rfl (by decide) (by decide) hgd s x ho [.int .i64 z] rfl ?_ hown hs hx hB (by omega) fun v' w1 h1 h2 _ _=> ?_
 ·intro u hu
  rw[List.mem_singleton]at hu
  subst hu
  rfl
 ·refine h v' w1 ?_ h2
  unfold OwnsI intCd
  rw[List.length_append,List.map_append]
  exact h1
def allNd (zs:List Int):Bool:=zs.all fun z=>decide (z=1)
set_option maxRecDepth 100000 in
set_option maxHeartbeats 4000000 in
theorem other_any (B:Nat)(v:Value)(zs:List Int)(w:World)(h:OwnsI B w v zs)(hl:zs.length≤1001):Calls Tryz.prog 94 #[v] w fun e w'=>e= .returned (.bool (!allNd zs))∧w'=w:=by
 obtain⟨o,j,rfl⟩:=h.form
 have HR:=Lib.hid h
 clear h
 go_enter Tryz.func94,Tryz.ntmps94
 go_wp2_with fail
 go_loopw [3] (fun v wr=>∃k:Nat,v= .int .i64 (k:Int)∧k≤zs.length∧wr=w∧Hid (allNd zs=allNd (zs.drop k))) (fun v _=>zs.length-(RowKit.intOf v).toNat)
 case atStart=>exact⟨0,rfl,Nat.zero_le _,rfl,Lib.hid rfl⟩
 case round=>
  obtain⟨k,rfl,hk,rfl,HE⟩:=hrel
  by_cases hlt:k<zs.length
  ·obtain⟨g,rfl,hc⟩:=HR.out.read k hlt
   have hs:allNd (zs.drop k)=(decide (zs[k]=1)&&allNd (zs.drop (k+1))):=by rw[List.drop_eq_getElem_cons hlt];rfl
   have HS:=Lib.hid hs
   clear hs
   by_cases h1:zs[k]=1
   ·rw[h1]at hc
    have HQ:Hid (allNd zs=allNd (zs.drop (k+1))):=Lib.hid (by rw[HE.out,HS.out,decide_eq_true h1];rfl)
    clear HE HS h1
    go_wp2_with fail
    go_roundw
    case rel=>exact⟨k+1,by go_num,hlt,by trivial,HQ⟩
    case measure=>simp[RowKit.intOf];omega
   ·have HQ:Hid (allNd zs=false):=Lib.hid (by rw[HE.out,HS.out,decide_eq_false h1];rfl)
    have hn:(zs[k] != 1)=true:=bne_iff_ne.2 h1
    generalize zs[k]=z at *
    clear HE HS h1
    go_wp2_with fail
    go_ret
    exact⟨by rw[HQ.out];rfl,rfl⟩
  ·have HQ:Hid (allNd zs=true):=Lib.hid (by rw[HE.out,List.drop_eq_nil_of_le (by omega)];rfl)
   clear HE
   go_wp2_with fail
   go_ret
   exact⟨by rw[HQ.out];rfl,rfl⟩
def OfC (c:Nat):Prop:=∀(x:Ex) (vk vs:Value) (n:Nat) (w:World) (F:Nat→Prop),cntE x≤c→wfE 1048576 x→rightE x=true→n≤2→ExOn w F x vk vs→
 Calls Tryz.prog 56 #[exV x vk vs,.int .i64 (n:Int)] w fun e w'=>e= .returned (.tuple #[.int .i64 (ckR (ckE x n)).1,.int .i64 (ckR (ckE x n)).2])∧Below w.heap.size w w'
mutual
theorem ckE_ne:∀(x:Ex) (n:Nat) (e:Int),rightE x=true→ckE x n= .inl e→e≠0
 | .mk op s tg vl ab ks ss,n,e,hr,h=>by
   have hK:=ckKs_ne ks n
   have hS:=ckSs_ne ss n
   have hF:=ckF_ne ks n
   rw[rightE]at hr
   simp only[Bool.and_eq_true]at hr
   have hk17:op=17→ks≠[]:=fun h17 hk=>by
    have :=hr.1
    rw[h17,hk]at this
    simp[fieldsB]at this
   have fin:∀(m:Bool) (t:Int) (k:Int),finT m t (ckKs ks n)= .inl k→k≠0:=fun m t k hk=>by
    unfold finT at hk
    cases hc:ckKs ks n with
    |inl z=>rw[hc]at hk;injection hk with hk;rw[←hk];exact hK z hr.2.1 hc
    |inr b=>rw[hc]at hk;cases m<;>cases b<;>simp at hk<;>omega
   rw[ckE]at h
   split at h
   ·exact fin _ _ _ h
   ·split at h
    ·exact fin _ _ _ h
    ·split at h
     ·exact fin _ _ _ h
     ·split at h
      ·cases hc:finT true 1 (ckKs ks n) with
       |inl z=>rw[hc]at h;injection h with h;rw[←h];exact fin _ _ _ hc
       |inr t=>
        rw[hc]at h
        cases hc2:ckSs ss n with
        |none=>rw[hc2]at h;cases h
        |some z=>rw[hc2]at h;injection h with h;rw[←h];exact hS z hr.2.2 hc2
      ·split at h
       ·rename_i h17
        exact hF e (hk17 h17) hr.2.1 h
       ·split at h
        ·cases h
        ·split at h
         ·cases h
         ·split at h
          ·split at h
           ·injection h with h;omega
           ·split at h
            ·injection h with h;omega
            ·exact fin _ _ _ h
          ·injection h with h;omega
theorem ckKs_ne:∀(ks:List Ex) (n:Nat) (e:Int),rightEs ks=true→ckKs ks n= .inl e→e≠0
 |[],_,_,_,h=>by rw[ckKs]at h;cases h
 |k::r,n,e,hr,h=>by
  have h1:=ckE_ne k n
  have h2:=ckKs_ne r n
  rw[rightEs,Bool.and_eq_true]at hr
  rw[ckKs]at h
  cases hc:ckE k n with
  |inl z=>rw[hc]at h;injection h with h;rw[←h];exact h1 z hr.1 hc
  |inr t=>
   rw[hc]at h
   cases hc2:ckKs r n with
   |inl z=>rw[hc2]at h;injection h with h;rw[←h];exact h2 z hr.2 hc2
   |inr b=>rw[hc2]at h;cases h
theorem ckF_ne:∀(ks:List Ex) (n:Nat) (e:Int),ks≠[]→rightEs ks=true→ckF ks n= .inl e→e≠0
 |[],_,_,h,_,_=>absurd rfl h
 |k::r,n,e,_,hr,h=>by
  have h1:=ckE_ne k n
  have h2:=ckPs_ne r n
  rw[rightEs,Bool.and_eq_true]at hr
  rw[ckF]at h
  cases hc:ckE k n with
  |inl z=>rw[hc]at h;injection h with h;rw[←h];exact h1 z hr.1 hc
  |inr t=>
   rw[hc]at h
   simp only at h
   split at h
   ·cases hc2:ckPs r n with
    |none=>rw[hc2]at h;cases h
    |some z=>rw[hc2]at h;injection h with h;rw[←h];exact h2 z hr.2 hc2
   ·injection h with h;omega
theorem ckPs_ne:∀(ks:List Ex) (n:Nat) (e:Int),rightEs ks=true→ckPs ks n=some e→e≠0
 |[],_,_,_,h=>by rw[ckPs]at h;cases h
 |k::r,n,e,hr,h=>by
  have h1:=ckE_ne k (n+1)
  have h2:=ckPs_ne r n
  rw[rightEs,Bool.and_eq_true]at hr
  rw[ckPs]at h
  split at h
  ·injection h with h;omega
  ·cases hc:ckE k (n+1) with
   |inl z=>rw[hc]at h;injection h with h;rw[←h];exact h1 z hr.1 hc
   |inr t=>rw[hc]at h;exact h2 e hr.2 h
theorem ckSs_ne:∀(ks:List St) (n:Nat) (e:Int),rightSs ks=true→ckSs ks n=some e→e≠0
 |[],_,_,_,h=>by rw[ckSs]at h;cases h
 |k::r,n,e,hr,h=>by
  have h1:=ckS_ne k n
  have h2:=ckSs_ne r n
  rw[rightSs,Bool.and_eq_true]at hr
  rw[ckSs]at h
  cases hc:ckS k n with
  |some z=>rw[hc]at h;injection h with h;rw[←h];exact h1 z hr.1 hc
  |none=>rw[hc]at h;exact h2 e hr.2 h
theorem ckS_ne:∀(x:St) (n:Nat) (e:Int),rightS x=true→ckS x n=some e→e≠0
 | .mk ax tk nm has ps,n,e,hr,h=>by
   rw[rightS,Bool.and_eq_true]at hr
   rw[ckS]at h
   exact ckPs_ne ps n e hr.2 h
end
end Char
end Go.Proofs.YtlmpkpjjakallaaGreatDoor
