import Derived.Test.YtlmpkpjjakallaaGreatDoorPt04
import Derived.Test.YtlmpkpjjakallaaGreatDoorPt19
namespace Go.Proofs.YtlmpkpjjakallaaGreatDoor
namespace Char
open Go.RowKit Go.Lib
theorem beq_dec {α:Type}[DecidableEq α](a b:α):(a==b)=decide (a=b):=by rw[Bool.eq_iff_iff,beq_iff_eq,decide_eq_true_iff]
theorem beq_list (a b:List UInt8):(a==b)=decide (a=b):=by rw[Bool.eq_iff_iff,beq_iff_eq,decide_eq_true_iff]
theorem eq_bs (a b:List UInt8)(v:Bool)(h:decide (a=b)=v):((bs a).toList==b)=v:=by
 rw[bs_tl,←h,Bool.eq_iff_iff,beq_iff_eq,decide_eq_true_eq]
set_option maxHeartbeats 1000000 in
theorem joins_any (n:List UInt8)(w:World):Calls Tryz.prog 151 #[.string (bs n)] w fun e w'=>e= .returned (.bool (joinsL.contains n))∧w'=w:=by
 have h:joinsL.contains n=(decide (n=[97,110,100])||(decide (n=[111,114])||(decide (n=[109,111,100])||decide (n=[100,105,118])))):=by
  unfold joinsL
  simp only[List.contains_cons,List.contains_nil,Bool.or_false,beq_list]
 rw[h]
 cases h1:decide (n=[97,110,100])<;>cases h2:decide (n=[111,114])<;>cases h3:decide (n=[109,111,100])<;>cases h4:decide (n=[100,105,118])<;>
 ·have e1:=eq_bs _ _ _ h1
  have e2:=eq_bs _ _ _ h2
  have e3:=eq_bs _ _ _ h3
  have e4:=eq_bs _ _ _ h4
  clear h h1 h2 h3 h4
  generalize bs n=s at *
  go_enter Tryz.func151,Tryz.ntmps151
  go_wp2_with fail
  go_ret
  exact⟨rfl,rfl⟩
set_option maxHeartbeats 1000000 in
theorem kindOf_any (n:List UInt8)(w:World):Calls Tryz.prog 153 #[.string (bs n)] w fun e w'=>e= .returned (.bool (typesL.contains n))∧w'=w:=by
 have h:typesL.contains n=(decide (n=[99,111,109,109,101,110,116])||(decide (n=[116,101,120,116])||(decide (n=[112,114,111,99,101,115,115,105,110,103,45,105,110,115,116,114,117,99,116,105,111,110])||decide (n=[110,111,100,101])))):=by
  unfold typesL
  simp only[List.contains_cons,List.contains_nil,Bool.or_false,beq_list]
 rw[h]
 cases h1:decide (n=[99,111,109,109,101,110,116])<;>cases h2:decide (n=[116,101,120,116])<;>cases h3:decide (n=[112,114,111,99,101,115,115,105,110,103,45,105,110,115,116,114,117,99,116,105,111,110])<;>cases h4:decide (n=[110,111,100,101])<;>
 ·have e1:=eq_bs _ _ _ h1
  have e2:=eq_bs _ _ _ h2
  have e3:=eq_bs _ _ _ h3
  have e4:=eq_bs _ _ _ h4
  clear h h1 h2 h3 h4
  generalize bs n=s at *
  go_enter Tryz.func153,Tryz.ntmps153
  go_wp2_with fail
  go_ret
  exact⟨rfl,rfl⟩
set_option maxHeartbeats 4000000 in
theorem ends_any (x:Wd)(w:World):Calls Tryz.prog 114 #[wdV x] w fun e w'=>e= .returned (.bool (endW x))∧Below w.heap.size w w':=by
 obtain⟨k,s,n⟩:=x
 have h:endW ⟨k,s,n⟩=(!decide (k=5)&& !(decide (k=1)&&(decide (s=[64])||(decide (s=[58,58])||(decide (s=[40])||(decide (s=[91])||decide (s=[44]))))))):=by
  unfold endW openL
  simp only[List.contains_cons,List.contains_nil,Bool.or_false,bne,beq_dec,beq_list]
 rw[h]
 clear h
 have hb:=below_box (w:=w) (.cells #[.int .i64 (k:Int),.string (bs s),.int .i64 (Fig.outT n),.int .i64 (Fig.outV n)] 89)
 have HB:=Lib.hid hb
 unfold wdV
 dsimp only
 by_cases h1:k=1
 ·subst h1
  rw[decide_eq_false (by decide:¬(1:Nat)=5),decide_eq_true rfl,Bool.not_false,Bool.true_and,Bool.true_and]
  cases e1:decide (s=[64])<;>cases e2:decide (s=[58,58])<;>cases e3:decide (s=[40])<;>cases e4:decide (s=[91])<;>cases e5:decide (s=[44])<;>
  ·have f1:=eq_bs _ _ _ e1
   have f2:=eq_bs _ _ _ e2
   have f3:=eq_bs _ _ _ e3
   have f4:=eq_bs _ _ _ e4
   have f5:=eq_bs _ _ _ e5
   clear e1 e2 e3 e4 e5 hb
   generalize bs s=u at *
   go_enter Tryz.func114,Tryz.ntmps114
   go_wp2_with fail
   go_ret
   exact⟨rfl,HB.out⟩
 ·have k1:(((k:Nat):Int)==1)=false:=by rw[beq_eq_false_iff_ne];omega
  rw[decide_eq_false h1,Bool.false_and,Bool.not_false,Bool.and_true]
  by_cases h5:k=5
  ·have k5:(((k:Nat):Int) != 5)=false:=by rw[h5];rfl
   rw[decide_eq_true h5]
   clear h1 h5 hb
   go_enter Tryz.func114,Tryz.ntmps114
   go_wp2_with fail
   go_ret
   exact⟨rfl,HB.out⟩
  ·have k5:(((k:Nat):Int) != 5)=true:=by rw[bne_iff_ne];omega
   rw[decide_eq_false h5]
   clear h1 h5 hb
   go_enter Tryz.func114,Tryz.ntmps114
   go_wp2_with fail
   go_ret
   exact⟨rfl,HB.out⟩
theorem first_step {ss:List (List UInt8)}{l:List UInt8}{k:Nat}(hk:k<ss.length):firstP (ss.drop k) l=if ss[k].isPrefixOf l then some ss[k] else firstP (ss.drop (k+1)) l:=by
 unfold firstP
 rw[List.drop_eq_getElem_cons hk,List.find?_cons]
 split<;>rename_i h<;>simp[h]
set_option maxHeartbeats 4000000 in
theorem oneOf_any (ss:List (List UInt8))(l:List UInt8)(kd:Nat)(g:Nat)(w:World)(hg:g<w.heap.size)(hc:∀i (h:i<ss.length),w.cell? ⟨g,i,none⟩=some (.string (bs ss[i])))(hl:ss.length≤100):
 Calls Tryz.prog 149 #[.slice (some ⟨g,0,none⟩) ss.length ss.length,.string (bs l),.int .i64 (kd:Int)] w (WdPost w (signW kd ss l)):=by
 obtain⟨R,hR⟩:∃R,firstP ss l=R:=⟨_,rfl⟩
 have hS:signW kd ss l=R.map fun p=>(⟨kd,p,.num 0⟩,p.length):=by unfold signW;rw[hR]
 obtain⟨W1,hW1⟩:∃W1,W1=w.alloc (.cells #[.int .i64 0,.string ⟨#[]⟩,.int .i64 0,.int .i64 0] 89):=⟨_,rfl⟩
 have hb1:Below w.heap.size w W1:=by rw[hW1];exact below_box _
 have hk1:W1.heap[w.heap.size]? =some (wdB wd0):=by rw[hW1];exact World.alloc_heap_new w _
 have hcc:∀i (h:i<ss.length),W1.cell? ⟨g,i,none⟩=some (.string (bs ss[i])):=fun i h=>(hb1.cell (p:=⟨g,i,none⟩) hg).trans (hc i h)
 have HC:=Lib.hid hcc
 have HB1:=Lib.hid hb1
 have HK1:=Lib.hid hk1
 have HS:=Lib.hid hS
 have HR:=Lib.hid hR
 obtain⟨⟨d0,d1,d2,d3⟩,df⟩:=wd_blk hk1
 have f0:=df 0
 have f1:=df 1
 have f2:=df 2
 have f3:=df 3
 dsimp only[wd0]at d0 d1 d2 d3
 have HW1:=Lib.hid hW1
 clear hc hcc hb1 hk1 hS hR hW1 df
 go_enter Tryz.func149,Tryz.ntmps149
 go_upto_region 1 with fail
 rw[←HW1.out]
 clear HW1
 go_wp2_with fail
 go_loopw [12] (fun v wr=>∃k:Nat,v= .int .i64 (k:Int)∧k≤ss.length∧wr=W1∧Hid (firstP (ss.drop k) l=R)) (fun v _=>ss.length-(RowKit.intOf v).toNat)
 case atStart=>exact⟨0,rfl,Nat.zero_le _,rfl,HR⟩
 case round=>
  obtain⟨k,rfl,hk,hwr,HF⟩:=hrel
  have hwr:=hwr.symm
  subst hwr
  by_cases hlt:k<ss.length
  ·have hst:=first_step (l:=l) hlt
   have hcell:=HC.out k hlt
   have hpl:=bs_size ss[k]
   obtain⟨p,hp⟩:∃p,ss[k]=p:=⟨_,rfl⟩
   rw[hp]at hst hcell hpl
   have hh:=hasp_any l p W1
   have k1:decide ((k:Int)<(ss.length:Int))=true:=decide_eq_true (by omega)
   have hz0:(0:Int)≤(k:Int):=by omega
   have hz1:(k:Int)<(ss.length:Int):=by omega
   have HLT:=Lib.hid hlt
   rw[HF.out]at hst
   cases hpre:p.isPrefixOf l with
   |true=>
    rw[hpre]at hh hst
    simp only[if_true]at hst
    have HH:=Lib.hid hh
    have HST:=Lib.hid hst
    clear hh hst hp hlt hk HF hpre
    go_wp2_with (first
     |(go_at_call 152
       refine HH.out.mono ?_
       rintro e w2 ⟨rfl,hw⟩
       have hw:=hw.symm
       subst hw))
    exact end_word Tryz.results149 w W1 _ (x:=⟨kd,p,.num 0⟩) HK1.out HB1.out (by rw[HS.out,HST.out];rfl) (by rw[HS.out,HST.out];rfl) rfl rfl rfl
   |false=>
    rw[hpre]at hh hst
    simp only[Bool.false_eq_true,if_false]at hst
    have HH:=Lib.hid hh
    have HST:=Lib.hid hst.symm
    clear hh hst hp hlt hk HF hpre
    go_wp2_with (first
     |(go_at_call 152
       refine HH.out.mono ?_
       rintro e w2 ⟨rfl,hw⟩
       have hw:=hw.symm
       subst hw))
    exact⟨⟨k+1,by go_num,by have :=HLT.out;omega,by trivial,HST⟩,by have :=HLT.out;simp[RowKit.intOf];omega⟩
  ·have hR0:R=none:=by rw[←HF.out,List.drop_eq_nil_of_le (by omega)];rfl
   have k1:decide ((k:Int)<(ss.length:Int))=false:=decide_eq_false (by omega)
   have k2:decide (k<ss.length)=false:=decide_eq_false hlt
   have HR0:=Lib.hid hR0
   clear hR0 hlt hk HF
   go_wp2_with fail
   exact end_word Tryz.results149 w W1 _ (x:=wd0) HK1.out HB1.out (by rw[HS.out,HR0.out];rfl) (by rw[HS.out,HR0.out];rfl) rfl rfl rfl
end Char
namespace Char
open Go.RowKit Go.Lib
theorem marks_at {W:World}{g:Nat}(h:W.heap[g]? =some (.cells #[.string ⟨#[46,46]⟩,.string ⟨#[58,58]⟩,.string ⟨#[40]⟩,.string ⟨#[41]⟩,.string ⟨#[91]⟩,.string ⟨#[93]⟩,.string ⟨#[46]⟩,.string ⟨#[64]⟩,.string ⟨#[44]⟩] 166 (0,0))):
 ∀i (hi:i<marksL.length),W.cell? ⟨g,i,none⟩=some (.string (bs marksL[i])):=by
 intro i hi
 have :i=0∨i=1∨i=2∨i=3∨i=4∨i=5∨i=6∨i=7∨i=8:=by
  have :marksL.length=9:=rfl
  omega
 rcases this with rfl|rfl|rfl|rfl|rfl|rfl|rfl|rfl|rfl<;>(simp[World.cell?,h];rfl)
theorem ops_at {W:World}{g:Nat}(h:W.heap[g]? =some (.cells #[.string ⟨#[47,47]⟩,.string ⟨#[33,61]⟩,.string ⟨#[60,61]⟩,.string ⟨#[62,61]⟩,.string ⟨#[47]⟩,.string ⟨#[124]⟩,.string ⟨#[43]⟩,.string ⟨#[45]⟩,.string ⟨#[61]⟩,.string ⟨#[60]⟩,.string ⟨#[62]⟩] 168 (0,0))):
 ∀i (hi:i<opsL.length),W.cell? ⟨g,i,none⟩=some (.string (bs opsL[i])):=by
 intro i hi
 have :i=0∨i=1∨i=2∨i=3∨i=4∨i=5∨i=6∨i=7∨i=8∨i=9∨i=10:=by
  have :opsL.length=11:=rfl
  omega
 rcases this with rfl|rfl|rfl|rfl|rfl|rfl|rfl|rfl|rfl|rfl|rfl<;>(simp[World.cell?,h];rfl)
theorem star_at {W:World}{g:Nat}(h:W.heap[g]? =some (.cells #[.string ⟨#[42]⟩] 9 (0,0))):∀i (hi:i<([[42]]:List (List UInt8)).length),W.cell? ⟨g,i,none⟩=some (.string (bs ([[42]]:List (List UInt8))[i])):=by
 intro i hi
 obtain rfl:i=0:=by simpa using hi
 simp[World.cell?,h]
 rfl
set_option maxHeartbeats 4000000 in
theorem mark_any (l:List UInt8)(w:World):Calls Tryz.prog 105 #[.string (bs l)] w (WdPost w (signW 1 marksL l)):=by
 obtain⟨W2,hW2⟩:∃W2,W2=(w.alloc (.cells #[.int .i64 0,.string ⟨#[]⟩,.int .i64 0,.int .i64 0] 89)).alloc (.cells #[.string ⟨#[46,46]⟩,.string ⟨#[58,58]⟩,.string ⟨#[40]⟩,.string ⟨#[41]⟩,.string ⟨#[91]⟩,.string ⟨#[93]⟩,.string ⟨#[46]⟩,.string ⟨#[64]⟩,.string ⟨#[44]⟩] 166):=⟨_,rfl⟩
 have hb2:Below w.heap.size w W2:=by rw[hW2];exact((Below.refl _ _).alloc (Nat.le_refl _) _).alloc (by simp) _
 have hk2:W2.heap[w.heap.size]? =some (wdB wd0):=by
  rw[hW2,Below.heap_alloc _ _ _ (by simp)]
  exact World.alloc_heap_new w _
 have hr2:W2.heap[w.heap.size+1]? =some (.cells #[.string ⟨#[46,46]⟩,.string ⟨#[58,58]⟩,.string ⟨#[40]⟩,.string ⟨#[41]⟩,.string ⟨#[91]⟩,.string ⟨#[93]⟩,.string ⟨#[46]⟩,.string ⟨#[64]⟩,.string ⟨#[44]⟩] 166 (0,0)):=by
  rw[hW2]
  have :=World.alloc_heap_new (w.alloc (.cells #[.int .i64 0,.string ⟨#[]⟩,.int .i64 0,.int .i64 0] 89)) (.cells #[.string ⟨#[46,46]⟩,.string ⟨#[58,58]⟩,.string ⟨#[40]⟩,.string ⟨#[41]⟩,.string ⟨#[91]⟩,.string ⟨#[93]⟩,.string ⟨#[46]⟩,.string ⟨#[64]⟩,.string ⟨#[44]⟩] 166)
  simpa using this
 have hl2:w.heap.size+1<W2.heap.size:=(Array.getElem?_eq_some_iff.1 hr2).1
 have hC:=oneOf_any marksL l 1 (w.heap.size+1) W2 hl2 (marks_at hr2) (by decide)
 obtain⟨P,hP⟩:∃P,signW 1 marksL l=P:=⟨_,rfl⟩
 rw[hP]at hC ⊢
 unfold WdPost at hC
 obtain⟨X,hX⟩:∃X,(P.getD (wd0,0)).1=X:=⟨_,rfl⟩
 obtain⟨n,hn⟩:∃n,(P.getD (wd0,0)).2=n:=⟨_,rfl⟩
 rw[hX,hn]at hC
 unfold wdV at hC
 have HC:=Lib.hid hC
 have HX:=Lib.hid hX
 have HN:=Lib.hid hn
 have HB2:=Lib.hid hb2
 have HK2:=Lib.hid hk2
 have HL2:=Lib.hid hl2
 have HW2:=Lib.hid hW2
 clear hC hP hX hn hb2 hk2 hr2 hl2 hW2
 go_enter Tryz.func105,Tryz.ntmps105
 go_wp2_with (first
  |(go_at_call 149
    rw[←HW2.out]
    refine HC.out.mono ?_
    rintro e w3 ⟨rfl,hb3⟩
    have hk3:w3.heap[w.heap.size]? =some (wdB wd0):=(hb3.block _ (by have :=HL2.out;omega)).trans HK2.out
    obtain⟨⟨d0,d1,d2,d3⟩,df⟩:=wd_blk hk3
    have f0:=df 0
    have f1:=df 1
    have f2:=df 2
    have f3:=df 3
    have HK3:=Lib.hid hk3
    have HB3:=Lib.hid (HB2.out.trans (hb3.mono HB2.out.size))
    clear hb3 hk3 df HC HW2))
 exact end_word Tryz.results105 w w3 _ (x:=X) HK3.out HB3.out HX.out (by rw[HN.out]) rfl rfl rfl
set_option maxHeartbeats 4000000 in
theorem operator_any (l:List UInt8)(w:World):Calls Tryz.prog 107 #[.string (bs l)] w (WdPost w (signW 5 opsL l)):=by
 obtain⟨W2,hW2⟩:∃W2,W2=(w.alloc (.cells #[.int .i64 0,.string ⟨#[]⟩,.int .i64 0,.int .i64 0] 89)).alloc (.cells #[.string ⟨#[47,47]⟩,.string ⟨#[33,61]⟩,.string ⟨#[60,61]⟩,.string ⟨#[62,61]⟩,.string ⟨#[47]⟩,.string ⟨#[124]⟩,.string ⟨#[43]⟩,.string ⟨#[45]⟩,.string ⟨#[61]⟩,.string ⟨#[60]⟩,.string ⟨#[62]⟩] 168):=⟨_,rfl⟩
 have hb2:Below w.heap.size w W2:=by rw[hW2];exact((Below.refl _ _).alloc (Nat.le_refl _) _).alloc (by simp) _
 have hk2:W2.heap[w.heap.size]? =some (wdB wd0):=by
  rw[hW2,Below.heap_alloc _ _ _ (by simp)]
  exact World.alloc_heap_new w _
 have hr2:W2.heap[w.heap.size+1]? =some (.cells #[.string ⟨#[47,47]⟩,.string ⟨#[33,61]⟩,.string ⟨#[60,61]⟩,.string ⟨#[62,61]⟩,.string ⟨#[47]⟩,.string ⟨#[124]⟩,.string ⟨#[43]⟩,.string ⟨#[45]⟩,.string ⟨#[61]⟩,.string ⟨#[60]⟩,.string ⟨#[62]⟩] 168 (0,0)):=by
  rw[hW2]
  have :=World.alloc_heap_new (w.alloc (.cells #[.int .i64 0,.string ⟨#[]⟩,.int .i64 0,.int .i64 0] 89)) (.cells #[.string ⟨#[47,47]⟩,.string ⟨#[33,61]⟩,.string ⟨#[60,61]⟩,.string ⟨#[62,61]⟩,.string ⟨#[47]⟩,.string ⟨#[124]⟩,.string ⟨#[43]⟩,.string ⟨#[45]⟩,.string ⟨#[61]⟩,.string ⟨#[60]⟩,.string ⟨#[62]⟩] 168)
  simpa using this
 have hl2:w.heap.size+1<W2.heap.size:=(Array.getElem?_eq_some_iff.1 hr2).1
 have hC:=oneOf_any opsL l 5 (w.heap.size+1) W2 hl2 (ops_at hr2) (by decide)
 obtain⟨P,hP⟩:∃P,signW 5 opsL l=P:=⟨_,rfl⟩
 rw[hP]at hC ⊢
 unfold WdPost at hC
 obtain⟨X,hX⟩:∃X,(P.getD (wd0,0)).1=X:=⟨_,rfl⟩
 obtain⟨n,hn⟩:∃n,(P.getD (wd0,0)).2=n:=⟨_,rfl⟩
 rw[hX,hn]at hC
 unfold wdV at hC
 have HC:=Lib.hid hC
 have HX:=Lib.hid hX
 have HN:=Lib.hid hn
 have HB2:=Lib.hid hb2
 have HK2:=Lib.hid hk2
 have HL2:=Lib.hid hl2
 have HW2:=Lib.hid hW2
 clear hC hP hX hn hb2 hk2 hr2 hl2 hW2
 go_enter Tryz.func107,Tryz.ntmps107
 go_wp2_with (first
  |(go_at_call 149
    rw[←HW2.out]
    refine HC.out.mono ?_
    rintro e w3 ⟨rfl,hb3⟩
    have hk3:w3.heap[w.heap.size]? =some (wdB wd0):=(hb3.block _ (by have :=HL2.out;omega)).trans HK2.out
    obtain⟨⟨d0,d1,d2,d3⟩,df⟩:=wd_blk hk3
    have f0:=df 0
    have f1:=df 1
    have f2:=df 2
    have f3:=df 3
    have HK3:=Lib.hid hk3
    have HB3:=Lib.hid (HB2.out.trans (hb3.mono HB2.out.size))
    clear hb3 hk3 df HC HW2))
 exact end_word Tryz.results107 w w3 _ (x:=X) HK3.out HB3.out HX.out (by rw[HN.out]) rfl rfl rfl
set_option maxHeartbeats 4000000 in
theorem star_any (l:List UInt8)(e:Bool)(w:World):Calls Tryz.prog 109 #[.string (bs l),.bool e] w (WdPost w (signW (starK e) [[42]] l)):=by
 obtain⟨W2,hW2⟩:∃W2,W2=(w.alloc (.cells #[.int .i64 0,.string ⟨#[]⟩,.int .i64 0,.int .i64 0] 89)).alloc (.cells #[.string ⟨#[42]⟩] 9):=⟨_,rfl⟩
 have hb2:Below w.heap.size w W2:=by rw[hW2];exact((Below.refl _ _).alloc (Nat.le_refl _) _).alloc (by simp) _
 have hk2:W2.heap[w.heap.size]? =some (wdB wd0):=by
  rw[hW2,Below.heap_alloc _ _ _ (by simp)]
  exact World.alloc_heap_new w _
 have hr2:W2.heap[w.heap.size+1]? =some (.cells #[.string ⟨#[42]⟩] 9 (0,0)):=by
  rw[hW2]
  have :=World.alloc_heap_new (w.alloc (.cells #[.int .i64 0,.string ⟨#[]⟩,.int .i64 0,.int .i64 0] 89)) (.cells #[.string ⟨#[42]⟩] 9)
  simpa using this
 have hl2:w.heap.size+1<W2.heap.size:=(Array.getElem?_eq_some_iff.1 hr2).1
 have hC:=oneOf_any [[42]] l (starK e) (w.heap.size+1) W2 hl2 (star_at hr2) (by decide)
 obtain⟨P,hP⟩:∃P,signW (starK e) [[42]] l=P:=⟨_,rfl⟩
 rw[hP]at hC ⊢
 unfold WdPost at hC
 obtain⟨X,hX⟩:∃X,(P.getD (wd0,0)).1=X:=⟨_,rfl⟩
 obtain⟨n,hn⟩:∃n,(P.getD (wd0,0)).2=n:=⟨_,rfl⟩
 rw[hX,hn]at hC
 unfold wdV at hC
 have HC:=Lib.hid hC
 have HX:=Lib.hid hX
 have HN:=Lib.hid hn
 have HB2:=Lib.hid hb2
 have HK2:=Lib.hid hk2
 have HL2:=Lib.hid hl2
 have HW2:=Lib.hid hW2
 clear hC hP hX hn hb2 hk2 hr2 hl2 hW2
 cases e
 all_goals
  unfold starK at HC
  simp only[Bool.false_eq_true,if_false,if_true]at HC
  go_enter Tryz.func109,Tryz.ntmps109
  go_wp2_with (first
   |(go_at_call 149
     rw[←HW2.out]
     refine HC.out.mono ?_
     rintro e w3 ⟨rfl,hb3⟩
     have hk3:w3.heap[w.heap.size]? =some (wdB wd0):=(hb3.block _ (by have :=HL2.out;omega)).trans HK2.out
     obtain⟨⟨d0,d1,d2,d3⟩,df⟩:=wd_blk hk3
     have f0:=df 0
     have f1:=df 1
     have f2:=df 2
     have f3:=df 3
     have HK3:=Lib.hid hk3
     have HB3:=Lib.hid (HB2.out.trans (hb3.mono HB2.out.size))
     clear hb3 hk3 df HC HW2))
  exact end_word Tryz.results109 w w3 _ (x:=X) HK3.out HB3.out HX.out (by rw[HN.out]) rfl rfl rfl
end Char
namespace Char
open Go.RowKit Go.Lib
theorem wd0_at {w W:World}(h:W.heap[w.heap.size]? =some (wdB wd0)):(W.cell? ⟨w.heap.size,0,none⟩=some (.int .i64 0)∧W.cell? ⟨w.heap.size,1,none⟩=some (.string ⟨#[]⟩)∧W.cell? ⟨w.heap.size,2,none⟩=some (.int .i64 0)∧W.cell? ⟨w.heap.size,3,none⟩=some (.int .i64 0))∧
 W.frozen? ⟨w.heap.size,0,none⟩=false∧W.frozen? ⟨w.heap.size,1,none⟩=false∧W.frozen? ⟨w.heap.size,2,none⟩=false∧W.frozen? ⟨w.heap.size,3,none⟩=false:=by
 obtain⟨h1,h2⟩:=wd_blk h
 exact⟨h1,h2 0,h2 1,h2 2,h2 3⟩
theorem wd_hd (w:World):∃W1,W1=w.alloc (.cells #[.int .i64 0,.string ⟨#[]⟩,.int .i64 0,.int .i64 0] 89)∧Below w.heap.size w W1∧W1.heap[w.heap.size]? =some (wdB wd0)∧w.heap.size<W1.heap.size∧Hid (W1=w.alloc (.cells #[.int .i64 0,.string ⟨#[]⟩,.int .i64 0,.int .i64 0] 89))∧
 Hid (∀w3,Below W1.heap.size W1 w3→(w3.cell? ⟨w.heap.size,0,none⟩=some (.int .i64 0)∧w3.cell? ⟨w.heap.size,1,none⟩=some (.string ⟨#[]⟩)∧w3.cell? ⟨w.heap.size,2,none⟩=some (.int .i64 0)∧w3.cell? ⟨w.heap.size,3,none⟩=some (.int .i64 0))∧w3.frozen? ⟨w.heap.size,0,none⟩=false∧w3.frozen? ⟨w.heap.size,1,none⟩=false∧w3.frozen? ⟨w.heap.size,2,none⟩=false∧w3.frozen? ⟨w.heap.size,3,none⟩=false)∧
 Hid (∀w3,Below W1.heap.size W1 w3→w3.heap[w.heap.size]? =some (wdB wd0)∧Below w.heap.size w w3):=by
 obtain⟨W1,hW1⟩:∃W1,W1=w.alloc (.cells #[.int .i64 0,.string ⟨#[]⟩,.int .i64 0,.int .i64 0] 89):=⟨_,rfl⟩
 have hb1:Below w.heap.size w W1:=by rw[hW1];exact below_box _
 have hk1:W1.heap[w.heap.size]? =some (wdB wd0):=by rw[hW1];exact World.alloc_heap_new w _
 have hl1:w.heap.size<W1.heap.size:=(Array.getElem?_eq_some_iff.1 hk1).1
 have HW1:=Lib.hid hW1
 have HKEY:=Lib.hid fun(w3:World) (hb3:Below W1.heap.size W1 w3)=>wd0_at ((hb3.block _ hl1).trans hk1)
 have HKB:=Lib.hid fun(w3:World) (hb3:Below W1.heap.size W1 w3)=>And.intro ((hb3.block _ hl1).trans hk1) (hb1.trans (hb3.mono hb1.size))
 exact⟨W1,hW1,hb1,hk1,hl1,HW1,HKEY,HKB⟩
set_option maxHeartbeats 8000000 in
theorem literal_any (c:UInt8)(t:List UInt8)(w:World)(hl:t.length≤1000)(hG:MaxL w):Calls Tryz.prog 101 #[.string (bs (c::t))] w (WdPost w (litW (c::t))):=by
 obtain⟨W1,hW1⟩:∃W1,W1=w.alloc (.cells #[.int .i64 0,.string ⟨#[]⟩,.int .i64 0,.int .i64 0] 89):=⟨_,rfl⟩
 have hb1:Below w.heap.size w W1:=by rw[hW1];exact below_box _
 have hk1:W1.heap[w.heap.size]? =some (wdB wd0):=by rw[hW1];exact World.alloc_heap_new w _
 have hl1:w.heap.size<W1.heap.size:=(Array.getElem?_eq_some_iff.1 hk1).1
 have hs1:=slice_to (c::t) 1 (by simp)
 have hs2:=slice_from (c::t) 1 (by simp)
 have e1:(c::t).take 1=[c]:=rfl
 have e2:(c::t).drop 1=t:=rfl
 rw[e1,show((1:Nat):Int)=1 from rfl]at hs1
 rw[e2,show((1:Nat):Int)=1 from rfl]at hs2
 have hsz:(bs (c::t)).size=t.length+1:=by rw[bs_size];rfl
 have hcut:=scut_any t [c] W1 (by omega) (hG.below hb1)
 obtain⟨q1,q2⟩:=cut_one c t
 obtain⟨⟨d0,d1,d2,d3⟩,f0,f1,f2,f3⟩:=wd0_at hk1
 have HW1:=Lib.hid hW1
 have HB1:=Lib.hid hb1
 have HK1:=Lib.hid hk1
 have HL1:=Lib.hid hl1
 rw[litW_cons]
 clear hG hb1 hk1 hl1 hW1 e1 e2
 by_cases hc:c=34∨c=39
 ·rw[if_pos hc]
  have hq:(((bs [c]).toList==[34])=false∧((bs [c]).toList==[39])=true)∨((bs [c]).toList==[34])=true:=by
   rw[bs_tl]
   rcases hc with rfl|rfl
   ·exact .inr rfl
   ·exact .inl ⟨rfl,rfl⟩
  obtain⟨A,hA⟩:∃A,t.takeWhile (· != c)=A:=⟨_,rfl⟩
  rw[hA]at q1 q2 ⊢
  have hAl:A.length≤t.length:=by rw[←hA];exact(List.takeWhile_prefix _).length_le
  have hAs:(bs A).size=A.length:=bs_size A
  rw[q1,q2]at hcut
  generalize (cut t [c]).2.1=Z at hcut
  by_cases hlt:A.length<t.length
  ·rw[if_pos hlt,decide_eq_true hlt]at hcut
   rw[if_pos hlt]
   have HCUT:=Lib.hid hcut
   have hA2:A.length≤1000:=by omega
   clear hcut q1 q2 hc hA hAl hlt
   rcases hq with⟨k1,k2⟩|k1
   all_goals
    generalize bs [c]=s at *
    go_enter Tryz.func101,Tryz.ntmps101
    go_upto_region 1 with fail
    rw[←HW1.out]
    clear HW1
    go_wp2_with (first
     |(go_at_call 145
       refine HCUT.out.mono ?_
       rintro e w3 ⟨rfl,hb3⟩
       have hk3:w3.heap[w.heap.size]? =some (wdB wd0):=(hb3.block _ HL1.out).trans HK1.out
       clear d0 d1 d2 d3 f0 f1 f2 f3
       obtain⟨⟨d0,d1,d2,d3⟩,f0,f1,f2,f3⟩:=wd0_at hk3
       have HK3:=Lib.hid hk3
       have HB3:=Lib.hid (HB1.out.trans (hb3.mono HB1.out.size))
       clear hb3 hk3 HCUT))
    exact end_word Tryz.results101 w w3 (some (⟨8,A,.num 0⟩,A.length+2)) (x:=⟨8,A,.num 0⟩) HK3.out HB3.out (by rfl) (by rfl) rfl rfl rfl
  ·rw[if_neg hlt,decide_eq_false hlt]at hcut
   rw[if_neg hlt]
   have HCUT:=Lib.hid hcut
   clear hcut q1 q2 hc hA hAl hlt
   rcases hq with⟨k1,k2⟩|k1
   all_goals
    generalize bs [c]=s at *
    go_enter Tryz.func101,Tryz.ntmps101
    go_upto_region 1 with fail
    rw[←HW1.out]
    clear HW1
    go_wp2_with (first
     |(go_at_call 145
       refine HCUT.out.mono ?_
       rintro e w3 ⟨rfl,hb3⟩
       have hk3:w3.heap[w.heap.size]? =some (wdB wd0):=(hb3.block _ HL1.out).trans HK1.out
       clear d0 d1 d2 d3 f0 f1 f2 f3
       obtain⟨⟨d0,d1,d2,d3⟩,f0,f1,f2,f3⟩:=wd0_at hk3
       have HK3:=Lib.hid hk3
       have HB3:=Lib.hid (HB1.out.trans (hb3.mono HB1.out.size))
       clear hb3 hk3 HCUT))
    exact end_word Tryz.results101 w w3 none (x:=wd0) HK3.out HB3.out (by rfl) (by rfl) rfl rfl rfl
 ·rw[if_neg hc]
  have hq:((bs [c]).toList==[34])=false∧((bs [c]).toList==[39])=false:=by
   rw[bs_tl]
   simp only[not_or]at hc
   exact⟨by simpa using hc.1,by simpa using hc.2⟩
  obtain⟨k1,k2⟩:=hq
  clear hc hcut q1 q2
  generalize bs [c]=s at *
  go_enter Tryz.func101,Tryz.ntmps101
  go_upto_region 1 with fail
  rw[←HW1.out]
  clear HW1
  go_wp2_with fail
  exact end_word Tryz.results101 w W1 none (x:=wd0) HK1.out HB1.out (by rfl) (by rfl) rfl rfl rfl
theorem cutp12 (l p:List UInt8)(w:World)(v:Bool)(h:p.isPrefixOf l=v):Calls Tryz.prog 147 #[.string (bs l),.string (bs p)] w fun e w'=>e= .returned (.tuple #[.string (bs (if v then l.drop p.length else l)),.bool v])∧w'=w:=by
 have :=cutp_any l p w
 rw[h]at this
 exact this
set_option maxHeartbeats 8000000 in
theorem variable_any (l:List UInt8)(w:World)(hl:l.length≤1000)(ht:txD l=true)(hG:Gl w):Calls Tryz.prog 111 #[.string (bs l)] w (WdPost w (varW l)):=by
 obtain⟨W1,hW1⟩:∃W1,W1=w.alloc (.cells #[.int .i64 0,.string ⟨#[]⟩,.int .i64 0,.int .i64 0] 89):=⟨_,rfl⟩
 have hb1:Below w.heap.size w W1:=by rw[hW1];exact below_box _
 have hk1:W1.heap[w.heap.size]? =some (wdB wd0):=by rw[hW1];exact World.alloc_heap_new w _
 have hl1:w.heap.size<W1.heap.size:=(Array.getElem?_eq_some_iff.1 hk1).1
 have hG1:=hG.below hb1
 have HW1:=Lib.hid hW1
 have HB1:=Lib.hid hb1
 have HK1:=Lib.hid hk1
 have HL1:=Lib.hid hl1
 have HKEY:=Lib.hid fun(w3:World) (hb3:Below W1.heap.size W1 w3)=>wd0_at ((hb3.block _ hl1).trans hk1)
 have HKB:=Lib.hid fun(w3:World) (hb3:Below W1.heap.size W1 w3)=>And.intro ((hb3.block _ hl1).trans hk1) (hb1.trans (hb3.mono hb1.size))
 clear hb1 hk1 hl1 hW1 hG
 cases hp:([36]:List UInt8).isPrefixOf l with
 |false=>
  have hC:=cutp12 l [36] W1 false hp
  simp only[Bool.false_eq_true,if_false]at hC
  have hR:=lexRun_any l W1 (by omega) ht
  have HC:=Lib.hid hC
  have HR:=Lib.hid hR
  have hv:varW l=none:=by unfold varW;rw[hp];rfl
  rw[hv]
  clear hC hR hv hp hG1 ht
  generalize l.take (runL l)=N at *
  go_enter Tryz.func111,Tryz.ntmps111
  go_upto_region 1 with fail
  rw[←HW1.out]
  clear HW1
  go_wp2_with (first
   |(go_at_call 147
     refine HC.out.mono ?_
     rintro e w2 ⟨rfl,hw⟩
     have hw:=hw.symm
     subst hw
     clear HC)
   |(go_at_call 150
     refine HR.out.mono ?_
     rintro e w3 ⟨rfl,hb3⟩
     obtain⟨⟨d0,d1,d2,d3⟩,f0,f1,f2,f3⟩:=HKEY.out w3 hb3
     have HKB3:=Lib.hid (HKB.out w3 hb3)
     clear hb3 HR))
  exact end_word Tryz.results111 w w3 none (x:=wd0) HKB3.out.1 HKB3.out.2 (by rfl) (by rfl) rfl rfl rfl
 |true=>
  have hC:=cutp12 l [36] W1 true hp
  simp only[if_true]at hC
  have e1:l.drop ([36]:List UInt8).length=l.drop 1:=rfl
  rw[e1]at hC
  have ht1:txD (l.drop 1)=true:=tx_take (m:=[36]) (by decide) hp ht
  have hR:=lexRun_any (l.drop 1) W1 (by rw[List.length_drop];omega) ht1
  have hv:varW l=if nmD (bs ((l.drop 1).take (runL (l.drop 1)))) then some (⟨10,(l.drop 1).take (runL (l.drop 1)),.num 0⟩,1+runL (l.drop 1)) else none:=by unfold varW;rw[hp];rfl
  have hrl:((l.drop 1).take (runL (l.drop 1))).length=runL (l.drop 1):=by rw[List.length_take];exact Nat.min_eq_left (run_le _ _ (Nat.le_refl _))
  have hrs:=bs_size ((l.drop 1).take (runL (l.drop 1)))
  rw[hrl]at hrs
  have hr9:runL (l.drop 1)≤1000:=by have :=run_le _ (l.drop 1) (Nat.le_refl _);rw[List.length_drop]at this;omega
  rw[hv]
  generalize (l.drop 1).take (runL (l.drop 1))=N at *
  generalize runL (l.drop 1)=n at *
  have HN:=Lib.hid fun(w3:World) (hb3:Below W1.heap.size W1 w3)=>chName_any (bs N) w3 (by rw[hrs];omega) (hG1.below hb3).1
  have HC:=Lib.hid hC
  have HR:=Lib.hid hR
  have HRS:=Lib.hid hrl
  clear hC hR hv hp hG1 ht ht1 e1 hrl
  generalize l.drop 1=t1 at *
  obtain⟨E,hE⟩:∃E,nmD (bs N)=E:=⟨_,rfl⟩
  rw[hE]at HN ⊢
  clear hE
  cases E with
  |false=>
   simp only[Bool.false_eq_true,if_false]
   go_enter Tryz.func111,Tryz.ntmps111
   go_upto_region 1 with fail
   rw[←HW1.out]
   clear HW1
   go_wp2_with (first
    |(go_at_call 147
      refine HC.out.mono ?_
      rintro e w2 ⟨rfl,hw⟩
      have hw:=hw.symm
      subst hw
      clear HC)
    |(go_at_call 150
      refine HR.out.mono ?_
      rintro e w3 ⟨rfl,hb3⟩
      have HB3:=Lib.hid hb3
      have HN3:=Lib.hid (HN.out w3 hb3)
      clear hb3 HR)
    |(go_at_call 69
      refine HN3.out.mono ?_
      rintro e w4 ⟨rfl,hb4⟩
      have hb4:=HB3.out.trans (hb4.mono HB3.out.size)
      obtain⟨⟨d0,d1,d2,d3⟩,f0,f1,f2,f3⟩:=HKEY.out w4 hb4
      have HKB4:=Lib.hid (HKB.out w4 hb4)
      clear hb4 HN3))
   exact end_word Tryz.results111 w w4 none (x:=wd0) HKB4.out.1 HKB4.out.2 (by rfl) (by rfl) rfl rfl rfl
  |true=>
   simp only[if_true]
   go_enter Tryz.func111,Tryz.ntmps111
   go_upto_region 1 with fail
   rw[←HW1.out]
   clear HW1
   go_wp2_with (first
    |(go_at_call 147
      refine HC.out.mono ?_
      rintro e w2 ⟨rfl,hw⟩
      have hw:=hw.symm
      subst hw
      clear HC)
    |(go_at_call 150
      refine HR.out.mono ?_
      rintro e w3 ⟨rfl,hb3⟩
      have HB3:=Lib.hid hb3
      have HN3:=Lib.hid (HN.out w3 hb3)
      clear hb3 HR)
    |(go_at_call 69
      refine HN3.out.mono ?_
      rintro e w4 ⟨rfl,hb4⟩
      have hb4:=HB3.out.trans (hb4.mono HB3.out.size)
      obtain⟨⟨d0,d1,d2,d3⟩,f0,f1,f2,f3⟩:=HKEY.out w4 hb4
      have HKB4:=Lib.hid (HKB.out w4 hb4)
      clear hb4 HN3))
   exact end_word Tryz.results111 w w4 (some (⟨10,N,.num 0⟩,1+n)) (x:=⟨10,N,.num 0⟩) HKB4.out.1 HKB4.out.2 (by rfl) (by show(((1+n:Nat)):Int)=_;omega) rfl rfl rfl
end Char
namespace Char
open Go.RowKit Go.Lib
open Go.Proofs.YtlmpkpjjakallaaGreatDoor.Fig (litL litX decV outT outV lit_any)
theorem siz_rest (l:List UInt8):(if ([46]:List UInt8).isPrefixOf (l.drop (dgs l)) then ((l.drop (dgs l)).drop 1).drop (dgs ((l.drop (dgs l)).drop 1)) else l.drop (dgs l))=l.drop (sizN l):=by
 unfold sizN
 have e:(l.drop (dgs l)).drop 1=l.drop (dgs l+1):=by rw[List.drop_drop]
 split
 ·rw[e,List.drop_drop]
  exact congrArg (fun n=>l.drop n) (by omega)
 ·rw[Nat.add_zero]
theorem dec_box (w5:World)(T V:Int):(w5.alloc (.cells #[.int .i64 T,.int .i64 V] 24)).cell? ⟨w5.heap.size,0,none⟩=some (.int .i64 T)∧(w5.alloc (.cells #[.int .i64 T,.int .i64 V] 24)).cell? ⟨w5.heap.size,1,none⟩=some (.int .i64 V):=by
 have h:=World.alloc_heap_new w5 (.cells #[.int .i64 T,.int .i64 V] 24)
 exact⟨by simp only[World.cell?,h];rfl,by simp only[World.cell?,h];rfl⟩
theorem end_drew {fn:Func}{p q:Tmp}(h:fn.results= #[.cell p 89,.tmp q]){a:Act}(w w1:World)(o:Option (Wd×Nat)){x y:Wd}{k:Int}(hk:w1.heap[w.heap.size]? =some (wdB y))(hb:Below w.heap.size w w1)
 (hx:(o.getD (wd0,0)).1=x) (hn:((o.getD (wd0,0)).2:Int)=k)
 (hp:a.tmps.getD p undef= .pointer (some ⟨w.heap.size,0,none⟩)) (hq:a.tmps.getD q undef= .int .i64 k) (hd:a.defers=[]):bodyPost Tryz.prog fn (WdPost w o) .ret a (set4 w1 w.heap.size x).drew:=
 end_wd2 h _ w.heap.size (c:= .int .i64 k) (set4_at hk) hp hq hd ⟨by rw[hx,hn],(set4_below hb (Nat.le_refl _)).drew⟩
set_option maxHeartbeats 8000000 in
theorem number_f_no (l u r1:List UInt8)(n:Nat)(T V:Int)(w:World)
 (hs1:(bs l).size=l.length) (hs2:(bs r1).size=l.length-n)
 (hwr:IntKind.i64.wrap ((l.length:Int)-((l.length-n:Nat):Int))=(n:Int))
 (hsl:∀wx,(Instr.slice 9 (.string (bs l)) none (some (.int .i64 (n:Int))) none).run Tryz.prog wx= .ok (.string (bs u)) wx)
 (HBD:Hid (∀W:World,Calls Tryz.prog 98 #[.string (bs l),.func (.func 146) #[] #[]] W fun e w'=>e= .returned (.string (bs r1))∧Below W.heap.size W w'))
 (HC:Hid (∀W:World,Calls Tryz.prog 147 #[.string (bs r1),.string (bs [46])] W fun e w'=>e= .returned (.tuple #[.string (bs r1),.bool false])∧w'=W))
 (HLIT:Hid (∀W:World,Calls Tryz.prog 148 #[.string (bs u)] W fun e w'=>e= .returned (.tuple #[.agg #[.int .i64 T,.int .i64 V],.bool false])∧Below W.heap.size W w')):
 Calls Tryz.prog 103 #[.string (bs l)] w (WdPost w (none)):=by
 obtain⟨W1,hW1,hb1,hk1,hl1,HW1,HKEY,HKB⟩:=wd_hd w
 have HL1:=Lib.hid hl1
 have HBD1:=Lib.hid (HBD.out W1)
 clear hb1 hk1 hl1 hW1 HBD
 go_enter Tryz.func103,Tryz.ntmps103
 go_upto_region 1 with fail
 rw[←HW1.out]
 clear HW1
 go_wp2_with (first
  |(go_at_call 98
    with_reducible refine HBD1.out.mono ?_
    rintro e w2 ⟨rfl,hb2⟩
    have HB2:=Lib.hid hb2
    have HC2:=Lib.hid (HC.out w2)
    clear hb2 HBD1)
  |(go_at_call 147
    refine HC2.out.mono ?_
    rintro e w3 ⟨rfl,hw⟩
    have hw:=hw.symm
    subst hw
    have HB4:=HB2
    have HT4:=Lib.hid (HLIT.out w2)
    clear HC2)
  |(go_at_call 148
    refine HT4.out.mono ?_
    rintro e w5 ⟨rfl,hb5⟩
    have hb:=HB4.out.trans (hb5.mono HB4.out.size)
    have ka:=fun ob=>HKEY.out _ (hb.trans ((below_box ob).mono hb.size))
    have KB:=Lib.hid fun ob=>HKB.out _ (hb.trans ((below_box ob).mono hb.size))
    clear hb hb5 HT4))
 exact end_word Tryz.results103 w _ none (x:=wd0) (KB.out _).1 (KB.out _).2 (by rfl) (by rfl) rfl rfl rfl
set_option maxHeartbeats 8000000 in
theorem number_f_odd (l u r1:List UInt8)(n:Nat)(T V:Int)(w:World)(hT:(T != 0)=true)
 (hs1:(bs l).size=l.length) (hs2:(bs r1).size=l.length-n)
 (hwr:IntKind.i64.wrap ((l.length:Int)-((l.length-n:Nat):Int))=(n:Int))
 (hsl:∀wx,(Instr.slice 9 (.string (bs l)) none (some (.int .i64 (n:Int))) none).run Tryz.prog wx= .ok (.string (bs u)) wx)
 (HBD:Hid (∀W:World,Calls Tryz.prog 98 #[.string (bs l),.func (.func 146) #[] #[]] W fun e w'=>e= .returned (.string (bs r1))∧Below W.heap.size W w'))
 (HC:Hid (∀W:World,Calls Tryz.prog 147 #[.string (bs r1),.string (bs [46])] W fun e w'=>e= .returned (.tuple #[.string (bs r1),.bool false])∧w'=W))
 (HLIT:Hid (∀W:World,Calls Tryz.prog 148 #[.string (bs u)] W fun e w'=>e= .returned (.tuple #[.agg #[.int .i64 T,.int .i64 V],.bool true])∧Below W.heap.size W w')):
 Calls Tryz.prog 103 #[.string (bs l)] w (WdPost w (none)):=by
 obtain⟨W1,hW1,hb1,hk1,hl1,HW1,HKEY,HKB⟩:=wd_hd w
 have HL1:=Lib.hid hl1
 have HBD1:=Lib.hid (HBD.out W1)
 clear hb1 hk1 hl1 hW1 HBD
 go_enter Tryz.func103,Tryz.ntmps103
 go_upto_region 1 with fail
 rw[←HW1.out]
 clear HW1
 go_wp2_with (first
  |(go_at_call 98
    with_reducible refine HBD1.out.mono ?_
    rintro e w2 ⟨rfl,hb2⟩
    have HB2:=Lib.hid hb2
    have HC2:=Lib.hid (HC.out w2)
    clear hb2 HBD1)
  |(go_at_call 147
    refine HC2.out.mono ?_
    rintro e w3 ⟨rfl,hw⟩
    have hw:=hw.symm
    subst hw
    have HB4:=HB2
    have HT4:=Lib.hid (HLIT.out w2)
    clear HC2)
  |(go_at_call 148
    refine HT4.out.mono ?_
    rintro e w5 ⟨rfl,hb5⟩
    have hb:=HB4.out.trans (hb5.mono HB4.out.size)
    have ka:=fun ob=>HKEY.out _ (hb.trans ((below_box ob).mono hb.size))
    have KB:=Lib.hid fun ob=>HKB.out _ (hb.trans ((below_box ob).mono hb.size))
    clear hb hb5 HT4))
 exact end_word Tryz.results103 w _ none (x:=wd0) (KB.out _).1 (KB.out _).2 (by rfl) (by rfl) rfl rfl rfl
set_option maxHeartbeats 8000000 in
theorem number_f_yes (l u r1:List UInt8)(n:Nat)(V:Int)(w:World)
 (hs1:(bs l).size=l.length) (hs2:(bs r1).size=l.length-n)
 (hwr:IntKind.i64.wrap ((l.length:Int)-((l.length-n:Nat):Int))=(n:Int))
 (hsl:∀wx,(Instr.slice 9 (.string (bs l)) none (some (.int .i64 (n:Int))) none).run Tryz.prog wx= .ok (.string (bs u)) wx)
 (HBD:Hid (∀W:World,Calls Tryz.prog 98 #[.string (bs l),.func (.func 146) #[] #[]] W fun e w'=>e= .returned (.string (bs r1))∧Below W.heap.size W w'))
 (HC:Hid (∀W:World,Calls Tryz.prog 147 #[.string (bs r1),.string (bs [46])] W fun e w'=>e= .returned (.tuple #[.string (bs r1),.bool false])∧w'=W))
 (HLIT:Hid (∀W:World,Calls Tryz.prog 148 #[.string (bs u)] W fun e w'=>e= .returned (.tuple #[.agg #[.int .i64 0,.int .i64 V],.bool true])∧Below W.heap.size W w')):
 Calls Tryz.prog 103 #[.string (bs l)] w (WdPost w (some (⟨9,u,.num V⟩,n))):=by
 obtain⟨W1,hW1,hb1,hk1,hl1,HW1,HKEY,HKB⟩:=wd_hd w
 have HL1:=Lib.hid hl1
 have HBD1:=Lib.hid (HBD.out W1)
 clear hb1 hk1 hl1 hW1 HBD
 go_enter Tryz.func103,Tryz.ntmps103
 go_upto_region 1 with fail
 rw[←HW1.out]
 clear HW1
 go_wp2_with (first
  |(go_at_call 98
    with_reducible refine HBD1.out.mono ?_
    rintro e w2 ⟨rfl,hb2⟩
    have HB2:=Lib.hid hb2
    have HC2:=Lib.hid (HC.out w2)
    clear hb2 HBD1)
  |(go_at_call 147
    refine HC2.out.mono ?_
    rintro e w3 ⟨rfl,hw⟩
    have hw:=hw.symm
    subst hw
    have HB4:=HB2
    have HT4:=Lib.hid (HLIT.out w2)
    clear HC2)
  |(go_at_call 148
    refine HT4.out.mono ?_
    rintro e w5 ⟨rfl,hb5⟩
    have hb:=HB4.out.trans (hb5.mono HB4.out.size)
    have ka:=fun ob=>HKEY.out _ (hb.trans ((below_box ob).mono hb.size))
    have KB:=Lib.hid fun ob=>HKB.out _ (hb.trans ((below_box ob).mono hb.size))
    clear hb hb5 HT4))
 obtain⟨⟨d0,d1,d2,d3⟩,f0,f1,f2,f3⟩:=ka (.cells #[.int .i64 0,.int .i64 V] 24)
 obtain⟨e1,e2⟩:=dec_box w5 0 V
 clear ka
 go_region
 go_wp2_with fail
 exact end_drew Tryz.results103 w _ (some (⟨9,u,.num V⟩,n)) (x:=⟨9,u,.num V⟩) (KB.out _).1 (KB.out _).2 (by rfl) (by rfl) rfl rfl rfl
set_option maxHeartbeats 8000000 in
theorem number_t_no (l u r1 t2:List UInt8)(n:Nat)(T V:Int)(w:World)
 (hs1:(bs l).size=l.length) (hs2:(bs t2).size=l.length-n)
 (hwr:IntKind.i64.wrap ((l.length:Int)-((l.length-n:Nat):Int))=(n:Int))
 (hsl:∀wx,(Instr.slice 9 (.string (bs l)) none (some (.int .i64 (n:Int))) none).run Tryz.prog wx= .ok (.string (bs u)) wx)
 (HBD:Hid (∀W:World,Calls Tryz.prog 98 #[.string (bs l),.func (.func 146) #[] #[]] W fun e w'=>e= .returned (.string (bs r1))∧Below W.heap.size W w'))
 (HC:Hid (∀W:World,Calls Tryz.prog 147 #[.string (bs r1),.string (bs [46])] W fun e w'=>e= .returned (.tuple #[.string (bs (r1.drop 1)),.bool true])∧w'=W))
 (HP:Hid (∀W:World,Calls Tryz.prog 98 #[.string (bs (r1.drop 1)),.func (.func 146) #[] #[]] W fun e w'=>e= .returned (.string (bs t2))∧Below W.heap.size W w'))
 (HLIT:Hid (∀W:World,Calls Tryz.prog 148 #[.string (bs u)] W fun e w'=>e= .returned (.tuple #[.agg #[.int .i64 T,.int .i64 V],.bool false])∧Below W.heap.size W w')):
 Calls Tryz.prog 103 #[.string (bs l)] w (WdPost w (none)):=by
 obtain⟨W1,hW1,hb1,hk1,hl1,HW1,HKEY,HKB⟩:=wd_hd w
 have HL1:=Lib.hid hl1
 have HBD1:=Lib.hid (HBD.out W1)
 clear hb1 hk1 hl1 hW1 HBD
 generalize r1.drop 1=pt at *
 go_enter Tryz.func103,Tryz.ntmps103
 go_upto_region 1 with fail
 rw[←HW1.out]
 clear HW1
 go_wp2_with (first
  |(go_at_call 98
    with_reducible refine HBD1.out.mono ?_
    rintro e w2 ⟨rfl,hb2⟩
    have HB2:=Lib.hid hb2
    have HC2:=Lib.hid (HC.out w2)
    clear hb2 HBD1)
  |(go_at_call 147
    refine HC2.out.mono ?_
    rintro e w3 ⟨rfl,hw⟩
    have hw:=hw.symm
    subst hw
    have HP2:=Lib.hid (HP.out w2)
    clear HC2)
  |(go_at_call 98
    refine HP2.out.mono ?_
    rintro e w4 ⟨rfl,hb4⟩
    have HB4:=Lib.hid (HB2.out.trans (hb4.mono HB2.out.size))
    have HT4:=Lib.hid (HLIT.out w4)
    clear hb4)
  |(go_at_call 148
    refine HT4.out.mono ?_
    rintro e w5 ⟨rfl,hb5⟩
    have hb:=HB4.out.trans (hb5.mono HB4.out.size)
    have ka:=fun ob=>HKEY.out _ (hb.trans ((below_box ob).mono hb.size))
    have KB:=Lib.hid fun ob=>HKB.out _ (hb.trans ((below_box ob).mono hb.size))
    clear hb hb5 HT4))
 exact end_word Tryz.results103 w _ none (x:=wd0) (KB.out _).1 (KB.out _).2 (by rfl) (by rfl) rfl rfl rfl
set_option maxHeartbeats 8000000 in
theorem number_t_odd (l u r1 t2:List UInt8)(n:Nat)(T V:Int)(w:World)(hT:(T != 0)=true)
 (hs1:(bs l).size=l.length) (hs2:(bs t2).size=l.length-n)
 (hwr:IntKind.i64.wrap ((l.length:Int)-((l.length-n:Nat):Int))=(n:Int))
 (hsl:∀wx,(Instr.slice 9 (.string (bs l)) none (some (.int .i64 (n:Int))) none).run Tryz.prog wx= .ok (.string (bs u)) wx)
 (HBD:Hid (∀W:World,Calls Tryz.prog 98 #[.string (bs l),.func (.func 146) #[] #[]] W fun e w'=>e= .returned (.string (bs r1))∧Below W.heap.size W w'))
 (HC:Hid (∀W:World,Calls Tryz.prog 147 #[.string (bs r1),.string (bs [46])] W fun e w'=>e= .returned (.tuple #[.string (bs (r1.drop 1)),.bool true])∧w'=W))
 (HP:Hid (∀W:World,Calls Tryz.prog 98 #[.string (bs (r1.drop 1)),.func (.func 146) #[] #[]] W fun e w'=>e= .returned (.string (bs t2))∧Below W.heap.size W w'))
 (HLIT:Hid (∀W:World,Calls Tryz.prog 148 #[.string (bs u)] W fun e w'=>e= .returned (.tuple #[.agg #[.int .i64 T,.int .i64 V],.bool true])∧Below W.heap.size W w')):
 Calls Tryz.prog 103 #[.string (bs l)] w (WdPost w (none)):=by
 obtain⟨W1,hW1,hb1,hk1,hl1,HW1,HKEY,HKB⟩:=wd_hd w
 have HL1:=Lib.hid hl1
 have HBD1:=Lib.hid (HBD.out W1)
 clear hb1 hk1 hl1 hW1 HBD
 generalize r1.drop 1=pt at *
 go_enter Tryz.func103,Tryz.ntmps103
 go_upto_region 1 with fail
 rw[←HW1.out]
 clear HW1
 go_wp2_with (first
  |(go_at_call 98
    with_reducible refine HBD1.out.mono ?_
    rintro e w2 ⟨rfl,hb2⟩
    have HB2:=Lib.hid hb2
    have HC2:=Lib.hid (HC.out w2)
    clear hb2 HBD1)
  |(go_at_call 147
    refine HC2.out.mono ?_
    rintro e w3 ⟨rfl,hw⟩
    have hw:=hw.symm
    subst hw
    have HP2:=Lib.hid (HP.out w2)
    clear HC2)
  |(go_at_call 98
    refine HP2.out.mono ?_
    rintro e w4 ⟨rfl,hb4⟩
    have HB4:=Lib.hid (HB2.out.trans (hb4.mono HB2.out.size))
    have HT4:=Lib.hid (HLIT.out w4)
    clear hb4)
  |(go_at_call 148
    refine HT4.out.mono ?_
    rintro e w5 ⟨rfl,hb5⟩
    have hb:=HB4.out.trans (hb5.mono HB4.out.size)
    have ka:=fun ob=>HKEY.out _ (hb.trans ((below_box ob).mono hb.size))
    have KB:=Lib.hid fun ob=>HKB.out _ (hb.trans ((below_box ob).mono hb.size))
    clear hb hb5 HT4))
 exact end_word Tryz.results103 w _ none (x:=wd0) (KB.out _).1 (KB.out _).2 (by rfl) (by rfl) rfl rfl rfl
set_option maxHeartbeats 8000000 in
theorem number_t_yes (l u r1 t2:List UInt8)(n:Nat)(V:Int)(w:World)
 (hs1:(bs l).size=l.length) (hs2:(bs t2).size=l.length-n)
 (hwr:IntKind.i64.wrap ((l.length:Int)-((l.length-n:Nat):Int))=(n:Int))
 (hsl:∀wx,(Instr.slice 9 (.string (bs l)) none (some (.int .i64 (n:Int))) none).run Tryz.prog wx= .ok (.string (bs u)) wx)
 (HBD:Hid (∀W:World,Calls Tryz.prog 98 #[.string (bs l),.func (.func 146) #[] #[]] W fun e w'=>e= .returned (.string (bs r1))∧Below W.heap.size W w'))
 (HC:Hid (∀W:World,Calls Tryz.prog 147 #[.string (bs r1),.string (bs [46])] W fun e w'=>e= .returned (.tuple #[.string (bs (r1.drop 1)),.bool true])∧w'=W))
 (HP:Hid (∀W:World,Calls Tryz.prog 98 #[.string (bs (r1.drop 1)),.func (.func 146) #[] #[]] W fun e w'=>e= .returned (.string (bs t2))∧Below W.heap.size W w'))
 (HLIT:Hid (∀W:World,Calls Tryz.prog 148 #[.string (bs u)] W fun e w'=>e= .returned (.tuple #[.agg #[.int .i64 0,.int .i64 V],.bool true])∧Below W.heap.size W w')):
 Calls Tryz.prog 103 #[.string (bs l)] w (WdPost w (some (⟨9,u,.num V⟩,n))):=by
 obtain⟨W1,hW1,hb1,hk1,hl1,HW1,HKEY,HKB⟩:=wd_hd w
 have HL1:=Lib.hid hl1
 have HBD1:=Lib.hid (HBD.out W1)
 clear hb1 hk1 hl1 hW1 HBD
 generalize r1.drop 1=pt at *
 go_enter Tryz.func103,Tryz.ntmps103
 go_upto_region 1 with fail
 rw[←HW1.out]
 clear HW1
 go_wp2_with (first
  |(go_at_call 98
    with_reducible refine HBD1.out.mono ?_
    rintro e w2 ⟨rfl,hb2⟩
    have HB2:=Lib.hid hb2
    have HC2:=Lib.hid (HC.out w2)
    clear hb2 HBD1)
  |(go_at_call 147
    refine HC2.out.mono ?_
    rintro e w3 ⟨rfl,hw⟩
    have hw:=hw.symm
    subst hw
    have HP2:=Lib.hid (HP.out w2)
    clear HC2)
  |(go_at_call 98
    refine HP2.out.mono ?_
    rintro e w4 ⟨rfl,hb4⟩
    have HB4:=Lib.hid (HB2.out.trans (hb4.mono HB2.out.size))
    have HT4:=Lib.hid (HLIT.out w4)
    clear hb4)
  |(go_at_call 148
    refine HT4.out.mono ?_
    rintro e w5 ⟨rfl,hb5⟩
    have hb:=HB4.out.trans (hb5.mono HB4.out.size)
    have ka:=fun ob=>HKEY.out _ (hb.trans ((below_box ob).mono hb.size))
    have KB:=Lib.hid fun ob=>HKB.out _ (hb.trans ((below_box ob).mono hb.size))
    clear hb hb5 HT4))
 obtain⟨⟨d0,d1,d2,d3⟩,f0,f1,f2,f3⟩:=ka (.cells #[.int .i64 0,.int .i64 V] 24)
 obtain⟨e1,e2⟩:=dec_box w5 0 V
 clear ka
 go_region
 go_wp2_with fail
 exact end_drew Tryz.results103 w _ (some (⟨9,u,.num V⟩,n)) (x:=⟨9,u,.num V⟩) (KB.out _).1 (KB.out _).2 (by rfl) (by rfl) rfl rfl rfl
theorem number_any (l:List UInt8)(w:World)(hl:l.length≤450):Calls Tryz.prog 103 #[.string (bs l)] w (WdPost w (numW l)):=by
 have hn:=siz_le l
 have hrest:=siz_rest l
 obtain⟨n,hnn⟩:∃n,sizN l=n:=⟨_,rfl⟩
 have hv:numW l=(isNum (litL (l.take n))).map fun v=>(⟨9,l.take n,.num v⟩,n):=by unfold numW;rw[hnn]
 rw[hnn]at hn hrest
 have hu:(l.take n).length=n:=by rw[List.length_take];exact Nat.min_eq_left hn
 have hsl:=slice_to l n hn
 have hs1:=bs_size l
 have hs2:=bs_size (l.drop n)
 rw[List.length_drop]at hs2
 have hwr:IntKind.i64.wrap ((l.length:Int)-((l.length-n:Nat):Int))=(n:Int):=by
  rw[show(l.length:Int)-((l.length-n:Nat):Int)=(n:Int) by omega]
  exact IntWalk.i64_in _ (by omega)
 have HLIT:∀W:World,_:=fun(W:World)=>lit_any (l.take n) W (by omega)
 rw[hv]
 have HBD:=Lib.hid (behindD_any l)
 cases hp:([46]:List UInt8).isPrefixOf (l.drop (dgs l)) with
 |false=>
  rw[hp]at hrest
  simp only[Bool.false_eq_true,if_false]at hrest
  rw[←hrest]at hs2
  have HC:=Lib.hid fun(W:World)=>cutp12 (l.drop (dgs l)) [46] W false hp
  cases hL:litL (l.take n) with
  |none=>rw[hL]at HLIT;exact number_f_no l _ _ n _ _ w hs1 hs2 hwr hsl HBD HC (Lib.hid HLIT)
  |some x=>
   rw[hL]at HLIT
   cases x with
   |num v=>exact number_f_yes l _ _ n _ w hs1 hs2 hwr hsl HBD HC (Lib.hid HLIT)
   |nan=>exact number_f_odd l _ _ n 1 0 w (by decide) hs1 hs2 hwr hsl HBD HC (Lib.hid HLIT)
   |over=>exact number_f_odd l _ _ n 2 0 w (by decide) hs1 hs2 hwr hsl HBD HC (Lib.hid HLIT)
   |under=>exact number_f_odd l _ _ n 3 0 w (by decide) hs1 hs2 hwr hsl HBD HC (Lib.hid HLIT)
 |true=>
  rw[hp]at hrest
  simp only[if_true]at hrest
  have HC:=Lib.hid fun(W:World)=>cutp12 (l.drop (dgs l)) [46] W true hp
  have HP:=Lib.hid fun(W:World)=>behindD_any ((l.drop (dgs l)).drop 1) W
  rw[hrest]at HP
  cases hL:litL (l.take n) with
  |none=>rw[hL]at HLIT;exact number_t_no l _ _ _ n _ _ w hs1 hs2 hwr hsl HBD HC HP (Lib.hid HLIT)
  |some x=>
   rw[hL]at HLIT
   cases x with
   |num v=>exact number_t_yes l _ _ _ n _ w hs1 hs2 hwr hsl HBD HC HP (Lib.hid HLIT)
   |nan=>exact number_t_odd l _ _ _ n 1 0 w (by decide) hs1 hs2 hwr hsl HBD HC HP (Lib.hid HLIT)
   |over=>exact number_t_odd l _ _ _ n 2 0 w (by decide) hs1 hs2 hwr hsl HBD HC HP (Lib.hid HLIT)
   |under=>exact number_t_odd l _ _ _ n 3 0 w (by decide) hs1 hs2 hwr hsl HBD HC HP (Lib.hid HLIT)
end Char
end Go.Proofs.YtlmpkpjjakallaaGreatDoor
