import Derived.Test.YtlmpkpjjakallaaGreatDoorPk29
import Derived.Test.YtlmpkpjjakallaaGreatDoorPk00
import Derived.Test.YtlmpkpjjakallaaGreatDoorPk02
import Derived.Test.YtlmpkpjjakallaaGreatDoorPk28
namespace Go.Proofs.YtlmpkpjjakallaaGreatDoor
namespace Char
open Go.RowKit Go.Lib
def Reads (w:World)(v:Value)(zs:List Int):Prop:=
 (zs=[]∧v= .slice none 0 0)∨∃g cap,v= .slice (some ⟨g,0,none⟩) zs.length cap∧g<w.heap.size∧∀j,j<zs.length→w.cell? ⟨g,j,none⟩=some (.int .i64 (zs.getD j 0))
theorem Reads.of {w:World}{B T:Nat}{v:Value}{zs:List Int}(h:w.ownsRow B T 1 v zs.length (zs.map (Value.int .i64))):Reads w v zs:=by
 have hc:=h
 rcases h.2 with⟨rfl,hn⟩|⟨g,cap,cur,rfl,hg,hcur,_⟩
 ·exact .inl ⟨List.eq_nil_of_length_eq_zero hn,rfl⟩
 ·refine .inr ⟨g,cap,rfl,(Array.getElem?_eq_some_iff.1 hcur).1,fun j hj=> ?_⟩
  have :=hc.cells (g:=g) rfl j (.int .i64 (zs.getD j 0)) (by simp[List.getD,List.getElem?_eq_getElem hj])
  have hadd:(⟨g,0,none⟩:Addr).add j=⟨g,j,none⟩:=by unfold Addr.add;split<;>simp_all
  rwa [hadd]at this
theorem all_step (p:Int→Bool)(zs:List Int)(k:Nat)(h:k<zs.length):(zs.drop k).all p=(p (zs.getD k 0)&&(zs.drop (k+1)).all p):=by
 rw[List.drop_eq_getElem_cons h,List.all_cons]
 simp[List.getD,List.getElem?_eq_getElem h]
theorem all_end (p:Int→Bool)(zs:List Int)(k:Nat)(h:¬k<zs.length):(zs.drop k).all p=true:=by
 rw[List.drop_eq_nil_of_le (by omega)]
 rfl
def rtD (l:List UInt8):Bool:=validD l&&(chsL l).all isC
theorem rtD_eq (l:List UInt8):rtD l=txD l:=by
 unfold rtD txD chsL
 cases validD l
 ·rfl
 ·rw[if_pos rfl,allR_all isC _ _ (Nat.le_refl _)]
set_option maxRecDepth 100000 in
set_option maxHeartbeats 2000000 in
theorem refText_any (s:ByteArray)(w:World)(hs:s.size≤1048576):
 Calls Tryz.prog 50 #[.string s] w fun e w'=>e= .returned (.bool (txD s.data.toList))∧Below w.heap.size w w':=by
 rw[←rtD_eq]
 have hC:=chars_any s w hs
 have hzl:(chsL s.data.toList).length≤1048576:=by
  have el:s.data.toList.length=s.size:=by rw[Array.length_toList];rfl
  unfold chsL
  split
  ·have :=runesL_length _ s.data.toList (Nat.le_refl _);omega
  ·simp
 obtain⟨R,hR⟩:∃R,rtD s.data.toList=R:=⟨_,rfl⟩
 rw[hR]
 unfold rtD at hR
 generalize validD s.data.toList=V at hC hR
 generalize chsL s.data.toList=zs at hC hR hzl
 have HC:=Lib.hid hC
 have HR:=Lib.hid hR
 clear hC hR
 go_enter Tryz.func50,Tryz.ntmps50
 go_wp2_with fail
 refine HC.out.mono ?_
 rintro e w1 ⟨v,rfl,hown,hb1⟩
 clear HC
 rcases Reads.of hown with⟨hz,rfl⟩|⟨g,cap,rfl,hg,hcells⟩
 ·clear hown
  obtain rfl:=hz
  have HR1:Hid (V=R):=Lib.hid (by rw[←HR.out];simp)
  clear HR
  go_wp2_with fail
  go_loopw [4,5] (fun b k wr=>b= .bool V∧k= .int .i64 0∧wr=w1) (fun _ _ _=>0)
  case atStart=>exact⟨rfl,rfl,rfl⟩
  case round=>
   obtain⟨rfl,rfl,rfl⟩:=hrel
   go_wp2_with fail
   go_ret
   exact⟨by rw[←HR1.out];rfl,hb1⟩
 ·clear hown
  have HG:=Lib.hid hcells
  clear hcells
  go_wp2_with fail
  go_loopw [4,5] (fun b i wr=>∃(k:Nat) (B:Bool),k≤zs.length∧b= .bool B∧i= .int .i64 (k:Int)∧Below w1.heap.size w1 wr∧Hid ((B&&(zs.drop k).all isC)=R)) (fun _ i _=>zs.length-(RowKit.intOf i).toNat)
  case atStart=>exact⟨0,V,Nat.zero_le _,rfl,rfl,Below.refl _ _,Lib.hid (by simpa using HR.out)⟩
  case round=>
   obtain⟨k,B,hk,rfl,rfl,hbw,HB⟩:=hrel
   by_cases hlt:k<zs.length
   ·have hcell:wr.cell? ⟨g,k,none⟩=some (.int .i64 (zs.getD k 0)):=(hbw.cell (p:=⟨g,k,none⟩) hg).trans (HG.out k hlt)
    have hst:=HB.out
    rw[all_step isC zs k hlt]at hst
    generalize zs.getD k 0=x at hcell hst
    have HS:=Lib.hid hst
    clear hst HB
    cases B
    ·go_wp2_with fail
     go_roundw
     case rel=>exact⟨k+1,false,by omega,rfl,by go_num,hbw,Lib.hid (by rw[←HS.out];rfl)⟩
     case measure=>simp[RowKit.intOf];omega
    ·go_wp2_with fail
     refine(refIs_any x wr).mono ?_
     rintro e w2 ⟨rfl,hb2⟩
     generalize isC x=c at HS
     have hbw2:=hbw.trans (hb2.mono hbw.size)
     go_wp2_with fail
     go_roundw
     case rel=>exact⟨k+1,c,by omega,rfl,by go_num,hbw2,Lib.hid (by rw[←HS.out];rfl)⟩
     case measure=>simp[RowKit.intOf];omega
   ·have hst:=HB.out
    rw[all_end isC zs k hlt,Bool.and_true]at hst
    have HS:=Lib.hid hst
    clear hst HB
    go_wp2_with fail
    go_ret
    exact⟨by rw[←HS.out];rfl,hb1.trans (hbw.mono hb1.size)⟩
end Char
namespace Char
open Go.RowKit
set_option maxHeartbeats 400000 in
theorem refStart_any (n:Int)(w:World):
 Calls Tryz.prog 75 #[.int .i64 n] w fun e w'=>e= .returned (.bool (stC n))∧Below w.heap.size w w':=by
 go_enter Tryz.func75,Tryz.ntmps75
 go_wp2_with fail
 refine(in_new stL 30 30 _ n w _ rfl rfl (by decide)).mono ?_
 rintro e w' ⟨rfl,rfl⟩
 go_wp2_with fail
 go_ret
 exact⟨rfl,(Below.refl _ _).alloc (Nat.le_refl _) _⟩
set_option maxHeartbeats 400000 in
theorem refPart_any (n:Int)(w:World):
 Calls Tryz.prog 76 #[.int .i64 n] w fun e w'=>e= .returned (.bool (paC n))∧Below w.heap.size w w':=by
 unfold paC
 generalize hs:stC n=s
 have HS:=Lib.hid hs
 clear hs
 go_enter Tryz.func76,Tryz.ntmps76
 go_wp2_with fail
 refine(refStart_any n w).mono ?_
 rintro e w1 ⟨rfl,hb1⟩
 rw[HS.out]
 cases s
 ·go_wp2_with fail
  refine(in_new paL 10 10 _ n w1 _ rfl rfl (by decide)).mono ?_
  rintro e w' ⟨rfl,rfl⟩
  go_wp2_with fail
  go_ret
  exact⟨rfl,hb1.alloc hb1.size _⟩
 ·go_wp2_with fail
  go_ret
  exact⟨rfl,hb1⟩
end Char
namespace Char
open Go.RowKit Go.Lib
def rnD (s:ByteArray):Bool:=validD s.data.toList&&decide (0<s.size)&&decide (s.size≤32)&&(stC ((chsL s.data.toList).getD 0 0)&&(chsL s.data.toList).all paC)
theorem rnD_eq (s:ByteArray):rnD s=nmD s:=by
 unfold rnD nmD txD
 by_cases h0:0<s.size
 ·have hne:s.data.toList≠[]:=by
   intro h;have :=size_list s;rw[h]at this;simp at this;omega
  have hd:Utf8.decode s 0=decodeL s.data.toList:=by rw[decode_drop,List.drop_zero]
  rw[hd]
  cases hv:validD s.data.toList
  ·simp
  ·have hc:chsL s.data.toList=runesL s.data.toList:=by unfold chsL;rw[if_pos hv]
   rw[hc,allR_all isC _ _ (Nat.le_refl _),allR_all paC _ _ (Nat.le_refl _)]
   have hg:(runesL s.data.toList).getD 0 0=((decodeL s.data.toList).1:Int):=by rw[runesL_step _ hne];rfl
   rw[hg]
   have himp:(runesL s.data.toList).all paC=true→(runesL s.data.toList).all isC=true:=fun h=>by
    rw[List.all_eq_true]at h ⊢
    exact fun x hx=>pa_is x (h x hx)
   cases hp:(runesL s.data.toList).all paC
   ·simp
   ·rw[himp hp]
    simp
 ·have e0:decide (0<s.size)=false:=decide_eq_false h0
  rw[e0]
  simp
set_option maxRecDepth 100000 in
set_option maxHeartbeats 2000000 in
theorem refName_any (s:ByteArray)(w:World)(hs:s.size≤1048576):
 Calls Tryz.prog 38 #[.string s] w fun e w'=>e= .returned (.bool (nmD s))∧Below w.heap.size w w':=by
 rw[←rnD_eq]
 have hC:=chars_any s w hs
 have hzl:(chsL s.data.toList).length≤1048576:=by
  have el:s.data.toList.length=s.size:=by rw[Array.length_toList];rfl
  unfold chsL
  split
  ·have :=runesL_length _ s.data.toList (Nat.le_refl _);omega
  ·simp
 have hz0:validD s.data.toList=true→0<s.size→0<(chsL s.data.toList).length:=fun hv h=>by
  unfold chsL
  rw[if_pos hv,runesL_step _ (by intro h2;have :=size_list s;rw[h2]at this;simp at this;omega)]
  simp
 obtain⟨R,hR⟩:∃R,rnD s=R:=⟨_,rfl⟩
 rw[hR]
 unfold rnD at hR
 generalize validD s.data.toList=V at hC hR hz0
 generalize chsL s.data.toList=zs at hC hR hzl hz0
 have HC:=Lib.hid hC
 clear hC
 cases V
 ·have HR:Hid (false=R):=Lib.hid (by rw[←hR];simp)
  clear hR hz0
  go_enter Tryz.func38,Tryz.ntmps38
  go_wp2_with fail
  refine HC.out.mono ?_
  rintro e w1 ⟨v,rfl,_,hb1⟩
  clear HC
  go_wp2_with fail
  go_ret
  exact⟨by rw[←HR.out];rfl,hb1⟩
 by_cases h0:s.size<1
 ·have HR:Hid (false=R):=Lib.hid (by rw[←hR,decide_eq_false (show ¬0<s.size by omega)];simp)
  have h0z:(s.size:Int)<1:=by omega
  clear hR hz0 h0
  go_enter Tryz.func38,Tryz.ntmps38
  go_wp2_with fail
  refine HC.out.mono ?_
  rintro e w1 ⟨v,rfl,_,hb1⟩
  clear HC
  go_wp2_with fail
  go_ret
  exact⟨by rw[←HR.out];rfl,hb1⟩
 by_cases h32:32<s.size
 ·have HR:Hid (false=R):=Lib.hid (by rw[←hR,decide_eq_false (show ¬s.size≤32 by omega)];simp)
  have h0z:¬(s.size:Int)<1:=by omega
  have h3z:(32:Int)<(s.size:Int):=by omega
  clear hR hz0 h0 h32
  go_enter Tryz.func38,Tryz.ntmps38
  go_wp2_with fail
  refine HC.out.mono ?_
  rintro e w1 ⟨v,rfl,_,hb1⟩
  clear HC
  go_wp2_with fail
  go_ret
  exact⟨by rw[←HR.out];rfl,hb1⟩
 rw[decide_eq_true (show 0<s.size by omega),decide_eq_true (show s.size≤32 by omega),Bool.true_and,Bool.true_and,Bool.true_and]at hR
 have hzz:=hz0 rfl (by omega)
 have h0z:¬(s.size:Int)<1:=by omega
 have h3z:¬(32:Int)<(s.size:Int):=by omega
 have HR:=Lib.hid hR
 clear hR hz0 h0 h32
 go_enter Tryz.func38,Tryz.ntmps38
 go_wp2_with fail
 refine HC.out.mono ?_
 rintro e w1 ⟨v,rfl,hown,hb1⟩
 clear HC
 rcases Reads.of hown with⟨hz,rfl⟩|⟨g,cap,rfl,hg,hcells⟩
 ·rw[hz]at hzz
  simp at hzz
 clear hown
 have HG:=Lib.hid hcells
 clear hcells
 have hcell0:w1.cell? ⟨g,0,none⟩=some (.int .i64 (zs.getD 0 0)):=HG.out 0 hzz
 obtain⟨x0,hx0⟩:∃x0,zs.getD 0 0=x0:=⟨_,rfl⟩
 rw[hx0]at hcell0
 have hr2:=HR.out
 rw[hx0]at hr2
 have HR2:=Lib.hid hr2
 clear hr2 HR hx0
 go_wp2_with fail
 refine(refStart_any x0 w1).mono ?_
 rintro e w2 ⟨rfl,hb2⟩
 have hb12:=hb1.trans (hb2.mono hb1.size)
 generalize stC x0=c0 at HR2
 clear hcell0
 cases c0
 ·go_wp2_with fail
  go_ret
  exact⟨by rw[←HR2.out];rfl,hb12⟩
 ·go_wp2_with fail
  go_loopw [5] (fun i wr=>∃k:Nat,k≤zs.length∧i= .int .i64 (k:Int)∧Below w1.heap.size w1 wr∧Hid ((zs.drop k).all paC=R)) (fun i _=>zs.length-(RowKit.intOf i).toNat)
  case atStart=>exact⟨0,Nat.zero_le _,rfl,hb2,Lib.hid (by simpa using HR2.out)⟩
  case round=>
   obtain⟨k,hk,rfl,hbw,HB⟩:=hrel
   by_cases hlt:k<zs.length
   ·have hcell:wr.cell? ⟨g,k,none⟩=some (.int .i64 (zs.getD k 0)):=(hbw.cell (p:=⟨g,k,none⟩) hg).trans (HG.out k hlt)
    have hst:=HB.out
    rw[all_step paC zs k hlt]at hst
    generalize zs.getD k 0=x at hcell hst
    have HS:=Lib.hid hst
    clear hst HB
    go_wp2_with fail
    refine(refPart_any x wr).mono ?_
    rintro e w3 ⟨rfl,hb3⟩
    generalize paC x=c at HS
    have hbw2:=hbw.trans (hb3.mono hbw.size)
    cases c
    ·go_wp2_with fail
     go_ret
     exact⟨by rw[←HS.out];rfl,hb1.trans (hbw2.mono hb1.size)⟩
    ·go_wp2_with fail
     go_roundw
     case rel=>exact⟨k+1,by omega,by go_num,hbw2,Lib.hid (by rw[←HS.out];rfl)⟩
     case measure=>simp[RowKit.intOf];omega
   ·have hst:=HB.out
    rw[all_end paC zs k hlt]at hst
    have HS:=Lib.hid hst
    clear hst HB
    go_wp2_with fail
    go_ret
    exact⟨by rw[←HS.out];rfl,hb1.trans (hbw.mono hb1.size)⟩
end Char
namespace Char
open Go.RowKit Go.Lib
set_option maxRecDepth 100000 in
set_option maxHeartbeats 4000000 in
theorem run_any (l:List UInt8)(p:Nat)(w:World)(hl:l.length≤60000)(hp:p≤l.length):
 Calls Tryz.prog 87 #[.string (bs l),.int .i64 (p:Int)] w fun e w'=>e= .returned (.int .i64 ((p+runL (l.drop p):Nat):Int))∧Below w.heap.size w w':=by
 obtain⟨R,hR⟩:∃R,p+runL (l.drop p)=R:=⟨_,rfl⟩
 rw[hR]
 have HR:=Lib.hid hR
 have hsz:=bs_size l
 clear hR
 go_enter Tryz.func87,Tryz.ntmps87
 go_wp2_with fail
 go_loopw [1] (fun v wr=>∃k:Nat,v= .int .i64 (k:Int)∧k≤l.length∧Hid (k+runL (l.drop k)=R)∧Hid (Below w.heap.size w wr)) (fun v _=>l.length-(RowKit.intOf v).toNat)
 case atStart=>exact⟨p,rfl,hp,HR,Lib.hid (Below.refl _ _)⟩
 case round=>
  obtain⟨k,rfl,hk,HK,HB⟩:=hrel
  by_cases hlt:k<l.length
  ·have hsl:=slice_from l k hk
   have ho:=fun W=>one_any (bs (l.drop k)) W (by rw[bs_size,List.length_drop];omega)
   have ho2:∀W,Calls Tryz.prog 123 #[.string (bs (l.drop k))] W fun e w'=>e= .returned (.tuple #[.int .i64 ((oneL (l.drop k)).1:Int),.int .i64 ((oneL (l.drop k)).2:Int)])∧W=w':=ho
   have hle:=one_le (l.drop k)
   have hk2:=HK.out
   have hgo:=@run_go (l.drop k)
   have hstop:=@run_stop (l.drop k)
   rw[List.drop_drop]at hgo
   rw[List.length_drop]at hle
   generalize oneL (l.drop k)=o at *
   obtain⟨n,d⟩:=o
   dsimp only at ho2 hle hgo hstop
   have HO:=Lib.hid ho2
   by_cases hd:d=0
   ·subst hd
    have HX:Hid ((k:Int)=(R:Int)):=Lib.hid (by rw[hstop (.inl rfl)]at hk2;omega)
    clear hk2 hgo hstop ho ho2
    generalize l.drop k=r at *
    go_wp2_with fail
    refine(HO.out _).mono ?_
    rintro e w1 ⟨rfl,rfl⟩
    go_wp2_with fail
    go_ret
    exact⟨ret_i HX.out,HB.out⟩
   ·have hd2:(((d:Nat):Int)==0)=false:=by rw[beq_eq_false_iff_ne];omega
    cases hpa:paC (n:Int) with
    |true=>
     have HX:Hid (k+d+runL (l.drop (k+d))=R):=Lib.hid (by rw[hgo hd hpa]at hk2;omega)
     have HP:=Lib.hid (fun W=>refPart_any (n:Int) W)
     rw[hpa]at HP
     clear hk2 hgo hstop ho ho2 hpa
     generalize hr:l.drop k=r at *
     clear hr
     go_wp2_with fail
     refine(HO.out _).mono ?_
     rintro e w1 ⟨rfl,rfl⟩
     go_wp2_with fail
     refine(HP.out _).mono ?_
     rintro e w2 ⟨rfl,hb2⟩
     have HB2:=Lib.hid (HB.out.trans (hb2.mono HB.out.size))
     clear hb2
     go_wp2_with fail
     go_roundw
     case rel=>exact⟨k+d,by go_num,by omega,HX,HB2⟩
     case measure=>simp[RowKit.intOf];omega
    |false=>
     have HX:Hid ((k:Int)=(R:Int)):=Lib.hid (by rw[hstop (.inr hpa)]at hk2;omega)
     have HP:=Lib.hid (fun W=>refPart_any (n:Int) W)
     rw[hpa]at HP
     clear hk2 hgo hstop ho ho2 hpa
     generalize l.drop k=r at *
     go_wp2_with fail
     refine(HO.out _).mono ?_
     rintro e w1 ⟨rfl,rfl⟩
     go_wp2_with fail
     refine(HP.out _).mono ?_
     rintro e w2 ⟨rfl,hb2⟩
     go_wp2_with fail
     go_ret
     exact⟨ret_i HX.out,HB.out.trans (hb2.mono HB.out.size)⟩
  ·have hk2:=HK.out
   rw[List.drop_eq_nil_of_le (by omega)]at hk2
   have HK2:Hid ((k:Int)=(R:Int)):=Lib.hid (by rw[←hk2];rfl)
   clear hk2
   go_wp2_with fail
   go_ret
   exact⟨ret_i HK2.out,HB.out⟩
end Char
namespace Char
open Go.RowKit Go.Lib
theorem wd0_at {w W:World}(h:W.heap[w.heap.size]? =some (wdB wd0)):(W.cell? ⟨w.heap.size,0,none⟩=some (.int .i64 0)∧W.cell? ⟨w.heap.size,1,none⟩=some (.string ⟨#[]⟩)∧W.cell? ⟨w.heap.size,2,none⟩=some (.int .i64 0)∧W.cell? ⟨w.heap.size,3,none⟩=some (.int .i64 0))∧
 W.frozen? ⟨w.heap.size,0,none⟩=false∧W.frozen? ⟨w.heap.size,1,none⟩=false∧W.frozen? ⟨w.heap.size,2,none⟩=false∧W.frozen? ⟨w.heap.size,3,none⟩=false:=by
 obtain⟨h1,h2⟩:=wd_blk h
 exact⟨h1,h2 0,h2 1,h2 2,h2 3⟩
theorem wd_hd (w:World):∃W1,W1=w.alloc (.cells #[.int .i64 0,.string ⟨#[]⟩,.int .i64 0,.int .i64 0] 89)∧Below w.heap.size w W1∧W1.heap[w.heap.size]? =some (wdB wd0)∧w.heap.size<W1.heap.size∧Hid (W1=w.alloc (.cells #[.int .i64 0,.string ⟨#[]⟩,.int .i64 0,.int .i64 0] 89))∧
 Hid (∀w3,Below W1.heap.size W1 w3→(w3.cell? ⟨w.heap.size,0,none⟩=some (.int .i64 0)∧w3.cell? ⟨w.heap.size,1,none⟩=some (.string ⟨#[]⟩)∧w3.cell? ⟨w.heap.size,2,none⟩=some (.int .i64 0)∧w3.cell? ⟨w.heap.size,3,none⟩=some (.int .i64 0))∧w3.frozen? ⟨w.heap.size,0,none⟩=false∧w3.frozen? ⟨w.heap.size,1,none⟩=false∧w3.frozen? ⟨w.heap.size,2,none⟩=false∧w3.frozen? ⟨w.heap.size,3,none⟩=false)∧
 Hid (∀w3,Below W1.heap.size W1 w3→w3.heap[w.heap.size]? =some (wdB wd0)∧Below w.heap.size w w3):=by
 obtain⟨W1,hW1⟩:∃W1,W1=w.alloc (.cells #[.int .i64 0,.string ⟨#[]⟩,.int .i64 0,.int .i64 0] 89):=⟨_,rfl⟩
 have hb1:Below w.heap.size w W1:=by rw[hW1];exact below_box _
 have hk1:W1.heap[w.heap.size]? =some (wdB wd0):=by rw[hW1];exact World.alloc_heap_new w _
 have hl1:w.heap.size<W1.heap.size:=(Array.getElem?_eq_some_iff.1 hk1).1
 have HW1:=Lib.hid hW1
 have HKEY:=Lib.hid fun(w3:World) (hb3:Below W1.heap.size W1 w3)=>wd0_at ((hb3.block _ hl1).trans hk1)
 have HKB:=Lib.hid fun(w3:World) (hb3:Below W1.heap.size W1 w3)=>And.intro ((hb3.block _ hl1).trans hk1) (hb1.trans (hb3.mono hb1.size))
 exact⟨W1,hW1,hb1,hk1,hl1,HW1,HKEY,HKB⟩
set_option maxHeartbeats 8000000 in
theorem literal_any (c:UInt8)(t:List UInt8)(w:World)(hl:t.length≤1000)(hG:MaxL w):Calls Tryz.prog 101 #[.string (bs (c::t))] w (WdPost w (litW (c::t))):=by
 obtain⟨W1,hW1⟩:∃W1,W1=w.alloc (.cells #[.int .i64 0,.string ⟨#[]⟩,.int .i64 0,.int .i64 0] 89):=⟨_,rfl⟩
 have hb1:Below w.heap.size w W1:=by rw[hW1];exact below_box _
 have hk1:W1.heap[w.heap.size]? =some (wdB wd0):=by rw[hW1];exact World.alloc_heap_new w _
 have hl1:w.heap.size<W1.heap.size:=(Array.getElem?_eq_some_iff.1 hk1).1
 have hs1:=slice_to (c::t) 1 (by simp)
 have hs2:=slice_from (c::t) 1 (by simp)
 have e1:(c::t).take 1=[c]:=rfl
 have e2:(c::t).drop 1=t:=rfl
 rw[e1,show((1:Nat):Int)=1 from rfl]at hs1
 rw[e2,show((1:Nat):Int)=1 from rfl]at hs2
 have hsz:(bs (c::t)).size=t.length+1:=by rw[bs_size];rfl
 have hcut:=scut_any t [c] W1 (by omega) (hG.below hb1)
 obtain⟨q1,q2⟩:=cut_one c t
 obtain⟨⟨d0,d1,d2,d3⟩,f0,f1,f2,f3⟩:=wd0_at hk1
 have HW1:=Lib.hid hW1
 have HB1:=Lib.hid hb1
 have HK1:=Lib.hid hk1
 have HL1:=Lib.hid hl1
 rw[litW_cons]
 clear hG hb1 hk1 hl1 hW1 e1 e2
 by_cases hc:c=34∨c=39
 ·rw[if_pos hc]
  have hq:(((bs [c]).toList==[34])=false∧((bs [c]).toList==[39])=true)∨((bs [c]).toList==[34])=true:=by
   rw[bs_tl]
   rcases hc with rfl|rfl
   ·exact .inr rfl
   ·exact .inl ⟨rfl,rfl⟩
  obtain⟨A,hA⟩:∃A,t.takeWhile (· != c)=A:=⟨_,rfl⟩
  rw[hA]at q1 q2 ⊢
  have hAl:A.length≤t.length:=by rw[←hA];exact(List.takeWhile_prefix _).length_le
  have hAs:(bs A).size=A.length:=bs_size A
  rw[q1,q2]at hcut
  generalize (cut t [c]).2.1=Z at hcut
  by_cases hlt:A.length<t.length
  ·rw[if_pos hlt,decide_eq_true hlt]at hcut
   rw[if_pos hlt]
   have HCUT:=Lib.hid hcut
   have hA2:A.length≤1000:=by omega
   clear hcut q1 q2 hc hA hAl hlt
   rcases hq with⟨k1,k2⟩|k1
   all_goals
    generalize bs [c]=s at *
    go_enter Tryz.func101,Tryz.ntmps101
    go_upto_region 1 with fail
    rw[←HW1.out]
    clear HW1
    go_wp2_with (first
     |(go_at_call 145
       refine HCUT.out.mono ?_
       rintro e w3 ⟨rfl,hb3⟩
       have hk3:w3.heap[w.heap.size]? =some (wdB wd0):=(hb3.block _ HL1.out).trans HK1.out
       clear d0 d1 d2 d3 f0 f1 f2 f3
       obtain⟨⟨d0,d1,d2,d3⟩,f0,f1,f2,f3⟩:=wd0_at hk3
       have HK3:=Lib.hid hk3
       have HB3:=Lib.hid (HB1.out.trans (hb3.mono HB1.out.size))
       clear hb3 hk3 HCUT))
    exact end_word Tryz.results101 w w3 (some (⟨8,A,.num 0⟩,A.length+2)) (x:=⟨8,A,.num 0⟩) HK3.out HB3.out (by rfl) (by rfl) rfl rfl rfl
  ·rw[if_neg hlt,decide_eq_false hlt]at hcut
   rw[if_neg hlt]
   have HCUT:=Lib.hid hcut
   clear hcut q1 q2 hc hA hAl hlt
   rcases hq with⟨k1,k2⟩|k1
   all_goals
    generalize bs [c]=s at *
    go_enter Tryz.func101,Tryz.ntmps101
    go_upto_region 1 with fail
    rw[←HW1.out]
    clear HW1
    go_wp2_with (first
     |(go_at_call 145
       refine HCUT.out.mono ?_
       rintro e w3 ⟨rfl,hb3⟩
       have hk3:w3.heap[w.heap.size]? =some (wdB wd0):=(hb3.block _ HL1.out).trans HK1.out
       clear d0 d1 d2 d3 f0 f1 f2 f3
       obtain⟨⟨d0,d1,d2,d3⟩,f0,f1,f2,f3⟩:=wd0_at hk3
       have HK3:=Lib.hid hk3
       have HB3:=Lib.hid (HB1.out.trans (hb3.mono HB1.out.size))
       clear hb3 hk3 HCUT))
    exact end_word Tryz.results101 w w3 none (x:=wd0) HK3.out HB3.out (by rfl) (by rfl) rfl rfl rfl
 ·rw[if_neg hc]
  have hq:((bs [c]).toList==[34])=false∧((bs [c]).toList==[39])=false:=by
   rw[bs_tl]
   simp only[not_or]at hc
   exact⟨by simpa using hc.1,by simpa using hc.2⟩
  obtain⟨k1,k2⟩:=hq
  clear hc hcut q1 q2
  generalize bs [c]=s at *
  go_enter Tryz.func101,Tryz.ntmps101
  go_upto_region 1 with fail
  rw[←HW1.out]
  clear HW1
  go_wp2_with fail
  exact end_word Tryz.results101 w W1 none (x:=wd0) HK1.out HB1.out (by rfl) (by rfl) rfl rfl rfl
theorem cutp12 (l p:List UInt8)(w:World)(v:Bool)(h:p.isPrefixOf l=v):Calls Tryz.prog 147 #[.string (bs l),.string (bs p)] w fun e w'=>e= .returned (.tuple #[.string (bs (if v then l.drop p.length else l)),.bool v])∧w'=w:=by
 have :=cutp_any l p w
 rw[h]at this
 exact this
set_option maxHeartbeats 8000000 in
theorem variable_any (l:List UInt8)(w:World)(hl:l.length≤1000)(ht:txD l=true)(hG:Gl w):Calls Tryz.prog 111 #[.string (bs l)] w (WdPost w (varW l)):=by
 obtain⟨W1,hW1⟩:∃W1,W1=w.alloc (.cells #[.int .i64 0,.string ⟨#[]⟩,.int .i64 0,.int .i64 0] 89):=⟨_,rfl⟩
 have hb1:Below w.heap.size w W1:=by rw[hW1];exact below_box _
 have hk1:W1.heap[w.heap.size]? =some (wdB wd0):=by rw[hW1];exact World.alloc_heap_new w _
 have hl1:w.heap.size<W1.heap.size:=(Array.getElem?_eq_some_iff.1 hk1).1
 have hG1:=hG.below hb1
 have HW1:=Lib.hid hW1
 have HB1:=Lib.hid hb1
 have HK1:=Lib.hid hk1
 have HL1:=Lib.hid hl1
 have HKEY:=Lib.hid fun(w3:World) (hb3:Below W1.heap.size W1 w3)=>wd0_at ((hb3.block _ hl1).trans hk1)
 have HKB:=Lib.hid fun(w3:World) (hb3:Below W1.heap.size W1 w3)=>And.intro ((hb3.block _ hl1).trans hk1) (hb1.trans (hb3.mono hb1.size))
 clear hb1 hk1 hl1 hW1 hG
 cases hp:([36]:List UInt8).isPrefixOf l with
 |false=>
  have hC:=cutp12 l [36] W1 false hp
  simp only[Bool.false_eq_true,if_false]at hC
  have hR:=lexRun_any l W1 (by omega) ht
  have HC:=Lib.hid hC
  have HR:=Lib.hid hR
  have hv:varW l=none:=by unfold varW;rw[hp];rfl
  rw[hv]
  clear hC hR hv hp hG1 ht
  generalize l.take (runL l)=N at *
  go_enter Tryz.func111,Tryz.ntmps111
  go_upto_region 1 with fail
  rw[←HW1.out]
  clear HW1
  go_wp2_with (first
   |(go_at_call 147
     refine HC.out.mono ?_
     rintro e w2 ⟨rfl,hw⟩
     have hw:=hw.symm
     subst hw
     clear HC)
   |(go_at_call 150
     refine HR.out.mono ?_
     rintro e w3 ⟨rfl,hb3⟩
     obtain⟨⟨d0,d1,d2,d3⟩,f0,f1,f2,f3⟩:=HKEY.out w3 hb3
     have HKB3:=Lib.hid (HKB.out w3 hb3)
     clear hb3 HR))
  exact end_word Tryz.results111 w w3 none (x:=wd0) HKB3.out.1 HKB3.out.2 (by rfl) (by rfl) rfl rfl rfl
 |true=>
  have hC:=cutp12 l [36] W1 true hp
  simp only[if_true]at hC
  have e1:l.drop ([36]:List UInt8).length=l.drop 1:=rfl
  rw[e1]at hC
  have ht1:txD (l.drop 1)=true:=tx_take (m:=[36]) (by decide) hp ht
  have hR:=lexRun_any (l.drop 1) W1 (by rw[List.length_drop];omega) ht1
  have hv:varW l=if nmD (bs ((l.drop 1).take (runL (l.drop 1)))) then some (⟨10,(l.drop 1).take (runL (l.drop 1)),.num 0⟩,1+runL (l.drop 1)) else none:=by unfold varW;rw[hp];rfl
  have hrl:((l.drop 1).take (runL (l.drop 1))).length=runL (l.drop 1):=by rw[List.length_take];exact Nat.min_eq_left (run_le _ _ (Nat.le_refl _))
  have hrs:=bs_size ((l.drop 1).take (runL (l.drop 1)))
  rw[hrl]at hrs
  have hr9:runL (l.drop 1)≤1000:=by have :=run_le _ (l.drop 1) (Nat.le_refl _);rw[List.length_drop]at this;omega
  rw[hv]
  generalize (l.drop 1).take (runL (l.drop 1))=N at *
  generalize runL (l.drop 1)=n at *
  have HN:=Lib.hid fun(w3:World) (hb3:Below W1.heap.size W1 w3)=>chName_any (bs N) w3 (by rw[hrs];omega) (hG1.below hb3).1
  have HC:=Lib.hid hC
  have HR:=Lib.hid hR
  have HRS:=Lib.hid hrl
  clear hC hR hv hp hG1 ht ht1 e1 hrl
  generalize l.drop 1=t1 at *
  obtain⟨E,hE⟩:∃E,nmD (bs N)=E:=⟨_,rfl⟩
  rw[hE]at HN ⊢
  clear hE
  cases E with
  |false=>
   simp only[Bool.false_eq_true,if_false]
   go_enter Tryz.func111,Tryz.ntmps111
   go_upto_region 1 with fail
   rw[←HW1.out]
   clear HW1
   go_wp2_with (first
    |(go_at_call 147
      refine HC.out.mono ?_
      rintro e w2 ⟨rfl,hw⟩
      have hw:=hw.symm
      subst hw
      clear HC)
    |(go_at_call 150
      refine HR.out.mono ?_
      rintro e w3 ⟨rfl,hb3⟩
      have HB3:=Lib.hid hb3
      have HN3:=Lib.hid (HN.out w3 hb3)
      clear hb3 HR)
    |(go_at_call 69
      refine HN3.out.mono ?_
      rintro e w4 ⟨rfl,hb4⟩
      have hb4:=HB3.out.trans (hb4.mono HB3.out.size)
      obtain⟨⟨d0,d1,d2,d3⟩,f0,f1,f2,f3⟩:=HKEY.out w4 hb4
      have HKB4:=Lib.hid (HKB.out w4 hb4)
      clear hb4 HN3))
   exact end_word Tryz.results111 w w4 none (x:=wd0) HKB4.out.1 HKB4.out.2 (by rfl) (by rfl) rfl rfl rfl
  |true=>
   simp only[if_true]
   go_enter Tryz.func111,Tryz.ntmps111
   go_upto_region 1 with fail
   rw[←HW1.out]
   clear HW1
   go_wp2_with (first
    |(go_at_call 147
      refine HC.out.mono ?_
      rintro e w2 ⟨rfl,hw⟩
      have hw:=hw.symm
      subst hw
      clear HC)
    |(go_at_call 150
      refine HR.out.mono ?_
      rintro e w3 ⟨rfl,hb3⟩
      have HB3:=Lib.hid hb3
      have HN3:=Lib.hid (HN.out w3 hb3)
      clear hb3 HR)
    |(go_at_call 69
      refine HN3.out.mono ?_
      rintro e w4 ⟨rfl,hb4⟩
      have hb4:=HB3.out.trans (hb4.mono HB3.out.size)
      obtain⟨⟨d0,d1,d2,d3⟩,f0,f1,f2,f3⟩:=HKEY.out w4 hb4
      have HKB4:=Lib.hid (HKB.out w4 hb4)
      clear hb4 HN3))
   exact end_word Tryz.results111 w w4 (some (⟨10,N,.num 0⟩,1+n)) (x:=⟨10,N,.num 0⟩) HKB4.out.1 HKB4.out.2 (by rfl) (by show(((1+n:Nat)):Int)=_;omega) rfl rfl rfl
end Char
namespace Char
open Go.RowKit Go.Lib
open Go.Proofs.YtlmpkpjjakallaaGreatDoor.Fig (litL litX decV outT outV lit_any)
theorem siz_rest (l:List UInt8):(if ([46]:List UInt8).isPrefixOf (l.drop (dgs l)) then ((l.drop (dgs l)).drop 1).drop (dgs ((l.drop (dgs l)).drop 1)) else l.drop (dgs l))=l.drop (sizN l):=by
 unfold sizN
 have e:(l.drop (dgs l)).drop 1=l.drop (dgs l+1):=by rw[List.drop_drop]
 split
 ·rw[e,List.drop_drop]
  exact congrArg (fun n=>l.drop n) (by omega)
 ·rw[Nat.add_zero]
theorem dec_box (w5:World)(T V:Int):(w5.alloc (.cells #[.int .i64 T,.int .i64 V] 24)).cell? ⟨w5.heap.size,0,none⟩=some (.int .i64 T)∧(w5.alloc (.cells #[.int .i64 T,.int .i64 V] 24)).cell? ⟨w5.heap.size,1,none⟩=some (.int .i64 V):=by
 have h:=World.alloc_heap_new w5 (.cells #[.int .i64 T,.int .i64 V] 24)
 exact⟨by simp only[World.cell?,h];rfl,by simp only[World.cell?,h];rfl⟩
theorem end_drew {fn:Func}{p q:Tmp}(h:fn.results= #[.cell p 89,.tmp q]){a:Act}(w w1:World)(o:Option (Wd×Nat)){x y:Wd}{k:Int}(hk:w1.heap[w.heap.size]? =some (wdB y))(hb:Below w.heap.size w w1)
 (hx:(o.getD (wd0,0)).1=x) (hn:((o.getD (wd0,0)).2:Int)=k)
 (hp:a.tmps.getD p undef= .pointer (some ⟨w.heap.size,0,none⟩)) (hq:a.tmps.getD q undef= .int .i64 k) (hd:a.defers=[]):bodyPost Tryz.prog fn (WdPost w o) .ret a (set4 w1 w.heap.size x).drew:=
 end_wd2 h _ w.heap.size (c:= .int .i64 k) (set4_at hk) hp hq hd ⟨by rw[hx,hn],(set4_below hb (Nat.le_refl _)).drew⟩
set_option maxHeartbeats 8000000 in
theorem number_f_no (l u r1:List UInt8)(n:Nat)(T V:Int)(w:World)
 (hs1:(bs l).size=l.length) (hs2:(bs r1).size=l.length-n)
 (hwr:IntKind.i64.wrap ((l.length:Int)-((l.length-n:Nat):Int))=(n:Int))
 (hsl:∀wx,(Instr.slice 9 (.string (bs l)) none (some (.int .i64 (n:Int))) none).run Tryz.prog wx= .ok (.string (bs u)) wx)
 (HBD:Hid (∀W:World,Calls Tryz.prog 98 #[.string (bs l),.func (.func 146) #[] #[]] W fun e w'=>e= .returned (.string (bs r1))∧Below W.heap.size W w'))
 (HC:Hid (∀W:World,Calls Tryz.prog 147 #[.string (bs r1),.string (bs [46])] W fun e w'=>e= .returned (.tuple #[.string (bs r1),.bool false])∧w'=W))
 (HLIT:Hid (∀W:World,Calls Tryz.prog 148 #[.string (bs u)] W fun e w'=>e= .returned (.tuple #[.agg #[.int .i64 T,.int .i64 V],.bool false])∧Below W.heap.size W w')):
 Calls Tryz.prog 103 #[.string (bs l)] w (WdPost w (none)):=by
 obtain⟨W1,hW1,hb1,hk1,hl1,HW1,HKEY,HKB⟩:=wd_hd w
 have HL1:=Lib.hid hl1
 have HBD1:=Lib.hid (HBD.out W1)
 clear hb1 hk1 hl1 hW1 HBD
 go_enter Tryz.func103,Tryz.ntmps103
 go_upto_region 1 with fail
 rw[←HW1.out]
 clear HW1
 go_wp2_with (first
  |(go_at_call 98
    with_reducible refine HBD1.out.mono ?_
    rintro e w2 ⟨rfl,hb2⟩
    have HB2:=Lib.hid hb2
    have HC2:=Lib.hid (HC.out w2)
    clear hb2 HBD1)
  |(go_at_call 147
    refine HC2.out.mono ?_
    rintro e w3 ⟨rfl,hw⟩
    have hw:=hw.symm
    subst hw
    have HB4:=HB2
    have HT4:=Lib.hid (HLIT.out w2)
    clear HC2)
  |(go_at_call 148
    refine HT4.out.mono ?_
    rintro e w5 ⟨rfl,hb5⟩
    have hb:=HB4.out.trans (hb5.mono HB4.out.size)
    have ka:=fun ob=>HKEY.out _ (hb.trans ((below_box ob).mono hb.size))
    have KB:=Lib.hid fun ob=>HKB.out _ (hb.trans ((below_box ob).mono hb.size))
    clear hb hb5 HT4))
 exact end_word Tryz.results103 w _ none (x:=wd0) (KB.out _).1 (KB.out _).2 (by rfl) (by rfl) rfl rfl rfl
set_option maxHeartbeats 8000000 in
theorem number_f_odd (l u r1:List UInt8)(n:Nat)(T V:Int)(w:World)(hT:(T != 0)=true)
 (hs1:(bs l).size=l.length) (hs2:(bs r1).size=l.length-n)
 (hwr:IntKind.i64.wrap ((l.length:Int)-((l.length-n:Nat):Int))=(n:Int))
 (hsl:∀wx,(Instr.slice 9 (.string (bs l)) none (some (.int .i64 (n:Int))) none).run Tryz.prog wx= .ok (.string (bs u)) wx)
 (HBD:Hid (∀W:World,Calls Tryz.prog 98 #[.string (bs l),.func (.func 146) #[] #[]] W fun e w'=>e= .returned (.string (bs r1))∧Below W.heap.size W w'))
 (HC:Hid (∀W:World,Calls Tryz.prog 147 #[.string (bs r1),.string (bs [46])] W fun e w'=>e= .returned (.tuple #[.string (bs r1),.bool false])∧w'=W))
 (HLIT:Hid (∀W:World,Calls Tryz.prog 148 #[.string (bs u)] W fun e w'=>e= .returned (.tuple #[.agg #[.int .i64 T,.int .i64 V],.bool true])∧Below W.heap.size W w')):
 Calls Tryz.prog 103 #[.string (bs l)] w (WdPost w (none)):=by
 obtain⟨W1,hW1,hb1,hk1,hl1,HW1,HKEY,HKB⟩:=wd_hd w
 have HL1:=Lib.hid hl1
 have HBD1:=Lib.hid (HBD.out W1)
 clear hb1 hk1 hl1 hW1 HBD
 go_enter Tryz.func103,Tryz.ntmps103
 go_upto_region 1 with fail
 rw[←HW1.out]
 clear HW1
 go_wp2_with (first
  |(go_at_call 98
    with_reducible refine HBD1.out.mono ?_
    rintro e w2 ⟨rfl,hb2⟩
    have HB2:=Lib.hid hb2
    have HC2:=Lib.hid (HC.out w2)
    clear hb2 HBD1)
  |(go_at_call 147
    refine HC2.out.mono ?_
    rintro e w3 ⟨rfl,hw⟩
    have hw:=hw.symm
    subst hw
    have HB4:=HB2
    have HT4:=Lib.hid (HLIT.out w2)
    clear HC2)
  |(go_at_call 148
    refine HT4.out.mono ?_
    rintro e w5 ⟨rfl,hb5⟩
    have hb:=HB4.out.trans (hb5.mono HB4.out.size)
    have ka:=fun ob=>HKEY.out _ (hb.trans ((below_box ob).mono hb.size))
    have KB:=Lib.hid fun ob=>HKB.out _ (hb.trans ((below_box ob).mono hb.size))
    clear hb hb5 HT4))
 exact end_word Tryz.results103 w _ none (x:=wd0) (KB.out _).1 (KB.out _).2 (by rfl) (by rfl) rfl rfl rfl
set_option maxHeartbeats 8000000 in
theorem number_f_yes (l u r1:List UInt8)(n:Nat)(V:Int)(w:World)
 (hs1:(bs l).size=l.length) (hs2:(bs r1).size=l.length-n)
 (hwr:IntKind.i64.wrap ((l.length:Int)-((l.length-n:Nat):Int))=(n:Int))
 (hsl:∀wx,(Instr.slice 9 (.string (bs l)) none (some (.int .i64 (n:Int))) none).run Tryz.prog wx= .ok (.string (bs u)) wx)
 (HBD:Hid (∀W:World,Calls Tryz.prog 98 #[.string (bs l),.func (.func 146) #[] #[]] W fun e w'=>e= .returned (.string (bs r1))∧Below W.heap.size W w'))
 (HC:Hid (∀W:World,Calls Tryz.prog 147 #[.string (bs r1),.string (bs [46])] W fun e w'=>e= .returned (.tuple #[.string (bs r1),.bool false])∧w'=W))
 (HLIT:Hid (∀W:World,Calls Tryz.prog 148 #[.string (bs u)] W fun e w'=>e= .returned (.tuple #[.agg #[.int .i64 0,.int .i64 V],.bool true])∧Below W.heap.size W w')):
 Calls Tryz.prog 103 #[.string (bs l)] w (WdPost w (some (⟨9,u,.num V⟩,n))):=by
 obtain⟨W1,hW1,hb1,hk1,hl1,HW1,HKEY,HKB⟩:=wd_hd w
 have HL1:=Lib.hid hl1
 have HBD1:=Lib.hid (HBD.out W1)
 clear hb1 hk1 hl1 hW1 HBD
 go_enter Tryz.func103,Tryz.ntmps103
 go_upto_region 1 with fail
 rw[←HW1.out]
 clear HW1
 go_wp2_with (first
  |(go_at_call 98
    with_reducible refine HBD1.out.mono ?_
    rintro e w2 ⟨rfl,hb2⟩
    have HB2:=Lib.hid hb2
    have HC2:=Lib.hid (HC.out w2)
    clear hb2 HBD1)
  |(go_at_call 147
    refine HC2.out.mono ?_
    rintro e w3 ⟨rfl,hw⟩
    have hw:=hw.symm
    subst hw
    have HB4:=HB2
    have HT4:=Lib.hid (HLIT.out w2)
    clear HC2)
  |(go_at_call 148
    refine HT4.out.mono ?_
    rintro e w5 ⟨rfl,hb5⟩
    have hb:=HB4.out.trans (hb5.mono HB4.out.size)
    have ka:=fun ob=>HKEY.out _ (hb.trans ((below_box ob).mono hb.size))
    have KB:=Lib.hid fun ob=>HKB.out _ (hb.trans ((below_box ob).mono hb.size))
    clear hb hb5 HT4))
 obtain⟨⟨d0,d1,d2,d3⟩,f0,f1,f2,f3⟩:=ka (.cells #[.int .i64 0,.int .i64 V] 24)
 obtain⟨e1,e2⟩:=dec_box w5 0 V
 clear ka
 go_region
 go_wp2_with fail
 exact end_drew Tryz.results103 w _ (some (⟨9,u,.num V⟩,n)) (x:=⟨9,u,.num V⟩) (KB.out _).1 (KB.out _).2 (by rfl) (by rfl) rfl rfl rfl
set_option maxHeartbeats 8000000 in
theorem number_t_no (l u r1 t2:List UInt8)(n:Nat)(T V:Int)(w:World)
 (hs1:(bs l).size=l.length) (hs2:(bs t2).size=l.length-n)
 (hwr:IntKind.i64.wrap ((l.length:Int)-((l.length-n:Nat):Int))=(n:Int))
 (hsl:∀wx,(Instr.slice 9 (.string (bs l)) none (some (.int .i64 (n:Int))) none).run Tryz.prog wx= .ok (.string (bs u)) wx)
 (HBD:Hid (∀W:World,Calls Tryz.prog 98 #[.string (bs l),.func (.func 146) #[] #[]] W fun e w'=>e= .returned (.string (bs r1))∧Below W.heap.size W w'))
 (HC:Hid (∀W:World,Calls Tryz.prog 147 #[.string (bs r1),.string (bs [46])] W fun e w'=>e= .returned (.tuple #[.string (bs (r1.drop 1)),.bool true])∧w'=W))
 (HP:Hid (∀W:World,Calls Tryz.prog 98 #[.string (bs (r1.drop 1)),.func (.func 146) #[] #[]] W fun e w'=>e= .returned (.string (bs t2))∧Below W.heap.size W w'))
 (HLIT:Hid (∀W:World,Calls Tryz.prog 148 #[.string (bs u)] W fun e w'=>e= .returned (.tuple #[.agg #[.int .i64 T,.int .i64 V],.bool false])∧Below W.heap.size W w')):
 Calls Tryz.prog 103 #[.string (bs l)] w (WdPost w (none)):=by
 obtain⟨W1,hW1,hb1,hk1,hl1,HW1,HKEY,HKB⟩:=wd_hd w
 have HL1:=Lib.hid hl1
 have HBD1:=Lib.hid (HBD.out W1)
 clear hb1 hk1 hl1 hW1 HBD
 generalize r1.drop 1=pt at *
 go_enter Tryz.func103,Tryz.ntmps103
 go_upto_region 1 with fail
 rw[←HW1.out]
 clear HW1
 go_wp2_with (first
  |(go_at_call 98
    with_reducible refine HBD1.out.mono ?_
    rintro e w2 ⟨rfl,hb2⟩
    have HB2:=Lib.hid hb2
    have HC2:=Lib.hid (HC.out w2)
    clear hb2 HBD1)
  |(go_at_call 147
    refine HC2.out.mono ?_
    rintro e w3 ⟨rfl,hw⟩
    have hw:=hw.symm
    subst hw
    have HP2:=Lib.hid (HP.out w2)
    clear HC2)
  |(go_at_call 98
    refine HP2.out.mono ?_
    rintro e w4 ⟨rfl,hb4⟩
    have HB4:=Lib.hid (HB2.out.trans (hb4.mono HB2.out.size))
    have HT4:=Lib.hid (HLIT.out w4)
    clear hb4)
  |(go_at_call 148
    refine HT4.out.mono ?_
    rintro e w5 ⟨rfl,hb5⟩
    have hb:=HB4.out.trans (hb5.mono HB4.out.size)
    have ka:=fun ob=>HKEY.out _ (hb.trans ((below_box ob).mono hb.size))
    have KB:=Lib.hid fun ob=>HKB.out _ (hb.trans ((below_box ob).mono hb.size))
    clear hb hb5 HT4))
 exact end_word Tryz.results103 w _ none (x:=wd0) (KB.out _).1 (KB.out _).2 (by rfl) (by rfl) rfl rfl rfl
set_option maxHeartbeats 8000000 in
theorem number_t_odd (l u r1 t2:List UInt8)(n:Nat)(T V:Int)(w:World)(hT:(T != 0)=true)
 (hs1:(bs l).size=l.length) (hs2:(bs t2).size=l.length-n)
 (hwr:IntKind.i64.wrap ((l.length:Int)-((l.length-n:Nat):Int))=(n:Int))
 (hsl:∀wx,(Instr.slice 9 (.string (bs l)) none (some (.int .i64 (n:Int))) none).run Tryz.prog wx= .ok (.string (bs u)) wx)
 (HBD:Hid (∀W:World,Calls Tryz.prog 98 #[.string (bs l),.func (.func 146) #[] #[]] W fun e w'=>e= .returned (.string (bs r1))∧Below W.heap.size W w'))
 (HC:Hid (∀W:World,Calls Tryz.prog 147 #[.string (bs r1),.string (bs [46])] W fun e w'=>e= .returned (.tuple #[.string (bs (r1.drop 1)),.bool true])∧w'=W))
 (HP:Hid (∀W:World,Calls Tryz.prog 98 #[.string (bs (r1.drop 1)),.func (.func 146) #[] #[]] W fun e w'=>e= .returned (.string (bs t2))∧Below W.heap.size W w'))
 (HLIT:Hid (∀W:World,Calls Tryz.prog 148 #[.string (bs u)] W fun e w'=>e= .returned (.tuple #[.agg #[.int .i64 T,.int .i64 V],.bool true])∧Below W.heap.size W w')):
 Calls Tryz.prog 103 #[.string (bs l)] w (WdPost w (none)):=by
 obtain⟨W1,hW1,hb1,hk1,hl1,HW1,HKEY,HKB⟩:=wd_hd w
 have HL1:=Lib.hid hl1
 have HBD1:=Lib.hid (HBD.out W1)
 clear hb1 hk1 hl1 hW1 HBD
 generalize r1.drop 1=pt at *
 go_enter Tryz.func103,Tryz.ntmps103
 go_upto_region 1 with fail
 rw[←HW1.out]
 clear HW1
 go_wp2_with (first
  |(go_at_call 98
    with_reducible refine HBD1.out.mono ?_
    rintro e w2 ⟨rfl,hb2⟩
    have HB2:=Lib.hid hb2
    have HC2:=Lib.hid (HC.out w2)
    clear hb2 HBD1)
  |(go_at_call 147
    refine HC2.out.mono ?_
    rintro e w3 ⟨rfl,hw⟩
    have hw:=hw.symm
    subst hw
    have HP2:=Lib.hid (HP.out w2)
    clear HC2)
  |(go_at_call 98
    refine HP2.out.mono ?_
    rintro e w4 ⟨rfl,hb4⟩
    have HB4:=Lib.hid (HB2.out.trans (hb4.mono HB2.out.size))
    have HT4:=Lib.hid (HLIT.out w4)
    clear hb4)
  |(go_at_call 148
    refine HT4.out.mono ?_
    rintro e w5 ⟨rfl,hb5⟩
    have hb:=HB4.out.trans (hb5.mono HB4.out.size)
    have ka:=fun ob=>HKEY.out _ (hb.trans ((below_box ob).mono hb.size))
    have KB:=Lib.hid fun ob=>HKB.out _ (hb.trans ((below_box ob).mono hb.size))
    clear hb hb5 HT4))
 exact end_word Tryz.results103 w _ none (x:=wd0) (KB.out _).1 (KB.out _).2 (by rfl) (by rfl) rfl rfl rfl
set_option maxHeartbeats 8000000 in
theorem number_t_yes (l u r1 t2:List UInt8)(n:Nat)(V:Int)(w:World)
 (hs1:(bs l).size=l.length) (hs2:(bs t2).size=l.length-n)
 (hwr:IntKind.i64.wrap ((l.length:Int)-((l.length-n:Nat):Int))=(n:Int))
 (hsl:∀wx,(Instr.slice 9 (.string (bs l)) none (some (.int .i64 (n:Int))) none).run Tryz.prog wx= .ok (.string (bs u)) wx)
 (HBD:Hid (∀W:World,Calls Tryz.prog 98 #[.string (bs l),.func (.func 146) #[] #[]] W fun e w'=>e= .returned (.string (bs r1))∧Below W.heap.size W w'))
 (HC:Hid (∀W:World,Calls Tryz.prog 147 #[.string (bs r1),.string (bs [46])] W fun e w'=>e= .returned (.tuple #[.string (bs (r1.drop 1)),.bool true])∧w'=W))
 (HP:Hid (∀W:World,Calls Tryz.prog 98 #[.string (bs (r1.drop 1)),.func (.func 146) #[] #[]] W fun e w'=>e= .returned (.string (bs t2))∧Below W.heap.size W w'))
 (HLIT:Hid (∀W:World,Calls Tryz.prog 148 #[.string (bs u)] W fun e w'=>e= .returned (.tuple #[.agg #[.int .i64 0,.int .i64 V],.bool true])∧Below W.heap.size W w')):
 Calls Tryz.prog 103 #[.string (bs l)] w (WdPost w (some (⟨9,u,.num V⟩,n))):=by
 obtain⟨W1,hW1,hb1,hk1,hl1,HW1,HKEY,HKB⟩:=wd_hd w
 have HL1:=Lib.hid hl1
 have HBD1:=Lib.hid (HBD.out W1)
 clear hb1 hk1 hl1 hW1 HBD
 generalize r1.drop 1=pt at *
 go_enter Tryz.func103,Tryz.ntmps103
 go_upto_region 1 with fail
 rw[←HW1.out]
 clear HW1
 go_wp2_with (first
  |(go_at_call 98
    with_reducible refine HBD1.out.mono ?_
    rintro e w2 ⟨rfl,hb2⟩
    have HB2:=Lib.hid hb2
    have HC2:=Lib.hid (HC.out w2)
    clear hb2 HBD1)
  |(go_at_call 147
    refine HC2.out.mono ?_
    rintro e w3 ⟨rfl,hw⟩
    have hw:=hw.symm
    subst hw
    have HP2:=Lib.hid (HP.out w2)
    clear HC2)
  |(go_at_call 98
    refine HP2.out.mono ?_
    rintro e w4 ⟨rfl,hb4⟩
    have HB4:=Lib.hid (HB2.out.trans (hb4.mono HB2.out.size))
    have HT4:=Lib.hid (HLIT.out w4)
    clear hb4)
  |(go_at_call 148
    refine HT4.out.mono ?_
    rintro e w5 ⟨rfl,hb5⟩
    have hb:=HB4.out.trans (hb5.mono HB4.out.size)
    have ka:=fun ob=>HKEY.out _ (hb.trans ((below_box ob).mono hb.size))
    have KB:=Lib.hid fun ob=>HKB.out _ (hb.trans ((below_box ob).mono hb.size))
    clear hb hb5 HT4))
 obtain⟨⟨d0,d1,d2,d3⟩,f0,f1,f2,f3⟩:=ka (.cells #[.int .i64 0,.int .i64 V] 24)
 obtain⟨e1,e2⟩:=dec_box w5 0 V
 clear ka
 go_region
 go_wp2_with fail
 exact end_drew Tryz.results103 w _ (some (⟨9,u,.num V⟩,n)) (x:=⟨9,u,.num V⟩) (KB.out _).1 (KB.out _).2 (by rfl) (by rfl) rfl rfl rfl
theorem number_any (l:List UInt8)(w:World)(hl:l.length≤450):Calls Tryz.prog 103 #[.string (bs l)] w (WdPost w (numW l)):=by
 have hn:=siz_le l
 have hrest:=siz_rest l
 obtain⟨n,hnn⟩:∃n,sizN l=n:=⟨_,rfl⟩
 have hv:numW l=(isNum (litL (l.take n))).map fun v=>(⟨9,l.take n,.num v⟩,n):=by unfold numW;rw[hnn]
 rw[hnn]at hn hrest
 have hu:(l.take n).length=n:=by rw[List.length_take];exact Nat.min_eq_left hn
 have hsl:=slice_to l n hn
 have hs1:=bs_size l
 have hs2:=bs_size (l.drop n)
 rw[List.length_drop]at hs2
 have hwr:IntKind.i64.wrap ((l.length:Int)-((l.length-n:Nat):Int))=(n:Int):=by
  rw[show(l.length:Int)-((l.length-n:Nat):Int)=(n:Int) by omega]
  exact IntWalk.i64_in _ (by omega)
 have HLIT:∀W:World,_:=fun(W:World)=>lit_any (l.take n) W (by omega)
 rw[hv]
 have HBD:=Lib.hid (behindD_any l)
 cases hp:([46]:List UInt8).isPrefixOf (l.drop (dgs l)) with
 |false=>
  rw[hp]at hrest
  simp only[Bool.false_eq_true,if_false]at hrest
  rw[←hrest]at hs2
  have HC:=Lib.hid fun(W:World)=>cutp12 (l.drop (dgs l)) [46] W false hp
  cases hL:litL (l.take n) with
  |none=>rw[hL]at HLIT;exact number_f_no l _ _ n _ _ w hs1 hs2 hwr hsl HBD HC (Lib.hid HLIT)
  |some x=>
   rw[hL]at HLIT
   cases x with
   |num v=>exact number_f_yes l _ _ n _ w hs1 hs2 hwr hsl HBD HC (Lib.hid HLIT)
   |nan=>exact number_f_odd l _ _ n 1 0 w (by decide) hs1 hs2 hwr hsl HBD HC (Lib.hid HLIT)
   |over=>exact number_f_odd l _ _ n 2 0 w (by decide) hs1 hs2 hwr hsl HBD HC (Lib.hid HLIT)
   |under=>exact number_f_odd l _ _ n 3 0 w (by decide) hs1 hs2 hwr hsl HBD HC (Lib.hid HLIT)
 |true=>
  rw[hp]at hrest
  simp only[if_true]at hrest
  have HC:=Lib.hid fun(W:World)=>cutp12 (l.drop (dgs l)) [46] W true hp
  have HP:=Lib.hid fun(W:World)=>behindD_any ((l.drop (dgs l)).drop 1) W
  rw[hrest]at HP
  cases hL:litL (l.take n) with
  |none=>rw[hL]at HLIT;exact number_t_no l _ _ _ n _ _ w hs1 hs2 hwr hsl HBD HC HP (Lib.hid HLIT)
  |some x=>
   rw[hL]at HLIT
   cases x with
   |num v=>exact number_t_yes l _ _ _ n _ w hs1 hs2 hwr hsl HBD HC HP (Lib.hid HLIT)
   |nan=>exact number_t_odd l _ _ _ n 1 0 w (by decide) hs1 hs2 hwr hsl HBD HC HP (Lib.hid HLIT)
   |over=>exact number_t_odd l _ _ _ n 2 0 w (by decide) hs1 hs2 hwr hsl HBD HC HP (Lib.hid HLIT)
   |under=>exact number_t_odd l _ _ _ n 3 0 w (by decide) hs1 hs2 hwr hsl HBD HC HP (Lib.hid HLIT)
end Char
end Go.Proofs.YtlmpkpjjakallaaGreatDoor
