import Derived.Test.YtlmpkpjjakallaaGreatDoorPt25
import Derived.Test.YtlmpkpjjakallaaGreatDoorPt04
import Derived.Test.YtlmpkpjjakallaaGreatDoorPt03
import Derived.Test.YtlmpkpjjakallaaGreatDoorPt02
import Derived.Test.YtlmpkpjjakallaaGreatDoorCards
import Derived.Test.YtlmpkpjjakallaaGreatDoorTie
import Derived.PinnedBridge
import Derived.Lay
import Derived.Lib.LaidIn
import Derived.Lib.LaidU8T
import Derived.Lib.LaidTab
import Derived.Deep.DeepHandedRow
import Derived.Deep.DeepWitnessRowRef
import Derived.ProofKit
import Derived.OpenShut
import Derived.JoinedCond
import Derived.SizedLaws
import Derived.Shelf.Vars
import Derived.LaidLaws
namespace Go.Proofs.YtlmpkpjjakallaaGreatDoor
namespace Char
open Go.RowKit Go.Lib
def rnD (s:ByteArray):Bool:=validD s.data.toList&&decide (0<s.size)&&decide (s.size≤32)&&(stC ((chsL s.data.toList).getD 0 0)&&(chsL s.data.toList).all paC)
theorem rnD_eq (s:ByteArray):rnD s=nmD s:=by
 unfold rnD nmD txD
 by_cases h0:0<s.size
 ·have hne:s.data.toList≠[]:=by
   intro h;have :=size_list s;rw[h]at this;simp at this;omega
  have hd:Utf8.decode s 0=decodeL s.data.toList:=by rw[decode_drop,List.drop_zero]
  rw[hd]
  cases hv:validD s.data.toList
  ·simp
  ·have hc:chsL s.data.toList=runesL s.data.toList:=by unfold chsL;rw[if_pos hv]
   rw[hc,allR_all isC _ _ (Nat.le_refl _),allR_all paC _ _ (Nat.le_refl _)]
   have hg:(runesL s.data.toList).getD 0 0=((decodeL s.data.toList).1:Int):=by rw[runesL_step _ hne];rfl
   rw[hg]
   have himp:(runesL s.data.toList).all paC=true→(runesL s.data.toList).all isC=true:=fun h=>by
    rw[List.all_eq_true]at h ⊢
    exact fun x hx=>pa_is x (h x hx)
   cases hp:(runesL s.data.toList).all paC
   ·simp
   ·rw[himp hp]
    simp
 ·have e0:decide (0<s.size)=false:=decide_eq_false h0
  rw[e0]
  simp
set_option maxRecDepth 100000 in
set_option maxHeartbeats 2000000 in
theorem refName_any (s:ByteArray)(w:World)(hs:s.size≤1048576):
 Calls Tryz.prog 38 #[.string s] w fun e w'=>e= .returned (.bool (nmD s))∧Below w.heap.size w w':=by
 rw[←rnD_eq]
 have hC:=chars_any s w hs
 have hzl:(chsL s.data.toList).length≤1048576:=by
  have el:s.data.toList.length=s.size:=by rw[Array.length_toList];rfl
  unfold chsL
  split
  ·have :=runesL_length _ s.data.toList (Nat.le_refl _);omega
  ·simp
 have hz0:validD s.data.toList=true→0<s.size→0<(chsL s.data.toList).length:=fun hv h=>by
  unfold chsL
  rw[if_pos hv,runesL_step _ (by intro h2;have :=size_list s;rw[h2]at this;simp at this;omega)]
  simp
 obtain⟨R,hR⟩:∃R,rnD s=R:=⟨_,rfl⟩
 rw[hR]
 unfold rnD at hR
 generalize validD s.data.toList=V at hC hR hz0
 generalize chsL s.data.toList=zs at hC hR hzl hz0
 have HC:=Lib.hid hC
 clear hC
 cases V
 ·have HR:Hid (false=R):=Lib.hid (by rw[←hR];simp)
  clear hR hz0
  go_enter Tryz.func38,Tryz.ntmps38
  go_wp2_with fail
  refine HC.out.mono ?_
  rintro e w1 ⟨v,rfl,_,hb1⟩
  clear HC
  go_wp2_with fail
  go_ret
  exact⟨by rw[←HR.out];rfl,hb1⟩
 by_cases h0:s.size<1
 ·have HR:Hid (false=R):=Lib.hid (by rw[←hR,decide_eq_false (show ¬0<s.size by omega)];simp)
  have h0z:(s.size:Int)<1:=by omega
  clear hR hz0 h0
  go_enter Tryz.func38,Tryz.ntmps38
  go_wp2_with fail
  refine HC.out.mono ?_
  rintro e w1 ⟨v,rfl,_,hb1⟩
  clear HC
  go_wp2_with fail
  go_ret
  exact⟨by rw[←HR.out];rfl,hb1⟩
 by_cases h32:32<s.size
 ·have HR:Hid (false=R):=Lib.hid (by rw[←hR,decide_eq_false (show ¬s.size≤32 by omega)];simp)
  have h0z:¬(s.size:Int)<1:=by omega
  have h3z:(32:Int)<(s.size:Int):=by omega
  clear hR hz0 h0 h32
  go_enter Tryz.func38,Tryz.ntmps38
  go_wp2_with fail
  refine HC.out.mono ?_
  rintro e w1 ⟨v,rfl,_,hb1⟩
  clear HC
  go_wp2_with fail
  go_ret
  exact⟨by rw[←HR.out];rfl,hb1⟩
 rw[decide_eq_true (show 0<s.size by omega),decide_eq_true (show s.size≤32 by omega),Bool.true_and,Bool.true_and,Bool.true_and]at hR
 have hzz:=hz0 rfl (by omega)
 have h0z:¬(s.size:Int)<1:=by omega
 have h3z:¬(32:Int)<(s.size:Int):=by omega
 have HR:=Lib.hid hR
 clear hR hz0 h0 h32
 go_enter Tryz.func38,Tryz.ntmps38
 go_wp2_with fail
 refine HC.out.mono ?_
 rintro e w1 ⟨v,rfl,hown,hb1⟩
 clear HC
 rcases Reads.of hown with⟨hz,rfl⟩|⟨g,cap,rfl,hg,hcells⟩
 ·rw[hz]at hzz
  simp at hzz
 clear hown
 have HG:=Lib.hid hcells
 clear hcells
 have hcell0:w1.cell? ⟨g,0,none⟩=some (.int .i64 (zs.getD 0 0)):=HG.out 0 hzz
 obtain⟨x0,hx0⟩:∃x0,zs.getD 0 0=x0:=⟨_,rfl⟩
 rw[hx0]at hcell0
 have hr2:=HR.out
 rw[hx0]at hr2
 have HR2:=Lib.hid hr2
 clear hr2 HR hx0
 go_wp2_with fail
 refine(refStart_any x0 w1).mono ?_
 rintro e w2 ⟨rfl,hb2⟩
 have hb12:=hb1.trans (hb2.mono hb1.size)
 generalize stC x0=c0 at HR2
 clear hcell0
 cases c0
 ·go_wp2_with fail
  go_ret
  exact⟨by rw[←HR2.out];rfl,hb12⟩
 ·go_wp2_with fail
  go_loopw [5] (fun i wr=>∃k:Nat,k≤zs.length∧i= .int .i64 (k:Int)∧Below w1.heap.size w1 wr∧Hid ((zs.drop k).all paC=R)) (fun i _=>zs.length-(RowKit.intOf i).toNat)
  case atStart=>exact⟨0,Nat.zero_le _,rfl,hb2,Lib.hid (by simpa using HR2.out)⟩
  case round=>
   obtain⟨k,hk,rfl,hbw,HB⟩:=hrel
   by_cases hlt:k<zs.length
   ·have hcell:wr.cell? ⟨g,k,none⟩=some (.int .i64 (zs.getD k 0)):=(hbw.cell (p:=⟨g,k,none⟩) hg).trans (HG.out k hlt)
    have hst:=HB.out
    rw[all_step paC zs k hlt]at hst
    generalize zs.getD k 0=x at hcell hst
    have HS:=Lib.hid hst
    clear hst HB
    go_wp2_with fail
    refine(refPart_any x wr).mono ?_
    rintro e w3 ⟨rfl,hb3⟩
    generalize paC x=c at HS
    have hbw2:=hbw.trans (hb3.mono hbw.size)
    cases c
    ·go_wp2_with fail
     go_ret
     exact⟨by rw[←HS.out];rfl,hb1.trans (hbw2.mono hb1.size)⟩
    ·go_wp2_with fail
     go_roundw
     case rel=>exact⟨k+1,by omega,by go_num,hbw2,Lib.hid (by rw[←HS.out];rfl)⟩
     case measure=>simp[RowKit.intOf];omega
   ·have hst:=HB.out
    rw[all_end paC zs k hlt]at hst
    have HS:=Lib.hid hst
    clear hst HB
    go_wp2_with fail
    go_ret
    exact⟨by rw[←HS.out];rfl,hb1.trans (hbw.mono hb1.size)⟩
end Char
namespace Char
open Go.RowKit Go.Lib
set_option maxRecDepth 100000 in
set_option maxHeartbeats 4000000 in
theorem rightTR_any (k:Int)(nm:List UInt8)(hs:Bool)(w:World):
 Calls Tryz.prog 73 #[teW k nm hs] w fun e w'=>e= .returned (.bool (rightT k nm hs))∧Below w.heap.size w w':=by
 have HB:=Lib.hid fun ob=>(Below.refl _ w).alloc (Nat.le_refl _) ob
 unfold teW
 obtain⟨R,hR⟩:∃R,rightT k nm hs=R:=⟨_,rfl⟩
 rw[hR]
 unfold rightT at hR
 obtain⟨E,hE⟩:∃E,nm.isEmpty=E:=⟨_,rfl⟩
 rw[hE]at hR
 have he:=bs_emp _ _ hE
 clear hE
 by_cases hk:1≤k∧k≤6
 ·have h:k=1∨k=2∨k=3∨k=4∨k=5∨k=6:=by omega
  clear hk
  have HR:=Lib.hid hR
  clear hR
  rcases h with rfl|rfl|rfl|rfl|rfl|rfl<;>cases E<;>cases hs<;>
  ·go_enter Tryz.func73,Tryz.ntmps73
   go_wp2_with fail
   go_ret
   exact⟨by rw[←HR.out];rfl,HB.out _⟩
 ·have HR:Hid (R=false):=Lib.hid (by rw[←hR,if_neg (by omega),if_neg (by omega),if_neg (by omega)])
  clear hR
  by_cases h1:k<1
  ·have k1:decide (k<1)=true:=decide_eq_true h1
   clear h1 hk
   cases hs<;>
   ·go_enter Tryz.func73,Tryz.ntmps73
    go_wp2_with fail
    go_ret
    exact⟨by rw[HR.out];rfl,HB.out _⟩
  ·have k1:decide (k<1)=false:=decide_eq_false h1
   have k6:decide (6<k)=true:=decide_eq_true (by omega)
   clear h1 hk
   cases hs<;>
   ·go_enter Tryz.func73,Tryz.ntmps73
    go_wp2_with fail
    go_ret
    exact⟨by rw[HR.out];rfl,HB.out _⟩
end Char
namespace Fig
open Go.Proofs.YtlmpkpjjakallaaGreatDoor.Char Go.RowKit
set_option maxRecDepth 100000 in
set_option maxHeartbeats 2000000 in
theorem refRight_any (t v:Int)(w:World):
 Calls Tryz.prog 40 #[aggV t v] w fun e w'=>e= .returned (.bool (rightB t v))∧Below w.heap.size w w':=by
 have hb:=(Below.refl w.heap.size w).alloc (Nat.le_refl _) (Obj.cells #[.int .i64 t,.int .i64 v] 24)
 unfold aggV
 rcases toD_cases t v with⟨rfl,h2,e,er⟩|⟨rfl,rfl,e,er⟩|⟨rfl,rfl,e,er⟩|⟨rfl,rfl,e,er⟩|⟨h1,h2,h3,h4,e,er⟩<;>rw[er]
 ·have hvb:(v != -9223372036854775808)=true:=by simpa using h2
  clear h2 e er
  go_enter Tryz.func40,Tryz.ntmps40
  go_wp2_with fail
  go_ret
  exact⟨rfl,hb⟩
 ·clear e er
  go_enter Tryz.func40,Tryz.ntmps40
  go_wp2_with fail
  go_ret
  exact⟨rfl,hb⟩
 ·clear e er
  go_enter Tryz.func40,Tryz.ntmps40
  go_wp2_with fail
  go_ret
  exact⟨rfl,hb⟩
 ·clear e er
  go_enter Tryz.func40,Tryz.ntmps40
  go_wp2_with fail
  go_ret
  exact⟨rfl,hb⟩
 ·clear e er
  by_cases ht:t=0
  ·have hv:v= -9223372036854775808:=by omega
   subst ht hv
   clear h1 h2 h3 h4
   go_enter Tryz.func40,Tryz.ntmps40
   go_wp2_with fail
   go_ret
   exact⟨rfl,hb⟩
  ·have htb:(t==0)=false:=by rw[beq_eq_false_iff_ne];exact ht
   by_cases hl:1≤t
   ·by_cases hu:t≤3
    ·have hvb:(v==0)=false:=by rw[beq_eq_false_iff_ne];omega
     clear h1 h2 h3 h4 ht
     go_enter Tryz.func40,Tryz.ntmps40
     go_wp2_with fail
     go_ret
     exact⟨rfl,hb⟩
    ·clear h1 h2 h3 h4 ht
     go_enter Tryz.func40,Tryz.ntmps40
     go_wp2_with fail
     go_ret
     exact⟨rfl,hb⟩
   ·clear h1 h2 h3 h4 ht
    go_enter Tryz.func40,Tryz.ntmps40
    go_wp2_with fail
    go_ret
    exact⟨rfl,hb⟩
set_option maxRecDepth 100000 in
set_option maxHeartbeats 2000000 in
theorem refSize_any (t v:Int)(w:World)(h: -9223372036854775807≤v∧v≤9223372036854775807):
 Calls Tryz.prog 80 #[aggV t v] w (NumPost w v.natAbs):=by
 have hb:=(Below.refl w.heap.size w).alloc (Nat.le_refl _) (Obj.cells #[.int .i64 t,.int .i64 v] 24)
 have hs:(w.alloc (Obj.cells #[.int .i64 t,.int .i64 v] 24)).heap.size=w.heap.size+1:=by simp
 have CD:=fun W=>Lib.hid (digits_any v.natAbs W (by omega))
 unfold aggV
 have HS:=Lib.hid hs
 have w1:v<0→IntKind.i64.wrap (-v)=(v.natAbs:Int):=fun hv=>by rw[IntWalk.i64_in _ (by omega)];omega
 have w2:v<0→IntKind.u64.wrap (v.natAbs:Int)=(v.natAbs:Int):=fun hv=>by rw[IntKind.wrap_u64];omega
 have w3:¬v<0→IntKind.u64.wrap v=(v.natAbs:Int):=fun hv=>by rw[IntKind.wrap_u64];omega
 have w4:v<0→ -v=(v.natAbs:Int):=fun hv=>by omega
 have w5:¬v<0→v=(v.natAbs:Int):=fun hv=>by omega
 generalize v.natAbs=n at *
 by_cases hv:v<0
 ·have e1:=w1 hv
  have e2:=w2 hv
  have e4:=w4 hv
  clear w1 w2 w3 w4 w5 hs
  go_enter Tryz.func80,Tryz.ntmps80
  go_wp2_with fail
  refine(CD _).out.mono ?_
  rintro e w1 ⟨v1,rfl,h1,h2,h3⟩
  go_wp2_with fail
  go_ret
  exact⟨v1,rfl,h1,h2.mono (by rw[HS.out];omega),hb.trans (h3.mono (by rw[HS.out];omega))⟩
 ·obtain rfl:=w5 hv
  clear w1 w2 w3 w4 w5 hs
  go_enter Tryz.func80,Tryz.ntmps80
  go_wp2_with fail
  refine(CD _).out.mono ?_
  rintro e w1 ⟨v1,rfl,h1,h2,h3⟩
  go_wp2_with fail
  go_ret
  exact⟨v1,rfl,h1,h2.mono (by rw[HS.out];omega),hb.trans (h3.mono (by rw[HS.out];omega))⟩
end Fig
namespace Char
open Go.RowKit Go.Lib
set_option maxRecDepth 100000 in
set_option maxHeartbeats 4000000 in
theorem findL_any (l t:List UInt8)(p:Nat)(w:World)(hl:l.length≤1048576)(hp:p≤1048586)(ht:0<t.length)(ht2:t.length≤1000):
 Calls Tryz.prog 77 #[.string (bs l),.int .i64 (p:Int),.string (bs t)] w fun e w'=>e= .returned (.int .i64 (fnd l t p))∧w=w':=by
 obtain⟨R,hR⟩:∃R,fnd l t p=R:=⟨_,rfl⟩
 rw[hR]
 have HR:=Lib.hid hR
 have hsz:=bs_size l
 have hst:=bs_size t
 clear hR
 go_enter Tryz.func77,Tryz.ntmps77
 go_wp2_with fail
 go_loop [7] (fun v=>∃k:Nat,v= .int .i64 (k:Int)∧k≤1048596∧Hid (p≤k∧fnd l t k=R)) (fun v=>1048606-(RowKit.intOf v).toNat)
 case atStart=>exact⟨p,rfl,by omega,Lib.hid ⟨Nat.le_refl _,HR.out⟩⟩
 case round=>
  obtain⟨k,rfl,hk,HK⟩:=hrel
  by_cases hlt:k+t.length≤l.length
  ·have hsl:=slice_mid6 l k (k+t.length) (by omega) hlt
   rw[show(((k+t.length:Nat)):Int)=(k:Int)+(t.length:Int) by omega,Nat.add_sub_cancel_left]at hsl
   have hpt:=pre_take t (l.drop k) (by rw[List.length_drop];omega)
   cases hpre:t.isPrefixOf (l.drop k) with
   |true=>
    rw[hpre]at hpt
    have q:((bs ((l.drop k).take t.length)).toList==(bs t).toList)=true:=by rw[bs_tl,bs_tl];exact hpt.symm
    have HX:Hid ((k:Int)=R):=Lib.hid (by rw[←HK.out.2,fnd_here hpre])
    clear hpt hpre
    generalize (l.drop k).take t.length=N at *
    go_wp2_with fail
    go_ret
    exact⟨ret_i HX.out,rfl⟩
   |false=>
    rw[hpre]at hpt
    have q:((bs ((l.drop k).take t.length)).toList==(bs t).toList)=false:=by rw[bs_tl,bs_tl];exact hpt.symm
    have HX:Hid (p≤k+1∧fnd l t (k+1)=R):=Lib.hid ⟨by have :=HK.out.1;omega,by rw[←HK.out.2,fnd_next (by omega) hpre]⟩
    clear hpt hpre
    generalize (l.drop k).take t.length=N at *
    go_wp2_with fail
    go_round
    case rel=>exact⟨k+1,by go_num,by omega,HX⟩
    case measure=>simp[RowKit.intOf];omega
  ·have HX:Hid ((-1:Int)=R):=Lib.hid (by rw[←HK.out.2,fnd_end (by omega) ht])
   go_wp2_with fail
   go_ret
   exact⟨ret_i HX.out,rfl⟩
end Char
namespace Char
open Go.ChangeShapes Go.WideShapes Go.ChangeAt Go.RowKit
theorem own:ownKnob Tryz.prog.godebug=none:=by kernel_rfl
def laid:List (String×DataW Unit):=[("unicode/utf8.acceptRanges",Rows.laid_unicode_utf8_acceptRanges),("unicode/utf8.first",Rows.laid_unicode_utf8_first)]
def laidL:List (String×DataW Unit):=[("unicode/utf8.acceptRanges",Lib.acceptData),("unicode/utf8.first",Lib.firstData)]
theorem accept_eq:(Rows.laid_unicode_utf8_acceptRanges:DataW Unit)=Lib.acceptData:=by kernel_rfl
theorem first_eq:Rows.laid_unicode_utf8_first=Lib.firstData:=Pinned.utf8First_eq
theorem laid_eq:laid=laidL:=by
 unfold laid laidL
 rw[accept_eq,first_eq]
noncomputable def laidWorld (os:Os):World:=World.laidAll Tryz.prog os laid
theorem laid_met (os:Os)(args:Array Value):laidMet Tryz.prog laid ((laidWorld os).forCall (fun _ _=>0) ⟨#[],args,[]⟩).memory:=laidMet_laidAll _ (by kernel_rfl) (by kernel_rfl)
theorem maxL_of {W:World}(h:W.ShapedOpen Tryz.prog):MaxL W:=
 cell_of_shapedOpen_int (t:=3) (zero:= #[.int .i64 0]) h (of_decide_eq_true (by kernel_rfl)) (by kernel_rfl) rfl (by kernel_rfl) (by kernel_rfl) Tryz.underlying3
theorem tabs_of {W:World}(hL:laidMetH Tryz.prog laid W):Tabs W:=by
 rw[laid_eq]at hL
 exact utf8Tabs_of_readsT (U8Types.of196 laysValid) ⟨by kernel_rfl,by kernel_rfl,by kernel_rfl,by kernel_rfl,by kernel_rfl,by kernel_rfl,by kernel_rfl⟩ (Lib.laidMet.reads hL (by unfold laidL;simp)) (Lib.laidMet.reads hL (by unfold laidL;simp))
theorem reachBytes_val:reachBytes≤140737488351232:=by decide
theorem gl_of {W:World}(hL:laidMetH Tryz.prog laid W)(hS:W.ShapedOpen Tryz.prog):Gl W:=⟨tabs_of hL,maxL_of hS⟩
end Char
end Go.Proofs.YtlmpkpjjakallaaGreatDoor
