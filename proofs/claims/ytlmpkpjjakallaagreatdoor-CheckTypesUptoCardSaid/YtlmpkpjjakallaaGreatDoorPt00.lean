import Derived.Shelf.Strings.FuncGrows
import Derived.Shelf.Strings.Prefix
import Derived.Shelf.Strings.Cut
import Derived.Shelf.Small.Wraps
import Derived.Shelf.Strings.Repeat
import Derived.Test.YtlmpkpjjakallaaGreatDoorProg
import Derived.Lib.ValidLaws
import Derived.Lib.TrimUEq
import Derived.Lib.MapLaws
import Derived.Laws.RangeAny
import Derived.Lib.OthersKept
import Derived.WalkSmall
import Derived.Lib.IndexMore
import Derived.Lib.RuneBytes
namespace Go.Proofs.YtlmpkpjjakallaaGreatDoor
namespace Char
open Go.Shelf Go.RowKit
def layTrimLRen:Go.Shelf.Ren:=⟨fun |272=>144|315=>172|n=>n,fun |0=>0|3=>3|4=>4|9=>9|21=>21|40=>131|n=>n,fun n=>n⟩
theorem layTrimL:Lays.n272 Tryz.prog layTrimLRen:={
 mixed:=by kernel_rfl
 f272:=Tryz.func144.trans (congrArg some (by kernel_rfl))
 f315:=Tryz.func172.trans (congrArg some (by kernel_rfl))
 t0:=Tryz.underlying0
 a0:=Tryz.isAgg0
 z0:=Tryz.sizeOf0
 v0:=Tryz.zeroValue0
 t3:=Tryz.underlying3
 a3:=Tryz.isAgg3
 z3:=Tryz.sizeOf3
 v3:=Tryz.zeroValue3
 t4:=Tryz.underlying4
 a4:=Tryz.isAgg4
 z4:=Tryz.sizeOf4
 v4:=Tryz.zeroValue4
 t9:=Tryz.underlying9
 a9:=Tryz.isAgg9
 z9:=Tryz.sizeOf9
 v9:=Tryz.zeroValue9
 t21:=Tryz.underlying21
 a21:=Tryz.isAgg21
 z21:=Tryz.sizeOf21
 v21:=Tryz.zeroValue21
 t40:=Tryz.underlying131
 a40:=Tryz.isAgg131
 z40:=Tryz.sizeOf131
 v40:=Tryz.zeroValue131}
def layHasPRen:Go.Shelf.Ren:=⟨fun |99=>152|206=>179|n=>n,fun |3=>3|4=>4|9=>9|n=>n,fun n=>n⟩
theorem layHasP:Lays.n99 Tryz.prog layHasPRen:={
 mixed:=by kernel_rfl
 f99:=Tryz.func152.trans (congrArg some (by kernel_rfl))
 f206:=Tryz.func179.trans (congrArg some (by kernel_rfl))
 t3:=Tryz.underlying3
 a3:=Tryz.isAgg3
 z3:=Tryz.sizeOf3
 v3:=Tryz.zeroValue3
 t4:=Tryz.underlying4
 a4:=Tryz.isAgg4
 z4:=Tryz.sizeOf4
 v4:=Tryz.zeroValue4
 t9:=Tryz.underlying9
 a9:=Tryz.isAgg9
 z9:=Tryz.sizeOf9
 v9:=Tryz.zeroValue9}
def layCutRen:Go.Shelf.Ren:=⟨fun |145=>145|217=>204|219=>187|220=>173|224=>206|225=>205|266=>221|267=>207|314=>222|n=>n,fun |3=>3|4=>4|5=>5|9=>9|46=>156|51=>224|59=>162|146=>225|n=>n,fun |1=>2|n=>n⟩
theorem layCut:Lays.n145 Tryz.prog layCutRen:={
 mixed:=by kernel_rfl
 f145:=Tryz.func145.trans (congrArg some (by kernel_rfl))
 f217:=Tryz.func204.trans (congrArg some (by kernel_rfl))
 f219:=Tryz.func187.trans (congrArg some (by kernel_rfl))
 f220:=Tryz.func173.trans (congrArg some (by kernel_rfl))
 f224:=Tryz.func206.trans (congrArg some (by kernel_rfl))
 f225:=Tryz.func205.trans (congrArg some (by kernel_rfl))
 f266:=Tryz.func221.trans (congrArg some (by kernel_rfl))
 f267:=Tryz.func207.trans (congrArg some (by kernel_rfl))
 f314:=Tryz.func222.trans (congrArg some (by kernel_rfl))
 t3:=Tryz.underlying3
 a3:=Tryz.isAgg3
 z3:=Tryz.sizeOf3
 v3:=Tryz.zeroValue3
 t4:=Tryz.underlying4
 a4:=Tryz.isAgg4
 z4:=Tryz.sizeOf4
 v4:=Tryz.zeroValue4
 t5:=Tryz.underlying5
 a5:=Tryz.isAgg5
 z5:=Tryz.sizeOf5
 v5:=Tryz.zeroValue5
 t9:=Tryz.underlying9
 a9:=Tryz.isAgg9
 z9:=Tryz.sizeOf9
 v9:=Tryz.zeroValue9
 t46:=Tryz.underlying156
 a46:=Tryz.isAgg156
 z46:=Tryz.sizeOf156
 v46:=Tryz.zeroValue156
 t51:=Tryz.underlying224
 a51:=Tryz.isAgg224
 z51:=Tryz.sizeOf224
 v51:=Tryz.zeroValue224
 t59:=Tryz.underlying162
 a59:=Tryz.isAgg162
 z59:=Tryz.sizeOf162
 v59:=Tryz.zeroValue162
 t146:=Tryz.underlying225
 a146:=Tryz.isAgg225
 z146:=Tryz.sizeOf225
 v146:=Tryz.zeroValue225
 g1:=by kernel_rfl}
def layCutPRen:Go.Shelf.Ren:=⟨fun |103=>147|206=>179|210=>174|n=>n,fun |3=>3|4=>4|9=>9|24=>164|n=>n,fun n=>n⟩
theorem layCutP:Lays.n103 Tryz.prog layCutPRen:={
 mixed:=by kernel_rfl
 f103:=Tryz.func147.trans (congrArg some (by kernel_rfl))
 f206:=Tryz.func179.trans (congrArg some (by kernel_rfl))
 f210:=Tryz.func174.trans (congrArg some (by kernel_rfl))
 t3:=Tryz.underlying3
 a3:=Tryz.isAgg3
 z3:=Tryz.sizeOf3
 v3:=Tryz.zeroValue3
 t4:=Tryz.underlying4
 a4:=Tryz.isAgg4
 z4:=Tryz.sizeOf4
 v4:=Tryz.zeroValue4
 t9:=Tryz.underlying9
 a9:=Tryz.isAgg9
 z9:=Tryz.sizeOf9
 v9:=Tryz.zeroValue9
 t24:=Tryz.underlying164
 a24:=Tryz.isAgg164
 z24:=Tryz.sizeOf164
 v24:=Tryz.zeroValue164}
def layRepRen:Go.Shelf.Ren:=⟨fun |99=>152|105=>195|165=>212|166=>165|169=>42|170=>213|206=>179|212=>211|240=>192|241=>225|263=>223|264=>224|276=>208|277=>231|n=>n,fun |0=>0|3=>3|4=>4|5=>5|9=>9|20=>20|37=>72|46=>156|51=>224|53=>145|70=>71|72=>74|75=>182|76=>183|80=>78|109=>215|127=>111|146=>225|148=>228|164=>211|n=>n,fun n=>n⟩
theorem layRep:Lays.n105 Tryz.prog layRepRen:={
 mixed:=by kernel_rfl
 f99:=Tryz.func152.trans (congrArg some (by kernel_rfl))
 f105:=Tryz.func195.trans (congrArg some (by kernel_rfl))
 f165:=Tryz.func212.trans (congrArg some (by kernel_rfl))
 f166:=Tryz.func165.trans (congrArg some (by kernel_rfl))
 f169:=Tryz.func42.trans (congrArg some (by kernel_rfl))
 f170:=Tryz.func213.trans (congrArg some (by kernel_rfl))
 f206:=Tryz.func179.trans (congrArg some (by kernel_rfl))
 f212:=Tryz.func211.trans (congrArg some (by kernel_rfl))
 f240:=Tryz.func192.trans (congrArg some (by kernel_rfl))
 f241:=Tryz.func225.trans (congrArg some (by kernel_rfl))
 f263:=Tryz.func223.trans (congrArg some (by kernel_rfl))
 f264:=Tryz.func224.trans (congrArg some (by kernel_rfl))
 f276:=Tryz.func208.trans (congrArg some (by kernel_rfl))
 f277:=Tryz.func231.trans (congrArg some (by kernel_rfl))
 t0:=Tryz.underlying0
 a0:=Tryz.isAgg0
 z0:=Tryz.sizeOf0
 v0:=Tryz.zeroValue0
 t3:=Tryz.underlying3
 a3:=Tryz.isAgg3
 z3:=Tryz.sizeOf3
 v3:=Tryz.zeroValue3
 t4:=Tryz.underlying4
 a4:=Tryz.isAgg4
 z4:=Tryz.sizeOf4
 v4:=Tryz.zeroValue4
 t5:=Tryz.underlying5
 a5:=Tryz.isAgg5
 z5:=Tryz.sizeOf5
 v5:=Tryz.zeroValue5
 t9:=Tryz.underlying9
 a9:=Tryz.isAgg9
 z9:=Tryz.sizeOf9
 v9:=Tryz.zeroValue9
 t20:=Tryz.underlying20
 a20:=Tryz.isAgg20
 z20:=Tryz.sizeOf20
 v20:=Tryz.zeroValue20
 t37:=Tryz.underlying72
 a37:=Tryz.isAgg72
 z37:=Tryz.sizeOf72
 v37:=Tryz.zeroValue72
 t46:=Tryz.underlying156
 a46:=Tryz.isAgg156
 z46:=Tryz.sizeOf156
 v46:=Tryz.zeroValue156
 t51:=Tryz.underlying224
 a51:=Tryz.isAgg224
 z51:=Tryz.sizeOf224
 v51:=Tryz.zeroValue224
 t53:=Tryz.underlying145
 a53:=Tryz.isAgg145
 z53:=Tryz.sizeOf145
 v53:=Tryz.zeroValue145
 t70:=Tryz.underlying71
 a70:=Tryz.isAgg71
 z70:=Tryz.sizeOf71
 v70:=Tryz.zeroValue71
 t72:=Tryz.underlying74
 a72:=Tryz.isAgg74
 z72:=Tryz.sizeOf74
 v72:=Tryz.zeroValue74
 t75:=Tryz.underlying182
 a75:=Tryz.isAgg182
 z75:=Tryz.sizeOf182
 v75:=Tryz.zeroValue182
 t76:=Tryz.underlying183
 a76:=Tryz.isAgg183
 z76:=Tryz.sizeOf183
 v76:=Tryz.zeroValue183
 t109:=Tryz.underlying215
 a109:=Tryz.isAgg215
 z109:=Tryz.sizeOf215
 v109:=Tryz.zeroValue215
 t127:=Tryz.underlying111
 a127:=Tryz.isAgg111
 z127:=Tryz.sizeOf111
 v127:=Tryz.zeroValue111
 t146:=Tryz.underlying225
 a146:=Tryz.isAgg225
 z146:=Tryz.sizeOf225
 v146:=Tryz.zeroValue225
 t148:=Tryz.underlying228
 a148:=Tryz.isAgg228
 z148:=Tryz.sizeOf228
 v148:=Tryz.zeroValue228
 t164:=Tryz.underlying211
 a164:=Tryz.isAgg211
 z164:=Tryz.sizeOf211
 v164:=Tryz.zeroValue211}
theorem layRepX:Builder.Extra Tryz.prog layRepRen:={
 sizeBuilder:=by kernel_rfl
 liesBuilder:=by kernel_rfl
 t5:=Tryz.underlying5
 a5:=Tryz.isAgg5
 z5:=Tryz.sizeOf5
 v5:=Tryz.zeroValue5
 infoByte:=by kernel_rfl
 cellsByte:=by kernel_rfl
 sizeByte:=by kernel_rfl
 neB5:=by decide}
--TAIL
end Char
namespace Char
open Go.Lib
def allN (p:Int→Bool):Nat→List UInt8→Bool
 |0,_=>true
 |n+1,l=>if l=[] then true else p ((decodeL l).1:Int)&&allN p n (l.drop (decodeL l).2)
def allR (p:Int→Bool)(l:List UInt8):Bool:=allN p l.length l
theorem allN_nil (p:Int→Bool):∀n,allN p n []=true
 |0=>rfl
 |_+1=>by simp[allN]
theorem allN_fuel (p:Int→Bool):∀(n m:Nat) (l:List UInt8),l.length≤n→l.length≤m→allN p n l=allN p m l
 |0,m,l,hn,_=>by
  obtain rfl:l=[]:=List.eq_nil_of_length_eq_zero (by omega)
  rw[allN_nil,allN_nil]
 |n+1,0,l,_,hm=>by
  obtain rfl:l=[]:=List.eq_nil_of_length_eq_zero (by omega)
  rw[allN_nil,allN_nil]
 |n+1,m+1,l,hn,hm=>by
  unfold allN
  by_cases hne:l=[]
  ·simp[hne]
  ·have hw:=decodeL_width l
   have hl:0<l.length:=List.length_pos_iff.2 hne
   rw[if_neg hne,if_neg hne,allN_fuel p n m (l.drop (decodeL l).2) (by rw[List.length_drop];omega) (by rw[List.length_drop];omega)]
theorem allR_nil (p:Int→Bool):allR p []=true:=rfl
theorem allR_step (p:Int→Bool)(l:List UInt8)(hne:l≠[]):allR p l=(p ((decodeL l).1:Int)&&allR p (l.drop (decodeL l).2)):=by
 have hl:0<l.length:=List.length_pos_iff.2 hne
 have hw:=decodeL_width l
 obtain⟨n,hn⟩:∃n,l.length=n+1:=⟨l.length-1,by omega⟩
 unfold allR
 rw[hn]
 show(if l=[] then true else _)=_
 rw[if_neg hne,allN_fuel p n (l.drop (decodeL l).2).length _ (by rw[List.length_drop];omega) (Nat.le_refl _)]
theorem allR_and (p q:Int→Bool):∀(n:Nat) (l:List UInt8),l.length≤n→(allR (fun r=>p r&&q r) l=(allR p l&&allR q l))
 |0,l,h=>by
  obtain rfl:l=[]:=List.eq_nil_of_length_eq_zero (by omega)
  rfl
 |n+1,l,h=>by
  by_cases hne:l=[]
  ·subst hne;rfl
  ·have hw:=decodeL_width l
   rw[allR_step _ l hne,allR_step p l hne,allR_step q l hne,allR_and p q n _ (by rw[List.length_drop];omega)]
   cases p ((decodeL l).1:Int)<;>cases q ((decodeL l).1:Int)<;>simp
theorem allR_imp (p q:Int→Bool)(h:∀r,p r=true→q r=true):∀(n:Nat) (l:List UInt8),l.length≤n→allR p l=true→allR q l=true
 |0,l,hl,_=>by
  obtain rfl:l=[]:=List.eq_nil_of_length_eq_zero (by omega)
  rfl
 |n+1,l,hl,ha=>by
  by_cases hne:l=[]
  ·subst hne;rfl
  ·have hw:=decodeL_width l
   rw[allR_step p l hne,Bool.and_eq_true]at ha
   rw[allR_step q l hne,Bool.and_eq_true]
   exact⟨h _ ha.1,allR_imp p q h n _ (by rw[List.length_drop];omega) ha.2⟩
theorem decode_drop (s:ByteArray)(pos:Nat):Utf8.decode s pos=decodeL (s.data.toList.drop pos):=(decodeL_drop s pos).symm
theorem drop_ne (s:ByteArray)(pos:Nat)(h:pos<s.size):s.data.toList.drop pos≠[]:=by
 have e:s.data.toList.length=s.size:=by rw[Array.length_toList];rfl
 intro h0
 have :=congrArg List.length h0
 simp at this
 have e2:s.data.size=s.size:=rfl
 omega
theorem drop_end (s:ByteArray)(pos:Nat)(h:¬pos<s.size):s.data.toList.drop pos=[]:=by
 apply List.drop_eq_nil_of_le
 have e:s.data.toList.length=s.size:=by rw[Array.length_toList];rfl
 omega
theorem allR_at (p:Int→Bool)(s:ByteArray)(pos:Nat)(h:pos<s.size):
 allR p (s.data.toList.drop pos)=(p ((Utf8.decode s pos).1:Int)&&allR p (s.data.toList.drop (pos+(Utf8.decode s pos).2))):=by
 rw[allR_step p _ (drop_ne s pos h),decode_drop,List.drop_drop]
theorem int32_lo {a:Int}(h:(Lit.int .i32 a).wf=true): -2147483648≤a:=by
 have : -2147483648≤a∧a≤2147483647:=by simpa [Lit.wf,IntKind.min,IntKind.max,IntKind.signed,IntKind.bits] using h
 exact this.1
theorem int32_hi {a:Int}(h:(Lit.int .i32 a).wf=true):a≤2147483647:=by
 have : -2147483648≤a∧a≤2147483647:=by simpa [Lit.wf,IntKind.min,IntKind.max,IntKind.signed,IntKind.bits] using h
 exact this.2
end Char
namespace Char
open Go.RowKit
def inP:List Int→Int→Bool
 |a::b::r,n=>(decide (a≤n)&&decide (n≤b))||inP r n
 |_,_=>false
theorem inP_step (zs:List Int)(n:Int)(k:Nat)(h:k+1<zs.length):
 inP (zs.drop k) n=((decide (zs.getD k 0≤n)&&decide (n≤zs.getD (k+1) 0))||inP (zs.drop (k+2)) n):=by
 have e1:zs.drop k=zs.getD k 0::zs.getD (k+1) 0::zs.drop (k+2):=by
  rw[List.drop_eq_getElem_cons (by omega:k<zs.length),List.drop_eq_getElem_cons (by omega:k+1<zs.length)]
  simp[List.getD,List.getElem?_eq_getElem h,List.getElem?_eq_getElem (by omega:k<zs.length)]
 rw[e1]
 rfl
theorem inP_end (zs:List Int)(n:Int)(k:Nat)(h:¬k+1<zs.length):inP (zs.drop k) n=false:=by
 have :(zs.drop k).length≤1:=by simp;omega
 match zs.drop k,this with
 |[],_=>rfl
 |[_],_=>rfl
 |_::_::_,h2=>simp at h2
def isL:List Int:=[9,9,10,10,13,13,32,0xd7ff,0xe000,0xfffd,0x10000,0x10ffff]
def stL:List Int:=[0x41,0x5a,0x5f,0x5f,0x61,0x7a,0xc0,0xd6,0xd8,0xf6,0xf8,0x2ff,0x370,0x37d,0x37f,0x1fff,0x200c,0x200d,0x2070,0x218f,0x2c00,0x2fef,0x3001,0xd7ff,0xf900,0xfdcf,0xfdf0,0xfffd,0x10000,0xeffff]
def paL:List Int:=[0x2d,0x2e,0x30,0x39,0xb7,0xb7,0x300,0x36f,0x203f,0x2040]
def isC (n:Int):Bool:=inP isL n
def stC (n:Int):Bool:=inP stL n
def paC (n:Int):Bool:=stC n||inP paL n
def spC (n:Int):Bool:=n==9||n==10||n==13||n==32
end Char
namespace Char
open Go.RowKit
def txD (l:List UInt8):Bool:=Lib.validD l&&allR isC l
def nmD (s:ByteArray):Bool:=decide (0<s.size)&&decide (s.size≤32)&&txD s.data.toList&&(stC ((Utf8.decode s 0).1:Int)&&allR paC s.data.toList)
theorem pa_is (n:Int)(h:paC n=true):isC n=true:=by
 unfold paC stC isC isL stL paL at *
 simp only[inP]at *
 simp only[Bool.or_eq_true,Bool.and_eq_true,decide_eq_true_eq,Bool.false_eq_true,or_false]at *
 omega
theorem pa_sp (n:Int)(h:paC n=true):spC n=false:=by
 unfold paC stC stL paL at h
 unfold spC
 simp only[inP]at h
 simp only[Bool.or_eq_true,Bool.and_eq_true,decide_eq_true_eq,Bool.false_eq_true,or_false]at h
 simp only[Bool.or_eq_false_iff,beq_eq_false_iff_ne]
 omega
theorem size_list (s:ByteArray):s.data.toList.length=s.size:=by rw[Array.length_toList];rfl
end Char
namespace Char
open Go.Lib
set_option maxRecDepth 100000 in
set_option maxHeartbeats 4000000 in
theorem decodeN_more (n n' b0 b1 b2 b3 c1 c2 c3:Nat)(hn:n≤n')(h1:1<n→c1=b1)(h2:2<n→c2=b2)(h3:3<n→c3=b3)
 (hv:¬((decodeN n b0 b1 b2 b3).1=65533∧(decodeN n b0 b1 b2 b3).2=1)):decodeN n' b0 c1 c2 c3=decodeN n b0 b1 b2 b3:=by
 by_cases a0:b0<128
 ·simp only[decodeN,if_pos a0]
 by_cases a1:b0/32=6∧(1<n∧b1/64=2)
 ·have e1:=h1 a1.2.1
  subst e1
  have a1':b0/32=6∧(1<n'∧c1/64=2):=⟨a1.1,by omega,a1.2.2⟩
  simp only[decodeN,if_neg a0,if_pos a1,if_pos a1']
 by_cases a2:b0/16=14∧(1<n∧b1/64=2)∧(2<n∧b2/64=2)
 ·have e1:=h1 a2.2.1.1
  have e2:=h2 a2.2.2.1
  subst e1 e2
  have x1:¬(b0/32=6∧(1<n'∧c1/64=2)):=by omega
  have a2':b0/16=14∧(1<n'∧c1/64=2)∧(2<n'∧c2/64=2):=⟨a2.1,⟨by omega,a2.2.1.2⟩,by omega,a2.2.2.2⟩
  simp only[decodeN,if_neg a0,if_neg a1,if_neg x1,if_pos a2,if_pos a2']
 by_cases a3:b0/8=30∧(1<n∧b1/64=2)∧(2<n∧b2/64=2)∧(3<n∧b3/64=2)
 ·have e1:=h1 a3.2.1.1
  have e2:=h2 a3.2.2.1.1
  have e3:=h3 a3.2.2.2.1
  subst e1 e2 e3
  have x1:¬(b0/32=6∧(1<n'∧c1/64=2)):=by omega
  have x2:¬(b0/16=14∧(1<n'∧c1/64=2)∧(2<n'∧c2/64=2)):=by omega
  have a3':b0/8=30∧(1<n'∧c1/64=2)∧(2<n'∧c2/64=2)∧(3<n'∧c3/64=2):=⟨a3.1,⟨by omega,a3.2.1.2⟩,⟨by omega,a3.2.2.1.2⟩,by omega,a3.2.2.2.2⟩
  simp only[decodeN,if_neg a0,if_neg a1,if_neg a2,if_neg x1,if_neg x2,if_pos a3,if_pos a3']
 ·exfalso
  apply hv
  simp only[decodeN,if_neg a0,if_neg a1,if_neg a2,if_neg a3]
  exact⟨trivial,trivial⟩
theorem decodeL_more (a b:List UInt8)(hne:a≠[])(hv:¬((decodeL a).1=65533∧(decodeL a).2=1)):decodeL (a++b)=decodeL a:=by
 have hl:0<a.length:=List.length_pos_iff.2 hne
 have hg:∀j,j<a.length→((a++b).getD j 0)=a.getD j 0:=fun j hj=>by
  simp[List.getD,List.getElem?_append_left hj]
 rw[decodeL_N]at hv
 rw[decodeL_N,decodeL_N,hg 0 hl]
 exact decodeN_more _ _ _ _ _ _ _ _ _ (by simp) (fun h=>by rw[hg 1 h]) (fun h=>by rw[hg 2 h]) (fun h=>by rw[hg 3 h]) hv
theorem validD_more:∀(n:Nat) (a b:List UInt8),a.length≤n→validD a=true→validD (a++b)=validD b
 |0,a,b,hl,_=>by
  obtain rfl:a=[]:=List.eq_nil_of_length_eq_zero (by omega)
  rfl
 |n+1,a,b,hl,hv=>by
  by_cases hne:a=[]
  ·subst hne;rfl
  ·have hw:=decodeL_width a
   have hle:=decodeL_le a hne
   rw[validD_step a hne]at hv
   by_cases hb:(decodeL a).1=65533∧(decodeL a).2=1
   ·rw[if_pos hb]at hv;cases hv
   ·rw[if_neg hb]at hv
    rw[validD_step (a++b) (by simp[hne]),decodeL_more a b hne hb,if_neg hb,List.drop_append_of_le_length hle]
    exact validD_more n _ b (by rw[List.length_drop];omega) hv
theorem allR_more (p:Int→Bool):∀(n:Nat) (a b:List UInt8),a.length≤n→validD a=true→allR p (a++b)=(allR p a&&allR p b)
 |0,a,b,hl,_=>by
  obtain rfl:a=[]:=List.eq_nil_of_length_eq_zero (by omega)
  rfl
 |n+1,a,b,hl,hv=>by
  by_cases hne:a=[]
  ·subst hne;rfl
  ·have hw:=decodeL_width a
   have hle:=decodeL_le a hne
   rw[validD_step a hne]at hv
   by_cases hb:(decodeL a).1=65533∧(decodeL a).2=1
   ·rw[if_pos hb]at hv;cases hv
   ·rw[if_neg hb]at hv
    rw[allR_step p (a++b) (by simp[hne]),decodeL_more a b hne hb,List.drop_append_of_le_length hle,allR_more p n _ b (by rw[List.length_drop];omega) hv,allR_step p a hne,Bool.and_assoc]
theorem spC_high (n:Int)(h:128≤n):spC n=false:=by
 unfold spC
 simp only[Bool.or_eq_false_iff,beq_eq_false_iff_ne]
 omega
theorem decodeL_high (b:UInt8)(t:List UInt8)(h:¬b.toNat<128):128≤(decodeL (b::t)).1:=by
 have :=(decode_high ⟨(b::t).toArray⟩ 0 (by show 0<(b::t).toArray.size;simp) (by
  show 128≤((b::t).toArray[0]'(by simp)).toNat
  simp;omega)).1
 exact this
theorem blank_bytes:∀(n:Nat) (l:List UInt8),l.length≤n→allR spC l=l.all fun c=>spC (c.toNat:Int)
 |0,l,h=>by
  obtain rfl:l=[]:=List.eq_nil_of_length_eq_zero (by omega)
  rfl
 |n+1,[],_=>rfl
 |n+1,c::t,h=>by
  rw[allR_step spC _ (by simp),List.all_cons]
  by_cases hc:c.toNat<128
  ·rw[decodeL_ascii c t hc]
   simp only[List.drop_succ_cons,List.drop_zero]
   rw[blank_bytes n t (by simpa using h)]
  ·have h1:=decodeL_high c t hc
   rw[spC_high _ (by omega),spC_high (c.toNat:Int) (by omega)]
   rfl
theorem blank_join (a b:List UInt8):allR spC (a++b)=(allR spC a&&allR spC b):=by
 rw[blank_bytes _ _ (Nat.le_refl _),blank_bytes _ a (Nat.le_refl _),blank_bytes _ b (Nat.le_refl _),List.all_append]
end Char
namespace Char
open Go.RowKit Go.Lib
def oneN (n b0 b1 b2 b3:Nat):Nat×Nat:=if (decodeN n b0 b1 b2 b3).1=65533∧(decodeN n b0 b1 b2 b3).2=1 then (0,0) else decodeN n b0 b1 b2 b3
def oneL (l:List UInt8):Nat×Nat:=if l=[] then (0,0) else if (decodeL l).1=65533∧(decodeL l).2=1 then (0,0) else decodeL l
def byt (l:List UInt8)(j:Nat):Nat:=(l.getD j 0).toNat
theorem oneL_N (l:List UInt8)(h:l≠[]):oneL l=oneN l.length (byt l 0) (byt l 1) (byt l 2) (byt l 3):=by
 unfold oneL oneN byt
 rw[if_neg h,decodeL_N]
theorem one_low (n b0 b1 b2 b3:Nat)(h:b0<128):oneN n b0 b1 b2 b3=(b0,1):=by
 unfold oneN
 simp only[decodeN,if_pos h]
 rw[if_neg (by omega)]
theorem one_none (n b0 b1 b2 b3:Nat)(h:¬b0<128)(h2:b0/32≠6)(h3:b0/16≠14)(h4:b0/8≠30):oneN n b0 b1 b2 b3=(0,0):=by
 unfold oneN
 simp only[decodeN,if_neg h,if_neg (show ¬(b0/32=6∧(1<n∧b1/64=2)) by omega),if_neg (show ¬(b0/16=14∧(1<n∧b1/64=2)∧(2<n∧b2/64=2)) by omega),
  if_neg (show ¬(b0/8=30∧(1<n∧b1/64=2)∧(2<n∧b2/64=2)∧(3<n∧b3/64=2)) by omega)]
 rfl
theorem one_two (n b0 b1 b2 b3:Nat)(h:192≤b0∧b0<224):oneN n b0 b1 b2 b3=
 if 1<n∧(128≤b1∧b1≤191) then (if (b0-192)*64+(b1-128)<128 then (0,0) else ((b0-192)*64+(b1-128),2)) else (0,0):=by
 unfold oneN
 have x1:¬b0<128:=by omega
 have x3:¬(b0/16=14∧(1<n∧b1/64=2)∧(2<n∧b2/64=2)):=by omega
 have x4:¬(b0/8=30∧(1<n∧b1/64=2)∧(2<n∧b2/64=2)∧(3<n∧b3/64=2)):=by omega
 by_cases c:1<n∧128≤b1∧b1≤191
 ·have x2:b0/32=6∧(1<n∧b1/64=2):=by omega
  simp only[decodeN,if_neg x1,if_pos x2]
  rw[if_pos c]
  by_cases d:(b0-192)*64+(b1-128)<128
  ·rw[if_pos d,if_neg (show ¬(b0%32*64+b1%64≥128) by omega)]
   rfl
  ·rw[if_neg d,if_pos (show b0%32*64+b1%64≥128 by omega),if_neg (by simp)]
   apply Prod.ext<;>simp only <;>omega
 ·have x2:¬(b0/32=6∧(1<n∧b1/64=2)):=by omega
  simp only[decodeN,if_neg x1,if_neg x2,if_neg x3,if_neg x4]
  rw[if_neg c]
  rfl
set_option maxRecDepth 100000 in
theorem one_three (n b0 b1 b2 b3:Nat)(h:224≤b0∧b0<240):oneN n b0 b1 b2 b3=
 if 2<n∧(128≤b1∧b1≤191)∧(128≤b2∧b2≤191) then (if (b0-224)*4096+(b1-128)*64+(b2-128)<2048∨(55296≤(b0-224)*4096+(b1-128)*64+(b2-128)∧(b0-224)*4096+(b1-128)*64+(b2-128)≤57343) then (0,0)
  else ((b0-224)*4096+(b1-128)*64+(b2-128),3)) else (0,0):=by
 unfold oneN
 have x1:¬b0<128:=by omega
 have x2:¬(b0/32=6∧(1<n∧b1/64=2)):=by omega
 have x4:¬(b0/8=30∧(1<n∧b1/64=2)∧(2<n∧b2/64=2)∧(3<n∧b3/64=2)):=by omega
 by_cases c:2<n∧(128≤b1∧b1≤191)∧128≤b2∧b2≤191
 ·have x3:b0/16=14∧(1<n∧b1/64=2)∧(2<n∧b2/64=2):=by omega
  simp only[decodeN,if_neg x1,if_neg x2,if_pos x3]
  rw[if_pos c]
  have e:b0%16*4096+b1%64*64+b2%64=(b0-224)*4096+(b1-128)*64+(b2-128):=by omega
  rw[e]
  generalize (b0-224)*4096+(b1-128)*64+(b2-128)=v at *
  have hv:v≤65535:=by omega
  by_cases d:v<2048∨(55296≤v∧v≤57343)
  ·rw[if_pos d,if_neg (show ¬(v≥2048∧(v<55296∨57344≤v∧v≤1114111)) by omega)]
   rfl
  ·rw[if_neg d,if_pos (show v≥2048∧(v<55296∨57344≤v∧v≤1114111) by omega),if_neg (by simp)]
 ·have x3:¬(b0/16=14∧(1<n∧b1/64=2)∧(2<n∧b2/64=2)):=by omega
  simp only[decodeN,if_neg x1,if_neg x2,if_neg x3,if_neg x4]
  rw[if_neg c]
  rfl
set_option maxRecDepth 100000 in
theorem one_four (n b0 b1 b2 b3:Nat)(h:240≤b0∧b0<248):oneN n b0 b1 b2 b3=
 if 3<n∧(128≤b1∧b1≤191)∧(128≤b2∧b2≤191)∧(128≤b3∧b3≤191) then (if (b0-240)*262144+(b1-128)*4096+(b2-128)*64+(b3-128)<65536∨1114111<(b0-240)*262144+(b1-128)*4096+(b2-128)*64+(b3-128) then (0,0)
  else ((b0-240)*262144+(b1-128)*4096+(b2-128)*64+(b3-128),4)) else (0,0):=by
 unfold oneN
 have x1:¬b0<128:=by omega
 have x2:¬(b0/32=6∧(1<n∧b1/64=2)):=by omega
 have x3:¬(b0/16=14∧(1<n∧b1/64=2)∧(2<n∧b2/64=2)):=by omega
 by_cases c:3<n∧(128≤b1∧b1≤191)∧(128≤b2∧b2≤191)∧128≤b3∧b3≤191
 ·have x4:b0/8=30∧(1<n∧b1/64=2)∧(2<n∧b2/64=2)∧(3<n∧b3/64=2):=by omega
  simp only[decodeN,if_neg x1,if_neg x2,if_neg x3,if_pos x4]
  rw[if_pos c]
  have e:b0%8*262144+b1%64*4096+b2%64*64+b3%64=(b0-240)*262144+(b1-128)*4096+(b2-128)*64+(b3-128):=by omega
  rw[e]
  clear e
  generalize (b0-240)*262144+(b1-128)*4096+(b2-128)*64+(b3-128)=v
  by_cases d:v<65536∨1114111<v
  ·rw[if_pos d,if_neg (show ¬(v≥65536∧(v<55296∨57344≤v∧v≤1114111)) by omega)]
   rfl
  ·rw[if_neg d,if_pos (show v≥65536∧(v<55296∨57344≤v∧v≤1114111) by omega),if_neg (by simp)]
 ·have x4:¬(b0/8=30∧(1<n∧b1/64=2)∧(2<n∧b2/64=2)∧(3<n∧b3/64=2)):=by omega
  simp only[decodeN,if_neg x1,if_neg x2,if_neg x3,if_neg x4]
  rw[if_neg c]
  rfl
end Char
namespace Char
open Go.Lib
def lnL (t:List UInt8):List UInt8:=if [10].isPrefixOf t then t.drop 1 else t
theorem ln_le (t:List UInt8):(lnL t).length≤t.length:=by
 unfold lnL
 split
 ·rw[List.length_drop];omega
 ·exact Nat.le_refl _
def linesN:Nat→List UInt8→List UInt8
 |0,_=>[]
 |_+1,[]=>[]
 |n+1,b::t=>if b=13 then 10::linesN n (lnL t) else b::linesN n t
theorem linesN_fuel:∀(n m:Nat) (l:List UInt8),l.length≤n→l.length≤m→linesN n l=linesN m l
 |0,0,_,_,_=>rfl
 |0,m+1,l,hn,_=>by
  obtain rfl:l=[]:=List.eq_nil_of_length_eq_zero (by omega)
  rfl
 |n+1,0,l,_,hm=>by
  obtain rfl:l=[]:=List.eq_nil_of_length_eq_zero (by omega)
  rfl
 |n+1,m+1,[],_,_=>rfl
 |n+1,m+1,b::t,hn,hm=>by
  rw[List.length_cons]at hn hm
  have :=ln_le t
  unfold linesN
  rw[linesN_fuel n m t (by omega) (by omega),linesN_fuel n m (lnL t) (by omega) (by omega)]
def linesL (l:List UInt8):List UInt8:=linesN l.length l
theorem lines_nil:linesL []=[]:=rfl
theorem lines_cr (t:List UInt8):linesL (13::t)=10::linesL (lnL t):=by
 have :=ln_le t
 unfold linesL
 rw[List.length_cons]
 conv=>lhs;unfold linesN
 rw[if_pos rfl,linesN_fuel t.length (lnL t).length (lnL t) this (Nat.le_refl _)]
theorem lines_o {b:UInt8}(t:List UInt8)(h:b≠13):linesL (b::t)=b::linesL t:=by
 unfold linesL
 rw[List.length_cons]
 conv=>lhs;unfold linesN
 rw[if_neg h]
theorem lines_le:∀(n:Nat) (l:List UInt8),l.length≤n→(linesL l).length≤l.length
 |_,[],_=>Nat.le_refl _
 |0,b::t,h=>by simp at h
 |n+1,b::t,h=>by
  rw[List.length_cons]at h
  by_cases hb:b=13
  ·subst hb
   have h1:=ln_le t
   have h2:=lines_le n (lnL t) (by omega)
   rw[lines_cr,List.length_cons,List.length_cons]
   omega
  ·have h2:=lines_le n t (by omega)
   rw[lines_o t hb,List.length_cons,List.length_cons]
   omega
def fnd (l t:List UInt8)(p:Nat):Int:=if index (l.drop p) t= -1 then -1 else (p:Int)+index (l.drop p) t
theorem fnd_here {l t:List UInt8}{p:Nat}(h:t.isPrefixOf (l.drop p)=true):fnd l t p=(p:Int):=by
 have e:index (l.drop p) t=0:=by
  cases hd:l.drop p with
  |nil=>
   rw[hd]at h
   have :t=[]:=by cases t with |nil=>rfl|cons _ _=>simp[List.isPrefixOf]at h
   subst this
   rfl
  |cons b r=>
   rw[hd]at h
   unfold index
   rw[h]
   rfl
 unfold fnd
 rw[e,if_neg (by omega)]
 omega
theorem fnd_next {l t:List UInt8}{p:Nat}(hp:p<l.length)(h:t.isPrefixOf (l.drop p)=false):fnd l t p=fnd l t (p+1):=by
 have hd:=List.drop_eq_getElem_cons hp
 rw[hd]at h
 have e:index (l.drop p) t=if index (l.drop (p+1)) t== -1 then -1 else index (l.drop (p+1)) t+1:=by
  rw[hd]
  conv=>lhs;unfold index
  rw[h]
  rfl
 have hg:=index_ge (l.drop (p+1)) t
 unfold fnd
 rw[e]
 by_cases h1:index (l.drop (p+1)) t= -1
 ·rw[h1];rfl
 ·rw[if_neg h1,if_neg (show ¬(index (l.drop (p+1)) t== -1)=true by simpa using h1),if_neg (by omega)]
  omega
theorem fnd_end {l t:List UInt8}{p:Nat}(h:l.length<p+t.length)(ht:0<t.length):fnd l t p= -1:=by
 have e:index (l.drop p) t= -1:=by
  refine index_none (fun j hj=> ?_)
  rw[List.length_drop]at hj
  cases ho:occAt (l.drop p) t j with
  |false=>rfl
  |true=>
   rcases occAt_room ho with h1|h1
   ·rw[List.length_drop]at h1;omega
   ·rw[h1]at ht;simp at ht
 unfold fnd
 rw[if_pos e]
theorem pre_take (t r:List UInt8)(h:t.length≤r.length):t.isPrefixOf r=(r.take t.length==t):=by
 have :=occAt_iff_take r t 0 (by omega)
 unfold occAt at this
 simpa using this
theorem pre_short {t r:List UInt8}(h:r.length<t.length):t.isPrefixOf r=false:=by
 cases hp:t.isPrefixOf r with
 |false=>rfl
 |true=>
  have :=(List.isPrefixOf_iff_prefix.1 hp).length_le
  omega
theorem fnd_range {l t:List UInt8}{p:Nat}(h:fnd l t p≠ -1)(hp:p≤l.length):(p:Int)≤fnd l t p∧fnd l t p+t.length≤l.length:=by
 unfold fnd at h ⊢
 by_cases e:index (l.drop p) t= -1
 ·rw[if_pos e]at h;exact absurd rfl h
 ·rw[if_neg e]at h ⊢
  have hg:=index_ge (l.drop p) t
  refine⟨by omega,?_⟩
  have key:∀(s:List UInt8),index s t≠ -1→index s t+t.length≤s.length:=by
   intro s
   induction s with
   |nil=>
    intro hs
    unfold index at hs ⊢
    cases t with
    |nil=>simp
    |cons _ _=>simp at hs
   |cons b s ih=>
    intro hs
    unfold index at hs ⊢
    by_cases hpre:t.isPrefixOf (b::s)=true
    ·rw[if_pos hpre]
     have :=(List.isPrefixOf_iff_prefix.1 hpre).length_le
     omega
    ·rw[if_neg hpre]at hs ⊢
     by_cases h1:index s t= -1
     ·rw[h1]at hs;exact absurd rfl hs
     ·rw[if_neg (show ¬(index s t== -1)=true by simpa using h1)]
      have :=ih h1
      rw[List.length_cons]
      omega
  have :=key _ e
  rw[List.length_drop]at this
  omega
def runN:Nat→List UInt8→Nat
 |0,_=>0
 |n+1,l=>if (oneL l).2=0 then 0 else if paC ((oneL l).1:Int) then (oneL l).2+runN n (l.drop (oneL l).2) else 0
theorem one_le (l:List UInt8):(oneL l).2≤l.length:=by
 unfold oneL
 split
 ·exact Nat.zero_le _
 ·split
  ·exact Nat.zero_le _
  ·rename_i h _
   exact decodeL_le l h
theorem runN_fuel:∀(n m:Nat) (l:List UInt8),l.length≤n→l.length≤m→runN n l=runN m l
 |0,0,_,_,_=>rfl
 |0,m+1,l,hn,_=>by
  obtain rfl:l=[]:=List.eq_nil_of_length_eq_zero (by omega)
  rfl
 |n+1,0,l,_,hm=>by
  obtain rfl:l=[]:=List.eq_nil_of_length_eq_zero (by omega)
  rfl
 |n+1,m+1,l,hn,hm=>by
  unfold runN
  by_cases h:(oneL l).2=0
  ·rw[if_pos h,if_pos h]
  ·have :=one_le l
   rw[if_neg h,if_neg h,runN_fuel n m _ (by rw[List.length_drop];omega) (by rw[List.length_drop];omega)]
def runL (l:List UInt8):Nat:=runN l.length l
theorem run_nil:runL []=0:=rfl
theorem run_stop {l:List UInt8}(h:(oneL l).2=0∨paC ((oneL l).1:Int)=false):runL l=0:=by
 unfold runL
 cases l with
 |nil=>rfl
 |cons b t=>
  rw[List.length_cons]
  unfold runN
  rcases h with h|h
  ·rw[if_pos h]
  ·split
   ·rfl
   ·rw[h];rfl
theorem run_go {l:List UInt8}(h:(oneL l).2≠0)(hp:paC ((oneL l).1:Int)=true):runL l=(oneL l).2+runL (l.drop (oneL l).2):=by
 have hle:=one_le l
 obtain⟨n,hn⟩:∃n,l.length=n+1:=⟨l.length-1,by omega⟩
 unfold runL
 rw[hn]
 conv=>lhs;unfold runN
 rw[if_neg h,if_pos hp,runN_fuel n (l.drop (oneL l).2).length _ (by rw[List.length_drop];omega) (Nat.le_refl _)]
theorem run_le:∀(n:Nat) (l:List UInt8),l.length≤n→runL l≤l.length
 |0,l,h=>by
  obtain rfl:l=[]:=List.eq_nil_of_length_eq_zero (by omega)
  exact Nat.le_refl _
 |n+1,l,h=>by
  by_cases h0:(oneL l).2=0∨paC ((oneL l).1:Int)=false
  ·rw[run_stop h0];exact Nat.zero_le _
  ·have hle:=one_le l
   have h1:(oneL l).2≠0:=fun h=>h0 (.inl h)
   have h2:paC ((oneL l).1:Int)=true:=by
    cases hp:paC ((oneL l).1:Int) with
    |true=>rfl
    |false=>exact absurd (.inr hp) h0
   have ih:=run_le n (l.drop (oneL l).2) (by rw[List.length_drop];omega)
   rw[run_go h1 h2]
   rw[List.length_drop]at ih
   omega
def spcL (l:List UInt8):Nat:=(l.takeWhile fun b=>spC (b.toNat:Int)).length
theorem spc_cons (b:UInt8)(t:List UInt8):spcL (b::t)=if spC (b.toNat:Int) then spcL t+1 else 0:=by
 unfold spcL
 rw[List.takeWhile_cons]
 split<;>rfl
theorem spc_le (l:List UInt8):spcL l≤l.length:=(List.takeWhile_prefix _).length_le
def smallB (c:UInt8):UInt8:=if 65≤c.toNat∧c.toNat≤90 then c+32 else c
def smallL (l:List UInt8):List UInt8:=l.map smallB
def mustL (r:List UInt8)(c:UInt8):Nat:=match r with
 |[]=>16
 |b::_=>if b=c then 0 else 13
end Char
namespace Char
open Go.Lib
def stdL (attr:Bool)(b:UInt8):List UInt8:=
 if b=38 then [38,97,109,112,59] else if b=60 then [38,108,116,59] else if b=13 then [38,35,49,51,59]
 else if b=62∧attr=false then [38,103,116,59] else if b=34∧attr=true then [38,113,117,111,116,59]
 else if b=9∧attr=true then [38,35,57,59] else if b=10∧attr=true then [38,35,49,48,59] else [b]
def putL (attr:Bool)(l:List UInt8):List UInt8:=l.flatMap (stdL attr)
theorem putL_cons (attr:Bool)(b:UInt8)(t:List UInt8):putL attr (b::t)=stdL attr b++putL attr t:=by simp[putL]
theorem putL_nil (attr:Bool):putL attr []=[]:=rfl
theorem stdL_le (attr:Bool)(b:UInt8):(stdL attr b).length≤6:=by
 unfold stdL
 repeat' split
 all_goals simp
theorem putL_le (attr:Bool):∀l:List UInt8,(putL attr l).length≤6*l.length
 |[]=>by simp[putL]
 |b::t=>by
  have h1:=stdL_le attr b
  have h2:=putL_le attr t
  rw[putL_cons,List.length_append,List.length_cons]
  omega
theorem putL_snoc (attr:Bool)(a:List UInt8)(b:UInt8):putL attr (a++[b])=putL attr a++stdL attr b:=by simp[putL]
def dgV (b:UInt8):Nat:=
 if 48≤b.toNat∧b.toNat≤57 then b.toNat-48 else if 97≤b.toNat∧b.toNat≤102 then b.toNat-87 else if 65≤b.toNat∧b.toNat≤70 then b.toNat-55 else 99
def valN (base:Nat):Nat→List UInt8→Option Nat
 |n,[]=>some n
 |n,b::t=>if dgV b<base then valN base (n*base+dgV b) t else none
def chrN (base:Nat)(l:List UInt8):Option Nat:=
 if l=[] then none else (valN base 0 l).bind fun n=>if isC (n:Int) then some n else none
def chL (s:List UInt8):Option Nat:=
 if s=[97,109,112] then some 38 else if s=[108,116] then some 60 else if s=[103,116] then some 62
 else if s=[113,117,111,116] then some 34 else if s=[97,112,111,115] then some 39
 else if [35,120].isPrefixOf s then chrN 16 (s.drop 2) else if [35].isPrefixOf s then chrN 10 (s.drop 1) else none
def noS (b:UInt8):Bool:=b != 59
def refL (t:List UInt8):Option (Nat×List UInt8):=
 if t.all noS then none else (chL (t.takeWhile noS)).map fun n=>(n,(t.dropWhile noS).drop 1)
def stp (attr:Bool):List UInt8→Nat ⊕ (List UInt8×List UInt8)
 |[]=> .inl 0
 |b::t=>
  if b=60 then .inl 13
  else if b=38 then match refL t with
   |some (n,r)=> .inr (encodeRune (n:Int),r)
   |none=> .inl 12
  else if b=13 then .inr ([if attr then 32 else 10],if [10].isPrefixOf t then t.drop 1 else t)
  else .inr ([if attr∧(b=9∨b=10) then 32 else b],t)
theorem stp_cons (attr:Bool)(b:UInt8)(t:List UInt8):stp attr (b::t)=
 if b=60 then .inl 13
 else if b=38 then match refL t with
  |some (n,r)=> .inr (encodeRune (n:Int),r)
  |none=> .inl 12
 else if b=13 then .inr ([if attr then 32 else 10],if [10].isPrefixOf t then t.drop 1 else t)
 else .inr ([if attr∧(b=9∨b=10) then 32 else b],t):=rfl
theorem refL_le {t r:List UInt8}{n:Nat}(h:refL t=some (n,r)):r.length≤t.length:=by
 unfold refL at h
 split at h
 ·cases h
 ·have h1:=(List.dropWhile_suffix (l:=t) noS).length_le
  cases hc:chL (t.takeWhile noS) with
  |none=>rw[hc]at h;cases h
  |some m=>
   rw[hc]at h
   simp only[Option.map_some,Option.some.injEq,Prod.mk.injEq]at h
   rw[←h.2,List.length_drop]
   omega
theorem stp_lt {attr:Bool}{l c r:List UInt8}(h:stp attr l= .inr (c,r)):r.length<l.length:=by
 cases l with
 |nil=>cases h
 |cons b t=>
  rw[stp_cons]at h
  rw[List.length_cons]
  split at h
  ·cases h
  ·split at h
   ·split at h
    ·rename_i hr
     have :=refL_le hr
     simp only[Sum.inr.injEq,Prod.mk.injEq]at h
     rw[←h.2]
     omega
    ·cases h
   ·split at h
    ·simp only[Sum.inr.injEq,Prod.mk.injEq]at h
     rw[←h.2]
     split
     ·rw[List.length_drop];omega
     ·omega
    ·simp only[Sum.inr.injEq,Prod.mk.injEq]at h
     rw[←h.2]
     omega
def gN (attr:Bool):Nat→List UInt8→List UInt8→List UInt8×Nat
 |0,acc,_=>(acc,0)
 |n+1,acc,l=>match stp attr l with
  | .inl 0=>(acc,0)
  | .inl (e+1)=>([],e+1)
  | .inr (c,r)=>gN attr n (acc++c) r
theorem gN_fuel (attr:Bool):∀(n m:Nat) (acc l:List UInt8),l.length<n→l.length<m→gN attr n acc l=gN attr m acc l
 |0,m,acc,l,hn,_=>by omega
 |n+1,0,acc,l,_,hm=>by omega
 |n+1,m+1,acc,l,hn,hm=>by
  unfold gN
  cases h:stp attr l with
  |inl e=>cases e<;>rfl
  |inr x=>
   obtain⟨c,r⟩:=x
   have :=stp_lt h
   exact gN_fuel attr n m (acc++c) r (by omega) (by omega)
def gL (attr:Bool)(acc l:List UInt8):List UInt8×Nat:=gN attr (l.length+1) acc l
theorem gL_end {attr:Bool}{l:List UInt8}(acc:List UInt8)(h:stp attr l= .inl 0):gL attr acc l=(acc,0):=by
 unfold gL gN
 rw[h]
theorem gL_err {attr:Bool}{l:List UInt8}{e:Nat}(acc:List UInt8)(h:stp attr l= .inl e)(h0:e≠0):gL attr acc l=([],e):=by
 unfold gL gN
 rw[h]
 cases e with
 |zero=>exact absurd rfl h0
 |succ e=>rfl
theorem gL_step {attr:Bool}{l c r:List UInt8}(acc:List UInt8)(h:stp attr l= .inr (c,r)):gL attr acc l=gL attr (acc++c) r:=by
 have hl:=stp_lt h
 have e:gL attr acc l=gN attr l.length (acc++c) r:=by
  unfold gL
  conv=>lhs;unfold gN
  rw[h]
 rw[e]
 exact gN_fuel attr _ _ _ _ (by omega) (by omega)
def capN (n:Nat):Nat:=if n>0x10ffff then 0x110000 else n
def valC (base:Nat):Nat→List UInt8→Option Nat
 |n,[]=>some n
 |n,b::t=>if dgV b<base then valC base (capN (n*base+dgV b)) t else none
theorem valC_eq (base:Nat)(hb:base=10∨base=16):∀(l:List UInt8) (n:Nat),valC base (capN n) l=(valN base n l).map capN
 |[],n=>rfl
 |b::t,n=>by
  unfold valC valN
  by_cases h:dgV b<base
  ·rw[if_pos h,if_pos h]
   have e:capN (capN n*base+dgV b)=capN (n*base+dgV b):=by
    rcases hb with rfl|rfl
    all_goals
     unfold capN
     split
     ·split<;>split<;>omega
     ·rfl
   rw[e]
   exact valC_eq base hb t _
  ·rw[if_neg h,if_neg h];rfl
theorem isC_iff (n:Int):isC n=true↔n=9∨n=10∨n=13∨(32≤n∧n≤0xd7ff)∨(0xe000≤n∧n≤0xfffd)∨(0x10000≤n∧n≤0x10ffff):=by
 unfold isC isL
 simp only[inP,Bool.or_eq_true,Bool.and_eq_true,decide_eq_true_eq,Bool.false_eq_true,or_false]
 omega
theorem isC_le {n:Int}(h:isC n=true):9≤n∧n≤0x10ffff∧¬(0xd800≤n∧n≤0xdfff):=by
 rw[isC_iff]at h
 omega
theorem isC_cap (n:Nat):isC (capN n:Nat)=isC (n:Int):=by
 unfold capN
 split
 ·rw[Bool.eq_iff_iff,isC_iff,isC_iff]
  omega
 ·rfl
theorem capN_of (n:Nat)(h:isC (n:Int)=true):capN n=n:=by
 have :=isC_le h
 unfold capN
 rw[if_neg (by omega)]
theorem chrN_cap (base:Nat)(hb:base=10∨base=16)(l:List UInt8)(hl:l≠[]):chrN base l=(valC base 0 l).bind fun n=>if isC (n:Int) then some n else none:=by
 unfold chrN
 rw[if_neg hl]
 have :=valC_eq base hb l 0
 rw[show capN 0=0 from rfl]at this
 rw[this]
 cases valN base 0 l with
 |none=>rfl
 |some n=>
  show(if isC (n:Int) then some n else none)=(if isC ((capN n:Nat):Int) then some (capN n) else none)
  rw[isC_cap]
  split
  ·rename_i h;rw[capN_of n h]
  ·rfl
theorem chrN_isC {base:Nat}{l:List UInt8}{n:Nat}(h:chrN base l=some n):isC (n:Int)=true:=by
 unfold chrN at h
 split at h
 ·cases h
 ·cases hv:valN base 0 l with
  |none=>rw[hv]at h;cases h
  |some m=>
   rw[hv]at h
   simp only[Option.bind_some]at h
   split at h
   ·rename_i hm;cases h;exact hm
   ·cases h
theorem chL_isC {s:List UInt8}{n:Nat}(h:chL s=some n):isC (n:Int)=true:=by
 unfold chL at h
 repeat' split at h
 all_goals first|(cases h;decide)|exact chrN_isC h|cases h
theorem enc_ne (n:Int):encodeRune n≠[]:=by
 have :=encodeRuneZ_length n
 intro h
 have h2:(encodeRune n).length=0:=by rw[h];rfl
 simp only[encodeRune,List.length_map]at h2
 omega
def getF (attr:Bool)(l:List UInt8)(tx:Bool):List UInt8×Nat:=if tx then gL attr [] l else ([],10)
end Char
end Go.Proofs.YtlmpkpjjakallaaGreatDoor
