import Derived.Test.YtlmpkpjjakallaaGreatDoorPt01
import Derived.Test.YtlmpkpjjakallaaGreatDoorProg
import Derived.WalkKit
import Derived.Below
import Derived.Outline
import Derived.Lib.Hide
import Derived.Laws.AppendOwn
import Derived.OwnWalk
import Derived.Laws.OwnMore
import Derived.Deep.QuietTactic
import Derived.BigQuiet
import Derived.Test.YtlmpkpjjakallaaGreatDoorPt02
import Derived.Deep.DeepCutAuto
namespace Go.Proofs.YtlmpkpjjakallaaGreatDoor
namespace Fig
open Go.Proofs.YtlmpkpjjakallaaGreatDoor.Char Go.RowKit
theorem info_int:(Tryz.prog.info? 3).map (fun i=>(i.zero,i.size,i.bytes))=some (some (.int .i64 0),1,8):=by kernel_rfl
def ics (l:List Nat):List Value:=l.map fun d:Nat=>Value.int .i64 (d:Int)
theorem ics_length (l:List Nat):(ics l).length=l.length:=by simp[ics]
theorem ics_get (l:List Nat)(k:Nat)(h:k<l.length):(ics l)[k]? =some (.int .i64 ((l.getD k 0:Nat):Int)):=by
 simp[ics,List.getD,List.getElem?_eq_getElem h]
theorem ics_append (a b:List Nat):ics (a++b)=ics a++ics b:=by simp[ics]
theorem ics_set (l:List Nat)(p d:Nat):(ics l).set p (.int .i64 (d:Int))=ics (l.set p d):=by simp[ics]
def Holds (w:World)(v:Value)(l:List Nat):Prop:=
 ∃a cap,v= .slice a l.length cap∧l.length≤cap∧(a=none→cap=0)∧∀j,j<l.length→∃g,a=some ⟨g,0,none⟩∧g<w.heap.size∧w.cell? ⟨g,j,none⟩=some (.int .i64 ((l.getD j 0:Nat):Int))
def Owns (n₀:Nat)(w:World)(v:Value)(l:List Nat):Prop:=w.ownsRow n₀ 3 1 v l.length (ics l)
theorem Owns.holds {n₀:Nat}{w:World}{v:Value}{l:List Nat}(h:Owns n₀ w v l):Holds w v l:=by
 have hc:=h
 rcases h.2 with⟨rfl,hn⟩|⟨g,cap,cur,rfl,hg,hcur,hn,_⟩
 ·exact⟨none,0,by rw[hn],by omega,fun _=>rfl,fun j hj=>by omega⟩
 ·refine⟨_,cap,rfl,hn,fun h=>(by cases h),fun j hj=>⟨g,rfl,(Array.getElem?_eq_some_iff.1 hcur).1,?_⟩⟩
  have :=hc.cells (g:=g) rfl j _ (ics_get l j hj)
  have hadd:(⟨g,0,none⟩:Addr).add j=⟨g,j,none⟩:=by unfold Addr.add;split<;>simp_all
  rwa [hadd]at this
theorem Holds.below {w w':World}{v:Value}{l:List Nat}(h:Holds w v l)(hb:Below w.heap.size w w'):Holds w' v l:=by
 obtain⟨a,cap,hv,hn,hnil,hc⟩:=h
 refine⟨a,cap,hv,hn,hnil,fun j hj=> ?_⟩
 obtain⟨g,h1,h2,h3⟩:=hc j hj
 exact⟨g,h1,Nat.lt_of_lt_of_le h2 hb.size,(hb.cell (p:=⟨g,j,none⟩) h2).trans h3⟩
theorem Holds.nil (w:World):Holds w (.slice none 0 0) []:=⟨none,0,rfl,Nat.le_refl _,fun _=>rfl,fun j hj=>by simp at hj⟩
theorem Owns.nil (n₀:Nat)(w:World):Owns n₀ w (.slice none 0 0) []:=World.ownsRow_nil _ _ _ _
theorem Owns.drewN {n₀:Nat}{w:World}{v:Value}{l:List Nat}(h:Owns n₀ w v l)(k:Nat):Owns n₀ (w.drewN k) v l:=h
def Fresh (n₀:Nat)(v:Value):Prop:=∀g,v.ownBlock=some g→n₀≤g
theorem Owns.fresh {n₀:Nat}{w:World}{v:Value}{l:List Nat}(h:Owns n₀ w v l):Fresh n₀ v:=by
 intro k hk
 rcases h.2 with⟨rfl,_⟩|⟨g,cap,cur,rfl,hg,_⟩
 ·simp[Value.ownBlock]at hk
 ·simp[Value.ownBlock]at hk;omega
theorem Fresh.of_eq {n₀:Nat}{v v':Value}(h:Fresh n₀ v)(e:v'.ownBlock=v.ownBlock):Fresh n₀ v':=fun g hg=>h g (e▸hg)
theorem Fresh.mono {n₀ n₁:Nat}{v:Value}(h:Fresh n₁ v)(e:n₀≤n₁):Fresh n₀ v:=fun g hg=>Nat.le_trans e (h g hg)
def TrimPost (w:World)(v₀:Value)(l:List Nat)(e:Ending)(w':World):Prop:=∃v,e= .returned v∧Holds w v (dg (val l))∧v.ownBlock=v₀.ownBlock∧w=w'
set_option maxRecDepth 100000 in
set_option maxHeartbeats 1000000 in
theorem trim_any (v:Value)(l:List Nat)(w:World)(h:Holds w v l)(hl:∀d∈l,d<10)(hn:l.length≤1000):
 Calls Tryz.prog 194 #[v] w (TrimPost w v l):=by
 have HL:=Lib.hid hl
 obtain⟨a,cap,rfl,hcap,hnil,hc⟩:=h
 have HC:=Lib.hid hc
 have HNIL:=Lib.hid hnil
 clear hl hc hnil
 go_enter Tryz.func194,Tryz.ntmps194
 go_wp2_with fail
 go_loop [0] (fun v=>∃m:Nat,m≤l.length∧v= .slice a m cap∧Hid (val (l.take m)=val l)) (fun v=>match v with | .slice _ m _=>m|_=>0)
 case atStart=>exact⟨l.length,Nat.le_refl _,rfl,Lib.hid (by rw[List.take_of_length_le (Nat.le_refl _)])⟩
 case round=>
  obtain⟨m,hm,rfl,HV⟩:=hrel
  have fin:(0<m→l.getD (m-1) 0≠0)→TrimPost w (.slice a l.length cap) l (.returned (.slice a m cap)) w:=fun h=>by
   have e:=dg_take l HL.out m hm h
   rw[HV.out]at e
   refine⟨_,rfl,?_,by cases a<;>rfl,rfl⟩
   rw[←e]
   have hlen:(l.take m).length=m:=by simp;omega
   refine⟨a,cap,by rw[hlen],by omega,HNIL.out,fun j hj=> ?_⟩
   rw[hlen]at hj
   obtain⟨g,h1,h2,h3⟩:=HC.out j (by omega)
   refine⟨g,h1,h2,?_⟩
   rw[h3]
   simp[List.getD,hj]
  have FIN:=Lib.hid fin
  clear fin
  by_cases h0:0<m
  ·obtain⟨k,rfl⟩:∃k,m=k+1:=⟨m-1,by omega⟩
   obtain⟨g,rfl,hg,hcell⟩:=HC.out k (by omega)
   have hv:=val_take_zero l k (by omega)
   have ek:((↑(k+1):Int)-1).toNat=k:=by omega
   have HZ:=Lib.hid hv
   clear hv
   generalize hd:l.getD k 0=d at hcell HZ
   have HD:=Lib.hid hd
   clear hd
   by_cases hz:d=0
   ·subst hz
    have HV2:Hid (val (l.take k)=val l):=Lib.hid ((HZ.out rfl).symm.trans HV.out)
    clear HV HZ FIN
    go_wp2_with fail
    go_round
    case rel=>exact⟨k,by omega,by simp,HV2⟩
    case measure=>simp
   ·have hzb:((d:Int)==0)=false:=by rw[beq_eq_false_iff_ne];omega
    have H:=FIN.out (fun _=>by rw[show k+1-1=k from rfl,HD.out];exact hz)
    clear HV HZ FIN hz
    go_wp2_with fail
    go_ret
    exact H
  ·have H:=FIN.out (fun h=>absurd h h0)
   clear HV FIN
   obtain rfl:m=0:=by omega
   go_wp2_with fail
   go_ret
   exact H
theorem wpList_push {ops:Array Oper}{rest:List Oper}{o:Oper}{a:Act}{Q:Exit→Act→World→Prop}{W w:World}{v:Value}{acc:List Nat}{z:Int}
 (hgd:o.guard=none) (s x:Operand) (ho:o.op= .call {callee:= .builtin .append,args:= #[s,x],argTypes:= #[104,104]})
 (d:Nat) (hown:Owns w.heap.size W v acc) (hs:a.eval s=v) (hx:a.eval x= .slice (some ⟨W.heap.size,0,none⟩) 1 1) (hb:Below w.heap.size w W) (hz:z=(d:Int)) (hlen:acc.length≤1000)
 (h:∀v' w1,Owns w.heap.size w1 v' (acc++[d])→Below w.heap.size w w1→wpList Tryz.prog ops Q rest (a.put o.dst v') w1):
 wpList Tryz.prog ops Q (o::rest) a (W.alloc (.cells #[.int .i64 z] 3)):=by
 obtain⟨i0,hi,hz0,hz1,hz2⟩:=info_parts info_int
 have hwb:=hb.size
 subst hz
 refine wpList_append_own _ hgd s x 104 ho w.heap.size 3 i0 (.int .i64 0) 1 8 Tryz.underlying104 hi hz0 hz1 hz2 rfl (by decide) v acc.length (ics acc) hs (World.ownsRow.alloc hown _) ⟨W.heap.size,0,none⟩ 1 1 [.int .i64 (d:Int)] hx rfl ?_ ?_ ?_ ?_ ?_ ?_
 ·intro j u hj
  match j,hj with
  |0,hj=>simp at hj;subst hj;simp[Addr.add]
 ·intro u hu;simp at hu;subst hu;rfl
 ·unfold maxLen;omega
 ·omega
 ·simp;omega
 ·intro v' w1 hown' hgrow _
  refine h v' w1 ?_ ((hb.alloc hwb _).grown hgrow (by simp;omega) (fun k hk=>by
   rcases hown.2 with⟨rfl,_⟩|⟨g,cap,cur,rfl,hg,_⟩
   ·simp[Value.ownBlock]at hk
   ·simp[Value.ownBlock]at hk;omega))
  unfold Owns
  rw[List.length_append,ics_append]
  exact hown'
end Fig
namespace Fig
open Go.Proofs.YtlmpkpjjakallaaGreatDoor.Char Go.RowKit
theorem top_differs (a b k:Nat)(h:a/10^(k+1)=b/10^(k+1))(hd:a/10^k%10≠b/10^k%10):decide (a<b)=decide (a/10^k%10<b/10^k%10):=by
 have ea:=div_step a k
 have eb:=div_step b k
 have h1:=Nat.div_add_mod a (10^k)
 have h2:=Nat.div_add_mod b (10^k)
 have l1:=Nat.mod_lt a (Nat.pow_pos (n:=k) (show 0<10 by omega))
 have l2:=Nat.mod_lt b (Nat.pow_pos (n:=k) (show 0<10 by omega))
 rw[h]at ea
 generalize b/10^(k+1)=q at ea eb
 generalize a/10^k%10=x at *
 generalize b/10^k%10=y at *
 generalize a/10^k=A at *
 generalize b/10^k=B at *
 generalize 10^k=P at *
 rw[decide_eq_decide]
 subst ea eb
 rcases Nat.lt_or_gt_of_ne hd with hx|hx
 ·have :=Nat.mul_le_mul_left P (show 10*q+x+1≤10*q+y by omega)
  rw[Nat.mul_add P (10*q+x) 1]at this
  omega
 ·have :=Nat.mul_le_mul_left P (show 10*q+y+1≤10*q+x by omega)
  rw[Nat.mul_add P (10*q+y) 1]at this
  omega
theorem kept_drewN {B:Nat}{a w:World}(h:Below B a w)(n:Nat):Below B a (w.drewN n):=⟨h.os,h.tape,h.output,h.size,h.block⟩
theorem ret_bool {a b:Bool}(h:a=b):Ending.returned (.bool a)= .returned (.bool b):=by rw[h]
set_option maxRecDepth 100000 in
set_option maxHeartbeats 2000000 in
theorem leastL_any (va vb:Value)(la lb:List Nat)(a b:Nat)(w:World)(ha:Holds w va la)(hb:Holds w vb lb)(hla0:∀d∈la,d<10)(hlb0:∀d∈lb,d<10)(ea:val la=a)(eb:val lb=b)(hna:la.length≤1000)(hnb:lb.length≤1000):
 Calls Tryz.prog 169 #[va,vb] w fun e w'=>e= .returned (.bool (decide (a<b)))∧Below w.heap.size w w':=by
 have CA':=trim_any va la w ha hla0 hna
 have CB':=trim_any vb lb w hb hlb0 hnb
 have CA:=Lib.hid CA'
 have CB:=Lib.hid CB'
 clear CA' CB'
 have hla:=dg_len_below a b
 have hlb:=dg_len_below b a
 obtain⟨R,hR⟩:∃R,decide (a<b)=R:=⟨_,rfl⟩
 rw[hR]
 have HR:=Lib.hid hR
 have hda:(dg a).length≤1000:=Nat.le_trans (dg_len_le a la.length (by rw[←ea];exact val_lt la hla0)) hna
 have hdb:(dg b).length≤1000:=Nat.le_trans (dg_len_le b lb.length (by rw[←eb];exact val_lt lb hlb0)) hnb
 have EA:=Lib.hid ea
 have EB:=Lib.hid eb
 clear ha hb hR hla0 hlb0 ea eb hna hnb
 go_enter Tryz.func169,Tryz.ntmps169
 go_wp2_with fail
 refine CA.out.mono ?_
 rintro e w1 ⟨va',rfl,ha,_,rfl⟩
 go_wp2_with fail
 refine CB.out.mono ?_
 rintro e w1 ⟨vb',rfl,hb,_,rfl⟩
 rw[EA.out]at ha
 rw[EB.out]at hb
 obtain⟨A,capa,rfl,hca,_,hA⟩:=ha
 obtain⟨B,capb,rfl,hcb,_,hB⟩:=hb
 have HA:=Lib.hid hA
 have HB:=Lib.hid hB
 have HLA:=Lib.hid hla
 have HLB:=Lib.hid hlb
 clear CA CB hA hB hla hlb
 by_cases hne:(dg a).length=(dg b).length
 ·have hneb:(((dg a).length:Int) != ((dg b).length:Int))=false:=by simp[hne]
  have h0:a/10^(dg a).length=b/10^(dg a).length:=by
   rw[Nat.div_eq_of_lt (dg_len_lt a),hne,Nat.div_eq_of_lt (dg_len_lt b)]
  have H0:=Lib.hid h0
  have HN:=Lib.hid hne
  clear hne h0 HLA HLB
  go_wp2_with fail
  go_loopw [5] (fun i wr=>∃k:Nat,k≤(dg a).length∧i= .int .i64 ((k:Int)-1)∧Hid (a/10^k=b/10^k)∧Below w.heap.size w wr) (fun i _=>(intOf i+1).toNat)
  case atStart=>exact⟨(dg a).length,Nat.le_refl _,rfl,H0,Below.refl _ _⟩
  case round=>
   obtain⟨k,hk,rfl,HK,hbw⟩:=hrel
   by_cases h0:0<k
   ·obtain⟨j,rfl⟩:∃j,k=j+1:=⟨k-1,by omega⟩
    have hjb:j<(dg b).length:=by have :=HN.out;omega
    obtain⟨g1,rfl,hg1,hc1⟩:=HA.out j (by omega)
    obtain⟨g2,rfl,hg2,hc2⟩:=HB.out j hjb
    have hd1:=(hbw.cell (p:=⟨g1,j,none⟩) hg1).trans hc1
    have hd2:=(hbw.cell (p:=⟨g2,j,none⟩) hg2).trans hc2
    have htd:=top_differs a b j HK.out
    have hsame:a/10^j%10=b/10^j%10→a/10^j=b/10^j:=fun h=>by
     rw[div_step a j,div_step b j,HK.out,h]
    rw[dg_getD]at hd1 hd2
    have ej:((↑(j+1):Int)-1)=(j:Int):=by omega
    rw[ej]
    clear hc1 hc2 HK ej
    generalize a/10^j%10=x at *
    generalize b/10^j%10=y at *
    by_cases hxy:x=y
    ·have HS:=Lib.hid (hsame hxy)
     subst hxy
     clear htd hsame
     go_wp2_with fail
     go_quiet (fail)
     go_wp2_with fail
     go_roundw
     case rel=>exact⟨j,by omega,rfl,HS,kept_drewN hbw _⟩
     case measure=>simp[intOf]
    ·have hxb:((x:Int) != (y:Int))=true:=by simp;omega
     have HT:=Lib.hid (HR.out.symm.trans (htd hxy))
     clear htd hsame hxy
     go_wp2_with fail
     go_quiet (fail)
     go_wp2_with fail
     go_quiet (fail)
     go_wp2_with fail
     go_ret
     exact⟨ret_bool HT.out.symm,kept_drewN (kept_drewN hbw _) _⟩
   ·obtain rfl:k=0:=by omega
    have hab:=HK.out
    simp at hab
    have HT:Hid (R=false):=Lib.hid (by rw[←HR.out,hab];simp)
    clear hab HK h0
    go_wp2_with fail
    go_ret
    exact⟨ret_bool HT.out.symm,hbw⟩
 ·have hneb:(((dg a).length:Int) != ((dg b).length:Int))=true:=by simp;omega
  by_cases hlt:(dg a).length<(dg b).length
  ·have HT:Hid (R=true):=Lib.hid (by rw[←HR.out,decide_eq_true (HLA.out hlt)])
   clear HLA HLB HR hne
   go_wp2_with fail
   go_ret
   exact⟨ret_bool HT.out.symm,Below.refl _ _⟩
  ·have HT:Hid (R=false):=Lib.hid (by rw[←HR.out];exact decide_eq_false (fun h=>by have :=HLB.out (by omega);omega))
   clear HLA HLB HR hne
   go_wp2_with fail
   go_ret
   exact⟨ret_bool HT.out.symm,Below.refl _ _⟩
theorem least_any (va vb:Value)(a b:Nat)(w:World)(ha:Holds w va (dg a))(hb:Holds w vb (dg b))(hna:(dg a).length≤1000)(hnb:(dg b).length≤1000):
 Calls Tryz.prog 169 #[va,vb] w fun e w'=>e= .returned (.bool (decide (a<b)))∧Below w.heap.size w w':=
 leastL_any va vb (dg a) (dg b) a b w ha hb (dg_lt a) (dg_lt b) (val_dg a) (val_dg b) hna hnb
end Fig
namespace Fig
open Go.Proofs.YtlmpkpjjakallaaGreatDoor.Char Go.RowKit Go.Lib
theorem digit_any (b:UInt8)(w:World):Calls Tryz.prog 176 #[.int .u8 (b.toNat:Int)] w fun e w'=>e= .returned (.bool (digB b))∧w=w':=by
 unfold digB
 by_cases h1:48≤b.toNat
 ·rw[decide_eq_true h1]
  generalize b.toNat=n at *
  go_enter Tryz.func176,Tryz.ntmps176
  go_wp2_with fail
  go_ret
  exact⟨ret_bool (by rw[Bool.true_and];exact decide_eq_decide.2 (by omega)),rfl⟩
 ·rw[decide_eq_false h1]
  generalize b.toNat=n at *
  go_enter Tryz.func176,Tryz.ntmps176
  go_wp2_with fail
  go_ret
  exact⟨rfl,rfl⟩
theorem point_any (b:UInt8)(w:World):Calls Tryz.prog 177 #[.int .u8 (b.toNat:Int)] w fun e w'=>e= .returned (.bool (ptB b))∧w=w':=by
 unfold ptB
 cases h:(b.toNat==46)
 ·have h':((b.toNat:Int)==46)=false:=by rw[beq_eq_false_iff_ne]at h ⊢;omega
  clear h
  go_enter Tryz.func177,Tryz.ntmps177
  go_wp2_with fail
  go_ret
  exact⟨rfl,rfl⟩
 ·have h':((b.toNat:Int)==46)=true:=by rw[beq_iff_eq]at h ⊢;omega
  clear h
  go_enter Tryz.func177,Tryz.ntmps177
  go_wp2_with fail
  go_ret
  exact⟨rfl,rfl⟩
def Asks (g:Nat)(p:UInt8→Bool):Prop:=(∀args w,(callFunc g args).run Tryz.prog w= .ok (.enter g args) w)∧∀(b:UInt8) (W:World),Calls Tryz.prog g #[.int .u8 (b.toNat:Int)] W fun e w'=>e= .returned (.bool (p b))∧W=w'
theorem asks_digit:Asks 176 digB:=⟨enters_of Tryz.func176 (by kernel_rfl) rfl,digit_any⟩
theorem asks_point:Asks 177 ptB:=⟨enters_of Tryz.func177 (by kernel_rfl) rfl,point_any⟩
theorem while_step (p:UInt8→Bool)(l:List UInt8)(k:Nat)(h:k<l.length):l.takeWhile p=l.take k++(l.drop k).takeWhile p→p (l.getD k 0)=true→l.takeWhile p=l.take (k+1)++(l.drop (k+1)).takeWhile p:=by
 intro e hp
 have hg:l.getD k 0=l[k]:=by simp[List.getD,List.getElem?_eq_getElem h]
 rw[hg]at hp
 rw[e,List.drop_eq_getElem_cons h,List.takeWhile_cons,if_pos hp,List.take_succ_eq_append_getElem h,List.append_assoc]
 rfl
theorem while_stop (p:UInt8→Bool)(l:List UInt8)(k:Nat)(e:l.takeWhile p=l.take k++(l.drop k).takeWhile p)(hp:k<l.length→p (l.getD k 0)=false):l.takeWhile p=l.take k∧l.dropWhile p=l.drop k:=by
 have h1:(l.drop k).takeWhile p=[]:=by
  by_cases h:k<l.length
  ·have hg:l.getD k 0=l[k]:=by simp[List.getD,List.getElem?_eq_getElem h]
   have :=hp h
   rw[hg]at this
   rw[List.drop_eq_getElem_cons h,List.takeWhile_cons,if_neg (by rw[this];simp)]
  ·rw[List.drop_eq_nil_of_le (by omega)]
   rfl
 rw[h1,List.append_nil]at e
 refine⟨e,?_⟩
 have h2:=List.takeWhile_append_dropWhile (p:=p) (l:=l)
 rw[e]at h2
 have h3:=List.take_append_drop k l
 exact List.append_cancel_left (h2.trans h3.symm)
set_option maxRecDepth 100000 in
set_option maxHeartbeats 2000000 in
theorem take_any (g:Nat)(p:UInt8→Bool)(hg:Asks g p)(R:Nat)(l:List UInt8)(w:World)(hl:l.length≤500)(hc:w.cell? ⟨R,0,none⟩=some (.string (bs l)))(hf:w.frozen? ⟨R,0,none⟩=false):
 Calls Tryz.prog 175 #[.func (.func g) #[] #[],.pointer (some ⟨R,0,none⟩)] w fun e w'=>e= .returned (.string (bs (l.takeWhile p)))∧w'=w.setCell ⟨R,0,none⟩ (.string (bs (l.dropWhile p))):=by
 have eg:=hg.1
 have HC:=Lib.hid hg.2
 obtain⟨X,hX⟩:∃X,l.takeWhile p=X:=⟨_,rfl⟩
 obtain⟨Y,hY⟩:∃Y,l.dropWhile p=Y:=⟨_,rfl⟩
 rw[hX,hY]
 have HX:=Lib.hid hX
 have HY:=Lib.hid hY
 clear hX hY
 have hsz:=bs_size l
 have HSZ:=Lib.hid hsz
 clear hg
 go_enter Tryz.func175,Tryz.ntmps175
 go_wp2_with fail
 go_loop [4] (fun i=>∃k:Nat,k≤l.length∧i= .int .i64 (k:Int)∧Hid (l.takeWhile p=l.take k++(l.drop k).takeWhile p)) (fun i=>l.length-(RowKit.intOf i).toNat)
 case atStart=>exact⟨0,Nat.zero_le _,rfl,Lib.hid (by simp)⟩
 case round=>
  obtain⟨k,hk,rfl,HK⟩:=hrel
  by_cases hlt:k<l.length
  ·have hlt':k<(bs l).size:=by rw[hsz];exact hlt
   have hgt:=bs_get l k hlt'
   have hw:=while_step p l k hlt HK.out
   have hst:=while_stop p l k HK.out
   clear HK
   cases hp:p (l.getD k 0) with
   |true=>
    have hpv:p ((bs l)[k]'hlt')=true:=by rw[hgt];exact hp
    have HW:=Lib.hid (hw hp)
    clear hgt hw hst hp
    go_wp2_with fail
    refine(HC.out _ _).mono ?_
    rintro e w1 ⟨rfl,rfl⟩
    rw[hpv]
    go_wp2_with fail
    go_round
    case rel=>exact⟨k+1,by omega,by go_num,HW⟩
    case measure=>simp[RowKit.intOf];omega
   |false=>
    have hpv:p ((bs l)[k]'hlt')=false:=by rw[hgt];exact hp
    have⟨h1,h2⟩:=hst (fun _=>hp)
    have e1:(bs l).extract 0 k=bs X:=by rw[bs_ext,←HX.out,h1];simp
    have e2:(bs l).extract k (bs l).size=bs Y:=by rw[bs_ext,bs_size,List.take_of_length_le (by rw[List.length_drop];exact Nat.le_refl _),←HY.out,h2]
    clear hgt hw hst hp h1 h2 HX HY
    have E1:=Lib.hid e1
    have E2:=Lib.hid e2
    clear e1 e2
    go_wp2_with fail
    refine(HC.out _ _).mono ?_
    rintro e w1 ⟨rfl,rfl⟩
    rw[hpv]
    go_wp2_with fail
    go_ret
    exact⟨by rw[←E1.out];rfl,by rw[←E2.out,HSZ.out]⟩
  ·have⟨h1,h2⟩:=while_stop p l k HK.out (fun h=>absurd h hlt)
   have e1:(bs l).extract 0 k=bs X:=by rw[bs_ext,←HX.out,h1];simp
   have e2:(bs l).extract k (bs l).size=bs Y:=by rw[bs_ext,bs_size,List.take_of_length_le (by rw[List.length_drop];exact Nat.le_refl _),←HY.out,h2]
   clear HK h1 h2 HX HY
   have E1:=Lib.hid e1
   have E2:=Lib.hid e2
   clear e1 e2
   go_wp2_with fail
   go_ret
   exact⟨by rw[←E1.out];rfl,by rw[←E2.out,HSZ.out]⟩
end Fig
namespace Fig
open Go.Proofs.YtlmpkpjjakallaaGreatDoor.Char Go.RowKit
def NumPost (w:World)(n:Nat)(e:Ending)(w':World):Prop:=∃v,e= .returned v∧Holds w' v (dg n)∧Fresh w.heap.size v∧Below w.heap.size w w'
set_option maxRecDepth 100000 in
set_option maxHeartbeats 2000000 in
theorem digits_any (n:Nat)(w:World)(hn:n≤18446744073709551615):
 Calls Tryz.prog 133 #[.int .u64 (n:Int)] w (NumPost w n):=by
 have hlen:=dg_len_le n 20 (by omega)
 obtain⟨N,hN⟩:∃N,N=n:=⟨_,rfl⟩
 have HN:=Lib.hid hN
 clear hN
 rw[←HN.out]
 have hn':N≤18446744073709551615:=by have :=HN.out;omega
 have hlen':(dg N).length≤20:=by rw[HN.out];exact hlen
 clear HN hn hlen
 go_enter Tryz.func133,Tryz.ntmps133
 go_wp2_with fail
 go_loopw [0,3] (fun i v wr=>∃(m:Nat) (acc:List Nat),i= .int .u64 (m:Int)∧m≤N∧Owns w.heap.size wr v acc∧Below w.heap.size w wr∧Hid (acc++dg m=dg N)) (fun i _ _=>(intOf i).toNat)
 case atStart=>exact⟨N,[],rfl,Nat.le_refl _,Owns.nil _ _,Below.refl _ _,Lib.hid rfl⟩
 case round=>
  obtain⟨m,acc,rfl,hm,hown,hbw,HA⟩:=hrel
  have hal:acc.length≤20:=by
   have :=congrArg List.length HA.out
   rw[List.length_append]at this
   omega
  by_cases h0:0<m
  ·have hA2:(acc++[m%10])++dg (m/10)=dg N:=by rw[←HA.out,dg_step m (by omega),List.append_assoc];rfl
   have HA2:=Lib.hid hA2
   clear HA hA2
   go_wp2_with (at_builtin;refine wpList_push rfl _ _ rfl (m%10) hown rfl rfl hbw (by omega) (by omega) ?_)
   intro v' w1 hown2 hb1
   clear hown
   go_wp2_with fail
   go_roundw
   case rel=>exact⟨m/10,acc++[m%10],by simp,by omega,hown2,hb1,HA2⟩
   case measure=>simp[intOf];omega
  ·obtain rfl:m=0:=by omega
   have hacc:=HA.out
   rw[dg_zero,List.append_nil]at hacc
   have HACC:=Lib.hid hacc
   clear HA hacc h0
   go_wp2_with fail
   go_ret
   refine⟨_,rfl,?_,Owns.fresh hown,hbw⟩
   rw[←HACC.out]
   exact Owns.holds hown
end Fig
namespace Fig
open Go.Proofs.YtlmpkpjjakallaaGreatDoor.Char Go.RowKit
theorem kept_new (w:World)(z0 z1:Value)(T:TypeId)(w1:World)(h:Below (w.alloc (.cells #[z0,z1] T)).heap.size (w.alloc (.cells #[z0,z1] T)) w1):
 w1.cell? ⟨w.heap.size,0,none⟩=some z0∧w1.cell? ⟨w.heap.size,1,none⟩=some z1∧w1.frozen? ⟨w.heap.size,0,none⟩=false∧w1.frozen? ⟨w.heap.size,1,none⟩=false∧w.heap.size<w1.heap.size∧Below w.heap.size w w1:=by
 have hsz:(w.alloc (.cells #[z0,z1] T)).heap.size=w.heap.size+1:=by simp
 have hlt:w.heap.size<(w.alloc (.cells #[z0,z1] T)).heap.size:=by omega
 have hs:=h.size
 refine⟨?_,?_,?_,?_,by omega,((Below.refl _ _).alloc (Nat.le_refl _) _).trans (h.mono (by omega))⟩
 ·rw[h.cell (p:=⟨w.heap.size,0,none⟩) hlt,World.cell?_alloc_new];rfl
 ·rw[h.cell (p:=⟨w.heap.size,1,none⟩) hlt,World.cell?_alloc_new];rfl
 ·rw[h.frozen (p:=⟨w.heap.size,0,none⟩) hlt];exact frozen_of_row _ _ _ _ _ (heap_alloc_new _ _)
 ·rw[h.frozen (p:=⟨w.heap.size,1,none⟩) hlt];exact frozen_of_row _ _ _ _ _ (heap_alloc_new _ _)
theorem end_dec {fn:Func}{p:Tmp}(h:fn.results= #[.cell p 24]){a:Act}{R:Ending→World→Prop}(w1:World)(g:Nat)(x y:Int){z0 z1:Value}
 (k0:w1.cell? ⟨g,0,none⟩=some z0) (k1:w1.cell? ⟨g,1,none⟩=some z1) (hp:a.tmps.getD p undef= .pointer (some ⟨g,0,none⟩)) (hd:a.defers=[])
 (hR:R (.returned (.agg #[.int .i64 x,.int .i64 y])) ((w1.setCell ⟨g,0,none⟩ (.int .i64 x)).setCell ⟨g,1,none⟩ (.int .i64 y))):
 bodyPost Tryz.prog fn R .ret a ((w1.setCell ⟨g,0,none⟩ (.int .i64 x)).setCell ⟨g,1,none⟩ (.int .i64 y)):=by
 have hp':a.tmps[p]?.getD undef= .pointer (some ⟨g,0,none⟩):=by simpa using hp
 exact bodyPost_ret (v:= .agg #[.int .i64 x,.int .i64 y]) (by simp[results,h,hp',go_sem,k0,k1]) hd hR
theorem kept_two (w:World)(x0 x1 z0 z1:Value)(T U:TypeId)(w1:World)(h:Below ((w.alloc (.cells #[x0,x1] U)).alloc (.cells #[z0,z1] T)).heap.size ((w.alloc (.cells #[x0,x1] U)).alloc (.cells #[z0,z1] T)) w1):
 w1.cell? ⟨w.heap.size,0,none⟩=some x0∧w1.cell? ⟨w.heap.size,1,none⟩=some x1∧w1.cell? ⟨w.heap.size+1,0,none⟩=some z0∧w1.cell? ⟨w.heap.size+1,1,none⟩=some z1∧
  w1.frozen? ⟨w.heap.size+1,0,none⟩=false∧w1.frozen? ⟨w.heap.size+1,1,none⟩=false∧w.heap.size+1<w1.heap.size∧Below w.heap.size w w1:=by
 have hsz:((w.alloc (.cells #[x0,x1] U)).alloc (.cells #[z0,z1] T)).heap.size=w.heap.size+1+1:=by simp
 have hl1:w.heap.size<((w.alloc (.cells #[x0,x1] U)).alloc (.cells #[z0,z1] T)).heap.size:=by omega
 have hl2:w.heap.size+1<((w.alloc (.cells #[x0,x1] U)).alloc (.cells #[z0,z1] T)).heap.size:=by omega
 have hs:=h.size
 refine⟨?_,?_,?_,?_,?_,?_,by omega,(((Below.refl _ _).alloc (Nat.le_refl _) _).alloc (by simp) _).trans (h.mono (by omega))⟩
 ·rw[h.cell (p:=⟨w.heap.size,0,none⟩) hl1];go_simp
 ·rw[h.cell (p:=⟨w.heap.size,1,none⟩) hl1];go_simp
 ·rw[h.cell (p:=⟨w.heap.size+1,0,none⟩) hl2];go_simp
 ·rw[h.cell (p:=⟨w.heap.size+1,1,none⟩) hl2];go_simp
 ·rw[h.frozen (p:=⟨w.heap.size+1,0,none⟩) hl2];go_simp
 ·rw[h.frozen (p:=⟨w.heap.size+1,1,none⟩) hl2];go_simp
def sizedD (n:Nat)(below:Bool):Nm:=fitD (if below then -(n:Int) else (n:Int))
theorem decV_num (n:Int):decV (.num n)= .agg #[.int .i64 0,.int .i64 n]:=rfl
theorem ret_agg {a b c d:Int}(h:a=c)(h2:b=d):Ending.returned (.agg #[.int .i64 a,.int .i64 b])= .returned (.agg #[.int .i64 c,.int .i64 d]):=by rw[h,h2]
theorem okD_bounds {x:Nm}(h:okD x): -9223372036854775808≤outV x∧outV x≤9223372036854775807:=by
 match x,h with
 | .nan,_=>exact⟨by decide,by decide⟩
 | .over,_=>exact⟨by decide,by decide⟩
 | .under,_=>exact⟨by decide,by decide⟩
 | .num n,h=>
   have h1: -9223372036854775807≤n∧n≤9223372036854775807:=h
   show -9223372036854775808≤n∧n≤9223372036854775807
   omega
theorem ret_i64 {a b:Int}(h:a=b):Ending.returned (.int .i64 a)= .returned (.int .i64 b):=by rw[h]
end Fig
namespace Fig
open Go.Proofs.YtlmpkpjjakallaaGreatDoor.Char Go.RowKit Go.Lib
theorem decL_take (D:List UInt8)(P:List UInt8)(i:Nat)(h:i<D.length):decL (P++D.take (i+1))=decL (P++D.take i)*10+dval (D.getD i 0):=by
 have hg:D.getD i 0=D[i]:=by simp[List.getD,List.getElem?_eq_getElem h]
 rw[List.take_succ_eq_append_getElem h,←List.append_assoc,decL_snoc,hg]
theorem digB_le {b:UInt8}(h:digB b=true):48≤b.toNat∧b.toNat≤57:=by
 unfold digB at h
 rw[Bool.and_eq_true,decide_eq_true_iff,decide_eq_true_iff]at h
 exact h
theorem getD_mem (D:List UInt8)(i:Nat)(h:i<D.length):D.getD i 0∈D:=by
 have hg:D.getD i 0=D[i]:=by simp[List.getD,List.getElem?_eq_getElem h]
 rw[hg]
 exact List.getElem_mem h
theorem over_part (A P:List UInt8)(D R:List UInt8)(i:Nat)(hA:A=P++D++R)(h:9223372036854775807<decL (P++D.take (i+1))):fitD (decL A:Int)= .over:=by
 have e:A=P++D.take (i+1)++(D.drop (i+1)++R):=by
  rw[hA,List.append_assoc,List.append_assoc,←List.append_assoc (D.take (i+1)),List.take_append_drop]
 have hl:=decL_le_append (P++D.take (i+1)) (D.drop (i+1)++R)
 rw[←e]at hl
 unfold fitD
 rw[if_pos (by omega)]
set_option maxRecDepth 100000 in
set_option maxHeartbeats 8000000 in
theorem told_any (wd f:List UInt8)(w:World)(hwd:∀b∈wd,digB b=true)(hf:∀b∈f,digB b=true)(hwl:wd.length≤500)(hfl:f.length≤500):
 Calls Tryz.prog 178 #[.string (bs wd),.string (bs f)] w fun e w'=>e= .returned (decV (toldD wd f))∧Below w.heap.size w w':=by
 obtain⟨m,hm⟩:∃m,m=min f.length 6:=⟨_,rfl⟩
 have hmin:∀(ts:Array TypeId) (t:TypeId) wx,(Builtin.min_ ts t #[.int .i64 (f.length:Int),.int .i64 6]).run Tryz.prog wx= .ok (.int .i64 (m:Int)) wx:=fun ts t wx=>by
  rw[run_min_int2]
  congr 2
  split<;>omega
 obtain⟨f6,hf6⟩:∃f6,f6=f.take 6:=⟨_,rfl⟩
 have h6l:f6.length=m:=by rw[hf6,List.length_take];omega
 have hex:(bs f).extract 0 m=bs f6:=by
  rw[bs_ext,hf6,List.drop_zero,Nat.sub_zero]
  by_cases h:f.length≤6
  ·rw[List.take_of_length_le (by omega),List.take_of_length_le h]
  ·rw[show m=6 by omega]
 have hs6:(bs f6).size=m:=by rw[bs_size];exact h6l
 have hsf:(bs f).size=f.length:=bs_size f
 have hsw:(bs wd).size=wd.length:=bs_size wd
 have h6d:∀b∈f6,digB b=true:=fun b hb=>hf b (by rw[hf6]at hb;exact List.mem_of_mem_take hb)
 have CR:=fun W=>Lib.hid (rep_nought (6-m) W (by omega))
 have ecast:((6-m:Nat):Int)=6-(m:Int):=by omega
 rw[ecast]at CR
 obtain⟨z,hz⟩:∃z,z=List.replicate (6-m) (chr 0):=⟨_,rfl⟩
 rw[←hz]at CR
 have hzl:z.length=6-m:=by rw[hz,List.length_replicate]
 have hsz:(bs z).size=z.length:=bs_size z
 have hzd:∀b∈z,digB b=true:=fun b hb=>by rw[hz]at hb;rw[List.eq_of_mem_replicate hb];decide
 obtain⟨X,hX⟩:∃X,toldD wd f=X:=⟨_,rfl⟩
 have hall:allD wd f=wd++(f6++z):=by unfold allD;rw[←hf6,h6l,hz]
 rw[hX]
 have hover:∀P D R i,allD wd f=P++D++R→9223372036854775807<decL (P++D.take (i+1))→X= .over:=fun P D R i h1 h2=>by rw[←hX];exact over_part _ P D R i h1 h2
 have hfin:decL (wd++(f6++z))≤9223372036854775807→X= .num (decL (wd++(f6++z)):Int):=fun h=>by
  rw[←hX]
  unfold toldD
  rw[hall,fitD_in _ (by omega)]
 rw[hall]at hover
 have HOV:=Lib.hid hover
 have HFI:=Lib.hid hfin
 have HWD:=Lib.hid hwd
 have H6D:=Lib.hid h6d
 have HZD:=Lib.hid hzd
 have hmb:m≤6:=by omega
 have hmf:m≤f.length:=by omega
 obtain⟨W1,hW1⟩:∃W1,W1=w.alloc (Obj.cells #[Value.int IntKind.i64 0,Value.int IntKind.i64 0] 24):=⟨_,rfl⟩
 have hb1:Below w.heap.size w W1:=by rw[hW1];exact(Below.refl _ _).alloc (Nat.le_refl _) _
 have aft:∀w1,Below W1.heap.size W1 w1→w1.cell? ⟨w.heap.size,0,none⟩=some (.int .i64 0)∧w1.cell? ⟨w.heap.size,1,none⟩=some (.int .i64 0)∧w1.frozen? ⟨w.heap.size,0,none⟩=false∧w1.frozen? ⟨w.heap.size,1,none⟩=false∧w.heap.size<w1.heap.size∧Below w.heap.size w w1:=fun w1 h=>by
  rw[hW1]at h
  exact kept_new w _ _ 24 w1 h
 have AFT:=Lib.hid aft
 have HW1:=Lib.hid hW1
 clear hm hf6 h6d hz hzd hX hall hover hfin hwd hf ecast hW1 aft hb1
 go_enter Tryz.func178,Tryz.ntmps178
 go_wp2_with fail
 rw[←HW1.out]
 refine(CR _).out.mono ?_
 rintro e w2 ⟨rfl,hb2⟩
 have hbw:=hb2
 obtain⟨k0,k1,f0,f1,hs2,hbb⟩:=AFT.out _ hb2
 clear hb2 hbw
 go_wp2_with fail
 go_loop [6,24] (fun v i=>∃(j n:Nat),i= .int .i64 (j:Int)∧v= .int .i64 (n:Int)∧j≤3∧n≤9223372036854775807∧Hid (n=decL (([wd,f6,z].take j).flatten))) (fun _ i=>3-(RowKit.intOf i).toNat)
 case atStart=>exact⟨0,0,rfl,rfl,by omega,by omega,Lib.hid rfl⟩
 case round=>
  obtain⟨j,n,rfl,rfl,hj,hn,HN⟩:=hrel
  by_cases hlt:j<3
  ·obtain⟨D,P,R,hDP⟩:∃D P R:List UInt8,(∀wx,(Instr.index 202 (.agg #[Value.string (bs wd),Value.string (bs f6),Value.string (bs z)]) (.int .i64 (j:Int))).run Tryz.prog wx= .ok (.string (bs D)) wx)∧([wd,f6,z].take j).flatten=P∧wd++(f6++z)=P++D++R∧([wd,f6,z].take (j+1)).flatten=P++D∧(∀b∈D,digB b=true)∧D.length≤500:=by
    match j,hlt with
    |0,_=>exact⟨wd,[],f6++z,fun wx=>by simp[Instr.index,run_underlying Tryz.underlying202,asIntOf,go_sem],rfl,rfl,by simp,HWD.out,hwl⟩
    |1,_=>exact⟨f6,wd,z,fun wx=>by simp[Instr.index,run_underlying Tryz.underlying202,asIntOf,go_sem],by simp,by simp,by simp,H6D.out,by omega⟩
    |2,_=>exact⟨z,wd++f6,[],fun wx=>by simp[Instr.index,run_underlying Tryz.underlying202,asIntOf,go_sem],by simp,by simp,by simp,HZD.out,by omega⟩
   obtain⟨hidx,hP,hA,hP2,hDd,hDl⟩:=hDP
   have hn0:=HN.out
   rw[hP]at hn0
   have HN0:=Lib.hid hn0
   have HA:=Lib.hid hA
   have HP2:=Lib.hid hP2
   have HDd:=Lib.hid hDd
   have hsD:(bs D).size=D.length:=bs_size D
   have HSD:=Lib.hid hsD
   clear hn0 hP hA hP2 hDd HN
   go_wp2_with fail
   go_loop [6,29] (fun v i=>∃(i' n:Nat),i= .int .i64 (i':Int)∧v= .int .i64 (n:Int)∧i'≤D.length∧n≤9223372036854775807∧Hid (n=decL (P++D.take i'))) (fun _ i=>D.length-(RowKit.intOf i).toNat)
   case atStart=>exact⟨0,n,rfl,rfl,by omega,hn,Lib.hid (by simpa using HN0.out)⟩
   case round=>
    clear hn HN0
    obtain⟨i,n,rfl,rfl,hi,hn,HN⟩:=hrel
    by_cases hli:i<D.length
    ·have hli':i<(bs D).size:=by rw[hsD];exact hli
     have hgt:=bs_get D i hli'
     have hdg:=digB_le (HDd.out _ (getD_mem D i hli))
     have hst:=decL_take D P i hli
     have⟨d,hd⟩:∃d,d=dval (D.getD i 0):=⟨_,rfl⟩
     have hdv:(bs D)[i].toNat=48+d:=by rw[hgt,hd];unfold dval;omega
     have hd9:d≤9:=by rw[hd];unfold dval;omega
     rw[←hd,←HN.out]at hst
     have hov:=HOV.out P D R i HA.out
     rw[hst]at hov
     have HST:=Lib.hid hst
     have HOV2:=Lib.hid hov
     clear hgt hdg hst hd hov HN
     by_cases hbig:9223372036854775807<n*10+d
     ·have HXO:=Lib.hid (HOV2.out hbig)
      clear HST HOV2
      go_wp2_with fail
      exact end_dec rfl w2 w.heap.size _ _ k0 k1 rfl rfl ⟨by rw[HXO.out];rfl,(hbb.setCell (Nat.le_refl _) _).setCell (Nat.le_refl _) _⟩
     ·clear HOV2
      go_wp2_with fail
      go_round
      case rel=>exact⟨i+1,n*10+d,by go_num,by go_num,by omega,by omega,Lib.hid HST.out.symm⟩
      case measure=>simp[RowKit.intOf];omega
    ·have hfull:D.take i=D:=List.take_of_length_le (by omega)
     have hn1:=HN.out
     rw[hfull,←HP2.out]at hn1
     have HN1:=Lib.hid hn1
     clear hfull hn1 HN
     go_wp2_with fail
     go_round
     case rel=>exact⟨j+1,n,by go_num,rfl,by omega,by omega,HN1⟩
     case measure=>simp[RowKit.intOf];omega
  ·have hX:=HFI.out
   have hn1:=HN.out
   obtain rfl:j=3:=by omega
   have e3:([wd,f6,z].take 3).flatten=wd++(f6++z):=by simp
   rw[e3]at hn1
   rw[←hn1]at hX
   have HXN:=Lib.hid (hX hn)
   clear HN hn1 hX e3 HOV HFI
   go_wp2_with fail
   exact end_dec rfl w2 w.heap.size _ _ k0 k1 rfl rfl ⟨by rw[HXN.out];rfl,(hbb.setCell (Nat.le_refl _) _).setCell (Nat.le_refl _) _⟩
end Fig
namespace Fig
open Go.Proofs.YtlmpkpjjakallaaGreatDoor.Char Go.RowKit Go.Lib
theorem tl (l:List UInt8):(bs l).toList=l:=by rw[toList_data];rfl
theorem end_lit {fn:Func}{p q:Tmp}(h:fn.results= #[.cell p 24,.tmp q]){a:Act}{R:Ending→World→Prop}(w1:World)(g:Nat)(x y:Int)(u:Bool){z0 z1:Value}
 (k0:w1.cell? ⟨g,0,none⟩=some z0) (k1:w1.cell? ⟨g,1,none⟩=some z1) (hp:a.tmps.getD p undef= .pointer (some ⟨g,0,none⟩)) (hq:a.tmps.getD q undef= .bool u) (hd:a.defers=[])
 (hR:R (.returned (.tuple #[.agg #[.int .i64 x,.int .i64 y],.bool u])) ((w1.setCell ⟨g,0,none⟩ (.int .i64 x)).setCell ⟨g,1,none⟩ (.int .i64 y))):
 bodyPost Tryz.prog fn R .ret a ((w1.setCell ⟨g,0,none⟩ (.int .i64 x)).setCell ⟨g,1,none⟩ (.int .i64 y)):=by
 have hp':a.tmps[p]?.getD undef= .pointer (some ⟨g,0,none⟩):=by simpa using hp
 have hq':a.tmps[q]?.getD undef= .bool u:=by simpa using hq
 exact bodyPost_ret (v:= .tuple #[.agg #[.int .i64 x,.int .i64 y],.bool u]) (by simp[results,h,hp',hq',go_sem,k0,k1]) hd hR
def litX (o:Option Nm):Nm:=o.getD (.num 0)
theorem dropWhile_le (p:UInt8→Bool)(l:List UInt8):(l.dropWhile p).length≤l.length:=(List.dropWhile_suffix p).length_le
theorem takeWhile_le (p:UInt8→Bool)(l:List UInt8):(l.takeWhile p).length≤l.length:=(List.takeWhile_prefix p).length_le
theorem takeWhile_all (p:UInt8→Bool):∀l:List UInt8,∀b∈l.takeWhile p,p b=true
 |[],b,h=>by cases h
 |x::l,b,h=>by
  rw[List.takeWhile_cons]at h
  split at h
  ·rename_i hx
   rcases List.mem_cons.1 h with rfl|h
   ·exact hx
   ·exact takeWhile_all p l b h
  ·cases h
theorem box_step (n:Nat)(w0 w:World)(v v':Value)(x y:Value)(hs:n+1<w.heap.size)(h0:w.cell? ⟨n,0,none⟩=some x)(h1:w.cell? ⟨n,1,none⟩=some y)(g0:w.frozen? ⟨n,0,none⟩=false)(g1:w.frozen? ⟨n,1,none⟩=false)
 (hc:w.cell? ⟨n+1,0,none⟩=some v) (hf:w.frozen? ⟨n+1,0,none⟩=false) (hb:Below n w0 w):
 n+1<(w.setCell ⟨n+1,0,none⟩ v').heap.size∧(w.setCell ⟨n+1,0,none⟩ v').cell? ⟨n,0,none⟩=some x∧(w.setCell ⟨n+1,0,none⟩ v').cell? ⟨n,1,none⟩=some y∧(w.setCell ⟨n+1,0,none⟩ v').frozen? ⟨n,0,none⟩=false∧(w.setCell ⟨n+1,0,none⟩ v').frozen? ⟨n,1,none⟩=false∧
  (w.setCell ⟨n+1,0,none⟩ v').cell? ⟨n+1,0,none⟩=some v'∧(w.setCell ⟨n+1,0,none⟩ v').frozen? ⟨n+1,0,none⟩=false∧Below n w0 (w.setCell ⟨n+1,0,none⟩ v'):=by
 refine⟨?_,?_,?_,?_,?_,?_,?_,hb.setCell (by show n≤n+1;omega) _⟩
 all_goals go_simp
set_option maxRecDepth 100000 in
set_option maxHeartbeats 8000000 in
theorem lit_any (l:List UInt8)(w:World)(hl:l.length≤500):
 Calls Tryz.prog 148 #[.string (bs l)] w fun e w'=>e= .returned (.tuple #[decV (litX (litL l)),.bool (litL l).isSome])∧Below w.heap.size w w':=by
 obtain⟨wd,hwd⟩:∃x,x=l.takeWhile digB:=⟨_,rfl⟩
 obtain⟨r1,hr1⟩:∃x,x=l.dropWhile digB:=⟨_,rfl⟩
 obtain⟨pt,hpt⟩:∃x,x=r1.takeWhile ptB:=⟨_,rfl⟩
 obtain⟨r2,hr2⟩:∃x,x=r1.dropWhile ptB:=⟨_,rfl⟩
 obtain⟨f,hf⟩:∃x,x=r2.takeWhile digB:=⟨_,rfl⟩
 obtain⟨r3,hr3⟩:∃x,x=r2.dropWhile digB:=⟨_,rfl⟩
 have hlit:litL l=if r3=[]∧pt.length≤1∧¬(wd=[]∧f=[]) then some (toldD wd f) else none:=by
  rw[hr3,hpt,hwd,hf,hr2,hr1]
  rfl
 have l1:r1.length≤500:=by have :=dropWhile_le digB l;rw[hr1];omega
 have l2:r2.length≤500:=by have :=dropWhile_le ptB r1;rw[hr2];omega
 have lw:wd.length≤500:=by have :=takeWhile_le digB l;rw[hwd];omega
 have lp:pt.length≤500:=by have :=takeWhile_le ptB r1;rw[hpt];omega
 have lf:f.length≤500:=by have :=takeWhile_le digB r2;rw[hf];omega
 have T1:=fun W h1 h2=>take_any 176 digB asks_digit (w.heap.size+1) l W hl h1 h2
 have T2:=fun W h1 h2=>take_any 177 ptB asks_point (w.heap.size+1) r1 W l1 h1 h2
 have T3:=fun W h1 h2=>take_any 176 digB asks_digit (w.heap.size+1) r2 W l2 h1 h2
 rw[←hwd,←hr1]at T1
 rw[←hpt,←hr2]at T2
 rw[←hf,←hr3]at T3
 have CT:=(fun W=>told_any wd f W (by rw[hwd];exact takeWhile_all _ _) (by rw[hf];exact takeWhile_all _ _) lw lf)
 have H1:=Lib.hid T1
 have H2:=Lib.hid T2
 have H3:=Lib.hid T3
 obtain⟨X,hX⟩:∃X,litL l=X:=⟨_,rfl⟩
 obtain⟨Y,hY⟩:∃Y,toldD wd f=Y:=⟨_,rfl⟩
 rw[hY]at CT hlit
 clear hY
 rw[hX]
 rw[hX]at hlit
 have HX:=Lib.hid hlit
 have HCT:=Lib.hid CT
 clear CT
 have sw:(bs wd).size=wd.length:=bs_size wd
 have sp:(bs pt).size=pt.length:=bs_size pt
 have sf:(bs f).size=f.length:=bs_size f
 have s3:(bs r3).size=r3.length:=bs_size r3
 clear hX hlit T1 T2 T3 hwd hr1 hpt hr2 hf hr3 l1 l2
 obtain⟨W0,hW0⟩:∃W0,W0=(w.alloc (Obj.cells #[Value.int IntKind.i64 0,Value.int IntKind.i64 0] 24)).alloc (Obj.cells #[Value.string (bs l)] 9):=⟨_,rfl⟩
 have F0:w.heap.size+1<W0.heap.size∧W0.cell? ⟨w.heap.size,0,none⟩=some (.int .i64 0)∧W0.cell? ⟨w.heap.size,1,none⟩=some (.int .i64 0)∧W0.frozen? ⟨w.heap.size,0,none⟩=false∧W0.frozen? ⟨w.heap.size,1,none⟩=false∧
  W0.cell? ⟨w.heap.size+1,0,none⟩=some (.string (bs l))∧W0.frozen? ⟨w.heap.size+1,0,none⟩=false∧Below w.heap.size w W0:=by
  rw[hW0]
  refine⟨by simp,?_,?_,?_,?_,?_,?_,((Below.refl _ _).alloc (Nat.le_refl _) _).alloc (by simp) _⟩
  all_goals go_simp
 have HW0:=Lib.hid hW0
 clear hW0
 go_enter Tryz.func148,Tryz.ntmps148
 go_wp2_with fail
 rw[←HW0.out]
 obtain⟨z0,a0,b0,c0,d0,e0,g0,k0⟩:=F0
 refine(H1.out _ e0 g0).mono ?_
 rintro e w1 ⟨rfl,hw1⟩
 have F1:=box_step _ w W0 _ (.string (bs r1)) _ _ z0 a0 b0 c0 d0 e0 g0 k0
 rw[←hw1]at F1
 clear z0 a0 b0 c0 d0 e0 g0 k0 hw1
 obtain⟨z0,a0,b0,c0,d0,e0,g0,k0⟩:=F1
 go_wp2_with fail
 refine(H2.out _ e0 g0).mono ?_
 rintro e w2 ⟨rfl,hw2⟩
 have F2:=box_step _ w w1 _ (.string (bs r2)) _ _ z0 a0 b0 c0 d0 e0 g0 k0
 rw[←hw2]at F2
 clear z0 a0 b0 c0 d0 e0 g0 k0 hw2
 obtain⟨z0,a0,b0,c0,d0,e0,g0,k0⟩:=F2
 go_wp2_with fail
 refine(H3.out _ e0 g0).mono ?_
 rintro e w3 ⟨rfl,hw3⟩
 have F3:=box_step _ w w2 _ (.string (bs r3)) _ _ z0 a0 b0 c0 d0 e0 g0 k0
 rw[←hw3]at F3
 clear z0 a0 b0 c0 d0 e0 g0 k0 hw3
 obtain⟨z0,a0,b0,c0,d0,e0,g0,k0⟩:=F3
 clear H1 H2 H3
 have em:∀x:List UInt8,x=[]→(bs x).toList=[]:=fun x h=>by rw[h];exact tl []
 have en:∀x:List UInt8,x≠[]→¬(bs x).toList=[]:=fun x h=>by rw[tl];exact h
 have im:∀x:List UInt8,x=[]→(bs x).toList.isEmpty=true:=fun x h=>by rw[h,tl];rfl
 have ine:∀x:List UInt8,x≠[]→(bs x).toList.isEmpty=false:=fun x h=>by rw[tl];cases x with |nil=>exact absurd rfl h|cons _ _=>rfl
 clear sw sf s3
 by_cases c3:r3=[]
 ·have q3:=em _ c3
  have i3:=im _ c3
  by_cases cp:pt.length≤1
  ·have dp:decide ((1:Int)<(pt.length:Int))=false:=by rw[decide_eq_false_iff_not];omega
   by_cases cw:wd=[]
   ·have qw:=em _ cw
    have iw:=im _ cw
    by_cases cf:f=[]
    ·have XN:Hid (X=none):=Lib.hid (by rw[HX.out,if_neg (fun h=>h.2.2 ⟨cw,cf⟩)])
     have qf:=em _ cf
     have if_:=im _ cf
     clear HX HCT c3 cw cf em en im ine
     go_wp2_with fail
     exact end_lit rfl w3 w.heap.size _ _ false a0 b0 rfl rfl rfl ⟨by rw[XN.out];rfl,(k0.setCell (Nat.le_refl _) _).setCell (Nat.le_refl _) _⟩
    ·have XS:Hid (X=some Y):=Lib.hid (by rw[HX.out,if_pos ⟨c3,cp,fun h=>cf h.2⟩])
     have qf:=en _ cf
     have if_:=ine _ cf
     clear HX c3 cw cf em en im ine
     go_wp2_with fail
     refine(HCT.out _).mono ?_
     rintro e w4 ⟨rfl,hb4⟩
     have q0:=(hb4.cell (p:=⟨w.heap.size,0,none⟩) (by show w.heap.size<_;omega)).trans a0
     have q1:=(hb4.cell (p:=⟨w.heap.size,1,none⟩) (by show w.heap.size<_;omega)).trans b0
     have qf0:=(hb4.frozen (p:=⟨w.heap.size,0,none⟩) (by show w.heap.size<_;omega)).trans c0
     have qf1:=(hb4.frozen (p:=⟨w.heap.size,1,none⟩) (by show w.heap.size<_;omega)).trans d0
     have qs:=Nat.lt_of_lt_of_le z0 hb4.size
     have qb:=k0.trans (hb4.mono (by omega))
     unfold decV
     clear hb4 a0 b0 c0 d0 e0 g0 z0
     have qs':w.heap.size<w4.heap.size:=by omega
     go_wp2_with fail
     exact end_lit rfl w4 w.heap.size _ _ true q0 q1 rfl rfl rfl ⟨by rw[XS.out];rfl,(qb.setCell (Nat.le_refl _) _).setCell (Nat.le_refl _) _⟩
   ·have XS:Hid (X=some Y):=Lib.hid (by rw[HX.out,if_pos ⟨c3,cp,fun h=>cw h.1⟩])
    have qw:=en _ cw
    have iw:=ine _ cw
    clear HX c3 cw em en im ine
    go_wp2_with fail
    refine(HCT.out _).mono ?_
    rintro e w4 ⟨rfl,hb4⟩
    have q0:=(hb4.cell (p:=⟨w.heap.size,0,none⟩) (by show w.heap.size<_;omega)).trans a0
    have q1:=(hb4.cell (p:=⟨w.heap.size,1,none⟩) (by show w.heap.size<_;omega)).trans b0
    have qf0:=(hb4.frozen (p:=⟨w.heap.size,0,none⟩) (by show w.heap.size<_;omega)).trans c0
    have qf1:=(hb4.frozen (p:=⟨w.heap.size,1,none⟩) (by show w.heap.size<_;omega)).trans d0
    have qs:=Nat.lt_of_lt_of_le z0 hb4.size
    have qb:=k0.trans (hb4.mono (by omega))
    unfold decV
    clear hb4 a0 b0 c0 d0 e0 g0 z0
    have qs':w.heap.size<w4.heap.size:=by omega
    go_wp2_with fail
    exact end_lit rfl w4 w.heap.size _ _ true q0 q1 rfl rfl rfl ⟨by rw[XS.out];rfl,(qb.setCell (Nat.le_refl _) _).setCell (Nat.le_refl _) _⟩
  ·have XN:Hid (X=none):=Lib.hid (by rw[HX.out,if_neg (fun h=>cp h.2.1)])
   have dp:decide ((1:Int)<(pt.length:Int))=true:=by rw[decide_eq_true_iff];omega
   clear HX HCT c3 em en im ine
   go_wp2_with fail
   exact end_lit rfl w3 w.heap.size _ _ false a0 b0 rfl rfl rfl ⟨by rw[XN.out];rfl,(k0.setCell (Nat.le_refl _) _).setCell (Nat.le_refl _) _⟩
 ·have XN:Hid (X=none):=Lib.hid (by rw[HX.out,if_neg (fun h=>c3 h.1)])
  have q3:=en _ c3
  have i3:=ine _ c3
  clear HX HCT c3 em en im ine
  go_wp2_with fail
  exact end_lit rfl w3 w.heap.size _ _ false a0 b0 rfl rfl rfl ⟨by rw[XN.out];rfl,(k0.setCell (Nat.le_refl _) _).setCell (Nat.le_refl _) _⟩
end Fig
end Go.Proofs.YtlmpkpjjakallaaGreatDoor
