import Derived.Test.YtlmpkpjjakallaaGreatDoorPk28
import Derived.Test.YtlmpkpjjakallaaGreatDoorPk00
import Derived.Test.YtlmpkpjjakallaaGreatDoorProg
import Derived.WalkKit
import Derived.Below
import Derived.Outline
import Derived.Lib.Hide
import Derived.Laws.AppendOwn
import Derived.OwnWalk
import Derived.Lib.ValidAsc
namespace Go.Proofs.YtlmpkpjjakallaaGreatDoor
namespace Char
open Go.RowKit Go.Lib
theorem strs_at (ss:List (List UInt8)){W:World}{g:Nat}{T:TypeId}(h:W.heap[g]? =some (.cells (ss.map fun s=>Value.string (bs s)).toArray T (0,0))):∀i (hi:i<ss.length),W.cell? ⟨g,i,none⟩=some (.string (bs ss[i])):=by
 intro i hi
 simp only[World.cell?,h]
 simp[hi]
theorem marksL_len:∀p∈marksL,p.length≤3:=by decide
theorem opsL_len:∀p∈opsL,p.length≤3:=by decide
theorem begins_at {L:List UInt8}(l t:List UInt8)(p:Nat)(w:World)(hl:l.length≤60000)(hp:p≤l.length)(ht:t.length≤1000)(hL:l.drop p=L):
 Calls Tryz.prog 135 #[.string (bs l),.int .i64 (p:Int),.string (bs t)] w fun e w'=>e= .returned (.bool (t.isPrefixOf L))∧w=w':=hL▸begins12_any l t p w hl hp ht
def sgn (L:List UInt8):Nat×List UInt8:=match firstP marksL L with
 |some t=>(1,t)
 |none=>match firstP opsL L with
  |some t=>(5,t)
  |none=>(0,[])
set_option maxHeartbeats 8000000 in
theorem sign_any (l:List UInt8)(P:Nat)(w:World)(hl:l.length≤60000)(hp:P≤l.length):
 Calls Tryz.prog 85 #[.string (bs l),.int .i64 (P:Int)] w fun e w'=>e= .returned (.tuple #[.int .i64 ((sgn (l.drop P)).1:Int),.string (bs (sgn (l.drop P)).2)])∧Below w.heap.size w w':=by
 obtain⟨L,hL⟩:∃L,l.drop P=L:=⟨_,rfl⟩
 rw[hL]
 have r1:∀t,firstP marksL L=some t→sgn L=(1,t):=fun t h=>by unfold sgn;rw[h]
 have r2:firstP marksL L=none→∀t,firstP opsL L=some t→sgn L=(5,t):=fun h t h2=>by unfold sgn;rw[h,h2]
 have r3:firstP marksL L=none→firstP opsL L=none→sgn L=(0,[]):=fun h h2=>by unfold sgn;rw[h,h2]
 generalize sgn L=R at *
 have Q1:=Lib.hid r1
 have Q2:=Lib.hid r2
 have Q3:=Lib.hid r3
 clear r1 r2 r3
 obtain⟨W1,hW1⟩:∃W1,W1=w.alloc (.cells #[.string ⟨#[46,46]⟩,.string ⟨#[58,58]⟩,.string ⟨#[40]⟩,.string ⟨#[41]⟩,.string ⟨#[91]⟩,.string ⟨#[93]⟩,.string ⟨#[46]⟩,.string ⟨#[64]⟩,.string ⟨#[44]⟩] 9):=⟨_,rfl⟩
 have hb1:Below w.heap.size w W1:=by rw[hW1];exact below_box _
 have HC7:=Lib.hid (strs_at marksL (W:=W1) (g:=w.heap.size) (T:=9) (by rw[hW1];exact World.alloc_heap_new w _))
 have HW1:=Lib.hid hW1
 have HB1:=Lib.hid hb1
 clear hW1 hb1
 go_enter Tryz.func85,Tryz.ntmps85
 go_upto_region 2 with fail
 rw[←HW1.out]
 clear HW1
 go_wp2_with fail
 go_loop [7] (fun v=>∃k:Nat,v= .int .i64 (k:Int)∧k≤9∧Hid (firstP (marksL.drop k) L=firstP marksL L)) (fun v=>9-(RowKit.intOf v).toNat)
 case atStart=>exact⟨0,rfl,Nat.zero_le _,Lib.hid rfl⟩
 case round=>
  obtain⟨k,rfl,hk,HK⟩:=hrel
  by_cases hlt:k<9
  ·have hst:=first_step (ss:=marksL) (l:=L) hlt
   rw[HK.out]at hst
   have hcell:=HC7.out k hlt
   have hml:(marksL[k]'hlt).length≤3:=marksL_len _ (List.getElem_mem hlt)
   generalize marksL[k]'hlt=p at *
   have HBG:=Lib.hid fun(W:World)=>begins_at l p P W hl hp (by omega) hL
   have k1:decide ((k:Int)<9)=true:=decide_eq_true (by omega)
   have k2:decide (k<9)=true:=decide_eq_true hlt
   have hz0:(0:Int)≤(k:Int):=by omega
   have hz1:(k:Int)<9:=by omega
   have HLT:=Lib.hid hlt
   cases hb:p.isPrefixOf L with
   |true=>
    rw[hb]at HBG hst
    simp only[if_true]at hst
    have HR2:=Lib.hid (Q1.out p hst)
    clear hst hb hlt hk hml
    go_upto_region 6 with(first
     |(go_at_call 135
       refine(HBG.out _).mono ?_
       rintro e w2 ⟨rfl,rfl⟩))
    go_quiet (fail)
    go_wp2_with fail
    go_ret2
    exact⟨by rw[HR2.out];rfl,HB1.out.trans ⟨rfl,rfl,rfl,Nat.le_refl _,fun _ _=>rfl⟩⟩
   |false=>
    rw[hb]at HBG hst
    simp only[Bool.false_eq_true,if_false]at hst
    have HST:=Lib.hid hst.symm
    clear hst hb hlt hk hml
    go_wp2_with (first
     |(go_at_call 135
       refine(HBG.out _).mono ?_
       rintro e w2 ⟨rfl,rfl⟩))
    go_round
    case rel=>exact⟨k+1,by go_num,by have :=HLT.out;omega,HST⟩
    case measure=>have :=HLT.out;simp[RowKit.intOf];omega
  ·have hno:firstP marksL L=none:=by
    have h:=HK.out
    rw[List.drop_eq_nil_of_le (show marksL.length≤k by show 9≤k;omega)]at h
    exact h.symm
   have k1:decide ((k:Int)<9)=false:=decide_eq_false (by omega)
   have k2:decide (k<9)=false:=decide_eq_false hlt
   clear hlt hk HK
   obtain⟨W2,hW2⟩:∃W2,W2=W1.alloc (.cells #[.string ⟨#[47,47]⟩,.string ⟨#[33,61]⟩,.string ⟨#[60,61]⟩,.string ⟨#[62,61]⟩,.string ⟨#[47]⟩,.string ⟨#[124]⟩,.string ⟨#[43]⟩,.string ⟨#[45]⟩,.string ⟨#[61]⟩,.string ⟨#[60]⟩,.string ⟨#[62]⟩] 9):=⟨_,rfl⟩
   have hb2:Below W1.heap.size W1 W2:=by rw[hW2];exact below_box _
   have HC9:=Lib.hid (strs_at opsL (W:=W2) (g:=W1.heap.size) (T:=9) (by rw[hW2];exact World.alloc_heap_new W1 _))
   have HW2:=Lib.hid hW2
   have HB2:=Lib.hid (HB1.out.trans (hb2.mono HB1.out.size))
   have HNO:=Lib.hid hno
   clear hW2 hb2 hno
   go_upto_region 8 with fail
   rw[←HW2.out]
   clear HW2
   go_wp2_with fail
   go_loop [9] (fun v=>∃k:Nat,v= .int .i64 (k:Int)∧k≤11∧Hid (firstP (opsL.drop k) L=firstP opsL L)) (fun v=>11-(RowKit.intOf v).toNat)
   case atStart=>exact⟨0,rfl,Nat.zero_le _,Lib.hid rfl⟩
   case round=>
    obtain⟨k,rfl,hk,HK⟩:=hrel
    by_cases hlt:k<11
    ·have hst:=first_step (ss:=opsL) (l:=L) hlt
     rw[HK.out]at hst
     have hcell:=HC9.out k hlt
     have hml:(opsL[k]'hlt).length≤3:=opsL_len _ (List.getElem_mem hlt)
     generalize opsL[k]'hlt=p at *
     have HBG:=Lib.hid fun(W:World)=>begins_at l p P W hl hp (by omega) hL
     have k1:decide ((k:Int)<11)=true:=decide_eq_true (by omega)
     have k2:decide (k<11)=true:=decide_eq_true hlt
     have hz0:(0:Int)≤(k:Int):=by omega
     have hz1:(k:Int)<11:=by omega
     have HLT:=Lib.hid hlt
     cases hb:p.isPrefixOf L with
     |true=>
      rw[hb]at HBG hst
      simp only[if_true]at hst
      have HR2:=Lib.hid (Q2.out HNO.out p hst)
      clear hst hb hlt hk hml
      go_upto_region 12 with(first
       |(go_at_call 135
         refine(HBG.out _).mono ?_
         rintro e w2 ⟨rfl,rfl⟩))
      go_quiet (fail)
      go_wp2_with fail
      go_ret2
      exact⟨by rw[HR2.out];rfl,HB2.out.trans ⟨rfl,rfl,rfl,Nat.le_refl _,fun _ _=>rfl⟩⟩
     |false=>
      rw[hb]at HBG hst
      simp only[Bool.false_eq_true,if_false]at hst
      have HST:=Lib.hid hst.symm
      clear hst hb hlt hk hml
      go_wp2_with (first
       |(go_at_call 135
         refine(HBG.out _).mono ?_
         rintro e w2 ⟨rfl,rfl⟩))
      go_round
      case rel=>exact⟨k+1,by go_num,by have :=HLT.out;omega,HST⟩
      case measure=>have :=HLT.out;simp[RowKit.intOf];omega
    ·have hno:firstP opsL L=none:=by
      have h:=HK.out
      rw[List.drop_eq_nil_of_le (show opsL.length≤k by show 11≤k;omega)]at h
      exact h.symm
     have k1:decide ((k:Int)<11)=false:=decide_eq_false (by omega)
     have k2:decide (k<11)=false:=decide_eq_false hlt
     clear hlt hk HK
     have HR2:=Lib.hid (Q3.out HNO.out hno)
     clear hno
     go_wp2_with fail
     go_ret2
     exact⟨by rw[HR2.out];rfl,HB2.out⟩
end Char
namespace Char
open Go.Lib Go.RowKit
theorem lexN_errs:∀(f:Nat) (l:List UInt8) (e:Bool) (n y:Nat),lexN f l e n= .inl y→y=30∨y=3
 |0,_,_,_,_,h=>by cases h;exact .inl rfl
 |f+1,l,e,n,y,h=>by
  unfold lexN at h
  by_cases hl:l=[]
  ·rw[if_pos hl]at h
   cases h
  ·rw[if_neg hl]at h
   cases hw:wdL l e with
   |none=>rw[hw]at h;cases h;exact .inl rfl
   |some q=>
    obtain⟨w,k⟩:=q
    rw[hw]at h
    dsimp only at h
    by_cases h1:n=120
    ·rw[if_pos h1]at h;cases h;exact .inr rfl
    ·rw[if_neg h1]at h
     cases hr:lexN f (dropS (l.drop k)) (endW w) (n+1) with
     |inl x=>rw[hr]at h;cases h;exact lexN_errs f _ _ _ _ hr
     |inr vs=>rw[hr]at h;cases h
theorem lexL_errs {s:List UInt8}{y:Nat}(h:lexL s= .inl y):y=3∨y=10∨y=30:=by
 unfold lexL at h
 split at h
 ·cases h;exact .inl rfl
 ·split at h
  ·cases h;exact .inr (.inl rfl)
  ·rcases lexN_errs _ _ _ _ _ h with rfl|rfl
   ·exact .inr (.inr rfl)
   ·exact .inl rfl
end Char
namespace Char
open Go.Lib Go.RowKit
theorem lastE_snoc:∀(xs:List Wd) (x:Wd) (e:Bool),lastE e (xs++[x])=endW x
 |[],_,_=>rfl
 |_::ys,x,_=>lastE_snoc ys x _
end Char
namespace Char
open Go.RowKit Go.Lib
open Go.Proofs.YtlmpkpjjakallaaGreatDoor.Fig (outT outV)
theorem ends_snoc (n:Nat)(v:Value)(x:Wd)(j g:Nat)(w:World)(hv:v= .slice (some ⟨g,0,none⟩) (n+1) j)(hl:n≤1000)
 (z0:w.cell? ⟨g,n*4,none⟩=some (.int .i64 (x.k:Int))) (z1:w.cell? ⟨g,n*4+1,none⟩=some (.string (bs x.s))) (z2:w.cell? ⟨g,n*4+2,none⟩=some (.int .i64 (outT x.n))) (z3:w.cell? ⟨g,n*4+3,none⟩=some (.int .i64 (outV x.n))):
 Calls Tryz.prog 86 #[v] w fun e w'=>e= .returned (.bool (endW x))∧Below w.heap.size w w':=by
 subst hv
 have c0:(((n:Int)+1)==0)=false:=by rw[beq_eq_false_iff_ne];omega
 by_cases q5:x.k=5
 ·have he:endW x=false:=by unfold endW;rw[q5];rfl
  have c1:((x.k:Int)==5)=true:=by rw[q5];rfl
  rw[he]
  clear he q5
  go_enter Tryz.func86,Tryz.ntmps86
  go_wp2_with fail
  go_ret
  exact⟨rfl,Below.refl _ _⟩
 ·have c1:((x.k:Int)==5)=false:=by rw[beq_eq_false_iff_ne];omega
  by_cases q1:x.k=1
  ·have c2:((x.k:Int) != 1)=false:=by rw[q1];rfl
   have he:endW x= !openL.contains x.s:=by unfold endW;rw[q1];rfl
   obtain⟨W1,hW1⟩:∃W1,W1=w.alloc (.cells #[.int .i64 (x.k:Int),.string (bs x.s),.int .i64 (outT x.n),.int .i64 (outV x.n)] 89):=⟨_,rfl⟩
   obtain⟨b0,_,_⟩:=(⟨by rw[hW1];exact(below_box _),trivial,trivial⟩:Below w.heap.size w W1∧True∧True)
   have hk1:W1.heap[w.heap.size]? =some (wdB x):=by rw[hW1];exact World.alloc_heap_new w _
   obtain⟨⟨d0,d1,d2,d3⟩,_⟩:=wd_blk hk1
   have hIn:=in12_any openL x.s W1.heap.size (W1.alloc (.cells #[.string ⟨#[64]⟩,.string ⟨#[58,58]⟩,.string ⟨#[40]⟩,.string ⟨#[91]⟩,.string ⟨#[44]⟩] 9)) (strs_at openL (T:=9) (World.alloc_heap_new W1 _)) (by decide)
   rw[he]
   generalize openL.contains x.s=C at *
   have HIN:=Lib.hid hIn
   have HW1:=Lib.hid hW1
   have HB1:=Lib.hid b0
   clear he q1 q5 hIn hW1 hk1 b0
   go_enter Tryz.func86,Tryz.ntmps86
   go_upto_region 4 with fail
   rw[←HW1.out]
   clear HW1
   go_wp2_with (
    refine HIN.out.mono ?_
    rintro e w2 ⟨rfl,rfl⟩)
   go_ret
   exact⟨rfl,HB1.out.alloc HB1.out.size _⟩
  ·have c2:((x.k:Int) != 1)=true:=by rw[bne_iff_ne];omega
   have he:endW x=true:=by unfold endW;simp[q5,q1]
   rw[he]
   have HB:=Lib.hid (below_box (w:=w) (.cells #[.int .i64 (x.k:Int),.string (bs x.s),.int .i64 (outT x.n),.int .i64 (outV x.n)] 89))
   clear he q5 q1
   go_enter Tryz.func86,Tryz.ntmps86
   go_wp2_with fail
   go_ret
   exact⟨rfl,HB.out⟩
theorem ends12_any (B:Nat)(v:Value)(xs:List Wd)(w:World)(h:OwnsWd B w v xs)(hl:xs.length≤1000):Calls Tryz.prog 86 #[v] w fun e w'=>e= .returned (.bool (lastE false xs))∧Below w.heap.size w w':=by
 obtain⟨o,j,hv⟩:=h.form
 rcases List.eq_nil_or_concat xs with rfl|⟨ys,x,rfl⟩
 ·subst hv
  clear h
  go_enter Tryz.func86,Tryz.ntmps86
  go_wp2_with fail
  go_ret
  exact⟨rfl,Below.refl _ _⟩
 ·rw[List.concat_eq_append]at *
  rw[lastE_snoc]
  rw[hv]at h
  obtain⟨g,rfl,_,z0,z1,z2,z3⟩:=h.reads ys.length (by simp)
  have hx:∀h,(ys++[x])[ys.length]'h=x:=fun h=>by simp
  rw[hx]at z0 z1 z2 z3
  have hll:(ys++[x]).length=ys.length+1:=by simp
  rw[hll]at hv hl
  exact ends_snoc ys.length v x j g w hv (by omega) z0 z1 z2 z3
end Char
namespace Char
open Go.RowKit Go.Lib
def vN (c:Nat→Nat)(n0:Nat):Nat→Nat
 |0=>n0
 |j+1=>vN c n0 j*64+(c (j+1)-128)
set_option maxRecDepth 100000 in
theorem vN_le (c:Nat→Nat)(n0:Nat):∀j,(∀i,1≤i→i≤j→128≤c i∧c i≤191)→vN c n0 j+1≤(n0+1)*64^j
 |0,_=>by
  rw[Nat.pow_zero,Nat.mul_one]
  exact Nat.le_refl _
 |j+1,h=>by
  have ih:=vN_le c n0 j fun i h1 h2=>h i h1 (by omega)
  have hc:=h (j+1) (by omega) (Nat.le_refl _)
  rw[Nat.pow_succ,←Nat.mul_assoc]
  generalize (n0+1)*64^j=X at ih
  show vN c n0 j*64+(c (j+1)-128)+1≤X*64
  omega
theorem byt_at (s:ByteArray)(j:Nat)(h:j<s.size):(s[j]'h).toNat=byt s.data.toList j:=by
 unfold byt
 have e:s.data.toList.length=s.size:=by rw[Array.length_toList];rfl
 rw[List.getD,List.getElem?_eq_getElem (by omega)]
 rfl
theorem ret_two {k:IntKind}{a b c d:Int}(h:a=c)(h2:b=d):Ending.returned (.tuple #[.int k a,.int k b])=Ending.returned (.tuple #[.int k c,.int k d]):=by rw[h,h2]
set_option maxRecDepth 100000 in
set_option maxHeartbeats 1000000 in
theorem one_empty (s:ByteArray)(w:World)(h0:s.size=0):
 Calls Tryz.prog 123 #[.string s] w fun e w'=>e= .returned (.tuple #[.int .i64 (0:Int),.int .i64 (0:Int)])∧w=w':=by
 have h0b:((s.size:Int)==0)=true:=by simp[h0]
 clear h0
 go_enter Tryz.func123,Tryz.ntmps123
 go_wp2_with fail
 go_ret2
 exact⟨rfl,rfl⟩
set_option maxRecDepth 100000 in
set_option maxHeartbeats 1000000 in
theorem one_ascii (s:ByteArray)(w:World)(hs:s.size≤1048576)(h0:0<s.size)(hb:(s[0]'h0).toNat<128):
 Calls Tryz.prog 123 #[.string s] w fun e w'=>e= .returned (.tuple #[.int .i64 ((s[0]'h0).toNat:Int),.int .i64 (1:Int)])∧w=w':=by
 have h0b:((s.size:Int)==0)=false:=by rw[beq_eq_false_iff_ne];omega
 have h0z:(0:Int)<(s.size:Int):=by omega
 generalize hx:(s[0]'h0).toNat=a at hb
 go_enter Tryz.func123,Tryz.ntmps123
 go_wp2_with fail
 go_ret2
 exact⟨rfl,rfl⟩
set_option maxRecDepth 100000 in
set_option maxHeartbeats 1000000 in
theorem one_bad (s:ByteArray)(w:World)(hs:s.size≤1048576)(h0:0<s.size)(hb:(128≤(s[0]'h0).toNat∧(s[0]'h0).toNat<192)∨248≤(s[0]'h0).toNat):
 Calls Tryz.prog 123 #[.string s] w fun e w'=>e= .returned (.tuple #[.int .i64 (0:Int),.int .i64 (0:Int)])∧w=w':=by
 have h0b:((s.size:Int)==0)=false:=by rw[beq_eq_false_iff_ne];omega
 have h0z:(0:Int)<(s.size:Int):=by omega
 have hlt:=(s[0]'h0).toNat_lt
 generalize hx:(s[0]'h0).toNat=a at hb hlt
 rcases hb with⟨b1,b2⟩|b1
 all_goals
  go_enter Tryz.func123,Tryz.ntmps123
  go_wp2_with fail
  go_ret2
  exact⟨rfl,rfl⟩
set_option maxRecDepth 100000 in
set_option maxHeartbeats 1000000 in
theorem one_short2 (s:ByteArray)(w:World)(hs:s.size≤1048576)(h0:0<s.size)(hb:192≤(s[0]'h0).toNat∧(s[0]'h0).toNat<224)(hl:s.size<2):
 Calls Tryz.prog 123 #[.string s] w fun e w'=>e= .returned (.tuple #[.int .i64 (0:Int),.int .i64 (0:Int)])∧w=w':=by
 have h0b:((s.size:Int)==0)=false:=by rw[beq_eq_false_iff_ne];omega
 have h0z:(0:Int)<(s.size:Int):=by omega
 have hlz:(s.size:Int)<2:=by omega
 obtain⟨b1,b2⟩:=hb
 generalize hx:(s[0]'h0).toNat=a at b1 b2
 go_enter Tryz.func123,Tryz.ntmps123
 go_wp2_with fail
 go_ret2
 exact⟨rfl,rfl⟩
set_option maxRecDepth 100000 in
set_option maxHeartbeats 2000000 in
theorem one_lead2 (s:ByteArray)(w:World)(hs:s.size≤1048576)(h0:0<s.size)(hb:192≤(s[0]'h0).toNat∧(s[0]'h0).toNat<224)(hl:2≤s.size)(c:Nat→Nat)
 (hc:∀j (h:j<s.size),(s[j]'h).toNat=c j):
 Calls Tryz.prog 123 #[.string s] w fun e w'=>(∃R:Nat×Nat,R=oneN s.size (c 0) (c 1) (c 2) (c 3)∧e= .returned (.tuple #[.int .i64 (R.1:Int),.int .i64 (R.2:Int)]))∧w=w':=by
 have h0b:((s.size:Int)==0)=false:=by rw[beq_eq_false_iff_ne];omega
 have h0z:(0:Int)<(s.size:Int):=by omega
 have hlz:¬(s.size:Int)<2:=by omega
 obtain⟨b1,b2⟩:=hb
 have hx:=hc 0 h0
 rw[hx]at b1 b2
 obtain⟨R,hR⟩:∃R,R=oneN s.size (c 0) (c 1) (c 2) (c 3):=⟨_,rfl⟩
 have HR:=Lib.hid hR
 clear hR
 have HC:=Lib.hid hc
 clear hc
 obtain⟨a,ha⟩:∃a,c 0=a:=⟨_,rfl⟩
 rw[ha]at hx b1 b2
 have HA:=Lib.hid ha
 clear ha
 suffices hh:Calls Tryz.prog 123 #[.string s] w fun e w'=>e= .returned (.tuple #[.int .i64 (R.1:Int),.int .i64 (R.2:Int)])∧w=w' from
  hh.mono fun e w' ⟨he,hw⟩=>⟨⟨R,HR.out,he⟩,hw⟩
 go_enter Tryz.func123,Tryz.ntmps123
 go_wp2_with fail
 go_loop [6,8,9] (fun nv kv _=>∃j:Nat,j+1≤2∧kv= .int .i64 ((j+1:Nat):Int)∧nv= .int .i64 ((vN c (a-192) j:Nat):Int)∧Hid (∀i,1≤i→i≤j→128≤c i∧c i≤191)) (fun _ kv _=>2-(intOf kv).toNat)
 case atStart=>exact⟨0,by omega,rfl,by congr 1;unfold vN;omega,Lib.hid fun i h1 h2=>by omega⟩
 case round=>
  obtain⟨j,hj,rfl,rfl,HG⟩:=hrel
  have hv:=vN_le c (a-192) j HG.out
  have hv2:vN c (a-192) j≤2097151:=by
   have hj3:j=0∨j=1∨j=2∨j=3:=by omega
   rcases hj3 with rfl|rfl|rfl|rfl<;>simp at hv<;>omega
  clear hv
  by_cases hlt:j+1<2
  ·have hjs:j+1<s.size:=by omega
   have hb3:=HC.out (j+1) hjs
   have hstep:vN c (a-192) (j+1)=vN c (a-192) j*64+(c (j+1)-128):=rfl
   obtain⟨v1,hv1⟩:∃v1,vN c (a-192) (j+1)=v1:=⟨_,rfl⟩
   rw[hv1]at hstep
   have HV:=Lib.hid hv1
   clear hv1
   generalize vN c (a-192) j=v at hv2 hstep
   by_cases hg:128≤c (j+1)∧c (j+1)≤191
   ·have HG1:Hid (∀i,1≤i→i≤j+1→128≤c i∧c i≤191):=Lib.hid fun i h1 h2=>by
     by_cases h:i=j+1
     ·rw[h];exact hg
     ·exact HG.out i h1 (by omega)
    obtain⟨g1,g2⟩:=hg
    generalize c (j+1)=x at hb3 hstep g1 g2
    have HS:=Lib.hid hstep
    clear hstep
    go_wp2_with fail
    go_round
    case rel=>exact⟨j+1,by omega,by go_num,by congr 1;rw[HV.out,HS.out];omega,HG1⟩
    case measure=>simp[intOf];omega
   ·have hbad:R=(0,0):=by
     rw[HR.out,one_two _ _ _ _ _ (by rw[HA.out];exact⟨b1,b2⟩),if_neg]
     intro hh
     apply hg
     have hj3:j+1=1∨j+1=1:=by omega
     rcases hj3 with e|e<;>rw[e]<;>omega
    have HB:=Lib.hid hbad
    have hx3:=(s[j+1]'hjs).toNat_lt
    rw[hb3]at hx3
    rcases (by omega:c (j+1)<128∨191<c (j+1)) with g1|g1
    all_goals
     generalize c (j+1)=x at hb3 g1 hx3
     clear hstep hg hbad
     go_wp2_with fail
     go_ret2
     exact⟨ret_two (by rw[HB.out];rfl) (by rw[HB.out];rfl),rfl⟩
  ·obtain rfl:j=1:=by omega
   clear hv2
   generalize hv:vN c (a-192) 1=v
   have hval:(c 0-192)*64+(c 1-128)=v:=by
    rw[←hv,HA.out,show vN c (a-192) 1=(a-192)*64+(c 1-128) from rfl]
    all_goals omega
   have hR:R=if v<128 then (0,0) else (v,2):=by
    rw[HR.out,one_two _ _ _ _ _ (by rw[HA.out];exact⟨b1,b2⟩),if_pos ⟨by omega,HG.out 1 (by omega) (by omega)⟩,hval]
   have hvb:v≤2047:=by
    have g1:=HG.out 1 (by omega) (by omega)
    skip
    rw[←hval,HA.out]
    omega
   have HRR:=Lib.hid hR
   clear hR hv hval hlt
   by_cases hcond:v<128
   ·have hB:=HRR.out
    rw[if_pos hcond]at hB
    have HB:=Lib.hid hB
    clear hB HRR
    skip
    all_goals
     go_wp2_with fail
     all_goals
      go_ret2
      exact⟨ret_two (by rw[HB.out];rfl) (by rw[HB.out];rfl),rfl⟩
   ·have hB:=HRR.out
    rw[if_neg hcond]at hB
    have HB:=Lib.hid hB
    clear hB HRR
    skip
    all_goals
     go_wp2_with fail
     all_goals
      go_ret2
      exact⟨ret_two (by rw[HB.out]) (by rw[HB.out];rfl),rfl⟩
set_option maxRecDepth 100000 in
set_option maxHeartbeats 1000000 in
theorem one_short3 (s:ByteArray)(w:World)(hs:s.size≤1048576)(h0:0<s.size)(hb:224≤(s[0]'h0).toNat∧(s[0]'h0).toNat<240)(hl:s.size<3):
 Calls Tryz.prog 123 #[.string s] w fun e w'=>e= .returned (.tuple #[.int .i64 (0:Int),.int .i64 (0:Int)])∧w=w':=by
 have h0b:((s.size:Int)==0)=false:=by rw[beq_eq_false_iff_ne];omega
 have h0z:(0:Int)<(s.size:Int):=by omega
 have hlz:(s.size:Int)<3:=by omega
 obtain⟨b1,b2⟩:=hb
 generalize hx:(s[0]'h0).toNat=a at b1 b2
 go_enter Tryz.func123,Tryz.ntmps123
 go_wp2_with fail
 go_ret2
 exact⟨rfl,rfl⟩
set_option maxRecDepth 100000 in
set_option maxHeartbeats 2000000 in
theorem one_lead3 (s:ByteArray)(w:World)(hs:s.size≤1048576)(h0:0<s.size)(hb:224≤(s[0]'h0).toNat∧(s[0]'h0).toNat<240)(hl:3≤s.size)(c:Nat→Nat)
 (hc:∀j (h:j<s.size),(s[j]'h).toNat=c j):
 Calls Tryz.prog 123 #[.string s] w fun e w'=>(∃R:Nat×Nat,R=oneN s.size (c 0) (c 1) (c 2) (c 3)∧e= .returned (.tuple #[.int .i64 (R.1:Int),.int .i64 (R.2:Int)]))∧w=w':=by
 have h0b:((s.size:Int)==0)=false:=by rw[beq_eq_false_iff_ne];omega
 have h0z:(0:Int)<(s.size:Int):=by omega
 have hlz:¬(s.size:Int)<3:=by omega
 obtain⟨b1,b2⟩:=hb
 have hx:=hc 0 h0
 rw[hx]at b1 b2
 obtain⟨R,hR⟩:∃R,R=oneN s.size (c 0) (c 1) (c 2) (c 3):=⟨_,rfl⟩
 have HR:=Lib.hid hR
 clear hR
 have HC:=Lib.hid hc
 clear hc
 obtain⟨a,ha⟩:∃a,c 0=a:=⟨_,rfl⟩
 rw[ha]at hx b1 b2
 have HA:=Lib.hid ha
 clear ha
 suffices hh:Calls Tryz.prog 123 #[.string s] w fun e w'=>e= .returned (.tuple #[.int .i64 (R.1:Int),.int .i64 (R.2:Int)])∧w=w' from
  hh.mono fun e w' ⟨he,hw⟩=>⟨⟨R,HR.out,he⟩,hw⟩
 go_enter Tryz.func123,Tryz.ntmps123
 go_wp2_with fail
 go_loop [6,8,9] (fun nv kv _=>∃j:Nat,j+1≤3∧kv= .int .i64 ((j+1:Nat):Int)∧nv= .int .i64 ((vN c (a-224) j:Nat):Int)∧Hid (∀i,1≤i→i≤j→128≤c i∧c i≤191)) (fun _ kv _=>3-(intOf kv).toNat)
 case atStart=>exact⟨0,by omega,rfl,by congr 1;unfold vN;omega,Lib.hid fun i h1 h2=>by omega⟩
 case round=>
  obtain⟨j,hj,rfl,rfl,HG⟩:=hrel
  have hv:=vN_le c (a-224) j HG.out
  have hv2:vN c (a-224) j≤2097151:=by
   have hj3:j=0∨j=1∨j=2∨j=3:=by omega
   rcases hj3 with rfl|rfl|rfl|rfl<;>simp at hv<;>omega
  clear hv
  by_cases hlt:j+1<3
  ·have hjs:j+1<s.size:=by omega
   have hb3:=HC.out (j+1) hjs
   have hstep:vN c (a-224) (j+1)=vN c (a-224) j*64+(c (j+1)-128):=rfl
   obtain⟨v1,hv1⟩:∃v1,vN c (a-224) (j+1)=v1:=⟨_,rfl⟩
   rw[hv1]at hstep
   have HV:=Lib.hid hv1
   clear hv1
   generalize vN c (a-224) j=v at hv2 hstep
   by_cases hg:128≤c (j+1)∧c (j+1)≤191
   ·have HG1:Hid (∀i,1≤i→i≤j+1→128≤c i∧c i≤191):=Lib.hid fun i h1 h2=>by
     by_cases h:i=j+1
     ·rw[h];exact hg
     ·exact HG.out i h1 (by omega)
    obtain⟨g1,g2⟩:=hg
    generalize c (j+1)=x at hb3 hstep g1 g2
    have HS:=Lib.hid hstep
    clear hstep
    go_wp2_with fail
    go_round
    case rel=>exact⟨j+1,by omega,by go_num,by congr 1;rw[HV.out,HS.out];omega,HG1⟩
    case measure=>simp[intOf];omega
   ·have hbad:R=(0,0):=by
     rw[HR.out,one_three _ _ _ _ _ (by rw[HA.out];exact⟨b1,b2⟩),if_neg]
     intro hh
     apply hg
     have hj3:j+1=1∨j+1=2:=by omega
     rcases hj3 with e|e<;>rw[e]<;>omega
    have HB:=Lib.hid hbad
    have hx3:=(s[j+1]'hjs).toNat_lt
    rw[hb3]at hx3
    rcases (by omega:c (j+1)<128∨191<c (j+1)) with g1|g1
    all_goals
     generalize c (j+1)=x at hb3 g1 hx3
     clear hstep hg hbad
     go_wp2_with fail
     go_ret2
     exact⟨ret_two (by rw[HB.out];rfl) (by rw[HB.out];rfl),rfl⟩
  ·obtain rfl:j=2:=by omega
   clear hv2
   generalize hv:vN c (a-224) 2=v
   have hval:(c 0-224)*4096+(c 1-128)*64+(c 2-128)=v:=by
    rw[←hv,HA.out,show vN c (a-224) 2=((a-224)*64+(c 1-128))*64+(c 2-128) from rfl]
    all_goals omega
   have hR:R=if v<2048∨(55296≤v∧v≤57343) then (0,0) else (v,3):=by
    rw[HR.out,one_three _ _ _ _ _ (by rw[HA.out];exact⟨b1,b2⟩),if_pos ⟨by omega,HG.out 1 (by omega) (by omega),HG.out 2 (by omega) (by omega)⟩,hval]
   have hvb:v≤65535:=by
    have g1:=HG.out 1 (by omega) (by omega)
    have g2:=HG.out 2 (by omega) (by omega)
    rw[←hval,HA.out]
    omega
   have HRR:=Lib.hid hR
   clear hR hv hval hlt
   by_cases hcond:v<2048∨(55296≤v∧v≤57343)
   ·have hB:=HRR.out
    rw[if_pos hcond]at hB
    have HB:=Lib.hid hB
    clear hB HRR
    rcases hcond with q|⟨q1,q2⟩
    all_goals
     go_wp2_with fail
     all_goals
      go_ret2
      exact⟨ret_two (by rw[HB.out];rfl) (by rw[HB.out];rfl),rfl⟩
   ·have hB:=HRR.out
    rw[if_neg hcond]at hB
    have HB:=Lib.hid hB
    clear hB HRR
    rcases (by omega:(2048≤v∧v<55296)∨57343<v) with⟨q1,q2⟩|q
    all_goals
     go_wp2_with fail
     all_goals
      go_ret2
      exact⟨ret_two (by rw[HB.out]) (by rw[HB.out];rfl),rfl⟩
set_option maxRecDepth 100000 in
set_option maxHeartbeats 1000000 in
theorem one_short4 (s:ByteArray)(w:World)(hs:s.size≤1048576)(h0:0<s.size)(hb:240≤(s[0]'h0).toNat∧(s[0]'h0).toNat<248)(hl:s.size<4):
 Calls Tryz.prog 123 #[.string s] w fun e w'=>e= .returned (.tuple #[.int .i64 (0:Int),.int .i64 (0:Int)])∧w=w':=by
 have h0b:((s.size:Int)==0)=false:=by rw[beq_eq_false_iff_ne];omega
 have h0z:(0:Int)<(s.size:Int):=by omega
 have hlz:(s.size:Int)<4:=by omega
 obtain⟨b1,b2⟩:=hb
 generalize hx:(s[0]'h0).toNat=a at b1 b2
 go_enter Tryz.func123,Tryz.ntmps123
 go_wp2_with fail
 go_ret2
 exact⟨rfl,rfl⟩
set_option maxRecDepth 100000 in
set_option maxHeartbeats 2000000 in
theorem one_lead4 (s:ByteArray)(w:World)(hs:s.size≤1048576)(h0:0<s.size)(hb:240≤(s[0]'h0).toNat∧(s[0]'h0).toNat<248)(hl:4≤s.size)(c:Nat→Nat)
 (hc:∀j (h:j<s.size),(s[j]'h).toNat=c j):
 Calls Tryz.prog 123 #[.string s] w fun e w'=>(∃R:Nat×Nat,R=oneN s.size (c 0) (c 1) (c 2) (c 3)∧e= .returned (.tuple #[.int .i64 (R.1:Int),.int .i64 (R.2:Int)]))∧w=w':=by
 have h0b:((s.size:Int)==0)=false:=by rw[beq_eq_false_iff_ne];omega
 have h0z:(0:Int)<(s.size:Int):=by omega
 have hlz:¬(s.size:Int)<4:=by omega
 obtain⟨b1,b2⟩:=hb
 have hx:=hc 0 h0
 rw[hx]at b1 b2
 obtain⟨R,hR⟩:∃R,R=oneN s.size (c 0) (c 1) (c 2) (c 3):=⟨_,rfl⟩
 have HR:=Lib.hid hR
 clear hR
 have HC:=Lib.hid hc
 clear hc
 obtain⟨a,ha⟩:∃a,c 0=a:=⟨_,rfl⟩
 rw[ha]at hx b1 b2
 have HA:=Lib.hid ha
 clear ha
 suffices hh:Calls Tryz.prog 123 #[.string s] w fun e w'=>e= .returned (.tuple #[.int .i64 (R.1:Int),.int .i64 (R.2:Int)])∧w=w' from
  hh.mono fun e w' ⟨he,hw⟩=>⟨⟨R,HR.out,he⟩,hw⟩
 go_enter Tryz.func123,Tryz.ntmps123
 go_wp2_with fail
 go_loop [6,8,9] (fun nv kv _=>∃j:Nat,j+1≤4∧kv= .int .i64 ((j+1:Nat):Int)∧nv= .int .i64 ((vN c (a-240) j:Nat):Int)∧Hid (∀i,1≤i→i≤j→128≤c i∧c i≤191)) (fun _ kv _=>4-(intOf kv).toNat)
 case atStart=>exact⟨0,by omega,rfl,by congr 1;unfold vN;omega,Lib.hid fun i h1 h2=>by omega⟩
 case round=>
  obtain⟨j,hj,rfl,rfl,HG⟩:=hrel
  have hv:=vN_le c (a-240) j HG.out
  have hv2:vN c (a-240) j≤2097151:=by
   have hj3:j=0∨j=1∨j=2∨j=3:=by omega
   rcases hj3 with rfl|rfl|rfl|rfl<;>simp at hv<;>omega
  clear hv
  by_cases hlt:j+1<4
  ·have hjs:j+1<s.size:=by omega
   have hb3:=HC.out (j+1) hjs
   have hstep:vN c (a-240) (j+1)=vN c (a-240) j*64+(c (j+1)-128):=rfl
   obtain⟨v1,hv1⟩:∃v1,vN c (a-240) (j+1)=v1:=⟨_,rfl⟩
   rw[hv1]at hstep
   have HV:=Lib.hid hv1
   clear hv1
   generalize vN c (a-240) j=v at hv2 hstep
   by_cases hg:128≤c (j+1)∧c (j+1)≤191
   ·have HG1:Hid (∀i,1≤i→i≤j+1→128≤c i∧c i≤191):=Lib.hid fun i h1 h2=>by
     by_cases h:i=j+1
     ·rw[h];exact hg
     ·exact HG.out i h1 (by omega)
    obtain⟨g1,g2⟩:=hg
    generalize c (j+1)=x at hb3 hstep g1 g2
    have HS:=Lib.hid hstep
    clear hstep
    go_wp2_with fail
    go_round
    case rel=>exact⟨j+1,by omega,by go_num,by congr 1;rw[HV.out,HS.out];omega,HG1⟩
    case measure=>simp[intOf];omega
   ·have hbad:R=(0,0):=by
     rw[HR.out,one_four _ _ _ _ _ (by rw[HA.out];exact⟨b1,b2⟩),if_neg]
     intro hh
     apply hg
     have hj3:j+1=1∨j+1=2∨j+1=3:=by omega
     rcases hj3 with e|e|e<;>rw[e]<;>omega
    have HB:=Lib.hid hbad
    have hx3:=(s[j+1]'hjs).toNat_lt
    rw[hb3]at hx3
    rcases (by omega:c (j+1)<128∨191<c (j+1)) with g1|g1
    all_goals
     generalize c (j+1)=x at hb3 g1 hx3
     clear hstep hg hbad
     go_wp2_with fail
     go_ret2
     exact⟨ret_two (by rw[HB.out];rfl) (by rw[HB.out];rfl),rfl⟩
  ·obtain rfl:j=3:=by omega
   clear hv2
   generalize hv:vN c (a-240) 3=v
   have hval:(c 0-240)*262144+(c 1-128)*4096+(c 2-128)*64+(c 3-128)=v:=by
    rw[←hv,HA.out,show vN c (a-240) 3=(((a-240)*64+(c 1-128))*64+(c 2-128))*64+(c 3-128) from rfl]
    all_goals omega
   have hR:R=if v<65536∨1114111<v then (0,0) else (v,4):=by
    rw[HR.out,one_four _ _ _ _ _ (by rw[HA.out];exact⟨b1,b2⟩),if_pos ⟨by omega,HG.out 1 (by omega) (by omega),HG.out 2 (by omega) (by omega),HG.out 3 (by omega) (by omega)⟩,hval]
   have hvb:v≤2097151:=by
    have g1:=HG.out 1 (by omega) (by omega)
    have g2:=HG.out 2 (by omega) (by omega);have g3:=HG.out 3 (by omega) (by omega)
    rw[←hval,HA.out]
    omega
   have HRR:=Lib.hid hR
   clear hR hv hval hlt
   by_cases hcond:v<65536∨1114111<v
   ·have hB:=HRR.out
    rw[if_pos hcond]at hB
    have HB:=Lib.hid hB
    clear hB HRR
    rcases hcond with q|q
    all_goals
     go_wp2_with fail
     all_goals
      go_ret2
      exact⟨ret_two (by rw[HB.out];rfl) (by rw[HB.out];rfl),rfl⟩
   ·have hB:=HRR.out
    rw[if_neg hcond]at hB
    have HB:=Lib.hid hB
    clear hB HRR
    obtain⟨q1,q2⟩:65536≤v∧v≤1114111:=by omega
    all_goals
     go_wp2_with fail
     all_goals
      go_ret2
      exact⟨ret_two (by rw[HB.out]) (by rw[HB.out];rfl),rfl⟩
set_option maxRecDepth 100000 in
theorem one_any (s:ByteArray)(w:World)(hs:s.size≤1048576):
 Calls Tryz.prog 123 #[.string s] w fun e w'=>e= .returned (.tuple #[.int .i64 ((oneL s.data.toList).1:Int),.int .i64 ((oneL s.data.toList).2:Int)])∧w=w':=by
 have el:s.data.toList.length=s.size:=by rw[Array.length_toList];rfl
 by_cases h0:s.size=0
 ·have hn:s.data.toList=[]:=List.eq_nil_of_length_eq_zero (by omega)
  rw[hn]
  exact one_empty s w h0
 have h1:0<s.size:=by omega
 have hne:s.data.toList≠[]:=by intro h;rw[h]at el;simp at el;omega
 have hlt:=(s[0]'h1).toNat_lt
 have hc:∀j (h:j<s.size),(s[j]'h).toNat=byt s.data.toList j:=byt_at s
 have hc0:=hc 0 h1
 rw[oneL_N _ hne,el]
 by_cases c1:(s[0]'h1).toNat<128
 ·rw[one_low _ _ _ _ _ (by omega),←hc0]
  exact one_ascii s w hs h1 c1
 by_cases c2:(s[0]'h1).toNat<192∨248≤(s[0]'h1).toNat
 ·rw[one_none _ _ _ _ _ (by omega) (by omega) (by omega) (by omega)]
  exact one_bad s w hs h1 (by omega)
 by_cases c3:(s[0]'h1).toNat<224
 ·by_cases hl:s.size<2
  ·rw[one_two _ _ _ _ _ (by omega),if_neg (by omega)]
   exact one_short2 s w hs h1 (by omega) hl
  ·refine(one_lead2 s w hs h1 (by omega) (by omega) _ hc).mono ?_
   rintro e w' ⟨⟨R,rfl,rfl⟩,hw⟩
   exact⟨rfl,hw⟩
 by_cases c4:(s[0]'h1).toNat<240
 ·by_cases hl:s.size<3
  ·rw[one_three _ _ _ _ _ (by omega),if_neg (by omega)]
   exact one_short3 s w hs h1 (by omega) hl
  ·refine(one_lead3 s w hs h1 (by omega) (by omega) _ hc).mono ?_
   rintro e w' ⟨⟨R,rfl,rfl⟩,hw⟩
   exact⟨rfl,hw⟩
 by_cases hl:s.size<4
 ·rw[one_four _ _ _ _ _ (by omega),if_neg (by omega)]
  exact one_short4 s w hs h1 (by omega) hl
 ·refine(one_lead4 s w hs h1 (by omega) (by omega) _ hc).mono ?_
  rintro e w' ⟨⟨R,rfl,rfl⟩,hw⟩
  exact⟨rfl,hw⟩
end Char
namespace Char
open Go.RowKit Go.Lib
def runesN:Nat→List UInt8→List Int
 |0,_=>[]
 |n+1,l=>if l=[] then [] else ((decodeL l).1:Int)::runesN n (l.drop (decodeL l).2)
def runesL (l:List UInt8):List Int:=runesN l.length l
theorem runesN_nil:∀n,runesN n []=[]
 |0=>rfl
 |_+1=>by simp[runesN]
theorem runesN_fuel:∀(n m:Nat) (l:List UInt8),l.length≤n→l.length≤m→runesN n l=runesN m l
 |0,m,l,hn,_=>by
  obtain rfl:l=[]:=List.eq_nil_of_length_eq_zero (by omega)
  rw[runesN_nil,runesN_nil]
 |n+1,0,l,_,hm=>by
  obtain rfl:l=[]:=List.eq_nil_of_length_eq_zero (by omega)
  rw[runesN_nil,runesN_nil]
 |n+1,m+1,l,hn,hm=>by
  unfold runesN
  by_cases hne:l=[]
  ·simp[hne]
  ·have hw:=decodeL_width l
   have hl:0<l.length:=List.length_pos_iff.2 hne
   rw[if_neg hne,if_neg hne,runesN_fuel n m (l.drop (decodeL l).2) (by rw[List.length_drop];omega) (by rw[List.length_drop];omega)]
theorem runesL_nil:runesL []=[]:=rfl
theorem runesL_step (l:List UInt8)(hne:l≠[]):runesL l=((decodeL l).1:Int)::runesL (l.drop (decodeL l).2):=by
 have hl:0<l.length:=List.length_pos_iff.2 hne
 have hw:=decodeL_width l
 obtain⟨n,hn⟩:∃n,l.length=n+1:=⟨l.length-1,by omega⟩
 unfold runesL
 rw[hn]
 show(if l=[] then [] else _)=_
 rw[if_neg hne,runesN_fuel n (l.drop (decodeL l).2).length _ (by rw[List.length_drop];omega) (Nat.le_refl _)]
theorem allR_all (p:Int→Bool):∀(n:Nat) (l:List UInt8),l.length≤n→allR p l=(runesL l).all p
 |0,l,h=>by
  obtain rfl:l=[]:=List.eq_nil_of_length_eq_zero (by omega)
  rfl
 |n+1,l,h=>by
  by_cases hne:l=[]
  ·subst hne;rfl
  ·have hw:=decodeL_width l
   rw[allR_step p l hne,runesL_step l hne,List.all_cons,allR_all p n _ (by rw[List.length_drop];omega)]
theorem runesL_length:∀(n:Nat) (l:List UInt8),l.length≤n→(runesL l).length≤l.length
 |0,l,h=>by
  obtain rfl:l=[]:=List.eq_nil_of_length_eq_zero (by omega)
  exact Nat.le_refl _
 |n+1,l,h=>by
  by_cases hne:l=[]
  ·subst hne;exact Nat.le_refl _
  ·have hw:=decodeL_width l
   have hle:=decodeL_le l hne
   have ih:=runesL_length n (l.drop (decodeL l).2) (by rw[List.length_drop];omega)
   rw[runesL_step l hne,List.length_cons]
   rw[List.length_drop]at ih
   omega
theorem one_stop (l:List UInt8)(hne:l≠[])(h:(oneL l).2=0):validD l=false:=by
 unfold oneL at h
 rw[if_neg hne]at h
 have hw:=decodeL_width l
 by_cases hb:(decodeL l).1=65533∧(decodeL l).2=1
 ·rw[validD_step l hne,if_pos hb]
 ·rw[if_neg hb]at h;omega
theorem one_go (l:List UInt8)(hne:l≠[])(h:(oneL l).2≠0):
 validD l=validD (l.drop (oneL l).2)∧runesL l=((oneL l).1:Int)::runesL (l.drop (oneL l).2)∧1≤(oneL l).2∧(oneL l).2≤l.length∧(oneL l).1≤1114111:=by
 unfold oneL at h ⊢
 rw[if_neg hne]at h ⊢
 by_cases hb:(decodeL l).1=65533∧(decodeL l).2=1
 ·rw[if_pos hb]at h;simp at h
 ·rw[if_neg hb]
  exact⟨by rw[validD_step l hne,if_neg hb],runesL_step l hne,decodeL_width l,decodeL_le l hne,decodeL_rune l⟩
theorem info_int:(Tryz.prog.info? 3).map (fun i=>(i.zero,i.size,i.bytes))=some (some (.int .i64 0),1,8):=by kernel_rfl
def CharsPost (w:World)(V:Bool)(l:List Int)(e:Ending)(w':World):Prop:=
 ∃v,e= .returned (.tuple #[v,.bool V])∧w'.ownsRow w.heap.size 3 1 v l.length (l.map (Value.int .i64))∧Below w.heap.size w w'
def chsL (l:List UInt8):List Int:=if validD l then runesL l else []
set_option maxRecDepth 100000 in
set_option maxHeartbeats 2000000 in
theorem chars_any (s:ByteArray)(w:World)(hs:s.size≤1048576):
 Calls Tryz.prog 74 #[.string s] w (CharsPost w (validD s.data.toList) (chsL s.data.toList)):=by
 obtain⟨i0,hi,hz0,hz1,hz2⟩:=info_parts info_int
 have el:s.data.toList.length=s.size:=by rw[Array.length_toList];rfl
 obtain⟨V,hV⟩:∃V,validD s.data.toList=V:=⟨_,rfl⟩
 obtain⟨X,hX⟩:∃X,chsL s.data.toList=X:=⟨_,rfl⟩
 rw[hX,hV]
 unfold chsL at hX
 rw[hV]at hX
 have HX:=Lib.hid hX
 clear hX
 have HV:=Lib.hid hV
 have EL:=Lib.hid el
 clear hV el
 go_enter Tryz.func74,Tryz.ntmps74
 go_wp2_with fail
 go_loopw [4,5] (fun v i wr=>∃(pos:Nat) (acc:List Int),pos≤s.size∧i= .int .i64 (pos:Int)∧acc.length≤pos∧wr.ownsRow w.heap.size 3 1 v acc.length (acc.map (Value.int .i64))∧
  Below w.heap.size w wr∧Hid (V=validD (s.data.toList.drop pos))∧Hid (acc++runesL (s.data.toList.drop pos)=runesL s.data.toList)) (fun _ i _=>s.size-(intOf i).toNat)
 case atStart=>exact⟨0,[],Nat.zero_le _,rfl,Nat.zero_le _,World.ownsRow_nil _ _ _ _,Below.refl _ _,Lib.hid HV.out.symm,Lib.hid rfl⟩
 case round=>
  obtain⟨pos,acc,hp,rfl,hal,hown,hbw,HVp,HRp⟩:=hrel
  by_cases hlt:pos<s.size
  ·have hco:Calls Tryz.prog 123 #[.string (s.extract pos s.size)] wr _:=one_any (s.extract pos s.size) wr (by rw[Lib.ext_size];omega)
   rw[Lib.ext_list]at hco
   have hne:=drop_ne s pos hlt
   have hst:=one_stop _ hne
   have hgo:=one_go _ hne
   have hdl:(s.data.toList.drop pos).length=s.size-pos:=by rw[List.length_drop,EL.out]
   generalize (oneL (s.data.toList.drop pos)).1=N at hco hgo
   generalize (oneL (s.data.toList.drop pos)).2=M at hco hst hgo
   have HCO:=Lib.hid hco
   have HST:=Lib.hid hst
   have HGO:=Lib.hid hgo
   have HDL:=Lib.hid hdl
   clear hco hne hst hgo hdl
   go_wp2_with fail
   refine HCO.out.mono ?_
   rintro e w1 ⟨rfl,rfl⟩
   by_cases hm:M=0
   ·have hmb:((M:Int)==0)=true:=by simp[hm]
    have hf:=HST.out hm
    rw[←HVp.out]at hf
    have HF:=Lib.hid hf
    clear hf hm HCO HST HGO
    go_wp2_with fail
    go_ret2
    have hx:=HX.out
    rw[HF.out,if_neg (by simp)]at hx
    rw[←hx,HF.out]
    exact⟨_,rfl,World.ownsRow_nil _ _ _ _,hbw⟩
   ·have hmb:((M:Int)==0)=false:=by rw[beq_eq_false_iff_ne];omega
    obtain⟨g1,g2,g3,g4,g5⟩:=HGO.out hm
    rw[HDL.out]at g4
    rw[List.drop_drop]at g1 g2
    have HV2:Hid (V=validD (s.data.toList.drop (pos+M))):=Lib.hid (HVp.out.trans g1)
    have HR2:Hid ((acc++[(N:Int)])++runesL (s.data.toList.drop (pos+M))=runesL s.data.toList):=Lib.hid (by rw[←HRp.out,g2,List.append_assoc];rfl)
    have hwb:=hbw.size
    clear g1 g2 hm HCO HST HGO HVp HRp
    go_wp2_with (at_builtin;refine wpList_append_own _ rfl _ _ 104 rfl w.heap.size 3 i0 (.int .i64 0) 1 8 Tryz.underlying104 hi hz0 hz1 hz2 rfl (by decide) _ _ _ rfl (hown.alloc _) ⟨wr.heap.size,0,none⟩ 1 1 [.int .i64 (N:Int)] rfl rfl ?c1 ?c2 ?c3 ?c4 ?c5 ?_)
    case c1=>
     intro j u hj
     match j,hj with
     |0,hj=>simp at hj;subst hj;simp[Addr.add]
    case c2=>intro u hu;simp at hu;subst hu;rfl
    case c3=>unfold maxLen;omega
    case c4=>omega
    case c5=>simp;omega
    intro v' w1 hown' hgrow _
    have hb1:Below w.heap.size w w1:=(hbw.alloc hwb _).grown hgrow (by simp;omega) (fun k hk=>by
     rcases hown.2 with⟨rfl,_⟩|⟨g,cap,cur,rfl,hg,_⟩
     ·simp[Value.ownBlock]at hk
     ·simp[Value.ownBlock]at hk;omega)
    have hown2:w1.ownsRow w.heap.size 3 1 v' (acc++[(N:Int)]).length ((acc++[(N:Int)]).map (Value.int .i64)):=by
     rw[List.length_append,List.map_append]
     exact hown'
    clear hown' hgrow hown
    go_wp2_with fail
    go_roundw
    case rel=>exact⟨pos+M,acc++[(N:Int)],by omega,by go_num,by rw[List.length_append];simp;omega,hown2,hb1,HV2,HR2⟩
    case measure=>simp[intOf];omega
  ·have hnil:=drop_end s pos hlt
   have hv:=HVp.out
   have hr:=HRp.out
   rw[hnil]at hv hr
   have HV1:=Lib.hid hv
   have HR1:=Lib.hid hr
   clear hnil hv hr HVp HRp
   go_wp2_with fail
   go_ret2
   have hv:V=true:=HV1.out
   have hr:acc=runesL s.data.toList:=by have :=HR1.out;rw[runesL_nil,List.append_nil]at this;exact this
   have hx:=HX.out
   rw[hv,if_pos rfl,←hr]at hx
   rw[←hx,hv]
   exact⟨_,rfl,hown,hbw⟩
end Char
namespace Char
open Go.RowKit
set_option maxHeartbeats 400000 in
theorem in_any (b off len cap:Nat)(n:Int)(zs:List Int)(w:World)(hz:len=zs.length)(hbig:len≤1000)
 (hc:∀j,j<zs.length→w.cell? ⟨b,off+j,none⟩=some (.int .i64 (zs.getD j 0))):
 Calls Tryz.prog 124 #[.int .i64 n,.slice (some ⟨b,off,none⟩) len cap] w fun e w'=>e= .returned (.bool (inP zs n))∧w=w':=by
 have HZ:=Lib.hid hz
 clear hz
 obtain⟨R,hR⟩:∃R,R=inP zs n:=⟨_,rfl⟩
 rw[←hR]
 have HR:=Lib.hid hR
 clear hR
 go_enter Tryz.func124,Tryz.ntmps124
 go_wp2
 go_loop [5] (fun i=>∃k:Nat,2*k≤len∧i= .int .i64 ((2*k:Nat):Int)∧R=inP (zs.drop (2*k)) n) (fun i=>len-(intOf i).toNat)
 case atStart=>exact⟨0,Nat.zero_le _,rfl,by simpa using HR.out⟩
 case round=>
  obtain⟨k,hk,rfl,hr⟩:=hrel
  by_cases hlt:2*k+1<len
  ·have hs:=inP_step zs n (2*k) (by rw[←HZ.out];omega)
   have hc0:=hc (2*k) (by rw[←HZ.out];omega)
   have hc1:=hc (2*k+1) (by rw[←HZ.out];omega)
   generalize zs.getD (2*k) 0=lo at hc0 hs
   generalize zs.getD (2*k+1) 0=hi at hc1 hs
   rw[←hr]at hs
   have HS:=Lib.hid hs
   clear hc hs hr
   go_wp2
   ·have h1:lo≤n:=by assumption
    have h2:n≤hi:=by assumption
    go_ret
    exact⟨by rw[HS.out];simp[h1,h2],rfl⟩
   all_goals
    have hx:(decide (lo≤n)&&decide (n≤hi))=false:=by
     rw[Bool.and_eq_false_iff,decide_eq_false_iff_not,decide_eq_false_iff_not]
     omega
    rw[hx,Bool.false_or]at HS
    go_round
    case rel=>exact⟨k+1,by omega,by go_num,HS.out⟩
    case measure=>simp[intOf];omega
  ·have hf:=inP_end zs n (2*k) (by rw[←HZ.out];exact hlt)
   rw[←hr]at hf
   have HF:=Lib.hid hf
   clear hf hr
   go_wp2
   go_ret
   exact⟨by rw[HF.out];rfl,rfl⟩
theorem in_new (zs:List Int)(len cap:Nat)(C:Array Value)(n:Int)(w:World)(T:TypeId)(hC:C=(zs.map (Value.int .i64)).toArray)(hz:len=zs.length)(hbig:len≤1000):
 Calls Tryz.prog 124 #[.int .i64 n,.slice (some ⟨w.heap.size,0,none⟩) len cap] (w.alloc (.cells C T)) fun e w'=>e= .returned (.bool (inP zs n))∧w.alloc (.cells C T)=w':=by
 refine in_any _ 0 len cap n zs _ hz hbig ?_
 intro j hj
 rw[Nat.zero_add,World.cell?_alloc_new,hC]
 simp[List.getD,List.getElem?_eq_getElem hj]
set_option maxHeartbeats 400000 in
theorem refIs_any (n:Int)(w:World):
 Calls Tryz.prog 81 #[.int .i64 n] w fun e w'=>e= .returned (.bool (isC n))∧Below w.heap.size w w':=by
 go_enter Tryz.func81,Tryz.ntmps81
 go_wp2_with fail
 refine(in_new isL 12 12 _ n w _ rfl rfl (by decide)).mono ?_
 rintro e w' ⟨rfl,rfl⟩
 go_wp2_with fail
 go_ret
 exact⟨rfl,(Below.refl _ _).alloc (Nat.le_refl _) _⟩
end Char
end Go.Proofs.YtlmpkpjjakallaaGreatDoor
