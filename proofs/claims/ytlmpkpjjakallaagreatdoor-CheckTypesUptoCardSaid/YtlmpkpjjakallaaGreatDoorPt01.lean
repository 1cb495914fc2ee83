import Derived.Test.YtlmpkpjjakallaaGreatDoorPt00
import Derived.Lib.MapLaws
import Derived.Shelf.GgClosure.StringsTrimFunc
import Derived.ProofKit
namespace Go.Proofs.YtlmpkpjjakallaaGreatDoor
namespace Char
open Go.Lib
theorem refL_of (a X:List UInt8)(n:Nat)(h:a.all noS=true)(hc:chL a=some n):refL (a++59::X)=some (n,X):=by
 have ht:∀a:List UInt8,a.all noS=true→(a++59::X).takeWhile noS=a∧(a++59::X).dropWhile noS=59::X:=by
  intro a
  induction a with
  |nil=>intro _;exact⟨by simp[noS],by simp[noS]⟩
  |cons x a ih=>
   intro h
   rw[List.all_cons,Bool.and_eq_true]at h
   obtain⟨h1,h2⟩:=ih h.2
   simp[h.1,h1,h2]
 have hn:(a++59::X).all noS=false:=by
  rw[List.all_append,List.all_cons,show noS 59=false from rfl]
  simp
 unfold refL
 rw[hn,(ht a h).1,(ht a h).2,hc]
 rfl
theorem stp_ref (attr:Bool)(a X:List UInt8)(n:Nat)(h:a.all noS=true)(hc:chL a=some n):stp attr (38::(a++59::X))= .inr (encodeRune (n:Int),X):=by
 rw[stp_cons,if_neg (by decide),if_pos rfl,refL_of a X n h hc]
theorem stp_std (attr:Bool)(b:UInt8)(X:List UInt8):stp attr (stdL attr b++X)= .inr ([b],X):=by
 by_cases h38:b=38
 ·subst h38
  exact stp_ref attr [97,109,112] X 38 (by decide) (by decide)
 by_cases h60:b=60
 ·subst h60
  exact stp_ref attr [108,116] X 60 (by decide) (by decide)
 by_cases h13:b=13
 ·subst h13
  exact stp_ref attr [35,49,51] X 13 (by decide) (by decide)
 unfold stdL
 rw[if_neg h38,if_neg h60,if_neg h13]
 by_cases h62:b=62∧attr=false
 ·rw[if_pos h62]
  obtain⟨rfl,rfl⟩:=h62
  exact stp_ref false [103,116] X 62 (by decide) (by decide)
 by_cases h34:b=34∧attr=true
 ·rw[if_neg h62,if_pos h34]
  obtain⟨rfl,rfl⟩:=h34
  exact stp_ref true [113,117,111,116] X 34 (by decide) (by decide)
 by_cases h9:b=9∧attr=true
 ·rw[if_neg h62,if_neg h34,if_pos h9]
  obtain⟨rfl,rfl⟩:=h9
  exact stp_ref true [35,57] X 9 (by decide) (by decide)
 by_cases h10:b=10∧attr=true
 ·rw[if_neg h62,if_neg h34,if_neg h9,if_pos h10]
  obtain⟨rfl,rfl⟩:=h10
  exact stp_ref true [35,49,48] X 10 (by decide) (by decide)
 rw[if_neg h62,if_neg h34,if_neg h9,if_neg h10]
 show stp attr (b::X)=_
 rw[stp_cons,if_neg h60,if_neg h38,if_neg h13,if_neg]
 rintro⟨ha,hb|hb⟩
 ·exact h9 ⟨hb,ha⟩
 ·exact h10 ⟨hb,ha⟩
theorem get_put (attr:Bool):∀(l acc:List UInt8),gL attr acc (putL attr l)=(acc++l,0)
 |[],acc=>by rw[putL_nil,gL_end acc rfl,List.append_nil]
 |b::t,acc=>by
  rw[putL_cons,gL_step acc (stp_std attr b (putL attr t)),get_put attr t,List.append_assoc]
  rfl
def txL (l:List UInt8):Bool:=validD l&&allR isC l
theorem txL_step (l:List UInt8)(hne:l≠[]):txL l=if (decodeL l).1=65533∧(decodeL l).2=1 then false else isC ((decodeL l).1:Int)&&txL (l.drop (decodeL l).2):=by
 unfold txL
 rw[validD_step l hne,allR_step isC l hne]
 split
 ·rfl
 ·cases isC ((decodeL l).1:Int)<;>simp
theorem txL_ascii (b:UInt8)(t:List UInt8)(h:b.toNat<128):txL (b::t)=(isC (b.toNat:Int)&&txL t):=by
 rw[txL_step _ (by simp),decodeL_ascii b t h,if_neg (by rintro⟨h1,_⟩;dsimp only at h1;omega)]
 rfl
theorem put_front (attr:Bool)(t:List UInt8):(t=[]∧putL attr t=[])∨(∃c u,t=c::u∧c.toNat/64=2∧putL attr t=c::putL attr u)∨
 (∃c u c' u',t=c::u∧c.toNat/64≠2∧putL attr t=c'::u'∧c'.toNat/64≠2):=by
 cases t with
 |nil=>exact .inl ⟨rfl,rfl⟩
 |cons c u=>
  rw[putL_cons]
  by_cases hc:c.toNat/64=2
  ·refine .inr (.inl ⟨c,u,rfl,hc,?_⟩)
   have e:stdL attr c=[c]:=by
    unfold stdL
    rw[if_neg (by rintro rfl;revert hc;decide),if_neg (by rintro rfl;revert hc;decide),if_neg (by rintro rfl;revert hc;decide),if_neg (by rintro⟨rfl,_⟩;revert hc;decide),
     if_neg (by rintro⟨rfl,_⟩;revert hc;decide),if_neg (by rintro⟨rfl,_⟩;revert hc;decide),if_neg (by rintro⟨rfl,_⟩;revert hc;decide)]
   rw[e];rfl
  ·refine .inr (.inr ?_)
   have e:∃x r,stdL attr c=x::r∧x.toNat/64≠2:=by
    unfold stdL
    repeat' split
    all_goals first|exact⟨_,_,rfl,hc⟩|exact⟨_,_,rfl,by decide⟩
   obtain⟨x,r,e1,e2⟩:=e
   exact⟨c,u,x,r++putL attr u,rfl,hc,by rw[e1];rfl,e2⟩
theorem dec_same (n n' b0 b1 b2 b3 c1 c2 c3:Nat)(h1:(1<n∧b1/64=2)↔(1<n'∧c1/64=2))(e1:(1<n∧b1/64=2)→b1=c1)
 (h2:(1<n∧b1/64=2)→((2<n∧b2/64=2)↔(2<n'∧c2/64=2))) (e2:(1<n∧b1/64=2)→(2<n∧b2/64=2)→b2=c2)
 (h3:(1<n∧b1/64=2)→(2<n∧b2/64=2)→((3<n∧b3/64=2)↔(3<n'∧c3/64=2))) (e3:(1<n∧b1/64=2)→(2<n∧b2/64=2)→(3<n∧b3/64=2)→b3=c3):
 decodeN n' b0 c1 c2 c3=decodeN n b0 b1 b2 b3:=by
 by_cases a1:1<n∧b1/64=2
 ·have x1:=h1.1 a1
  obtain rfl:=e1 a1
  by_cases a2:2<n∧b2/64=2
  ·have x2:=(h2 a1).1 a2
   obtain rfl:=e2 a1 a2
   by_cases a3:3<n∧b3/64=2
   ·have x3:=(h3 a1 a2).1 a3
    obtain rfl:=e3 a1 a2 a3
    simp only[decodeN,a1.1,a1.2,x1.1,a2.1,a2.2,x2.1,a3.1,a3.2,x3.1]
   ·have x3:=mt (h3 a1 a2).2 a3
    simp only[decodeN,a1.1,a1.2,x1.1,a2.1,a2.2,x2.1,a3,x3,and_false,if_false]
  ·have x2:=mt (h2 a1).2 a2
   simp only[decodeN,a1.1,a1.2,x1.1,a2,x2,and_false,false_and,if_false]
 ·have x1:=mt h1.2 a1
  simp only[decodeN,a1,x1,and_false,false_and,if_false]
theorem put_decode (attr:Bool)(b:UInt8)(t:List UInt8):decodeL (b::putL attr t)=decodeL (b::t)∧(128≤b.toNat→(b::putL attr t).drop (decodeL (b::t)).2=putL attr ((b::t).drop (decodeL (b::t)).2)):=by
 have hs:=decodeN_shape (b::t).length ((b::t).getD 0 0).toNat ((b::t).getD 1 0).toNat ((b::t).getD 2 0).toNat ((b::t).getD 3 0).toNat
 rw[←decodeL_N]at hs
 rw[decodeL_N (b::putL attr t),decodeL_N (b::t)]
 rw[decodeL_N (b::t)]at hs
 rcases put_front attr t with⟨rfl,e⟩|⟨c,u,rfl,hc,e⟩|⟨c,u,c',u',rfl,hc,e,hc'⟩
 ·rw[e]
  refine⟨rfl,fun hb=> ?_⟩
  simp only[List.length_cons,List.length_nil,List.getD_cons_zero,List.getD_cons_succ,List.getD_nil]at hs ⊢
  rcases hs with⟨_,h⟩|⟨_,h,_⟩|⟨_,h,_⟩|⟨_,h,_⟩|h
  ·rw[h];rfl
  ·omega
  ·omega
  ·omega
  ·rw[h];rfl
 ·rcases put_front attr u with⟨rfl,e2⟩|⟨c2,u2,rfl,hc2,e2⟩|⟨c2,u2,c2',u2',rfl,hc2,e2,hc2'⟩
  ·rw[e,e2]
   refine⟨rfl,fun hb=> ?_⟩
   simp only[List.length_cons,List.length_nil,List.getD_cons_zero,List.getD_cons_succ,List.getD_nil]at hs ⊢
   rcases hs with⟨_,h⟩|⟨_,_,_,_,h⟩|⟨_,h,_⟩|⟨_,h,_⟩|h
   ·rw[h];exact e.symm
   ·rw[h];rfl
   ·omega
   ·omega
   ·rw[h];exact e.symm
  ·rcases put_front attr u2 with⟨rfl,e3⟩|⟨c3,u3,rfl,hc3,e3⟩|⟨c3,u3,c3',u3',rfl,hc3,e3,hc3'⟩
   ·rw[e,e2,e3]
    refine⟨rfl,fun hb=> ?_⟩
    simp only[List.length_cons,List.length_nil,List.getD_cons_zero,List.getD_cons_succ,List.getD_nil]at hs ⊢
    rcases hs with⟨_,h⟩|⟨_,_,_,_,h⟩|⟨_,_,_,_,_,_,h⟩|⟨_,h,_⟩|h
    ·rw[h];exact(e.trans (congrArg (List.cons c) (e2.trans (congrArg (List.cons c2) e3)))).symm
    ·rw[h];exact(e2.trans (congrArg (List.cons c2) e3)).symm
    ·rw[h];rfl
    ·omega
    ·rw[h];exact(e.trans (congrArg (List.cons c) (e2.trans (congrArg (List.cons c2) e3)))).symm
   ·rw[e,e2,e3]
    refine⟨?_,fun hb=> ?_⟩
    ·apply dec_same
     all_goals simp
    ·rcases hs with⟨_,h⟩|⟨_,_,_,_,h⟩|⟨_,_,_,_,_,_,h⟩|⟨_,_,_,_,_,_,_,h⟩|h
     ·rw[h];exact(e.trans (congrArg (List.cons c) (e2.trans (congrArg (List.cons c2) e3)))).symm
     ·rw[h];exact(e2.trans (congrArg (List.cons c2) e3)).symm
     ·rw[h];exact e3.symm
     ·rw[h];rfl
     ·rw[h];exact(e.trans (congrArg (List.cons c) (e2.trans (congrArg (List.cons c2) e3)))).symm
   ·rw[e,e2,e3]
    refine⟨?_,fun hb=> ?_⟩
    ·apply dec_same
     all_goals simp[hc3,hc3']
    ·rcases hs with⟨_,h⟩|⟨_,_,_,_,h⟩|⟨_,_,_,_,_,_,h⟩|⟨_,_,_,_,h3,_⟩|h
     ·rw[h];exact(e.trans (congrArg (List.cons c) (e2.trans (congrArg (List.cons c2) e3)))).symm
     ·rw[h];exact(e2.trans (congrArg (List.cons c2) e3)).symm
     ·rw[h];exact e3.symm
     ·exact absurd h3 hc3
     ·rw[h];exact(e.trans (congrArg (List.cons c) (e2.trans (congrArg (List.cons c2) e3)))).symm
  ·rw[e,e2]
   refine⟨?_,fun hb=> ?_⟩
   ·apply dec_same
    all_goals simp[hc2,hc2']
   ·rcases hs with⟨_,h⟩|⟨_,_,_,_,h⟩|⟨_,_,_,h3,_⟩|⟨_,_,_,h3,_⟩|h
    ·rw[h];exact(e.trans (congrArg (List.cons c) e2)).symm
    ·rw[h];exact e2.symm
    ·exact absurd h3 hc2
    ·exact absurd h3 hc2
    ·rw[h];exact(e.trans (congrArg (List.cons c) e2)).symm
 ·rw[e]
  refine⟨?_,fun hb=> ?_⟩
  ·apply dec_same
   all_goals simp[hc,hc']
  ·rcases hs with⟨_,h⟩|⟨_,_,h3,_⟩|⟨_,_,h3,_⟩|⟨_,_,h3,_⟩|h
   ·rw[h];exact e.symm
   ·exact absurd h3 hc
   ·exact absurd h3 hc
   ·exact absurd h3 hc
   ·rw[h];exact e.symm
theorem txL_list (l X:List UInt8)(h:l.all (fun b=>decide (b.toNat<128)&&isC (b.toNat:Int))=true):txL (l++X)=txL X:=by
 induction l with
 |nil=>rfl
 |cons b t ih=>
  rw[List.all_cons,Bool.and_eq_true,Bool.and_eq_true,decide_eq_true_eq]at h
  rw[List.cons_append,txL_ascii b _ h.1.1,h.1.2,ih h.2]
  rfl
theorem txL_std (attr:Bool)(b:UInt8)(X:List UInt8)(hb:b.toNat<128):txL (stdL attr b++X)=(isC (b.toNat:Int)&&txL X):=by
 unfold stdL
 repeat' split
 all_goals first
  |(rename_i h;subst h;rw[txL_list _ X (by decide)];rw[show isC _=true from by decide];rfl)
  |(rename_i h;obtain⟨rfl,_⟩:=h;rw[txL_list _ X (by decide)];rw[show isC _=true from by decide];rfl)
  |exact txL_ascii b X hb
theorem stdL_high (attr:Bool)(b:UInt8)(hb:128≤b.toNat):stdL attr b=[b]:=by
 unfold stdL
 rw[if_neg (by rintro rfl;revert hb;decide),if_neg (by rintro rfl;revert hb;decide),if_neg (by rintro rfl;revert hb;decide),if_neg (by rintro⟨rfl,_⟩;revert hb;decide),
  if_neg (by rintro⟨rfl,_⟩;revert hb;decide),if_neg (by rintro⟨rfl,_⟩;revert hb;decide),if_neg (by rintro⟨rfl,_⟩;revert hb;decide)]
theorem txL_put (attr:Bool):∀(n:Nat) (l:List UInt8),l.length≤n→txL (putL attr l)=txL l
 |_,[],_=>rfl
 |0,b::t,h=>by simp at h
 |n+1,b::t,h=>by
  rw[List.length_cons]at h
  rw[putL_cons]
  by_cases hb:b.toNat<128
  ·rw[txL_std attr b _ hb,txL_ascii b t hb,txL_put attr n t (by omega)]
  ·obtain⟨h1,h2⟩:=put_decode attr b t
   have hw:=decodeL_width (b::t)
   rw[stdL_high attr b (by omega)]
   show txL (b::putL attr t)=_
   rw[txL_step (b::putL attr t) (by simp),h1,txL_step (b::t) (by simp),h2 (by omega),txL_put attr n _ (by rw[List.length_drop,List.length_cons];omega)]
end Char
namespace Char
open Go.Lib
theorem tx_eq (l:List UInt8):txD l=txL l:=rfl
theorem tx_nil:txD []=true:=rfl
def asc0:List UInt8→Bool
 |[]=>true
 |b::_=>decide (b.toNat<128)
theorem getD_app {a b:List UInt8}{j:Nat}(h:j<a.length):(a++b).getD j 0=a.getD j 0:=by simp[List.getD,List.getElem?_append_left h]
theorem getD_seam {a b:List UInt8}(hb:asc0 b=true):¬(a.length<(a++b).length∧((a++b).getD a.length 0).toNat/64=2):=by
 cases b with
 |nil=>simp
 |cons c r=>
  have :((a++c::r).getD a.length 0)=c:=by simp[List.getD]
  rw[this]
  have h:c.toNat<128:=by simpa [asc0] using hb
  omega
theorem decode_front (a b:List UInt8)(hne:a≠[])(hb:asc0 b=true):decodeL (a++b)=decodeL a:=by
 have hl:0<a.length:=List.length_pos_iff.2 hne
 have hs:=getD_seam (a:=a) hb
 rw[decodeL_N,decodeL_N,getD_app hl]
 have hlen:(a++b).length=a.length+b.length:=by simp
 have key:∀j,j≤a.length→((j<a.length∧(a.getD j 0).toNat/64=2)↔(j<(a++b).length∧((a++b).getD j 0).toNat/64=2)):=by
  intro j hj
  rcases Nat.lt_or_ge j a.length with h|h
  ·rw[getD_app h]
   constructor
   ·rintro⟨_,h2⟩;exact⟨by omega,h2⟩
   ·rintro⟨_,h2⟩;exact⟨h,h2⟩
  ·have e:j=a.length:=by omega
   subst e
   constructor
   ·rintro⟨h1,_⟩;omega
   ·intro h1;exact absurd h1 hs
 have eqv:∀j,(j<a.length∧(a.getD j 0).toNat/64=2)→(a.getD j 0).toNat=((a++b).getD j 0).toNat:=fun j h=>by rw[getD_app h.1]
 exact dec_same _ _ _ _ _ _ _ _ _ (key 1 (by omega)) (eqv 1) (fun h1=>key 2 (by omega)) (fun _=>eqv 2) (fun _ h2=>key 3 (by omega)) (fun _ _=>eqv 3)
theorem tx_split:∀(n:Nat) (a b:List UInt8),a.length≤n→asc0 b=true→txD (a++b)=(txD a&&txD b)
 |0,a,b,h,_=>by
  obtain rfl:a=[]:=List.eq_nil_of_length_eq_zero (by omega)
  rfl
 |n+1,a,b,h,hb=>by
  by_cases hne:a=[]
  ·subst hne;rfl
  ·have hw:=decodeL_width a
   have hle:=decodeL_le a hne
   rw[tx_eq,tx_eq a,txL_step (a++b) (by simp[hne]),txL_step a hne,decode_front a b hne hb]
   split
   ·rfl
   ·rw[List.drop_append_of_le_length hle,←tx_eq,tx_split n _ b (by rw[List.length_drop];omega) hb,Bool.and_assoc]
    rfl
theorem tx_more (a b:List UInt8)(h:txD a=true):txD (a++b)=txD b:=by
 unfold txD at h ⊢
 rw[Bool.and_eq_true]at h
 rw[validD_more _ a b (Nat.le_refl _) h.1,allR_more isC _ a b (Nat.le_refl _) h.1,h.2]
 rfl
theorem tx_ascii (b:UInt8)(t:List UInt8)(h:b.toNat<128):txD (b::t)=(isC (b.toNat:Int)&&txD t):=txL_ascii b t h
theorem tx_behind:∀(m r:List UInt8),m.all (fun b=>decide (b.toNat<128))=true→txD (m++r)=true→txD r=true
 |[],_,_,h=>h
 |b::m,r,ha,h=>by
  rw[List.all_cons,Bool.and_eq_true,decide_eq_true_eq]at ha
  rw[List.cons_append,tx_ascii b _ ha.1,Bool.and_eq_true]at h
  exact tx_behind m r ha.2 h.2
theorem pre_split {m l:List UInt8}(h:m.isPrefixOf l=true):m++l.drop m.length=l:=by
 obtain⟨t,rfl⟩:=List.isPrefixOf_iff_prefix.1 h
 simp
theorem tx_take {m l:List UInt8}(ha:m.all (fun b=>decide (b.toNat<128))=true)(h:m.isPrefixOf l=true)(ht:txD l=true):txD (l.drop m.length)=true:=by
 rw[←pre_split h]at ht
 exact tx_behind m _ ha ht
theorem tx_cut {m l:List UInt8}{i:Nat}(hm:m≠[])(ha:m.all (fun b=>decide (b.toNat<128))=true)(hi:index l m=(i:Int))(ht:txD l=true):txD (l.take i)=true∧txD (l.drop (i+m.length))=true∧m.isPrefixOf (l.drop i)=true:=by
 have hsp:=index_spec l m
 have hp:m.isPrefixOf (l.drop i)=true:=by
  rcases hsp with⟨h1,_⟩|⟨j,h1,_,h3,_⟩
  ·omega
  ·have :j=i:=by omega
   subst this
   exact h3
 have e:=List.take_append_drop i l
 have hd:asc0 (l.drop i)=true:=by
  obtain⟨t,ht2⟩:=List.isPrefixOf_iff_prefix.1 hp
  rw[←ht2]
  cases m with
  |nil=>exact absurd rfl hm
  |cons b m=>
   rw[List.all_cons,Bool.and_eq_true]at ha
   exact ha.1
 have h2:txD (l.take i++l.drop i)=true:=by rw[e];exact ht
 rw[tx_split _ _ _ (Nat.le_refl _) hd,Bool.and_eq_true]at h2
 refine⟨h2.1,?_,hp⟩
 have :=tx_take ha hp h2.2
 rwa [List.drop_drop]at this
def tlN (p:Nat→Bool):Nat→List UInt8→Nat
 |0,_=>0
 |n+1,l=>if l=[] then 0 else if p (decodeL l).1 then (decodeL l).2+tlN p n (l.drop (decodeL l).2) else 0
theorem tlN_le (p:Nat→Bool):∀(n:Nat) (l:List UInt8),tlN p n l≤l.length
 |0,_=>Nat.zero_le _
 |n+1,l=>by
  unfold tlN
  split
  ·exact Nat.zero_le _
  ·rename_i hne
   split
   ·have h1:=tlN_le p n (l.drop (decodeL l).2)
    have h2:=decodeL_le l hne
    rw[List.length_drop]at h1
    omega
   ·exact Nat.zero_le _
theorem tl_from (p:Nat→Bool)(s:ByteArray):∀(f pos:Nat),s.size≤pos+f→pos≤s.size→(if idxFuncFrom p false s f pos= -1 then s.size else (idxFuncFrom p false s f pos).toNat)=pos+tlN p f (s.data.toList.drop pos)
 |0,pos,h,hp=>by
  have :pos=s.size:=by omega
  subst this
  rfl
 |f+1,pos,h,hp=>by
  by_cases hlt:pos<s.size
  ·have hw:=decodeL_width (s.data.toList.drop pos)
   have hne:=drop_ne s pos hlt
   have hle:=decodeL_le _ hne
   rw[List.length_drop,size_list]at hle
   unfold idxFuncFrom tlN
   rw[if_pos hlt,if_neg hne,decode_drop]
   cases hpp:p (decodeL (s.data.toList.drop pos)).1 with
   |false=>simp
   |true=>
    have ih:=tl_from p s f (pos+(decodeL (s.data.toList.drop pos)).2) (by omega) (by omega)
    simp only[Bool.true_eq_false,if_false,if_true]
    rw[ih,List.drop_drop]
    omega
  ·have :pos=s.size:=by omega
   subst this
   rw[idxFuncFrom_end p false s _ _ hlt,if_pos rfl]
   unfold tlN
   rw[if_pos (drop_end s s.size hlt)]
   omega
def tlL (p:Nat→Bool)(l:List UInt8):Nat:=tlN p l.length l
theorem trimLeft_eq (p:Nat→Bool)(s:ByteArray):(trimLeftF p s).data.toList=s.data.toList.drop (tlL p s.data.toList):=by
 have h:=tl_from p s s.size 0 (by omega) (Nat.zero_le _)
 rw[Nat.zero_add,List.drop_zero]at h
 have e:tlL p s.data.toList=tlN p s.size s.data.toList:=by unfold tlL;rw[size_list]
 rw[e,←h]
 unfold trimLeftF
 change _=List.drop (if idxFunc p false s= -1 then _ else _) _
 split
 ·rw[List.drop_eq_nil_of_le (by rw[size_list];exact Nat.le_refl _)]
 ·rw[extract_data]
  exact List.take_of_length_le (by rw[List.length_drop,size_list];exact Nat.le_refl _)
theorem tlN_fuel (p:Nat→Bool):∀(n m:Nat) (l:List UInt8),l.length≤n→l.length≤m→tlN p n l=tlN p m l
 |0,0,_,_,_=>rfl
 |0,m+1,l,hn,_=>by
  obtain rfl:l=[]:=List.eq_nil_of_length_eq_zero (by omega)
  rfl
 |n+1,0,l,_,hm=>by
  obtain rfl:l=[]:=List.eq_nil_of_length_eq_zero (by omega)
  rfl
 |n+1,m+1,l,hn,hm=>by
  unfold tlN
  split
  ·rfl
  ·have :=decodeL_width l
   rw[tlN_fuel p n m _ (by rw[List.length_drop];omega) (by rw[List.length_drop];omega)]
theorem tl_step (p:Nat→Bool)(l:List UInt8)(hne:l≠[]):tlL p l=if p (decodeL l).1 then (decodeL l).2+tlL p (l.drop (decodeL l).2) else 0:=by
 have hl:0<l.length:=List.length_pos_iff.2 hne
 have hw:=decodeL_width l
 obtain⟨n,hn⟩:∃n,l.length=n+1:=⟨l.length-1,by omega⟩
 unfold tlL
 rw[hn]
 conv=>lhs;unfold tlN
 rw[if_neg hne,tlN_fuel p n (l.drop (decodeL l).2).length _ (by rw[List.length_drop];omega) (Nat.le_refl _)]
theorem tl_le (p:Nat→Bool)(l:List UInt8):tlL p l≤l.length:=tlN_le p _ l
theorem tx_step {l:List UInt8}(hne:l≠[])(h:txD l=true):¬((decodeL l).1=65533∧(decodeL l).2=1)∧isC ((decodeL l).1:Int)=true∧txD (l.drop (decodeL l).2)=true:=by
 rw[tx_eq,txL_step l hne]at h
 split at h
 ·cases h
 ·rename_i hb
  rw[Bool.and_eq_true]at h
  exact⟨hb,h.1,h.2⟩
theorem tx_tl (p:Nat→Bool):∀(n:Nat) (l:List UInt8),l.length≤n→txD l=true→txD (l.drop (tlL p l))=true
 |n,l,hn,h=>by
  by_cases hne:l=[]
  ·subst hne;rfl
  ·have hw:=decodeL_width l
   have hl:0<l.length:=List.length_pos_iff.2 hne
   rw[tl_step p l hne]
   split
   ·rw[←List.drop_drop]
    match n,hn with
    |0,hn=>omega
    |n+1,hn=>exact tx_tl p n _ (by rw[List.length_drop];omega) (tx_step hne h).2.2
   ·exact h
theorem run_tl:∀(n:Nat) (l:List UInt8),l.length≤n→txD l=true→runL l=tlL (fun r=>paC (r:Int)) l
 |n,l,hn,h=>by
  by_cases hne:l=[]
  ·subst hne;rfl
  ·have hw:=decodeL_width l
   have hl:0<l.length:=List.length_pos_iff.2 hne
   obtain⟨h1,h2,h3⟩:=tx_step hne h
   have ho:oneL l=decodeL l:=by
    unfold oneL
    rw[if_neg hne,if_neg h1]
   rw[tl_step _ l hne]
   split
   ·rename_i hp
    rw[run_go (by rw[ho];omega) (by rw[ho];exact hp),ho]
    match n,hn with
    |0,hn=>omega
    |n+1,hn=>rw[run_tl n _ (by rw[List.length_drop];omega) h3]
   ·rename_i hp
    exact run_stop (.inr (by rw[ho];simpa using hp))
theorem spc_tl:∀l:List UInt8,spcL l=tlL (fun r=>spC (r:Int)) l
 |[]=>rfl
 |b::t=>by
  rw[tl_step _ (b::t) (by simp),spc_cons]
  by_cases hb:b.toNat<128
  ·rw[decodeL_ascii b t hb]
   show _=if spC (b.toNat:Int)=true then 1+tlL _ t else 0
   rw[spc_tl t]
   split
   ·omega
   ·rfl
  ·have h1:=decodeL_high b t hb
   rw[spC_high (b.toNat:Int) (by omega)]
   show _=if spC ((decodeL (b::t)).1:Int)=true then _ else 0
   rw[spC_high _ (by omega)]
   rfl
def noL (b:UInt8):Bool:=b != 60
def ltL (l:List UInt8):Nat:=(l.takeWhile noL).length
theorem lt_le (l:List UInt8):ltL l≤l.length:=(List.takeWhile_prefix _).length_le
theorem lt_high:∀(k:Nat) (l:List UInt8),k≤l.length→(∀j,j<k→128≤(l.getD j 0).toNat)→ltL l=k+ltL (l.drop k)
 |0,l,_,_=>by simp
 |k+1,[],h,_=>by simp at h
 |k+1,b::t,h,hh=>by
  have h0:=hh 0 (by omega)
  rw[List.getD_cons_zero]at h0
  have hn:noL b=true:=by
   unfold noL
   rw[bne_iff_ne]
   rintro rfl
   revert h0
   decide
  have ih:=lt_high k t (by simpa using h) (fun j hj=>by have :=hh (j+1) (by omega);rwa [List.getD_cons_succ]at this)
  unfold ltL at ih ⊢
  rw[List.takeWhile_cons,if_pos hn,List.length_cons,List.drop_succ_cons]
  omega
theorem dec_high (b:UInt8)(t:List UInt8)(hb:¬b.toNat<128):(decodeL (b::t)).2≤(b::t).length∧∀j,j<(decodeL (b::t)).2→128≤((b::t).getD j 0).toNat:=by
 refine⟨decodeL_le _ (by simp),?_⟩
 have hs:=decodeN_shape (b::t).length ((b::t).getD 0 0).toNat ((b::t).getD 1 0).toNat ((b::t).getD 2 0).toNat ((b::t).getD 3 0).toNat
 rw[←decodeL_N]at hs
 have h0:((b::t).getD 0 0).toNat=b.toNat:=rfl
 intro j hj
 rcases hs with⟨h,_⟩|⟨_,_,h1,_,h⟩|⟨_,_,h1,h2,_,_,h⟩|⟨_,_,h1,h2,h3,_,_,h⟩|h
 ·omega
 ·rw[h]at hj
  match j,hj with
  |0,_=>omega
  |1,_=>omega
  |j+2,hj=>dsimp only at hj;omega
 ·rw[h]at hj
  match j,hj with
  |0,_=>omega
  |1,_=>omega
  |2,_=>omega
  |j+3,hj=>dsimp only at hj;omega
 ·rw[h]at hj
  match j,hj with
  |0,_=>omega
  |1,_=>omega
  |2,_=>omega
  |3,_=>omega
  |j+4,hj=>dsimp only at hj;omega
 ·rw[h]at hj
  match j,hj with
  |0,_=>omega
  |j+1,hj=>dsimp only at hj;omega
theorem lt_tl:∀(n:Nat) (l:List UInt8),l.length≤n→ltL l=tlL (fun r=>(r:Int) != 60) l
 |_,[],_=>rfl
 |0,b::t,h=>by simp at h
 |n+1,b::t,h=>by
  rw[List.length_cons]at h
  rw[tl_step _ (b::t) (by simp)]
  by_cases hb:b.toNat<128
  ·rw[decodeL_ascii b t hb]
   show _=if ((b.toNat:Int) != 60)=true then 1+tlL _ t else 0
   rw[←lt_tl n t (by omega)]
   unfold ltL
   rw[List.takeWhile_cons]
   by_cases h60:b=60
   ·subst h60;rfl
   ·have q:((b.toNat:Int) != 60)=true:=by
     rw[bne_iff_ne];intro hh;exact h60 (UInt8.toNat_inj.1 (by rw[show(60:UInt8).toNat=60 from rfl];omega))
    rw[if_pos (show noL b=true by unfold noL;simpa using h60),if_pos q,List.length_cons]
    omega
  ·have h1:=decodeL_high b t hb
   obtain⟨h2,h3⟩:=dec_high b t hb
   have hw:=decodeL_width (b::t)
   have q:(((decodeL (b::t)).1:Int) != 60)=true:=by rw[bne_iff_ne];omega
   rw[if_pos q,←lt_tl n _ (by rw[List.length_drop,List.length_cons];omega)]
   exact lt_high _ _ h2 h3
theorem lt_index:∀l:List UInt8,index l [60]=if ltL l=l.length then -1 else (ltL l:Int)
 |[]=>rfl
 |b::t=>by
  have ih:=lt_index t
  have hle:=lt_le t
  unfold index
  by_cases hb:b=60
  ·subst hb
   simp[ltL,noL,List.isPrefixOf]
  ·have h2:([60]:List UInt8).isPrefixOf (b::t)=false:=by
    simp[List.isPrefixOf]
    exact fun h=>hb h.symm
   have e:ltL (b::t)=ltL t+1:=by
    unfold ltL
    rw[List.takeWhile_cons,if_pos (show noL b=true by unfold noL;simpa using hb),List.length_cons]
   rw[h2,ih,e,List.length_cons]
   simp only[Bool.false_eq_true,if_false]
   by_cases hq:ltL t=t.length
   ·rw[if_pos hq,if_pos (show ltL t+1=t.length+1 by omega)];rfl
   ·rw[if_neg hq,if_neg (show ¬ltL t+1=t.length+1 by omega),if_neg (show ¬(((ltL t:Int)== -1)=true) by rw[beq_iff_eq];omega)]
    omega
end Char
namespace Fig
def val:List Nat→Nat
 |[]=>0
 |d::l=>d+10*val l
def dgN:Nat→Nat→List Nat
 |0,_=>[]
 |f+1,n=>if n=0 then [] else n%10::dgN f (n/10)
def dg (n:Nat):List Nat:=dgN n n
theorem dgN_zero:∀f,dgN f 0=[]
 |0=>rfl
 |_+1=>by simp[dgN]
theorem dgN_fuel:∀(f g n:Nat),n≤f→n≤g→dgN f n=dgN g n
 |0,g,n,h,_=>by
  obtain rfl:n=0:=by omega
  rw[dgN_zero,dgN_zero]
 |f+1,0,n,_,h=>by
  obtain rfl:n=0:=by omega
  rw[dgN_zero,dgN_zero]
 |f+1,g+1,n,h1,h2=>by
  unfold dgN
  by_cases h:n=0
  ·rw[if_pos h,if_pos h]
  ·rw[if_neg h,if_neg h,dgN_fuel f g (n/10) (by omega) (by omega)]
theorem dg_zero:dg 0=[]:=rfl
theorem dg_step (n:Nat)(h:n≠0):dg n=n%10::dg (n/10):=by
 obtain⟨m,rfl⟩:∃m,n=m+1:=⟨n-1,by omega⟩
 show dgN (m+1) (m+1)=_
 unfold dgN
 rw[if_neg h]
 show _=_::dgN _ _
 rw[dgN_fuel m ((m+1)/10) _ (by omega) (by omega)]
theorem val_dg (n:Nat):val (dg n)=n:=by
 induction n using Nat.strongRecOn with
 |_ n ih=>
  by_cases h:n=0
  ·subst h;rfl
  ·rw[dg_step n h,val,ih (n/10) (by omega)]
   omega
theorem dg_lt (n:Nat):∀d∈dg n,d<10:=by
 induction n using Nat.strongRecOn with
 |_ n ih=>
  intro d hd
  by_cases h:n=0
  ·subst h;cases hd
  ·rw[dg_step n h]at hd
   rcases List.mem_cons.1 hd with rfl|hd
   ·exact Nat.mod_lt _ (by omega)
   ·exact ih (n/10) (by omega) d hd
theorem dg_getD:∀(k n:Nat),(dg n).getD k 0=n/10^k%10
 |0,n=>by
  by_cases h:n=0
  ·subst h;rfl
  ·rw[dg_step n h];simp
 |k+1,n=>by
  by_cases h:n=0
  ·subst h;simp[dg_zero]
  ·have e:n/10^(k+1)=n/10/10^k:=by rw[Nat.pow_succ',Nat.div_div_eq_div_mul]
   rw[dg_step n h,e,←dg_getD k (n/10)]
   rfl
theorem dg_len_lt (n:Nat):n<10^(dg n).length:=by
 induction n using Nat.strongRecOn with
 |_ n ih=>
  by_cases h:n=0
  ·subst h;simp[dg_zero]
  ·have :=ih (n/10) (by omega)
   rw[dg_step n h,List.length_cons,Nat.pow_succ]
   omega
theorem dg_len_le (n:Nat):∀k,n<10^k→(dg n).length≤k:=by
 induction n using Nat.strongRecOn with
 |_ n ih=>
  intro k hk
  by_cases h:n=0
  ·subst h;simp[dg_zero]
  ·match k,hk with
   |0,hk=>simp at hk;omega
   |k+1,hk=>
    rw[Nat.pow_succ]at hk
    have :=ih (n/10) (by omega) k (by omega)
    rw[dg_step n h,List.length_cons]
    omega
theorem dg_len_ge (n k:Nat)(h:10^k≤n):k<(dg n).length:=by
 have h1:=dg_len_lt n
 rcases Nat.lt_or_ge k (dg n).length with h2|h2
 ·exact h2
 ·have :=Nat.pow_le_pow_right (n:=10) (by omega) h2
  omega
theorem dg_nil (n:Nat):dg n=[]↔n=0:=by
 constructor
 ·intro h
  have :=val_dg n
  rw[h]at this
  exact this.symm
 ·rintro rfl;rfl
theorem dg_len_below (a b:Nat)(h:(dg a).length<(dg b).length):a<b:=by
 have h1:=dg_len_lt a
 rcases Nat.lt_or_ge a b with h2|h2
 ·exact h2
 ·have :=dg_len_le b (dg a).length (by omega)
  omega
theorem dg_over (n k:Nat)(h:(dg n).length≤k):n%10^k=n∧n/10^k%10=0:=by
 have h1:=dg_len_lt n
 have h2:=Nat.pow_le_pow_right (n:=10) (by omega) h
 refine⟨Nat.mod_eq_of_lt (by omega),?_⟩
 rw[Nat.div_eq_of_lt (by omega)]
theorem val_append:∀a b:List Nat,val (a++b)=val a+10^a.length*val b
 |[],b=>by simp[val]
 |d::a,b=>by
  rw[List.cons_append,val,val,val_append a b,List.length_cons,Nat.pow_succ']
  rw[Nat.mul_assoc 10]
  omega
theorem val_snoc (a:List Nat)(d:Nat):val (a++[d])=val a+10^a.length*d:=by
 rw[val_append];simp[val]
theorem val_lt:∀l:List Nat,(∀d∈l,d<10)→val l<10^l.length
 |[],_=>by simp[val]
 |d::l,h=>by
  have h1:=val_lt l (fun x hx=>h x (List.mem_cons_of_mem _ hx))
  have h2:=h d (by simp)
  rw[val,List.length_cons,Nat.pow_succ]
  omega
theorem dg_val:∀l:List Nat,(∀d∈l,d<10)→(∀h:l≠[],l.getLast h≠0)→l=dg (val l)
 |[],_,_=>rfl
 |d::l,h,hl=>by
  have hd:=h d (by simp)
  have hne:val (d::l)≠0:=by
   rw[val]
   match l,hl with
   |[],hl=>have :=hl (by simp);simp at this;omega
   |x::l,hl=>
    have ih:=dg_val (x::l) (fun y hy=>h y (List.mem_cons_of_mem _ hy)) (fun hh=>by have :=hl (by simp);rwa [List.getLast_cons hh]at this)
    have :val (x::l)≠0:=by
     intro h0
     rw[h0]at ih
     cases ih
    omega
  rw[dg_step _ hne]
  have e1:val (d::l)%10=d:=by rw[val];omega
  have e2:val (d::l)/10=val l:=by rw[val];omega
  rw[e1,e2]
  by_cases hn:l=[]
  ·subst hn;rfl
  ·rw[←dg_val l (fun y hy=>h y (List.mem_cons_of_mem _ hy)) (fun hh=>by have :=hl (by simp);rwa [List.getLast_cons hh]at this)]
theorem val_take_zero (l:List Nat)(m:Nat)(hm:m+1≤l.length)(h:l.getD m 0=0):val (l.take (m+1))=val (l.take m):=by
 have e:l.take (m+1)=l.take m++[l.getD m 0]:=by
  rw[List.take_succ_eq_append_getElem (by omega:m<l.length)]
  simp[List.getD,List.getElem?_eq_getElem (by omega:m<l.length)]
 rw[e,val_snoc,h]
 simp
theorem dg_take (l:List Nat)(hl:∀d∈l,d<10)(m:Nat)(hm:m≤l.length)(h:0<m→l.getD (m-1) 0≠0):l.take m=dg (val (l.take m)):=by
 refine dg_val _ (fun d hd=>hl d (List.mem_of_mem_take hd)) (fun hne=> ?_)
 have hlen:(l.take m).length=m:=by simp;omega
 have hm0:0<m:=by rw[←hlen];exact List.length_pos_iff.2 hne
 have :=h hm0
 rw[List.getLast_eq_getElem]
 simp only[hlen,List.getElem_take]
 simpa [List.getD,List.getElem?_eq_getElem (by omega:m-1<l.length)] using this
theorem getD_lt (l:List Nat)(hl:∀d∈l,d<10)(k:Nat):l.getD k 0<10:=by
 rcases Nat.lt_or_ge k l.length with h|h
 ·have :l.getD k 0=l[k]:=by simp[List.getD,List.getElem?_eq_getElem h]
  rw[this];exact hl _ (List.getElem_mem h)
 ·have :l.getD k 0=0:=by simp[List.getD,List.getElem?_eq_none h]
  omega
theorem snoc_lt {l:List Nat}{d:Nat}(hl:∀x∈l,x<10)(hd:d<10):∀x∈l++[d],x<10:=by
 intro x hx
 rcases List.mem_append.1 hx with h|h
 ·exact hl x h
 ·rw[List.mem_singleton.1 h];exact hd
theorem set_lt {l:List Nat}{p d:Nat}(hl:∀x∈l,x<10)(hd:d<10):∀x∈l.set p d,x<10:=by
 intro x hx
 rcases List.mem_or_eq_of_mem_set hx with h|h
 ·exact hl x h
 ·rw[h];exact hd
theorem val_set:∀(l:List Nat) (p d:Nat),p<l.length→val (l.set p d)+10^p*l.getD p 0=val l+10^p*d
 |[],p,d,h=>by simp at h
 |x::l,0,d,h=>by simp[val];omega
 |x::l,p+1,d,h=>by
  have ih:=val_set l p d (by simpa using h)
  simp only[List.set_cons_succ,val,List.getD_cons_succ,Nat.pow_succ']
  rw[Nat.mul_assoc,Nat.mul_assoc]
  omega
theorem val_zeros:∀n,val (List.replicate n 0)=0
 |0=>rfl
 |n+1=>by rw[List.replicate_succ,val,val_zeros n]
theorem mod_step (a k:Nat):a%10^(k+1)=a%10^k+10^k*(a/10^k%10):=Nat.mod_pow_succ
theorem plus_step (a b k v c:Nat)(h:v+c*10^k=a%10^k+b%10^k):
 v+10^k*((a/10^k%10+b/10^k%10+c)%10)+(a/10^k%10+b/10^k%10+c)/10*10^(k+1)=a%10^(k+1)+b%10^(k+1):=by
 rw[mod_step a,mod_step b,Nat.pow_succ]
 generalize a/10^k%10=x
 generalize b/10^k%10=y
 generalize 10^k=P at *
 generalize hs:x+y+c=s
 have e:P*s=P*x+P*y+P*c:=by rw[←hs];simp[Nat.mul_add]
 have e2:P*s=P*(s%10)+s/10*(P*10):=by
  have :=Nat.mod_add_div s 10
  calc P*s=P*(s%10+10*(s/10)):=by rw[this]
   _=_:=by rw[Nat.mul_add];congr 1;rw[←Nat.mul_assoc,Nat.mul_comm]
 rw[Nat.mul_comm c P]at h
 omega
theorem minus_step (a b k v c d e:Nat)(h:v+b%10^k=a%10^k+c*10^k)(hd:d+b/10^k%10+c=a/10^k%10+10*e):
 v+10^k*d+b%10^(k+1)=a%10^(k+1)+e*10^(k+1):=by
 rw[mod_step a,mod_step b,Nat.pow_succ]
 generalize a/10^k%10=x at *
 generalize b/10^k%10=y at *
 generalize 10^k=P at *
 have e1:P*(d+y+c)=P*(x+10*e):=by rw[hd]
 simp only[Nat.mul_add]at e1
 rw[Nat.mul_comm c P]at h
 have e2:P*(10*e)=e*(P*10):=by rw[Nat.mul_comm e,Nat.mul_assoc]
 omega
theorem div_step (a k:Nat):a/10^k=10*(a/10^(k+1))+a/10^k%10:=by
 rw[Nat.pow_succ,←Nat.div_div_eq_div_mul]
 omega
end Fig
namespace Fig
open Go.Proofs.YtlmpkpjjakallaaGreatDoor.Char Go.RowKit
inductive Nm
 |nan
 |over
 |under
 |num (n:Int)
def toD (t v:Int):Nm:=if t=0∧v≠ -9223372036854775808 then .num v else if t=2∧v=0 then .over else if t=3∧v=0 then .under else .nan
def outT:Nm→Int
 | .nan=>1
 | .over=>2
 | .under=>3
 | .num _=>0
def outV:Nm→Int
 | .num n=>n
 |_=>0
def rightB (t v:Int):Bool:=match toD t v with | .nan=>t==1&&v==0|_=>true
def aggV (t v:Int):Value:= .agg #[.int .i64 t,.int .i64 v]
def decV (x:Nm):Value:= .agg #[.int .i64 (outT x),.int .i64 (outV x)]
def fitD (n:Int):Nm:=if 9223372036854775807<n then .over else if n< -9223372036854775807 then .under else .num n
def sgn:Nm→Int
 | .nan=>0
 | .over=>1
 | .under=> -1
 | .num n=>n.sign
def pastD (s:Int):Nm:=if 0<s then .over else if s<0 then .under else .nan
def negD:Nm→Nm
 | .nan=> .nan
 | .over=> .under
 | .under=> .over
 | .num n=> .num (-n)
def addD:Nm→Nm→Nm
 | .nan,_=> .nan
 |_,.nan=> .nan
 | .num a,.num b=>fitD (a+b)
 | .num _,y=>y
 |x,.num _=>x
 | .over,.over=> .over
 | .under,.under=> .under
 |_,_=> .nan
def mulD:Nm→Nm→Nm
 | .nan,_=> .nan
 |_,.nan=> .nan
 | .num a,.num b=>fitD ((a*b).tdiv 1000000)
 |x,y=>pastD (sgn x*sgn y)
def divD:Nm→Nm→Nm
 | .nan,_=> .nan
 |_,.nan=> .nan
 | .num a,.num b=>if b=0 then pastD a.sign else fitD ((a*1000000).tdiv b)
 | .num _,_=> .num 0
 |x,.num b=>if b=0 then x else pastD (sgn x*b.sign)
 |_,_=> .nan
def modD:Nm→Nm→Nm
 | .num a,.num b=>if b=0 then .nan else .num (a.tmod b)
 | .num a,.over=> .num a
 | .num a,.under=> .num a
 |_,_=> .nan
def srt:Nm→Nat
 | .under=>0
 | .num n=>if n<0 then 1 else if 0<n then 3 else 2
 | .over=>4
 | .nan=>5
def cmpD:Nm→Nm→Int×Bool
 | .nan,_=>(0,false)
 |_,.nan=>(0,false)
 | .num a,.num b=>(if a=b then 0 else if a<b then -1 else 1,true)
 | .under,.under=>(0,true)
 | .over,.over=>(0,true)
 | .under,_=>(-1,true)
 |_,.over=>(-1,true)
 |_,_=>(1,true)
def floorD:Nm→Nm
 | .num n=>fitD (n/1000000*1000000)
 |x=>x
def ceilD (x:Nm):Nm:=negD (floorD (negD x))
def roundD:Nm→Nm
 | .num n=>fitD ((n+500000)/1000000*1000000)
 |x=>x
def wholeD:Nm→Int×Bool
 | .num n=>if n%1000000=0 then (n/1000000,true) else (0,false)
 |_=>(0,false)
def intD (n:Int):Nm:=fitD (n*1000000)
theorem srt_neg {v:Int}(h:v<0):srt (.num v)=1:=by
 show(if v<0 then 1 else if 0<v then 3 else 2)=1
 rw[if_pos h]
theorem srt_pos {v:Int}(h:0<v):srt (.num v)=3:=by
 show(if v<0 then 1 else if 0<v then 3 else 2)=3
 rw[if_neg (by omega),if_pos h]
def okD:Nm→Prop
 | .num n=> -9223372036854775807≤n∧n≤9223372036854775807
 |_=>True
theorem toD_cases (t v:Int):(t=0∧v≠ -9223372036854775808∧toD t v= .num v∧rightB t v=true)∨(t=2∧v=0∧toD t v= .over∧rightB t v=true)∨(t=3∧v=0∧toD t v= .under∧rightB t v=true)∨
 (t=1∧v=0∧toD t v= .nan∧rightB t v=true)∨(¬(t=0∧v≠ -9223372036854775808)∧¬(t=2∧v=0)∧¬(t=3∧v=0)∧¬(t=1∧v=0)∧toD t v= .nan∧rightB t v=false):=by
 by_cases h1:t=0∧v≠ -9223372036854775808
 ·have e:toD t v= .num v:=by unfold toD;rw[if_pos h1]
  exact .inl ⟨h1.1,h1.2,e,by unfold rightB;rw[e]⟩
 ·by_cases h2:t=2∧v=0
  ·have e:toD t v= .over:=by unfold toD;rw[if_neg h1,if_pos h2]
   exact .inr (.inl ⟨h2.1,h2.2,e,by unfold rightB;rw[e]⟩)
  ·by_cases h3:t=3∧v=0
   ·have e:toD t v= .under:=by unfold toD;rw[if_neg h1,if_neg h2,if_pos h3]
    exact .inr (.inr (.inl ⟨h3.1,h3.2,e,by unfold rightB;rw[e]⟩))
   ·have e:toD t v= .nan:=by unfold toD;rw[if_neg h1,if_neg h2,if_neg h3]
    by_cases h4:t=1∧v=0
    ·exact .inr (.inr (.inr (.inl ⟨h4.1,h4.2,e,by unfold rightB;rw[e,h4.1,h4.2];rfl⟩)))
    ·refine .inr (.inr (.inr (.inr ⟨h1,h2,h3,h4,e,?_⟩)))
     unfold rightB
     rw[e]
     show(t==1&&v==0)=false
     rw[Bool.and_eq_false_iff,beq_eq_false_iff_ne,beq_eq_false_iff_ne]
     omega
theorem toD_out:∀x:Nm,okD x→toD (outT x) (outV x)=x
 | .nan,_=>rfl
 | .over,_=>rfl
 | .under,_=>rfl
 | .num n,h=>by
   have h1: -9223372036854775807≤n∧n≤9223372036854775807:=h
   have h2:n≠ -9223372036854775808:=by omega
   show toD 0 n= .num n
   unfold toD
   rw[if_pos ⟨rfl,h2⟩]
theorem toD_ok (t v:Int)(h: -9223372036854775808≤v∧v≤9223372036854775807):okD (toD t v):=by
 unfold toD
 split
 ·rename_i h1
  exact⟨by omega,h.2⟩
 ·split
  ·trivial
  ·split<;>trivial
theorem fitD_ok (n:Int):okD (fitD n):=by
 unfold fitD
 split
 ·trivial
 ·split
  ·trivial
  ·exact⟨by omega,by omega⟩
theorem fitD_in (n:Int)(h: -9223372036854775807≤n∧n≤9223372036854775807):fitD n= .num n:=by
 unfold fitD
 rw[if_neg (by omega),if_neg (by omega)]
theorem pastD_ok (s:Int):okD (pastD s):=by
 unfold pastD
 split
 ·trivial
 ·split<;>trivial
theorem negD_ok:∀x,okD x→okD (negD x)
 | .nan,_=>trivial
 | .over,_=>trivial
 | .under,_=>trivial
 | .num n,h=>by
   have h1: -9223372036854775807≤n∧n≤9223372036854775807:=h
   show -9223372036854775807≤ -n∧ -n≤9223372036854775807
   exact⟨by omega,by omega⟩
theorem negD_neg:∀x,negD (negD x)=x
 | .nan=>rfl
 | .over=>rfl
 | .under=>rfl
 | .num n=>by show Nm.num (- -n)=_;rw[Int.neg_neg]
end Fig
namespace Fig
def chr (d:Nat):UInt8:=UInt8.ofNat (48+d)
def dval (b:UInt8):Nat:=b.toNat-48
def digB (b:UInt8):Bool:=decide (48≤b.toNat)&&decide (b.toNat≤57)
def ptB (b:UInt8):Bool:=b.toNat==46
def spB (b:UInt8):Bool:=b.toNat==9||b.toNat==10||b.toNat==13||b.toNat==32
theorem chr_toNat (d:Nat)(h:d<10):(chr d).toNat=48+d:=by
 unfold chr
 rw[UInt8.toNat_ofNat']
 omega
theorem dval_chr (d:Nat)(h:d<10):dval (chr d)=d:=by unfold dval;rw[chr_toNat d h];omega
theorem digB_chr (d:Nat)(h:d<10):digB (chr d)=true:=by
 unfold digB
 rw[chr_toNat d h,Bool.and_eq_true,decide_eq_true_iff,decide_eq_true_iff]
 omega
def decL (l:List UInt8):Nat:=l.foldl (fun n b=>n*10+dval b) 0
theorem snoc_ind {α:Type}{P:List α→Prop}(h0:P [])(h1:∀l b,P l→P (l++[b]))(l:List α):P l:=by
 have h:∀m:List α,P m.reverse:=fun m=>by
  induction m with
  |nil=>exact h0
  |cons b m ih=>rw[List.reverse_cons];exact h1 _ _ ih
 rw[←List.reverse_reverse l]
 exact h _
theorem decL_snoc (l:List UInt8)(b:UInt8):decL (l++[b])=decL l*10+dval b:=by unfold decL;rw[List.foldl_append];rfl
theorem decL_nil:decL []=0:=rfl
theorem decL_val (l:List UInt8):val ((l.map dval).reverse)=decL l:=by
 induction l using snoc_ind with
 |h0=>rfl
 |h1 l b ih=>
  rw[List.map_append,List.reverse_append,decL_snoc,←ih]
  show dval b+10*val ((l.map dval).reverse)=_
  omega
theorem decL_chr (l:List Nat)(h:∀d∈l,d<10):decL ((l.map chr).reverse)=val l:=by
 rw[←decL_val,List.map_reverse,List.reverse_reverse,List.map_map]
 have e:l.map (dval∘chr)=l.map id:=List.map_congr_left (fun d hd=>dval_chr d (h d hd))
 rw[e,List.map_id]
theorem decL_le_append (l m:List UInt8):decL l≤decL (l++m):=by
 induction m using snoc_ind with
 |h0=>rw[List.append_nil];exact Nat.le_refl _
 |h1 m b ih=>rw[←List.append_assoc,decL_snoc];omega
def lo:Nat→Nat→List UInt8
 |0,_=>[]
 |k+1,n=>lo k (n/10)++[chr (n%10)]
theorem lo_length:∀k n,(lo k n).length=k
 |0,_=>rfl
 |k+1,n=>by rw[lo,List.length_append,lo_length k];rfl
theorem lo_front:∀k n,lo (k+1) n=chr (n/10^k%10)::lo k n
 |0,n=>by simp[lo]
 |k+1,n=>by
  rw[lo,lo_front k (n/10),Nat.div_div_eq_div_mul,←Nat.pow_succ',List.cons_append]
  rfl
theorem lo_add (a:Nat):∀b n,lo (a+b) n=lo a (n/10^b)++lo b n
 |0,n=>by simp[lo]
 |b+1,n=>by
  rw[←Nat.add_assoc,lo,lo,lo_add a b (n/10),Nat.div_div_eq_div_mul,←Nat.pow_succ',List.append_assoc]
theorem lo_dig:∀k n,∀b∈lo k n,digB b=true
 |0,_,b,h=>by cases h
 |k+1,n,b,h=>by
  rw[lo]at h
  rcases List.mem_append.1 h with h|h
  ·exact lo_dig k _ b h
  ·rw[List.mem_singleton.1 h];exact digB_chr _ (Nat.mod_lt _ (by omega))
theorem decL_lo (W:List UInt8):∀k n,decL (W++lo k n)=decL W*10^k+n%10^k
 |0,n=>by simp[lo,Nat.mod_one]
 |k+1,n=>by
  rw[lo,←List.append_assoc,decL_snoc,decL_lo W k (n/10),dval_chr _ (Nat.mod_lt _ (by omega)),Nat.pow_succ',Nat.mod_mul]
  have h1:decL W*(10*10^k)=decL W*10^k*10:=by rw[Nat.mul_comm 10,Nat.mul_assoc]
  rw[h1,Nat.add_mul]
  omega
def txs (n:Nat):List UInt8:=((dg n).map chr).reverse
def tx (n:Nat):List UInt8:=if n=0 then [chr 0] else txs n
theorem txs_step (n:Nat)(h:n≠0):txs n=txs (n/10)++[chr (n%10)]:=by
 unfold txs
 rw[dg_step n h,List.map_cons,List.reverse_cons]
theorem tx_step (n:Nat):tx n=txs (n/10)++[chr (n%10)]:=by
 unfold tx
 by_cases h:n=0
 ·subst h;rfl
 ·rw[if_neg h,txs_step n h]
theorem tx_ne (n:Nat):tx n≠[]:=by rw[tx_step];simp
theorem txs_lo (n:Nat):txs n=lo (dg n).length n:=by
 induction n using Nat.strongRecOn with
 |_ n ih=>
  by_cases h:n=0
  ·subst h;rfl
  ·rw[txs_step n h,ih (n/10) (by omega),dg_step n h,List.length_cons,lo]
theorem decL_txs (n:Nat):decL (txs n)=n:=by unfold txs;rw[decL_chr _ (dg_lt n),val_dg]
theorem decL_tx (n:Nat):decL (tx n)=n:=by
 unfold tx
 by_cases h:n=0
 ·subst h;rfl
 ·rw[if_neg h,decL_txs]
theorem txs_dig (n:Nat):∀b∈txs n,digB b=true:=by rw[txs_lo];exact lo_dig _ _
theorem tx_dig (n:Nat):∀b∈tx n,digB b=true:=by
 rw[tx_step]
 intro b hb
 rcases List.mem_append.1 hb with h|h
 ·exact txs_dig _ b h
 ·rw[List.mem_singleton.1 h];exact digB_chr _ (Nat.mod_lt _ (by omega))
theorem dg_len_step (n:Nat)(h:n≠0):(dg n).length=(dg (n/10)).length+1:=by rw[dg_step n h];rfl
theorem tx_lo (m:Nat):∀k,lo (max (dg m).length (k+1)) m=tx (m/10^k)++lo k m:=by
 intro k
 have hk:max (dg m).length (k+1)=(max (dg m).length (k+1)-k)+k:=by omega
 rw[hk,lo_add]
 congr 1
 have key:∀k n,10^k≤n→(dg (n/10^k)).length+k=(dg n).length:=by
  intro k
  induction k with
  |zero=>intro n _;simp
  |succ k ih=>
   intro n hn
   have h0:n≠0:=by have :=Nat.pow_pos (n:=k+1) (show 0<10 by omega);omega
   have h1:10^k≤n/10:=by rw[Nat.le_div_iff_mul_le (by omega),←Nat.pow_succ];exact hn
   rw[Nat.pow_succ',←Nat.div_div_eq_div_mul,dg_len_step n h0,←ih (n/10) h1]
   omega
 by_cases h:10^k≤m
 ·have e:=key k m h
  have hq:m/10^k≠0:=by
   have :=Nat.div_pos h (Nat.pow_pos (n:=k) (show 0<10 by omega))
   omega
  have hl:0<(dg (m/10^k)).length:=by rw[dg_len_step _ hq];omega
  unfold tx
  rw[if_neg hq,txs_lo]
  congr 1
  omega
 ·have hq:m/10^k=0:=Nat.div_eq_of_lt (by omega)
  have hl:=dg_len_le m k (by omega)
  rw[hq,show max (dg m).length (k+1)-k=1 by omega]
  rfl
def fr:Nat→Nat→List UInt8
 |0,_=>[]
 |k+1,n=>if n%10=0 then fr k (n/10) else lo (k+1) n
theorem fr_zero (k n:Nat)(h:n%10=0):fr (k+1) n=fr k (n/10):=by rw[fr,if_pos h]
theorem fr_lo (k n:Nat)(h:0<k→n%10≠0):fr k n=lo k n:=by
 match k with
 |0=>rfl
 |k+1=>rw[fr,if_neg (h (by omega))]
theorem fr_pad:∀k n,(fr k n).length≤k∧fr k n++List.replicate (k-(fr k n).length) (chr 0)=lo k n
 |0,_=>⟨Nat.le_refl _,rfl⟩
 |k+1,n=>by
  by_cases h:n%10=0
  ·have⟨h1,h2⟩:=fr_pad k (n/10)
   rw[fr_zero k n h]
   refine⟨by omega,?_⟩
   rw[lo,h,←h2,show k+1-(fr k (n/10)).length=(k-(fr k (n/10)).length)+1 by omega,List.replicate_succ',List.append_assoc]
  ·rw[fr_lo (k+1) n (fun _=>h),lo_length]
   simp
theorem fr_dig (k n:Nat):∀b∈fr k n,digB b=true:=by
 intro b hb
 have h:=(fr_pad k n).2
 exact lo_dig k n b (by rw[←h];exact List.mem_append_left _ hb)
def bodyB (m:Nat):List UInt8:=tx (m/10^6)++(if fr 6 m=[] then [] else 46::fr 6 m)
def showN (n:Int):List UInt8:=(if n<0 then [45] else [])++bodyB n.natAbs
def showB:Nm→List UInt8
 | .nan=>[78,97,78]
 | .over=>[73,110,102,105,110,105,116,121]
 | .under=>[45,73,110,102,105,110,105,116,121]
 | .num n=>showN n
def allD (w f:List UInt8):List UInt8:=w++(f.take 6++List.replicate (6-(f.take 6).length) (chr 0))
def toldD (w f:List UInt8):Nm:=fitD (decL (allD w f):Int)
def litL (l:List UInt8):Option Nm:=
 let r1:=l.dropWhile digB
 let r2:=r1.dropWhile ptB
 if r2.dropWhile digB=[]∧(r1.takeWhile ptB).length≤1∧¬(l.takeWhile digB=[]∧r2.takeWhile digB=[]) then some (toldD (l.takeWhile digB) (r2.takeWhile digB)) else none
def trimL (l:List UInt8):List UInt8:=((l.dropWhile spB).reverse.dropWhile spB).reverse
def readU (u:List UInt8):Nm:=
 match u with
 |45::t=>((litL t).map negD).getD .nan
 |u=>(litL u).getD .nan
def readD (l:List UInt8):Nm:=readU (trimL l)
theorem dropWhile_none {p:UInt8→Bool}:∀(l:List UInt8),(∀b∈l,p b=false)→l.dropWhile p=l
 |[],_=>rfl
 |b::l,h=>by rw[List.dropWhile_cons,if_neg (by rw[h b (List.mem_cons_self ..)];simp)]
theorem trimL_none (l:List UInt8)(h:∀b∈l,spB b=false):trimL l=l:=by
 unfold trimL
 rw[dropWhile_none l h,dropWhile_none l.reverse (fun b hb=>h b (List.mem_reverse.1 hb)),List.reverse_reverse]
theorem takeWhile_app {p:UInt8→Bool}:∀(w r:List UInt8),(∀b∈w,p b=true)→(∀b r',r=b::r'→p b=false)→(w++r).takeWhile p=w∧(w++r).dropWhile p=r
 |[],r,_,h=>by
  match r,h with
  |[],_=>exact⟨rfl,rfl⟩
  |b::r,h=>simp[h b r rfl]
 |b::w,r,hw,h=>by
  have⟨h1,h2⟩:=takeWhile_app w r (fun x hx=>hw x (List.mem_cons_of_mem _ hx)) h
  have hb:=hw b (List.mem_cons_self ..)
  rw[List.cons_append,List.takeWhile_cons,List.dropWhile_cons,if_pos hb,if_pos hb,h1,h2]
  exact⟨rfl,rfl⟩
theorem digB_not_pt {b:UInt8}(h:digB b=true):ptB b=false:=by
 unfold digB at h
 unfold ptB
 rw[Bool.and_eq_true,decide_eq_true_iff,decide_eq_true_iff]at h
 rw[beq_eq_false_iff_ne]
 omega
theorem digB_not_sp {b:UInt8}(h:digB b=true):spB b=false:=by
 unfold digB at h
 unfold spB
 rw[Bool.and_eq_true,decide_eq_true_iff,decide_eq_true_iff]at h
 simp only[Bool.or_eq_false_iff,beq_eq_false_iff_ne]
 omega
theorem digB_ne {b:UInt8}(h:digB b=true):b≠45∧b≠46:=by
 constructor<;>rintro rfl<;>exact absurd h (by decide)
theorem litL_parts (w f:List UInt8)(hw:∀b∈w,digB b=true)(hf:∀b∈f,digB b=true)(hne:w≠[]):litL (w++(if f=[] then [] else 46::f))=some (toldD w f):=by
 by_cases h:f=[]
 ·subst h
  rw[if_pos rfl]
  have⟨h1,h2⟩:=takeWhile_app w [] hw (fun b r' e=>by cases e)
  unfold litL
  simp only[h1,h2]
  simp[hne]
 ·rw[if_neg h]
  have⟨h1,h2⟩:=takeWhile_app (p:=digB) w (46::f) hw (fun b r' e=>by cases e;decide)
  have⟨h3,h4⟩:=takeWhile_app (p:=ptB) [46] f (fun b hb=>by rw[List.mem_singleton.1 hb];decide) (fun b r' e=>digB_not_pt (hf b (by rw[e];exact List.mem_cons_self ..)))
  have⟨h5,h6⟩:=takeWhile_app (p:=digB) f [] hf (fun b r' e=>by cases e)
  rw[List.append_nil]at h5 h6
  unfold litL
  simp only[h1,h2]
  rw[show(46::f:List UInt8)=[46]++f from rfl]
  simp only[h3,h4,h5,h6]
  simp[hne]
theorem told_body (m:Nat):toldD (tx (m/10^6)) (fr 6 m)=fitD (m:Int):=by
 have⟨h1,h2⟩:=fr_pad 6 m
 unfold toldD allD
 rw[List.take_of_length_le h1,h2,decL_lo,decL_tx,Nat.mul_comm,Nat.div_add_mod]
theorem lit_body (m:Nat):litL (bodyB m)=some (fitD (m:Int)):=by
 unfold bodyB
 rw[litL_parts _ _ (tx_dig _) (fr_dig _ _) (tx_ne _),told_body]
theorem body_sp (m:Nat):∀b∈bodyB m,spB b=false:=by
 unfold bodyB
 intro b hb
 rcases List.mem_append.1 hb with h|h
 ·exact digB_not_sp (tx_dig _ b h)
 ·by_cases hf:fr 6 m=[]
  ·rw[if_pos hf]at h;cases h
  ·rw[if_neg hf]at h
   rcases List.mem_cons.1 h with rfl|h
   ·decide
   ·exact digB_not_sp (fr_dig _ _ b h)
theorem read_body (m:Nat):readU (bodyB m)=fitD (m:Int):=by
 have h:=lit_body m
 have hd:∃b t,bodyB m=b::t∧digB b=true:=by
  have hx:=tx_ne (m/10^6)
  match ht:tx (m/10^6),hx with
  |b::t,_=>exact⟨b,_,by unfold bodyB;rw[ht];rfl,tx_dig _ b (by rw[ht];exact List.mem_cons_self ..)⟩
 obtain⟨b,t,hb,hdb⟩:=hd
 have hne:=(digB_ne hdb).1
 rw[hb]at h ⊢
 unfold readU
 split
 ·rename_i t' he
  injection he with h1 h2
  exact absurd h1 hne
 ·rw[h];rfl
theorem read_show:∀x:Nm,okD x→readD (showB x)=match x with | .num n=> .num n|_=> .nan
 | .nan,_=>by rfl
 | .over,_=>by rfl
 | .under,_=>by rfl
 | .num n,h=>by
   have hb: -9223372036854775807≤n∧n≤9223372036854775807:=h
   show readD (showN n)= .num n
   unfold readD showN
   by_cases hn:n<0
   ·rw[if_pos hn,trimL_none]
    ·show((litL (bodyB n.natAbs)).map negD).getD .nan=_
     rw[lit_body,fitD_in _ (by omega)]
     show Nm.num (-((n.natAbs:Nat):Int))=_
     congr 1
     omega
    ·intro b hb
     rcases List.mem_cons.1 hb with rfl|hb
     ·decide
     ·exact body_sp _ b hb
   ·rw[if_neg hn,List.nil_append,trimL_none _ (body_sp _),read_body,fitD_in _ (by omega)]
    congr 1
    omega
end Fig
end Go.Proofs.YtlmpkpjjakallaaGreatDoor
