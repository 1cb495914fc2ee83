import Derived.Test.YtlmpkpjjakallaaGreatDoorPk27
import Derived.Test.YtlmpkpjjakallaaGreatDoorPk04
namespace Go.Proofs.YtlmpkpjjakallaaGreatDoor
namespace Char
open Go.Lib Go.RowKit
open Go.Proofs.YtlmpkpjjakallaaGreatDoor.Fig (Nm litL digB)
inductive Form (e:Bool)(x:Nat):Wd→List UInt8→Prop
 |lit (q:UInt8) (s:List UInt8) (hq:q=34∨q=39) (hs:∀b∈s,b≠q):Form e x ⟨8,s,.num 0⟩ (q::(s++[q]))
 |num (u:List UInt8) (v:Int) (h:litL u=some (.num v)) (hz:sizN u=u.length):Form e x ⟨9,u,.num v⟩ u
 |mark (u:List UInt8) (h:u∈marksL):Form e x ⟨1,u,.num 0⟩ u
 |op (u:List UInt8) (h:u∈opsL):Form e x ⟨5,u,.num 0⟩ u
 |star:Form e x ⟨starK e,[42],.num 0⟩ [42]
 |var (n:List UInt8) (h:nmD (bs n)=true):Form e x ⟨10,n,.num 0⟩ (36::n)
 |name (n:List UInt8) (h:nmD (bs n)=true) (hj:(!e||joinsL.contains n)=true):Form e x ⟨kindN e n x,n,.num 0⟩ n
theorem dgs_take (l:List UInt8):l.take (dgs l)=l.takeWhile digB:=by
 have h:=List.takeWhile_append_dropWhile (p:=digB) (l:=l)
 have h2:=List.take_left (l₁:=l.takeWhile digB) (l₂:=l.dropWhile digB)
 rwa [h]at h2
theorem take_add (A B:List UInt8)(m:Nat):(A++B).take (A.length+m)=A++B.take m:=by
 rw[List.take_append,List.take_of_length_le (by omega),Nat.add_sub_cancel_left]
theorem drop_add (A B:List UInt8)(m:Nat):(A++B).drop (A.length+m)=B.drop m:=by
 rw[List.drop_append,List.drop_eq_nil_of_le (by omega),Nat.add_sub_cancel_left,List.nil_append]
theorem dw_head {p:UInt8→Bool}:∀{l:List UInt8} {c:UInt8} {r:List UInt8},l.dropWhile p=c::r→p c=false
 |[],_,_,h=>by cases h
 |x::l,c,r,h=>by
  rw[List.dropWhile_cons]at h
  split at h
  ·exact dw_head h
  ·rename_i hx
   cases h
   simpa using hx
theorem dgs_self {w r:List UInt8}(hw:∀b∈w,digB b=true)(hr:r=[]∨∃b t,r=b::t∧digB b=false):dgs (w++r)=w.length:=by
 unfold dgs
 rw[tw_app hr,tw_yes hw]
theorem tw_mem {p:UInt8→Bool}:∀{l:List UInt8} {b:UInt8},b∈l.takeWhile p→p b=true
 |[],_,h=>by cases h
 |x::l,b,h=>by
  rw[List.takeWhile_cons]at h
  split at h
  ·rename_i hx
   rcases List.mem_cons.1 h with rfl|h
   ·exact hx
   ·exact tw_mem h
  ·cases h
theorem siz_take (l:List UInt8):sizN (l.take (sizN l))=(l.take (sizN l)).length:=by
 have hle:=siz_le l
 rw[List.length_take,Nat.min_eq_left hle]
 have hd:=dgs_le l
 have hw:∀b∈l.take (dgs l),digB b=true:=fun b hb=>by rw[dgs_take]at hb;exact tw_mem hb
 have hwl:(l.take (dgs l)).length=dgs l:=by rw[List.length_take];omega
 have hc:=List.take_append_drop (dgs l) l
 unfold sizN
 cases hp:([46]:List UInt8).isPrefixOf (l.drop (dgs l)) with
 |false=>
  simp only[Bool.false_eq_true,if_false,Nat.add_zero]
  have h1:dgs (l.take (dgs l))=dgs l:=by
   have :=dgs_self (r:=[]) hw (.inl rfl)
   rw[List.append_nil,hwl]at this
   exact this
  rw[h1,List.drop_eq_nil_of_le (by omega)]
  rfl
 |true=>
  simp only[if_true]
  obtain⟨t,ht⟩:=List.isPrefixOf_iff_prefix.1 hp
  have htl:(l.drop (dgs l+1))=t:=by
   rw[←List.drop_drop,←ht]
   rfl
  rw[htl]
  have hft:=dgs_take t
  have hfl:(t.take (dgs t)).length=dgs t:=by have :=dgs_le t;rw[List.length_take];omega
  have hu:l.take (dgs l+(1+dgs t))=l.take (dgs l)++(46::t.take (dgs t)):=by
   have h5:l.take (dgs l)++(46::t)=l:=by
    rw[show(46::t:List UInt8)=[46]++t from rfl,ht,hc]
   have key:=take_add (l.take (dgs l)) (46::t) (dgs t+1)
   rw[h5,hwl]at key
   rw[show dgs l+(1+dgs t)=dgs l+(dgs t+1) by omega,key]
   rfl
  rw[hu]
  have h1:dgs (l.take (dgs l)++(46::t.take (dgs t)))=dgs l:=by
   rw[dgs_self hw (.inr ⟨46,_,rfl,by decide⟩),hwl]
  have hd0:=drop_add (l.take (dgs l)) (46::t.take (dgs t)) 0
  have hd1:=drop_add (l.take (dgs l)) (46::t.take (dgs t)) 1
  rw[hwl]at hd0 hd1
  rw[Nat.add_zero]at hd0
  rw[h1,hd0,hd1]
  have h2:([46]:List UInt8).isPrefixOf (List.drop 0 (46::t.take (dgs t)))=true:=rfl
  rw[h2,if_pos rfl]
  have h3:dgs (t.take (dgs t))=dgs t:=by
   have :=dgs_self (w:=t.take (dgs t)) (r:=[]) (fun b hb=>by rw[hft]at hb;exact tw_mem hb) (.inl rfl)
   rw[List.append_nil,hfl]at this
   exact this
  show dgs l+(1+dgs (t.take (dgs t)))=_
  rw[h3]
theorem wd_form {l:List UInt8}{e:Bool}{w:Wd}{k:Nat}(h:wdL l e=some (w,k)):Form e (nxL (l.drop k)) w (l.take k):=by
 unfold wdL at h
 cases h1:litW l with
 |some x=>
  rw[h1]at h
  cases h
  cases l with
  |nil=>cases h1
  |cons c t=>
   rw[litW_cons]at h1
   split at h1
   ·rename_i hc
    split at h1
    ·rename_i hlt
     cases h1
     have hs:∀b∈t.takeWhile (· != c),b≠c:=fun b hb=>by have :=tw_mem hb;simpa using this
     have hcut:t.take ((t.takeWhile (· != c)).length+1)=t.takeWhile (· != c)++[c]:=by
      have hp:=List.takeWhile_append_dropWhile (p:=(· != c)) (l:=t)
      obtain⟨y,r,hr⟩:∃y r,t.dropWhile (· != c)=y::r:=by
       cases hd:t.dropWhile (· != c) with
       |nil=>rw[hd,List.append_nil]at hp;rw[hp]at hlt;omega
       |cons y r=>exact⟨y,r,rfl⟩
      have hy:y=c:=by
       have :=dw_head hr
       simpa using this
      subst hy
      rw[hr]at hp
      have key:=take_add (t.takeWhile (· != y)) (y::r) 1
      rw[hp]at key
      exact key
     rw[List.take_succ_cons,hcut]
     exact .lit c _ hc hs
    ·cases h1
   ·cases h1
 |none=>
  rw[h1,orW_none]at h
  cases h2:numW l with
  |some x=>
   rw[h2]at h
   cases h
   obtain⟨v,q1,rfl,rfl⟩:=num_some h2
   exact .num _ v q1 (siz_take l)
  |none=>
   rw[h2,orW_none]at h
   have hpre:∀{p:List UInt8},p.isPrefixOf l=true→l.take p.length=p:=fun {p} hp=>by
    obtain⟨t,rfl⟩:=List.isPrefixOf_iff_prefix.1 hp
    rw[List.take_left']
    rfl
   cases h3:signW 1 marksL l with
   |some x=>
    rw[h3]at h
    cases h
    obtain⟨p,hp,rfl,rfl⟩:=sign_some h3
    rw[hpre (first_mem hp).2]
    exact .mark p (first_mem hp).1
   |none=>
    rw[h3,orW_none]at h
    cases h4:signW 5 opsL l with
    |some x=>
     rw[h4]at h
     cases h
     obtain⟨p,hp,rfl,rfl⟩:=sign_some h4
     rw[hpre (first_mem hp).2]
     exact .op p (first_mem hp).1
    |none=>
     rw[h4,orW_none]at h
     cases h5:signW (starK e) [[42]] l with
     |some x=>
      rw[h5]at h
      cases h
      obtain⟨p,hp,rfl,rfl⟩:=sign_some h5
      rw[hpre (first_mem hp).2]
      have hm:=(first_mem hp).1
      rw[List.mem_singleton]at hm
      subst hm
      exact .star
     |none=>
      rw[h5,orW_none]at h
      cases h6:varW l with
      |some x=>
       rw[h6]at h
       cases h
       unfold varW at h6
       split at h6
       ·rename_i hc
        cases h6
        rw[Bool.and_eq_true]at hc
        obtain⟨t,rfl⟩:=List.isPrefixOf_iff_prefix.1 hc.1
        have e1:(([36]++t:List UInt8)).drop 1=t:=rfl
        rw[e1]at hc ⊢
        have e2:([36]++t:List UInt8).take (1+runL t)=36::t.take (runL t):=by rw[Nat.add_comm];rfl
        rw[e2]
        exact .var _ hc.2
       ·cases h6
      |none=>
       rw[h6,orW_none]at h
       unfold nameW at h
       split at h
       ·rename_i hc
        cases h
        rw[Bool.and_eq_true]at hc
        exact .name _ hc.1 hc.2
       ·cases h
def textW (w:Wd):List UInt8:=if w.k=10 then 36::w.s else if w.k=8 then (if w.s.contains 34 then 39::(w.s++[39]) else 34::(w.s++[34])) else w.s
theorem kindN_ne (e:Bool)(n:List UInt8)(x:Nat):kindN e n x≠10∧kindN e n x≠8∧kindN e n x≠1:=by
 unfold kindN
 split
 ·decide
 ·split
  ·split<;>decide
  ·split<;>decide
theorem starK_ne (e:Bool):starK e≠10∧starK e≠8∧starK e≠1:=by cases e<;>decide
def ascL (l:List UInt8):Bool:=l.all fun b=>decide (b.toNat<128)&&isC (b.toNat:Int)
theorem asc_tx:∀{l:List UInt8},ascL l=true→txD l=true
 |[],_=>rfl
 |b::l,h=>by
  unfold ascL at h
  rw[List.all_cons,Bool.and_eq_true,Bool.and_eq_true,decide_eq_true_eq]at h
  rw[tx_ascii b l h.1.1,h.1.2,asc_tx h.2]
  rfl
theorem quote_tx {q:UInt8}(hq:q=34∨q=39){s:List UInt8}(h:txD s=true):txD (q::(s++[q]))=true:=by
 have hq2:q.toNat<128∧isC (q.toNat:Int)=true:=by rcases hq with rfl|rfl<;>decide
 rw[tx_ascii q _ hq2.1,hq2.2,tx_more s _ h,tx_ascii q _ hq2.1,hq2.2]
 rfl
theorem form_tx {e:Bool}{x:Nat}{w:Wd}{u:List UInt8}(h:Form e x w u){r:List UInt8}(ht:txD (u++r)=true):txD (textW w)=true:=by
 unfold textW
 cases h with
 |lit q s hq hs=>
  have hq2:q.toNat<128:=by rcases hq with rfl|rfl<;>decide
  have h1:txD (s++(q::r))=true:=by
   have e:q::(s++[q])++r=q::(s++(q::r)):=by simp
   rw[e,tx_ascii q _ hq2,Bool.and_eq_true]at ht
   exact ht.2
  rw[tx_split _ s _ (Nat.le_refl _) (by unfold asc0;rw[decide_eq_true_eq];exact hq2),Bool.and_eq_true]at h1
  rw[if_neg (show ¬(8:Nat)=10 by decide),if_pos rfl]
  split
  ·exact quote_tx (.inr rfl) h1.1
  ·exact quote_tx (.inl rfl) h1.1
 |num u v hv hz=>
  rw[if_neg (by decide:¬(9:Nat)=10),if_neg (by decide:¬(9:Nat)=8)]
  have hn:∀b∈u,digB b=true∨b=46:=by
   intro b hb
   have e1:=List.take_append_drop (dgs u) u
   rw[←e1]at hb
   rcases List.mem_append.1 hb with hb|hb
   ·rw[dgs_take]at hb
    exact .inl (tw_mem hb)
   ·unfold sizN at hz
    cases hp:([46]:List UInt8).isPrefixOf (u.drop (dgs u)) with
    |false=>
     rw[hp]at hz
     simp at hz
     rw[List.drop_eq_nil_of_le (by omega)]at hb
     cases hb
    |true=>
     rw[hp]at hz
     simp only[if_true]at hz
     obtain⟨t,ht⟩:=List.isPrefixOf_iff_prefix.1 hp
     have htl:u.drop (dgs u+1)=t:=by rw[←List.drop_drop,←ht];rfl
     have hl:=congrArg List.length ht
     rw[List.length_drop,List.length_append,List.length_singleton]at hl
     rw[htl]at hz
     rw[←ht]at hb
     rcases List.mem_append.1 hb with hb|hb
     ·rw[List.mem_singleton]at hb;exact .inr hb
     ·have h3:t.take (dgs t)=t:=List.take_of_length_le (by have :=dgs_le u;omega)
      rw[←h3,dgs_take]at hb
      exact .inl (tw_mem hb)
  refine asc_tx (List.all_eq_true.2 fun b hb=> ?_)
  have :∀n:Fin 256,(digB (UInt8.ofNat n.val)=true∨UInt8.ofNat n.val=46)→(decide ((UInt8.ofNat n.val).toNat<128)&&isC ((UInt8.ofNat n.val).toNat:Int))=true:=by decide+kernel
  have h2:=this ⟨b.toNat,UInt8.toNat_lt b⟩
  rw[UInt8.ofNat_toNat]at h2
  exact h2 (hn b hb)
 |mark u hu=>
  rw[if_neg (by decide:¬(1:Nat)=10),if_neg (by decide:¬(1:Nat)=8)]
  unfold marksL at hu
  simp only[List.mem_cons,List.not_mem_nil,or_false]at hu
  rcases hu with rfl|rfl|rfl|rfl|rfl|rfl|rfl|rfl|rfl<;>exact asc_tx (by decide)
 |op u hu=>
  rw[if_neg (by decide:¬(5:Nat)=10),if_neg (by decide:¬(5:Nat)=8)]
  unfold opsL at hu
  simp only[List.mem_cons,List.not_mem_nil,or_false]at hu
  rcases hu with rfl|rfl|rfl|rfl|rfl|rfl|rfl|rfl|rfl|rfl|rfl<;>exact asc_tx (by decide)
 |star=>rw[if_neg (starK_ne e).1,if_neg (starK_ne e).2.1];exact asc_tx (l:=[42]) (by decide)
 |var n hn=>
  rw[if_pos rfl,tx_ascii 36 n (by decide)]
  unfold nmD at hn
  simp only[Bool.and_eq_true,bs_list]at hn
  rw[hn.1.2]
  decide
 |name u hn hj=>
  rw[if_neg (kindN_ne e u x).1,if_neg (kindN_ne e u x).2.1]
  unfold nmD at hn
  simp only[Bool.and_eq_true,bs_list]at hn
  exact hn.1.2
theorem take_app {l:List UInt8}(k:Nat):l.take k++l.drop k=l:=List.take_append_drop k l
theorem tx_dropS {l:List UInt8}(h:txD l=true):txD (dropS l)=true:=by
 have :∀(g y:List UInt8),(∀b∈g,spC (b.toNat:Int)=true)→txD (g++y)=txD y:=gap_tx
 have e:=List.takeWhile_append_dropWhile (p:=fun b:UInt8=>spC (b.toNat:Int)) (l:=l)
 rw[←e,gap_tx _ _ fun b hb=>tw_mem (p:=fun b:UInt8=>spC (b.toNat:Int)) hb]at h
 rw[dropS_tw]
 exact h
theorem form_rest {e:Bool}{x:Nat}{w:Wd}{u:List UInt8}(h:Form e x w u):∀{r:List UInt8},txD (u++r)=true→txD r=true:=by
 intro r ht
 cases h with
 |lit q s hq hs=>
  have hq2:q.toNat<128:=by rcases hq with rfl|rfl<;>decide
  have e:q::(s++[q])++r=q::(s++(q::r)):=by simp
  rw[e,tx_ascii q _ hq2,Bool.and_eq_true,tx_split _ s _ (Nat.le_refl _) (by unfold asc0;rw[decide_eq_true_eq];exact hq2),Bool.and_eq_true,tx_ascii q _ hq2,Bool.and_eq_true]at ht
  exact ht.2.2.2
 |num u v hv hz=>
  have h:=form_tx (e:=e) (x:=x) (.num u v hv hz) ht
  unfold textW at h
  rw[if_neg (by decide:¬(9:Nat)=10),if_neg (by decide:¬(9:Nat)=8)]at h
  rwa [tx_more u r h]at ht
 |mark u hu=>
  have h:=form_tx (e:=e) (x:=x) (.mark u hu) ht
  unfold textW at h
  rw[if_neg (by decide:¬(1:Nat)=10),if_neg (by decide:¬(1:Nat)=8)]at h
  rwa [tx_more u r h]at ht
 |op u hu=>
  have h:=form_tx (e:=e) (x:=x) (.op u hu) ht
  unfold textW at h
  rw[if_neg (by decide:¬(5:Nat)=10),if_neg (by decide:¬(5:Nat)=8)]at h
  rwa [tx_more u r h]at ht
 |star=>rwa [tx_more [42] r (asc_tx (by decide))]at ht
 |var n hn=>
  have h:=form_tx (e:=e) (x:=x) (.var n hn) ht
  unfold textW at h
  rw[if_pos rfl]at h
  rwa [tx_more _ r h]at ht
 |name u hn hj=>
  have h:=form_tx (e:=e) (x:=x) (.name u hn hj) ht
  unfold textW at h
  rw[if_neg (kindN_ne e u x).1,if_neg (kindN_ne e u x).2.1]at h
  rwa [tx_more _ r h]at ht
end Char
namespace Char
open Go.RowKit Go.Lib
theorem beq_dec {α:Type}[DecidableEq α](a b:α):(a==b)=decide (a=b):=by rw[Bool.eq_iff_iff,beq_iff_eq,decide_eq_true_iff]
theorem beq_list (a b:List UInt8):(a==b)=decide (a=b):=by rw[Bool.eq_iff_iff,beq_iff_eq,decide_eq_true_iff]
theorem eq_bs (a b:List UInt8)(v:Bool)(h:decide (a=b)=v):((bs a).toList==b)=v:=by
 rw[bs_tl,←h,Bool.eq_iff_iff,beq_iff_eq,decide_eq_true_eq]
set_option maxHeartbeats 1000000 in
theorem joins_any (n:List UInt8)(w:World):Calls Tryz.prog 151 #[.string (bs n)] w fun e w'=>e= .returned (.bool (joinsL.contains n))∧w'=w:=by
 have h:joinsL.contains n=(decide (n=[97,110,100])||(decide (n=[111,114])||(decide (n=[109,111,100])||decide (n=[100,105,118])))):=by
  unfold joinsL
  simp only[List.contains_cons,List.contains_nil,Bool.or_false,beq_list]
 rw[h]
 cases h1:decide (n=[97,110,100])<;>cases h2:decide (n=[111,114])<;>cases h3:decide (n=[109,111,100])<;>cases h4:decide (n=[100,105,118])<;>
 ·have e1:=eq_bs _ _ _ h1
  have e2:=eq_bs _ _ _ h2
  have e3:=eq_bs _ _ _ h3
  have e4:=eq_bs _ _ _ h4
  clear h h1 h2 h3 h4
  generalize bs n=s at *
  go_enter Tryz.func151,Tryz.ntmps151
  go_wp2_with fail
  go_ret
  exact⟨rfl,rfl⟩
set_option maxHeartbeats 1000000 in
theorem kindOf_any (n:List UInt8)(w:World):Calls Tryz.prog 153 #[.string (bs n)] w fun e w'=>e= .returned (.bool (typesL.contains n))∧w'=w:=by
 have h:typesL.contains n=(decide (n=[99,111,109,109,101,110,116])||(decide (n=[116,101,120,116])||(decide (n=[112,114,111,99,101,115,115,105,110,103,45,105,110,115,116,114,117,99,116,105,111,110])||decide (n=[110,111,100,101])))):=by
  unfold typesL
  simp only[List.contains_cons,List.contains_nil,Bool.or_false,beq_list]
 rw[h]
 cases h1:decide (n=[99,111,109,109,101,110,116])<;>cases h2:decide (n=[116,101,120,116])<;>cases h3:decide (n=[112,114,111,99,101,115,115,105,110,103,45,105,110,115,116,114,117,99,116,105,111,110])<;>cases h4:decide (n=[110,111,100,101])<;>
 ·have e1:=eq_bs _ _ _ h1
  have e2:=eq_bs _ _ _ h2
  have e3:=eq_bs _ _ _ h3
  have e4:=eq_bs _ _ _ h4
  clear h h1 h2 h3 h4
  generalize bs n=s at *
  go_enter Tryz.func153,Tryz.ntmps153
  go_wp2_with fail
  go_ret
  exact⟨rfl,rfl⟩
set_option maxHeartbeats 4000000 in
theorem ends_any (x:Wd)(w:World):Calls Tryz.prog 114 #[wdV x] w fun e w'=>e= .returned (.bool (endW x))∧Below w.heap.size w w':=by
 obtain⟨k,s,n⟩:=x
 have h:endW ⟨k,s,n⟩=(!decide (k=5)&& !(decide (k=1)&&(decide (s=[64])||(decide (s=[58,58])||(decide (s=[40])||(decide (s=[91])||decide (s=[44]))))))):=by
  unfold endW openL
  simp only[List.contains_cons,List.contains_nil,Bool.or_false,bne,beq_dec,beq_list]
 rw[h]
 clear h
 have hb:=below_box (w:=w) (.cells #[.int .i64 (k:Int),.string (bs s),.int .i64 (Fig.outT n),.int .i64 (Fig.outV n)] 89)
 have HB:=Lib.hid hb
 unfold wdV
 dsimp only
 by_cases h1:k=1
 ·subst h1
  rw[decide_eq_false (by decide:¬(1:Nat)=5),decide_eq_true rfl,Bool.not_false,Bool.true_and,Bool.true_and]
  cases e1:decide (s=[64])<;>cases e2:decide (s=[58,58])<;>cases e3:decide (s=[40])<;>cases e4:decide (s=[91])<;>cases e5:decide (s=[44])<;>
  ·have f1:=eq_bs _ _ _ e1
   have f2:=eq_bs _ _ _ e2
   have f3:=eq_bs _ _ _ e3
   have f4:=eq_bs _ _ _ e4
   have f5:=eq_bs _ _ _ e5
   clear e1 e2 e3 e4 e5 hb
   generalize bs s=u at *
   go_enter Tryz.func114,Tryz.ntmps114
   go_wp2_with fail
   go_ret
   exact⟨rfl,HB.out⟩
 ·have k1:(((k:Nat):Int)==1)=false:=by rw[beq_eq_false_iff_ne];omega
  rw[decide_eq_false h1,Bool.false_and,Bool.not_false,Bool.and_true]
  by_cases h5:k=5
  ·have k5:(((k:Nat):Int) != 5)=false:=by rw[h5];rfl
   rw[decide_eq_true h5]
   clear h1 h5 hb
   go_enter Tryz.func114,Tryz.ntmps114
   go_wp2_with fail
   go_ret
   exact⟨rfl,HB.out⟩
  ·have k5:(((k:Nat):Int) != 5)=true:=by rw[bne_iff_ne];omega
   rw[decide_eq_false h5]
   clear h1 h5 hb
   go_enter Tryz.func114,Tryz.ntmps114
   go_wp2_with fail
   go_ret
   exact⟨rfl,HB.out⟩
theorem first_step {ss:List (List UInt8)}{l:List UInt8}{k:Nat}(hk:k<ss.length):firstP (ss.drop k) l=if ss[k].isPrefixOf l then some ss[k] else firstP (ss.drop (k+1)) l:=by
 unfold firstP
 rw[List.drop_eq_getElem_cons hk,List.find?_cons]
 split<;>rename_i h<;>simp[h]
set_option maxHeartbeats 4000000 in
theorem oneOf_any (ss:List (List UInt8))(l:List UInt8)(kd:Nat)(g:Nat)(w:World)(hg:g<w.heap.size)(hc:∀i (h:i<ss.length),w.cell? ⟨g,i,none⟩=some (.string (bs ss[i])))(hl:ss.length≤100):
 Calls Tryz.prog 149 #[.slice (some ⟨g,0,none⟩) ss.length ss.length,.string (bs l),.int .i64 (kd:Int)] w (WdPost w (signW kd ss l)):=by
 obtain⟨R,hR⟩:∃R,firstP ss l=R:=⟨_,rfl⟩
 have hS:signW kd ss l=R.map fun p=>(⟨kd,p,.num 0⟩,p.length):=by unfold signW;rw[hR]
 obtain⟨W1,hW1⟩:∃W1,W1=w.alloc (.cells #[.int .i64 0,.string ⟨#[]⟩,.int .i64 0,.int .i64 0] 89):=⟨_,rfl⟩
 have hb1:Below w.heap.size w W1:=by rw[hW1];exact below_box _
 have hk1:W1.heap[w.heap.size]? =some (wdB wd0):=by rw[hW1];exact World.alloc_heap_new w _
 have hcc:∀i (h:i<ss.length),W1.cell? ⟨g,i,none⟩=some (.string (bs ss[i])):=fun i h=>(hb1.cell (p:=⟨g,i,none⟩) hg).trans (hc i h)
 have HC:=Lib.hid hcc
 have HB1:=Lib.hid hb1
 have HK1:=Lib.hid hk1
 have HS:=Lib.hid hS
 have HR:=Lib.hid hR
 obtain⟨⟨d0,d1,d2,d3⟩,df⟩:=wd_blk hk1
 have f0:=df 0
 have f1:=df 1
 have f2:=df 2
 have f3:=df 3
 dsimp only[wd0]at d0 d1 d2 d3
 have HW1:=Lib.hid hW1
 clear hc hcc hb1 hk1 hS hR hW1 df
 go_enter Tryz.func149,Tryz.ntmps149
 go_upto_region 1 with fail
 rw[←HW1.out]
 clear HW1
 go_wp2_with fail
 go_loopw [12] (fun v wr=>∃k:Nat,v= .int .i64 (k:Int)∧k≤ss.length∧wr=W1∧Hid (firstP (ss.drop k) l=R)) (fun v _=>ss.length-(RowKit.intOf v).toNat)
 case atStart=>exact⟨0,rfl,Nat.zero_le _,rfl,HR⟩
 case round=>
  obtain⟨k,rfl,hk,hwr,HF⟩:=hrel
  have hwr:=hwr.symm
  subst hwr
  by_cases hlt:k<ss.length
  ·have hst:=first_step (l:=l) hlt
   have hcell:=HC.out k hlt
   have hpl:=bs_size ss[k]
   obtain⟨p,hp⟩:∃p,ss[k]=p:=⟨_,rfl⟩
   rw[hp]at hst hcell hpl
   have hh:=hasp_any l p W1
   have k1:decide ((k:Int)<(ss.length:Int))=true:=decide_eq_true (by omega)
   have hz0:(0:Int)≤(k:Int):=by omega
   have hz1:(k:Int)<(ss.length:Int):=by omega
   have HLT:=Lib.hid hlt
   rw[HF.out]at hst
   cases hpre:p.isPrefixOf l with
   |true=>
    rw[hpre]at hh hst
    simp only[if_true]at hst
    have HH:=Lib.hid hh
    have HST:=Lib.hid hst
    clear hh hst hp hlt hk HF hpre
    go_wp2_with (first
     |(go_at_call 152
       refine HH.out.mono ?_
       rintro e w2 ⟨rfl,hw⟩
       have hw:=hw.symm
       subst hw))
    exact end_word Tryz.results149 w W1 _ (x:=⟨kd,p,.num 0⟩) HK1.out HB1.out (by rw[HS.out,HST.out];rfl) (by rw[HS.out,HST.out];rfl) rfl rfl rfl
   |false=>
    rw[hpre]at hh hst
    simp only[Bool.false_eq_true,if_false]at hst
    have HH:=Lib.hid hh
    have HST:=Lib.hid hst.symm
    clear hh hst hp hlt hk HF hpre
    go_wp2_with (first
     |(go_at_call 152
       refine HH.out.mono ?_
       rintro e w2 ⟨rfl,hw⟩
       have hw:=hw.symm
       subst hw))
    exact⟨⟨k+1,by go_num,by have :=HLT.out;omega,by trivial,HST⟩,by have :=HLT.out;simp[RowKit.intOf];omega⟩
  ·have hR0:R=none:=by rw[←HF.out,List.drop_eq_nil_of_le (by omega)];rfl
   have k1:decide ((k:Int)<(ss.length:Int))=false:=decide_eq_false (by omega)
   have k2:decide (k<ss.length)=false:=decide_eq_false hlt
   have HR0:=Lib.hid hR0
   clear hR0 hlt hk HF
   go_wp2_with fail
   exact end_word Tryz.results149 w W1 _ (x:=wd0) HK1.out HB1.out (by rw[HS.out,HR0.out];rfl) (by rw[HS.out,HR0.out];rfl) rfl rfl rfl
end Char
namespace Char
open Go.RowKit Go.Lib
theorem marks_at {W:World}{g:Nat}(h:W.heap[g]? =some (.cells #[.string ⟨#[46,46]⟩,.string ⟨#[58,58]⟩,.string ⟨#[40]⟩,.string ⟨#[41]⟩,.string ⟨#[91]⟩,.string ⟨#[93]⟩,.string ⟨#[46]⟩,.string ⟨#[64]⟩,.string ⟨#[44]⟩] 166 (0,0))):
 ∀i (hi:i<marksL.length),W.cell? ⟨g,i,none⟩=some (.string (bs marksL[i])):=by
 intro i hi
 have :i=0∨i=1∨i=2∨i=3∨i=4∨i=5∨i=6∨i=7∨i=8:=by
  have :marksL.length=9:=rfl
  omega
 rcases this with rfl|rfl|rfl|rfl|rfl|rfl|rfl|rfl|rfl<;>(simp[World.cell?,h];rfl)
theorem ops_at {W:World}{g:Nat}(h:W.heap[g]? =some (.cells #[.string ⟨#[47,47]⟩,.string ⟨#[33,61]⟩,.string ⟨#[60,61]⟩,.string ⟨#[62,61]⟩,.string ⟨#[47]⟩,.string ⟨#[124]⟩,.string ⟨#[43]⟩,.string ⟨#[45]⟩,.string ⟨#[61]⟩,.string ⟨#[60]⟩,.string ⟨#[62]⟩] 168 (0,0))):
 ∀i (hi:i<opsL.length),W.cell? ⟨g,i,none⟩=some (.string (bs opsL[i])):=by
 intro i hi
 have :i=0∨i=1∨i=2∨i=3∨i=4∨i=5∨i=6∨i=7∨i=8∨i=9∨i=10:=by
  have :opsL.length=11:=rfl
  omega
 rcases this with rfl|rfl|rfl|rfl|rfl|rfl|rfl|rfl|rfl|rfl|rfl<;>(simp[World.cell?,h];rfl)
theorem star_at {W:World}{g:Nat}(h:W.heap[g]? =some (.cells #[.string ⟨#[42]⟩] 9 (0,0))):∀i (hi:i<([[42]]:List (List UInt8)).length),W.cell? ⟨g,i,none⟩=some (.string (bs ([[42]]:List (List UInt8))[i])):=by
 intro i hi
 obtain rfl:i=0:=by simpa using hi
 simp[World.cell?,h]
 rfl
set_option maxHeartbeats 4000000 in
theorem mark_any (l:List UInt8)(w:World):Calls Tryz.prog 105 #[.string (bs l)] w (WdPost w (signW 1 marksL l)):=by
 obtain⟨W2,hW2⟩:∃W2,W2=(w.alloc (.cells #[.int .i64 0,.string ⟨#[]⟩,.int .i64 0,.int .i64 0] 89)).alloc (.cells #[.string ⟨#[46,46]⟩,.string ⟨#[58,58]⟩,.string ⟨#[40]⟩,.string ⟨#[41]⟩,.string ⟨#[91]⟩,.string ⟨#[93]⟩,.string ⟨#[46]⟩,.string ⟨#[64]⟩,.string ⟨#[44]⟩] 166):=⟨_,rfl⟩
 have hb2:Below w.heap.size w W2:=by rw[hW2];exact((Below.refl _ _).alloc (Nat.le_refl _) _).alloc (by simp) _
 have hk2:W2.heap[w.heap.size]? =some (wdB wd0):=by
  rw[hW2,Below.heap_alloc _ _ _ (by simp)]
  exact World.alloc_heap_new w _
 have hr2:W2.heap[w.heap.size+1]? =some (.cells #[.string ⟨#[46,46]⟩,.string ⟨#[58,58]⟩,.string ⟨#[40]⟩,.string ⟨#[41]⟩,.string ⟨#[91]⟩,.string ⟨#[93]⟩,.string ⟨#[46]⟩,.string ⟨#[64]⟩,.string ⟨#[44]⟩] 166 (0,0)):=by
  rw[hW2]
  have :=World.alloc_heap_new (w.alloc (.cells #[.int .i64 0,.string ⟨#[]⟩,.int .i64 0,.int .i64 0] 89)) (.cells #[.string ⟨#[46,46]⟩,.string ⟨#[58,58]⟩,.string ⟨#[40]⟩,.string ⟨#[41]⟩,.string ⟨#[91]⟩,.string ⟨#[93]⟩,.string ⟨#[46]⟩,.string ⟨#[64]⟩,.string ⟨#[44]⟩] 166)
  simpa using this
 have hl2:w.heap.size+1<W2.heap.size:=(Array.getElem?_eq_some_iff.1 hr2).1
 have hC:=oneOf_any marksL l 1 (w.heap.size+1) W2 hl2 (marks_at hr2) (by decide)
 obtain⟨P,hP⟩:∃P,signW 1 marksL l=P:=⟨_,rfl⟩
 rw[hP]at hC ⊢
 unfold WdPost at hC
 obtain⟨X,hX⟩:∃X,(P.getD (wd0,0)).1=X:=⟨_,rfl⟩
 obtain⟨n,hn⟩:∃n,(P.getD (wd0,0)).2=n:=⟨_,rfl⟩
 rw[hX,hn]at hC
 unfold wdV at hC
 have HC:=Lib.hid hC
 have HX:=Lib.hid hX
 have HN:=Lib.hid hn
 have HB2:=Lib.hid hb2
 have HK2:=Lib.hid hk2
 have HL2:=Lib.hid hl2
 have HW2:=Lib.hid hW2
 clear hC hP hX hn hb2 hk2 hr2 hl2 hW2
 go_enter Tryz.func105,Tryz.ntmps105
 go_wp2_with (first
  |(go_at_call 149
    rw[←HW2.out]
    refine HC.out.mono ?_
    rintro e w3 ⟨rfl,hb3⟩
    have hk3:w3.heap[w.heap.size]? =some (wdB wd0):=(hb3.block _ (by have :=HL2.out;omega)).trans HK2.out
    obtain⟨⟨d0,d1,d2,d3⟩,df⟩:=wd_blk hk3
    have f0:=df 0
    have f1:=df 1
    have f2:=df 2
    have f3:=df 3
    have HK3:=Lib.hid hk3
    have HB3:=Lib.hid (HB2.out.trans (hb3.mono HB2.out.size))
    clear hb3 hk3 df HC HW2))
 exact end_word Tryz.results105 w w3 _ (x:=X) HK3.out HB3.out HX.out (by rw[HN.out]) rfl rfl rfl
set_option maxHeartbeats 4000000 in
theorem operator_any (l:List UInt8)(w:World):Calls Tryz.prog 107 #[.string (bs l)] w (WdPost w (signW 5 opsL l)):=by
 obtain⟨W2,hW2⟩:∃W2,W2=(w.alloc (.cells #[.int .i64 0,.string ⟨#[]⟩,.int .i64 0,.int .i64 0] 89)).alloc (.cells #[.string ⟨#[47,47]⟩,.string ⟨#[33,61]⟩,.string ⟨#[60,61]⟩,.string ⟨#[62,61]⟩,.string ⟨#[47]⟩,.string ⟨#[124]⟩,.string ⟨#[43]⟩,.string ⟨#[45]⟩,.string ⟨#[61]⟩,.string ⟨#[60]⟩,.string ⟨#[62]⟩] 168):=⟨_,rfl⟩
 have hb2:Below w.heap.size w W2:=by rw[hW2];exact((Below.refl _ _).alloc (Nat.le_refl _) _).alloc (by simp) _
 have hk2:W2.heap[w.heap.size]? =some (wdB wd0):=by
  rw[hW2,Below.heap_alloc _ _ _ (by simp)]
  exact World.alloc_heap_new w _
 have hr2:W2.heap[w.heap.size+1]? =some (.cells #[.string ⟨#[47,47]⟩,.string ⟨#[33,61]⟩,.string ⟨#[60,61]⟩,.string ⟨#[62,61]⟩,.string ⟨#[47]⟩,.string ⟨#[124]⟩,.string ⟨#[43]⟩,.string ⟨#[45]⟩,.string ⟨#[61]⟩,.string ⟨#[60]⟩,.string ⟨#[62]⟩] 168 (0,0)):=by
  rw[hW2]
  have :=World.alloc_heap_new (w.alloc (.cells #[.int .i64 0,.string ⟨#[]⟩,.int .i64 0,.int .i64 0] 89)) (.cells #[.string ⟨#[47,47]⟩,.string ⟨#[33,61]⟩,.string ⟨#[60,61]⟩,.string ⟨#[62,61]⟩,.string ⟨#[47]⟩,.string ⟨#[124]⟩,.string ⟨#[43]⟩,.string ⟨#[45]⟩,.string ⟨#[61]⟩,.string ⟨#[60]⟩,.string ⟨#[62]⟩] 168)
  simpa using this
 have hl2:w.heap.size+1<W2.heap.size:=(Array.getElem?_eq_some_iff.1 hr2).1
 have hC:=oneOf_any opsL l 5 (w.heap.size+1) W2 hl2 (ops_at hr2) (by decide)
 obtain⟨P,hP⟩:∃P,signW 5 opsL l=P:=⟨_,rfl⟩
 rw[hP]at hC ⊢
 unfold WdPost at hC
 obtain⟨X,hX⟩:∃X,(P.getD (wd0,0)).1=X:=⟨_,rfl⟩
 obtain⟨n,hn⟩:∃n,(P.getD (wd0,0)).2=n:=⟨_,rfl⟩
 rw[hX,hn]at hC
 unfold wdV at hC
 have HC:=Lib.hid hC
 have HX:=Lib.hid hX
 have HN:=Lib.hid hn
 have HB2:=Lib.hid hb2
 have HK2:=Lib.hid hk2
 have HL2:=Lib.hid hl2
 have HW2:=Lib.hid hW2
 clear hC hP hX hn hb2 hk2 hr2 hl2 hW2
 go_enter Tryz.func107,Tryz.ntmps107
 go_wp2_with (first
  |(go_at_call 149
    rw[←HW2.out]
    refine HC.out.mono ?_
    rintro e w3 ⟨rfl,hb3⟩
    have hk3:w3.heap[w.heap.size]? =some (wdB wd0):=(hb3.block _ (by have :=HL2.out;omega)).trans HK2.out
    obtain⟨⟨d0,d1,d2,d3⟩,df⟩:=wd_blk hk3
    have f0:=df 0
    have f1:=df 1
    have f2:=df 2
    have f3:=df 3
    have HK3:=Lib.hid hk3
    have HB3:=Lib.hid (HB2.out.trans (hb3.mono HB2.out.size))
    clear hb3 hk3 df HC HW2))
 exact end_word Tryz.results107 w w3 _ (x:=X) HK3.out HB3.out HX.out (by rw[HN.out]) rfl rfl rfl
set_option maxHeartbeats 4000000 in
theorem star_any (l:List UInt8)(e:Bool)(w:World):Calls Tryz.prog 109 #[.string (bs l),.bool e] w (WdPost w (signW (starK e) [[42]] l)):=by
 obtain⟨W2,hW2⟩:∃W2,W2=(w.alloc (.cells #[.int .i64 0,.string ⟨#[]⟩,.int .i64 0,.int .i64 0] 89)).alloc (.cells #[.string ⟨#[42]⟩] 9):=⟨_,rfl⟩
 have hb2:Below w.heap.size w W2:=by rw[hW2];exact((Below.refl _ _).alloc (Nat.le_refl _) _).alloc (by simp) _
 have hk2:W2.heap[w.heap.size]? =some (wdB wd0):=by
  rw[hW2,Below.heap_alloc _ _ _ (by simp)]
  exact World.alloc_heap_new w _
 have hr2:W2.heap[w.heap.size+1]? =some (.cells #[.string ⟨#[42]⟩] 9 (0,0)):=by
  rw[hW2]
  have :=World.alloc_heap_new (w.alloc (.cells #[.int .i64 0,.string ⟨#[]⟩,.int .i64 0,.int .i64 0] 89)) (.cells #[.string ⟨#[42]⟩] 9)
  simpa using this
 have hl2:w.heap.size+1<W2.heap.size:=(Array.getElem?_eq_some_iff.1 hr2).1
 have hC:=oneOf_any [[42]] l (starK e) (w.heap.size+1) W2 hl2 (star_at hr2) (by decide)
 obtain⟨P,hP⟩:∃P,signW (starK e) [[42]] l=P:=⟨_,rfl⟩
 rw[hP]at hC ⊢
 unfold WdPost at hC
 obtain⟨X,hX⟩:∃X,(P.getD (wd0,0)).1=X:=⟨_,rfl⟩
 obtain⟨n,hn⟩:∃n,(P.getD (wd0,0)).2=n:=⟨_,rfl⟩
 rw[hX,hn]at hC
 unfold wdV at hC
 have HC:=Lib.hid hC
 have HX:=Lib.hid hX
 have HN:=Lib.hid hn
 have HB2:=Lib.hid hb2
 have HK2:=Lib.hid hk2
 have HL2:=Lib.hid hl2
 have HW2:=Lib.hid hW2
 clear hC hP hX hn hb2 hk2 hr2 hl2 hW2
 cases e
 all_goals
  unfold starK at HC
  simp only[Bool.false_eq_true,if_false,if_true]at HC
  go_enter Tryz.func109,Tryz.ntmps109
  go_wp2_with (first
   |(go_at_call 149
     rw[←HW2.out]
     refine HC.out.mono ?_
     rintro e w3 ⟨rfl,hb3⟩
     have hk3:w3.heap[w.heap.size]? =some (wdB wd0):=(hb3.block _ (by have :=HL2.out;omega)).trans HK2.out
     obtain⟨⟨d0,d1,d2,d3⟩,df⟩:=wd_blk hk3
     have f0:=df 0
     have f1:=df 1
     have f2:=df 2
     have f3:=df 3
     have HK3:=Lib.hid hk3
     have HB3:=Lib.hid (HB2.out.trans (hb3.mono HB2.out.size))
     clear hb3 hk3 df HC HW2))
  exact end_word Tryz.results109 w w3 _ (x:=X) HK3.out HB3.out HX.out (by rw[HN.out]) rfl rfl rfl
end Char
namespace Char
open Go.RowKit Go.Lib
open Go.Proofs.YtlmpkpjjakallaaGreatDoor.Fig (digB)
theorem dgs_cons (b:UInt8)(t:List UInt8):dgs (b::t)=if digB b then dgs t+1 else 0:=by
 unfold dgs
 rw[List.takeWhile_cons]
 split<;>rfl
set_option maxHeartbeats 4000000 in
theorem digits_any (l:List UInt8)(p:Nat)(w:World)(hl:l.length≤60000)(hp:p≤l.length):
 Calls Tryz.prog 83 #[.string (bs l),.int .i64 (p:Int)] w fun e w'=>e= .returned (.int .i64 ((p+dgs (l.drop p):Nat):Int))∧w=w':=by
 obtain⟨R,hR⟩:∃R,p+dgs (l.drop p)=R:=⟨_,rfl⟩
 rw[hR]
 have HR:=Lib.hid hR
 have hsz:=bs_size l
 clear hR
 go_enter Tryz.func83,Tryz.ntmps83
 go_wp2_with fail
 go_loop [1] (fun v=>∃k:Nat,v= .int .i64 (k:Int)∧k≤l.length∧Hid (k+dgs (l.drop k)=R)) (fun v=>l.length-(RowKit.intOf v).toNat)
 case atStart=>exact⟨p,rfl,hp,HR⟩
 case round=>
  obtain⟨k,rfl,hk,HK⟩:=hrel
  by_cases hlt:k<l.length
  ·have hlt':k<(bs l).size:=by rw[hsz];exact hlt
   have hgt:=bs_get l k hlt'
   have hk2:=HK.out
   rw[drop_cons l k hlt,dgs_cons]at hk2
   have hd:digB (l.getD k 0)=(decide (48≤(l.getD k 0).toNat)&&decide ((l.getD k 0).toNat≤57)):=rfl
   rw[hd]at hk2
   obtain⟨nb,hnb⟩:∃nb,(l.getD k 0).toNat=nb:=⟨_,rfl⟩
   have hg:((bs l)[k]'hlt').toNat=nb:=by rw[hgt,hnb]
   rw[hnb]at hk2
   have hn256:nb<256:=by rw[←hnb];exact UInt8.toNat_lt _
   clear hgt hnb hd
   by_cases h1:48≤nb
   ·have c1:decide ((48:Int)≤(nb:Int))=true:=decide_eq_true (by omega)
    by_cases h2:nb≤57
    ·have c2:decide ((nb:Int)≤57)=true:=decide_eq_true (by omega)
     rw[decide_eq_true h1,decide_eq_true h2,Bool.and_true,if_pos rfl]at hk2
     have HK2:Hid (k+1+dgs (l.drop (k+1))=R):=Lib.hid (by omega)
     clear hk2
     go_wp2_with fail
     go_round
     case rel=>exact⟨k+1,by go_num,by omega,HK2⟩
     case measure=>simp[RowKit.intOf];omega
    ·have c2:decide ((nb:Int)≤57)=false:=decide_eq_false (by omega)
     rw[decide_eq_false h2,Bool.and_false,if_neg (by decide)]at hk2
     have HK2:Hid ((k:Int)=(R:Int)):=Lib.hid (by omega)
     clear hk2
     go_wp2_with fail
     go_ret
     exact⟨ret_i HK2.out,rfl⟩
   ·have c1:decide ((48:Int)≤(nb:Int))=false:=decide_eq_false (by omega)
    rw[decide_eq_false h1,Bool.false_and,if_neg (by decide)]at hk2
    have HK2:Hid ((k:Int)=(R:Int)):=Lib.hid (by omega)
    clear hk2
    go_wp2_with fail
    go_ret
    exact⟨ret_i HK2.out,rfl⟩
  ·have hk2:=HK.out
   rw[List.drop_eq_nil_of_le (by omega)]at hk2
   have HK2:Hid ((k:Int)=(R:Int)):=Lib.hid (by rw[←hk2];rfl)
   clear hk2
   go_wp2_with fail
   go_ret
   exact⟨ret_i HK2.out,rfl⟩
set_option maxHeartbeats 4000000 in
theorem in12_any (ss:List (List UInt8))(n:List UInt8)(g:Nat)(w:World)(hc:∀i (h:i<ss.length),w.cell? ⟨g,i,none⟩=some (.string (bs ss[i])))(hl:ss.length≤100):
 Calls Tryz.prog 136 #[.string (bs n),.slice (some ⟨g,0,none⟩) ss.length ss.length] w fun e w'=>e= .returned (.bool (ss.contains n))∧w=w':=by
 obtain⟨R,hR⟩:∃R,ss.contains n=R:=⟨_,rfl⟩
 rw[hR]
 have HR:=Lib.hid hR
 have HC:=Lib.hid hc
 clear hc hR
 go_enter Tryz.func136,Tryz.ntmps136
 go_wp2_with fail
 go_loop [5] (fun v=>∃k:Nat,v= .int .i64 (k:Int)∧k≤ss.length∧Hid ((ss.drop k).contains n=R)) (fun v=>ss.length-(RowKit.intOf v).toNat)
 case atStart=>exact⟨0,rfl,Nat.zero_le _,HR⟩
 case round=>
  obtain⟨k,rfl,hk,HK⟩:=hrel
  by_cases hlt:k<ss.length
  ·have hk2:=HK.out
   rw[List.drop_eq_getElem_cons hlt,List.contains_cons]at hk2
   have hcell:=HC.out k hlt
   generalize ss[k]'hlt=p at *
   have k1:decide ((k:Int)<(ss.length:Int))=true:=decide_eq_true (by omega)
   have hz0:(0:Int)≤(k:Int):=by omega
   have hz1:(k:Int)<(ss.length:Int):=by omega
   have HLT:=Lib.hid hlt
   have hq:((bs p).toList==(bs n).toList)=(n==p):=by
    rw[bs_tl,bs_tl,beq_list,beq_list]
    exact decide_eq_decide.2 eq_comm
   cases hb:(n==p) with
   |true=>
    rw[hb]at hq hk2
    have HK2:Hid (true=R):=Lib.hid (by rw[←hk2];rfl)
    clear hk2 hb hlt hk
    go_wp2_with fail
    go_ret
    exact⟨ret_b HK2.out,rfl⟩
   |false=>
    rw[hb]at hq hk2
    rw[Bool.false_or]at hk2
    have HK2:=Lib.hid hk2
    clear hk2 hb hlt hk
    go_wp2_with fail
    go_round
    case rel=>exact⟨k+1,by go_num,by have :=HLT.out;omega,HK2⟩
    case measure=>have :=HLT.out;simp[RowKit.intOf];omega
  ·have hk2:=HK.out
   rw[List.drop_eq_nil_of_le (by omega)]at hk2
   have HK2:Hid (false=R):=Lib.hid hk2
   have k1:decide ((k:Int)<(ss.length:Int))=false:=decide_eq_false (by omega)
   have k2:decide (k<ss.length)=false:=decide_eq_false hlt
   clear hk2 hlt hk
   go_wp2_with fail
   go_ret
   exact⟨ret_b HK2.out,rfl⟩
end Char
end Go.Proofs.YtlmpkpjjakallaaGreatDoor
