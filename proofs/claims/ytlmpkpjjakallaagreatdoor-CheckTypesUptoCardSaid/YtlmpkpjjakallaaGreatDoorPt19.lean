import Derived.Test.YtlmpkpjjakallaaGreatDoorPt18
import Derived.Test.YtlmpkpjjakallaaGreatDoorPt17
namespace Go.Proofs.YtlmpkpjjakallaaGreatDoor
namespace Char
open Go.Lib Go.RowKit
open Go.Proofs.YtlmpkpjjakallaaGreatDoor.Fig (Nm litL digB)
inductive Form (e:Bool)(x:Nat):Wd→List UInt8→Prop
 |lit (q:UInt8) (s:List UInt8) (hq:q=34∨q=39) (hs:∀b∈s,b≠q):Form e x ⟨8,s,.num 0⟩ (q::(s++[q]))
 |num (u:List UInt8) (v:Int) (h:litL u=some (.num v)) (hz:sizN u=u.length):Form e x ⟨9,u,.num v⟩ u
 |mark (u:List UInt8) (h:u∈marksL):Form e x ⟨1,u,.num 0⟩ u
 |op (u:List UInt8) (h:u∈opsL):Form e x ⟨5,u,.num 0⟩ u
 |star:Form e x ⟨starK e,[42],.num 0⟩ [42]
 |var (n:List UInt8) (h:nmD (bs n)=true):Form e x ⟨10,n,.num 0⟩ (36::n)
 |name (n:List UInt8) (h:nmD (bs n)=true) (hj:(!e||joinsL.contains n)=true):Form e x ⟨kindN e n x,n,.num 0⟩ n
theorem dgs_take (l:List UInt8):l.take (dgs l)=l.takeWhile digB:=by
 have h:=List.takeWhile_append_dropWhile (p:=digB) (l:=l)
 have h2:=List.take_left (l₁:=l.takeWhile digB) (l₂:=l.dropWhile digB)
 rwa [h]at h2
theorem take_add (A B:List UInt8)(m:Nat):(A++B).take (A.length+m)=A++B.take m:=by
 rw[List.take_append,List.take_of_length_le (by omega),Nat.add_sub_cancel_left]
theorem drop_add (A B:List UInt8)(m:Nat):(A++B).drop (A.length+m)=B.drop m:=by
 rw[List.drop_append,List.drop_eq_nil_of_le (by omega),Nat.add_sub_cancel_left,List.nil_append]
theorem dw_head {p:UInt8→Bool}:∀{l:List UInt8} {c:UInt8} {r:List UInt8},l.dropWhile p=c::r→p c=false
 |[],_,_,h=>by cases h
 |x::l,c,r,h=>by
  rw[List.dropWhile_cons]at h
  split at h
  ·exact dw_head h
  ·rename_i hx
   cases h
   simpa using hx
theorem dgs_self {w r:List UInt8}(hw:∀b∈w,digB b=true)(hr:r=[]∨∃b t,r=b::t∧digB b=false):dgs (w++r)=w.length:=by
 unfold dgs
 rw[tw_app hr,tw_yes hw]
theorem tw_mem {p:UInt8→Bool}:∀{l:List UInt8} {b:UInt8},b∈l.takeWhile p→p b=true
 |[],_,h=>by cases h
 |x::l,b,h=>by
  rw[List.takeWhile_cons]at h
  split at h
  ·rename_i hx
   rcases List.mem_cons.1 h with rfl|h
   ·exact hx
   ·exact tw_mem h
  ·cases h
theorem siz_take (l:List UInt8):sizN (l.take (sizN l))=(l.take (sizN l)).length:=by
 have hle:=siz_le l
 rw[List.length_take,Nat.min_eq_left hle]
 have hd:=dgs_le l
 have hw:∀b∈l.take (dgs l),digB b=true:=fun b hb=>by rw[dgs_take]at hb;exact tw_mem hb
 have hwl:(l.take (dgs l)).length=dgs l:=by rw[List.length_take];omega
 have hc:=List.take_append_drop (dgs l) l
 unfold sizN
 cases hp:([46]:List UInt8).isPrefixOf (l.drop (dgs l)) with
 |false=>
  simp only[Bool.false_eq_true,if_false,Nat.add_zero]
  have h1:dgs (l.take (dgs l))=dgs l:=by
   have :=dgs_self (r:=[]) hw (.inl rfl)
   rw[List.append_nil,hwl]at this
   exact this
  rw[h1,List.drop_eq_nil_of_le (by omega)]
  rfl
 |true=>
  simp only[if_true]
  obtain⟨t,ht⟩:=List.isPrefixOf_iff_prefix.1 hp
  have htl:(l.drop (dgs l+1))=t:=by
   rw[←List.drop_drop,←ht]
   rfl
  rw[htl]
  have hft:=dgs_take t
  have hfl:(t.take (dgs t)).length=dgs t:=by have :=dgs_le t;rw[List.length_take];omega
  have hu:l.take (dgs l+(1+dgs t))=l.take (dgs l)++(46::t.take (dgs t)):=by
   have h5:l.take (dgs l)++(46::t)=l:=by
    rw[show(46::t:List UInt8)=[46]++t from rfl,ht,hc]
   have key:=take_add (l.take (dgs l)) (46::t) (dgs t+1)
   rw[h5,hwl]at key
   rw[show dgs l+(1+dgs t)=dgs l+(dgs t+1) by omega,key]
   rfl
  rw[hu]
  have h1:dgs (l.take (dgs l)++(46::t.take (dgs t)))=dgs l:=by
   rw[dgs_self hw (.inr ⟨46,_,rfl,by decide⟩),hwl]
  have hd0:=drop_add (l.take (dgs l)) (46::t.take (dgs t)) 0
  have hd1:=drop_add (l.take (dgs l)) (46::t.take (dgs t)) 1
  rw[hwl]at hd0 hd1
  rw[Nat.add_zero]at hd0
  rw[h1,hd0,hd1]
  have h2:([46]:List UInt8).isPrefixOf (List.drop 0 (46::t.take (dgs t)))=true:=rfl
  rw[h2,if_pos rfl]
  have h3:dgs (t.take (dgs t))=dgs t:=by
   have :=dgs_self (w:=t.take (dgs t)) (r:=[]) (fun b hb=>by rw[hft]at hb;exact tw_mem hb) (.inl rfl)
   rw[List.append_nil,hfl]at this
   exact this
  show dgs l+(1+dgs (t.take (dgs t)))=_
  rw[h3]
theorem wd_form {l:List UInt8}{e:Bool}{w:Wd}{k:Nat}(h:wdL l e=some (w,k)):Form e (nxL (l.drop k)) w (l.take k):=by
 unfold wdL at h
 cases h1:litW l with
 |some x=>
  rw[h1]at h
  cases h
  cases l with
  |nil=>cases h1
  |cons c t=>
   rw[litW_cons]at h1
   split at h1
   ·rename_i hc
    split at h1
    ·rename_i hlt
     cases h1
     have hs:∀b∈t.takeWhile (· != c),b≠c:=fun b hb=>by have :=tw_mem hb;simpa using this
     have hcut:t.take ((t.takeWhile (· != c)).length+1)=t.takeWhile (· != c)++[c]:=by
      have hp:=List.takeWhile_append_dropWhile (p:=(· != c)) (l:=t)
      obtain⟨y,r,hr⟩:∃y r,t.dropWhile (· != c)=y::r:=by
       cases hd:t.dropWhile (· != c) with
       |nil=>rw[hd,List.append_nil]at hp;rw[hp]at hlt;omega
       |cons y r=>exact⟨y,r,rfl⟩
      have hy:y=c:=by
       have :=dw_head hr
       simpa using this
      subst hy
      rw[hr]at hp
      have key:=take_add (t.takeWhile (· != y)) (y::r) 1
      rw[hp]at key
      exact key
     rw[List.take_succ_cons,hcut]
     exact .lit c _ hc hs
    ·cases h1
   ·cases h1
 |none=>
  rw[h1,orW_none]at h
  cases h2:numW l with
  |some x=>
   rw[h2]at h
   cases h
   obtain⟨v,q1,rfl,rfl⟩:=num_some h2
   exact .num _ v q1 (siz_take l)
  |none=>
   rw[h2,orW_none]at h
   have hpre:∀{p:List UInt8},p.isPrefixOf l=true→l.take p.length=p:=fun {p} hp=>by
    obtain⟨t,rfl⟩:=List.isPrefixOf_iff_prefix.1 hp
    rw[List.take_left']
    rfl
   cases h3:signW 1 marksL l with
   |some x=>
    rw[h3]at h
    cases h
    obtain⟨p,hp,rfl,rfl⟩:=sign_some h3
    rw[hpre (first_mem hp).2]
    exact .mark p (first_mem hp).1
   |none=>
    rw[h3,orW_none]at h
    cases h4:signW 5 opsL l with
    |some x=>
     rw[h4]at h
     cases h
     obtain⟨p,hp,rfl,rfl⟩:=sign_some h4
     rw[hpre (first_mem hp).2]
     exact .op p (first_mem hp).1
    |none=>
     rw[h4,orW_none]at h
     cases h5:signW (starK e) [[42]] l with
     |some x=>
      rw[h5]at h
      cases h
      obtain⟨p,hp,rfl,rfl⟩:=sign_some h5
      rw[hpre (first_mem hp).2]
      have hm:=(first_mem hp).1
      rw[List.mem_singleton]at hm
      subst hm
      exact .star
     |none=>
      rw[h5,orW_none]at h
      cases h6:varW l with
      |some x=>
       rw[h6]at h
       cases h
       unfold varW at h6
       split at h6
       ·rename_i hc
        cases h6
        rw[Bool.and_eq_true]at hc
        obtain⟨t,rfl⟩:=List.isPrefixOf_iff_prefix.1 hc.1
        have e1:(([36]++t:List UInt8)).drop 1=t:=rfl
        rw[e1]at hc ⊢
        have e2:([36]++t:List UInt8).take (1+runL t)=36::t.take (runL t):=by rw[Nat.add_comm];rfl
        rw[e2]
        exact .var _ hc.2
       ·cases h6
      |none=>
       rw[h6,orW_none]at h
       unfold nameW at h
       split at h
       ·rename_i hc
        cases h
        rw[Bool.and_eq_true]at hc
        exact .name _ hc.1 hc.2
       ·cases h
theorem nm_run {n:List UInt8}(h:nmD (bs n)=true):runL n=n.length:=by
 unfold nmD at h
 simp only[Bool.and_eq_true,bs_list]at h
 have ht:=h.1.2
 have hp:=h.2.2
 clear h
 have key:∀(m:Nat) (l:List UInt8),l.length≤m→txD l=true→allR paC l=true→runL l=l.length:=by
  intro m
  induction m with
  |zero=>
   intro l hl _ _
   obtain rfl:l=[]:=List.eq_nil_of_length_eq_zero (by omega)
   rfl
  |succ m ih=>
   intro l hl h1 h2
   by_cases hne:l=[]
   ·subst hne;rfl
   ·obtain⟨q1,q2,q3⟩:=tx_step hne h1
    rw[allR_step paC l hne,Bool.and_eq_true]at h2
    have ho:oneL l=decodeL l:=by
     unfold oneL
     rw[if_neg hne,if_neg q1]
    have hw:=decodeL_width l
    have hle:=decodeL_le l hne
    have :=ih (l.drop (decodeL l).2) (by rw[List.length_drop];omega) q3 h2.2
    rw[run_go (by rw[ho];omega) (by rw[ho];exact h2.1),ho,this,List.length_drop]
    omega
 exact key _ n (Nat.le_refl _) ht hp
theorem nm_other {c:UInt8}{t:List UInt8}(h:nmD (bs (c::t))=true):headB c=false:=by
 cases hc:headB c with
 |false=>rfl
 |true=>
  obtain⟨h1,h2⟩:=head_low c hc
  rw[nm_head h h1]at h2
  cases h2
theorem other_none {c:UInt8}(t:List UInt8)(h:headB c=false)(e:Bool):litW (c::t)=none∧numW (c::t)=none∧signW 1 marksL (c::t)=none∧signW 5 opsL (c::t)=none∧signW (starK e) [[42]] (c::t)=none∧varW (c::t)=none:=by
 unfold headB at h
 simp only[Bool.or_eq_false_iff,beq_eq_false_iff_ne]at h
 obtain⟨⟨⟨⟨h1,h2⟩,h3⟩,h4⟩,h5⟩:=h
 have h46:c≠46:=by rintro rfl;exact absurd h4 (by decide)
 obtain⟨q1,q2,q3⟩:=signs_none t h4 e
 exact⟨litW_none t ⟨h1,h2⟩,numW_none t h3 h46,q1,q2,q3,varW_none t h5⟩
theorem siz_head {c:UInt8}{t:List UInt8}(h:sizN (c::t)≠0):digB c=true∨c=46:=by
 cases hd:digB c with
 |true=>exact .inl rfl
 |false=>
  refine .inr ?_
  by_cases h46:c=46
  ·exact h46
  ·exact absurd (siz_none t hd h46) h
theorem num_noq {c:UInt8}{t:List UInt8}(h:sizN (c::t)≠0):c≠34∧c≠39:=by
 rcases siz_head h with h|h
 ·exact⟨fun e=>by rw[e]at h;exact absurd h (by decide),fun e=>by rw[e]at h;exact absurd h (by decide)⟩
 ·subst h;decide
theorem form_wd {e:Bool}{x:Nat}{w:Wd}{u:List UInt8}(h:Form e x w u){g:List UInt8}(hg:Sp g)(hx:nxL g=x):wdL (u++g) e=some (w,u.length):=by
 unfold wdL
 cases h with
 |lit q s hq hs=>
  have hlit:litW (q::(s++[q])++g)=some (⟨8,s,.num 0⟩,s.length+2):=by
   have ht:(s++[q]++g).takeWhile (· != q)=s:=by
    rw[List.append_assoc,tw_app (g:=[q]++g) (.inr ⟨q,g,rfl,by simp⟩),tw_yes fun b hb=>by simpa using hs b hb]
   show litW (q::(s++[q]++g))=_
   rw[litW_cons,if_pos hq,ht,if_pos (by simp)]
  rw[hlit,orW_some]
  simp
 |num u v hv hz=>
  cases u with
  |nil=>cases hv
  |cons c t=>
   have h0:sizN (c::t)≠0:=by rw[hz];simp
   have hq:=num_noq h0
   rw[show(c::t)++g=c::(t++g) from rfl,litW_none _ hq,orW_none]
   rw[show c::(t++g)=(c::t)++g from rfl,numW_app hg]
   have :numW (c::t)=some (⟨9,c::t,.num v⟩,(c::t).length):=by
    unfold numW
    rw[hz,List.take_length,hv]
    rfl
   rw[this,orW_some]
 |mark u hu=>
  rw[numW_app hg,signW_app hg _ _ (by decide)]
  unfold marksL at hu
  simp only[List.mem_cons,List.not_mem_nil,or_false]at hu
  rcases hu with rfl|rfl|rfl|rfl|rfl|rfl|rfl|rfl|rfl<;>rfl
 |op u hu=>
  rw[numW_app hg,signW_app hg _ _ (by decide),signW_app hg _ _ (by decide)]
  unfold opsL at hu
  simp only[List.mem_cons,List.not_mem_nil,or_false]at hu
  rcases hu with rfl|rfl|rfl|rfl|rfl|rfl|rfl|rfl|rfl|rfl|rfl<;>rfl
 |star=>
  rw[numW_app hg,signW_app hg _ _ (by decide),signW_app hg _ _ (by decide),signW_app hg _ _ (by decide)]
  rfl
 |var n hn=>
  have hr:runL (n++g)=n.length:=by rw[runL_app hg,nm_run hn]
  have hv:varW (36::n++g)=some (⟨10,n,.num 0⟩,1+n.length):=by
   have e1:(36::n++g).drop 1=n++g:=rfl
   have e2:(n++g).take n.length=n:=by rw[List.take_left'];rfl
   unfold varW
   rw[e1,hr,e2,hn]
   rfl
  rw[hv,show 36::n++g=36::(n++g) from rfl,litW_none _ (by decide),numW_none _ (by decide) (by decide),(signs_none (n++g) (c:=36) (by decide) e).1,(signs_none (n++g) (c:=36) (by decide) e).2.1,(signs_none (n++g) (c:=36) (by decide) e).2.2]
  show some _=some _
  rw[List.length_cons,Nat.add_comm]
 |name u hn hj=>
  have hp:=nm_pos hn
  have hr:runL (u++g)=u.length:=by rw[runL_app hg,nm_run hn]
  have hv:nameW e (u++g)=some (⟨kindN e u x,u,.num 0⟩,u.length):=by
   have e2:(u++g).take u.length=u:=by rw[List.take_left'];rfl
   have e3:(u++g).drop u.length=g:=by rw[List.drop_left'];rfl
   unfold nameW
   rw[hr,e2,e3,hn,hj,hx]
   rfl
  rw[hv]
  cases u with
  |nil=>exact absurd hp (by simp)
  |cons c t=>
   obtain⟨q1,q2,q3,q4,q5,q6⟩:=other_none (t++g) (nm_other hn) e
   rw[show(c::t)++g=c::(t++g) from rfl,q1,q2,q3,q4,q5,q6]
   rfl
def textW (w:Wd):List UInt8:=if w.k=10 then 36::w.s else if w.k=8 then (if w.s.contains 34 then 39::(w.s++[39]) else 34::(w.s++[34])) else w.s
theorem kindN_ne (e:Bool)(n:List UInt8)(x:Nat):kindN e n x≠10∧kindN e n x≠8∧kindN e n x≠1:=by
 unfold kindN
 split
 ·decide
 ·split
  ·split<;>decide
  ·split<;>decide
theorem starK_ne (e:Bool):starK e≠10∧starK e≠8∧starK e≠1:=by cases e<;>decide
theorem form_text {e:Bool}{x:Nat}{w:Wd}{u:List UInt8}(h:Form e x w u):Form e x w (textW w):=by
 unfold textW
 cases h with
 |lit q s hq hs=>
  rw[if_neg (show ¬(8:Nat)=10 by decide),if_pos rfl]
  split
  ·rename_i hc
   have hm:(34:UInt8)∈s:=by simpa using hc
   refine .lit 39 s (.inr rfl) ?_
   rcases hq with rfl|rfl
   ·exact absurd rfl (hs 34 hm)
   ·exact hs
  ·rename_i hc
   have hm:¬(34:UInt8)∈s:=by simpa using hc
   exact .lit 34 s (.inl rfl) fun b hb e=>hm (e▸hb)
 |num u v hv hz=>rw[if_neg (by decide:¬(9:Nat)=10),if_neg (by decide:¬(9:Nat)=8)];exact .num _ v hv hz
 |mark u hu=>rw[if_neg (by decide:¬(1:Nat)=10),if_neg (by decide:¬(1:Nat)=8)];exact .mark u hu
 |op u hu=>rw[if_neg (by decide:¬(5:Nat)=10),if_neg (by decide:¬(5:Nat)=8)];exact .op u hu
 |star=>rw[if_neg (starK_ne e).1,if_neg (starK_ne e).2.1];exact .star
 |var n hn=>rw[if_pos rfl];exact .var n hn
 |name u hn hj=>rw[if_neg (kindN_ne e u x).1,if_neg (kindN_ne e u x).2.1];exact .name u hn hj
def nxW (w:Wd):Nat:=if w.k=1∧w.s=[40] then 1 else if w.k=1∧w.s=[58,58] then 2 else 0
theorem nx0_head {c:UInt8}(t:List UInt8)(h:c≠40∧c≠58):nx0 (c::t)=0:=by
 unfold nx0
 have h1:([40]:List UInt8).isPrefixOf (c::t)=false:=by simp[List.isPrefixOf];exact fun e=>h.1 e.symm
 have h2:([58,58]:List UInt8).isPrefixOf (c::t)=false:=by simp[List.isPrefixOf];exact fun e=>absurd e.symm h.2
 rw[h1,h2]
 rfl
theorem form_nx {e:Bool}{x:Nat}{w:Wd}{u:List UInt8}(h:Form e x w u)(r:List UInt8):nx0 (u++r)=nxW w:=by
 cases h with
 |lit q s hq hs=>
  have :q≠40∧q≠58:=by rcases hq with rfl|rfl<;>decide
  exact nx0_head _ this
 |num u v hv hz=>
  cases u with
  |nil=>cases hv
  |cons c t=>
   have h0:sizN (c::t)≠0:=by rw[hz];simp
   refine nx0_head _ ?_
   rcases siz_head h0 with h|h
   ·exact⟨fun e=>by rw[e]at h;exact absurd h (by decide),fun e=>by rw[e]at h;exact absurd h (by decide)⟩
   ·subst h;decide
 |mark u hu=>
  unfold marksL at hu
  simp only[List.mem_cons,List.not_mem_nil,or_false]at hu
  rcases hu with rfl|rfl|rfl|rfl|rfl|rfl|rfl|rfl|rfl<;>rfl
 |op u hu=>
  unfold opsL at hu
  simp only[List.mem_cons,List.not_mem_nil,or_false]at hu
  rcases hu with rfl|rfl|rfl|rfl|rfl|rfl|rfl|rfl|rfl|rfl|rfl<;>rfl
 |star=>
  unfold nxW
  rw[if_neg fun h=>(starK_ne e).2.2 h.1,if_neg fun h=>(starK_ne e).2.2 h.1]
  rfl
 |var n hn=>exact nx0_head _ (by decide)
 |name u hn hj=>
  unfold nxW
  rw[if_neg fun h=>(kindN_ne e u x).2.2 h.1,if_neg fun h=>(kindN_ne e u x).2.2 h.1]
  have hp:=nm_pos hn
  cases u with
  |nil=>exact absurd hp (by simp)
  |cons c t=>
   have h:=nm_other hn
   exact nx0_head _ ⟨fun e=>by rw[e]at h;exact absurd h (by decide),fun e=>by rw[e]at h;exact absurd h (by decide)⟩
theorem form_head {e:Bool}{x:Nat}{w:Wd}{u:List UInt8}(h:Form e x w u):∃c t,u=c::t∧spC (c.toNat:Int)=false:=by
 cases h with
 |lit q s hq hs=>exact⟨q,_,rfl,by rcases hq with rfl|rfl<;>decide⟩
 |num u v hv hz=>
  cases u with
  |nil=>cases hv
  |cons c t=>
   refine⟨c,t,rfl,?_⟩
   have h0:sizN (c::t)≠0:=by rw[hz];simp
   cases hs:spC (c.toNat:Int) with
   |false=>rfl
   |true=>
    rcases siz_head h0 with h|h
    ·rw[sp_dig hs]at h;cases h
    ·subst h;exact absurd hs (by decide)
 |mark u hu=>
  unfold marksL at hu
  simp only[List.mem_cons,List.not_mem_nil,or_false]at hu
  rcases hu with rfl|rfl|rfl|rfl|rfl|rfl|rfl|rfl|rfl<;>exact⟨_,_,rfl,by decide⟩
 |op u hu=>
  unfold opsL at hu
  simp only[List.mem_cons,List.not_mem_nil,or_false]at hu
  rcases hu with rfl|rfl|rfl|rfl|rfl|rfl|rfl|rfl|rfl|rfl|rfl<;>exact⟨_,_,rfl,by decide⟩
 |star=>exact⟨42,[],rfl,by decide⟩
 |var n hn=>exact⟨36,n,rfl,by decide⟩
 |name u hn hj=>
  have hp:=nm_pos hn
  cases u with
  |nil=>exact absurd hp (by simp)
  |cons c t=>
   refine⟨c,t,rfl,?_⟩
   cases hs:spC (c.toNat:Int) with
   |false=>rfl
   |true=>
    have h1:=sp_low hs
    have h2:=nm_head hn (by omega)
    have :paC (c.toNat:Int)=true:=by unfold paC;rw[h2];rfl
    rw[pa_sp _ this]at hs
    cases hs
def ascL (l:List UInt8):Bool:=l.all fun b=>decide (b.toNat<128)&&isC (b.toNat:Int)
theorem asc_tx:∀{l:List UInt8},ascL l=true→txD l=true
 |[],_=>rfl
 |b::l,h=>by
  unfold ascL at h
  rw[List.all_cons,Bool.and_eq_true,Bool.and_eq_true,decide_eq_true_eq]at h
  rw[tx_ascii b l h.1.1,h.1.2,asc_tx h.2]
  rfl
theorem quote_tx {q:UInt8}(hq:q=34∨q=39){s:List UInt8}(h:txD s=true):txD (q::(s++[q]))=true:=by
 have hq2:q.toNat<128∧isC (q.toNat:Int)=true:=by rcases hq with rfl|rfl<;>decide
 rw[tx_ascii q _ hq2.1,hq2.2,tx_more s _ h,tx_ascii q _ hq2.1,hq2.2]
 rfl
theorem form_tx {e:Bool}{x:Nat}{w:Wd}{u:List UInt8}(h:Form e x w u){r:List UInt8}(ht:txD (u++r)=true):txD (textW w)=true:=by
 unfold textW
 cases h with
 |lit q s hq hs=>
  have hq2:q.toNat<128:=by rcases hq with rfl|rfl<;>decide
  have h1:txD (s++(q::r))=true:=by
   have e:q::(s++[q])++r=q::(s++(q::r)):=by simp
   rw[e,tx_ascii q _ hq2,Bool.and_eq_true]at ht
   exact ht.2
  rw[tx_split _ s _ (Nat.le_refl _) (by unfold asc0;rw[decide_eq_true_eq];exact hq2),Bool.and_eq_true]at h1
  rw[if_neg (show ¬(8:Nat)=10 by decide),if_pos rfl]
  split
  ·exact quote_tx (.inr rfl) h1.1
  ·exact quote_tx (.inl rfl) h1.1
 |num u v hv hz=>
  rw[if_neg (by decide:¬(9:Nat)=10),if_neg (by decide:¬(9:Nat)=8)]
  have hn:∀b∈u,digB b=true∨b=46:=by
   intro b hb
   have e1:=List.take_append_drop (dgs u) u
   rw[←e1]at hb
   rcases List.mem_append.1 hb with hb|hb
   ·rw[dgs_take]at hb
    exact .inl (tw_mem hb)
   ·unfold sizN at hz
    cases hp:([46]:List UInt8).isPrefixOf (u.drop (dgs u)) with
    |false=>
     rw[hp]at hz
     simp at hz
     rw[List.drop_eq_nil_of_le (by omega)]at hb
     cases hb
    |true=>
     rw[hp]at hz
     simp only[if_true]at hz
     obtain⟨t,ht⟩:=List.isPrefixOf_iff_prefix.1 hp
     have htl:u.drop (dgs u+1)=t:=by rw[←List.drop_drop,←ht];rfl
     have hl:=congrArg List.length ht
     rw[List.length_drop,List.length_append,List.length_singleton]at hl
     rw[htl]at hz
     rw[←ht]at hb
     rcases List.mem_append.1 hb with hb|hb
     ·rw[List.mem_singleton]at hb;exact .inr hb
     ·have h3:t.take (dgs t)=t:=List.take_of_length_le (by have :=dgs_le u;omega)
      rw[←h3,dgs_take]at hb
      exact .inl (tw_mem hb)
  refine asc_tx (List.all_eq_true.2 fun b hb=> ?_)
  have :∀n:Fin 256,(digB (UInt8.ofNat n.val)=true∨UInt8.ofNat n.val=46)→(decide ((UInt8.ofNat n.val).toNat<128)&&isC ((UInt8.ofNat n.val).toNat:Int))=true:=by decide+kernel
  have h2:=this ⟨b.toNat,UInt8.toNat_lt b⟩
  rw[UInt8.ofNat_toNat]at h2
  exact h2 (hn b hb)
 |mark u hu=>
  rw[if_neg (by decide:¬(1:Nat)=10),if_neg (by decide:¬(1:Nat)=8)]
  unfold marksL at hu
  simp only[List.mem_cons,List.not_mem_nil,or_false]at hu
  rcases hu with rfl|rfl|rfl|rfl|rfl|rfl|rfl|rfl|rfl<;>exact asc_tx (by decide)
 |op u hu=>
  rw[if_neg (by decide:¬(5:Nat)=10),if_neg (by decide:¬(5:Nat)=8)]
  unfold opsL at hu
  simp only[List.mem_cons,List.not_mem_nil,or_false]at hu
  rcases hu with rfl|rfl|rfl|rfl|rfl|rfl|rfl|rfl|rfl|rfl|rfl<;>exact asc_tx (by decide)
 |star=>rw[if_neg (starK_ne e).1,if_neg (starK_ne e).2.1];exact asc_tx (l:=[42]) (by decide)
 |var n hn=>
  rw[if_pos rfl,tx_ascii 36 n (by decide)]
  unfold nmD at hn
  simp only[Bool.and_eq_true,bs_list]at hn
  rw[hn.1.2]
  decide
 |name u hn hj=>
  rw[if_neg (kindN_ne e u x).1,if_neg (kindN_ne e u x).2.1]
  unfold nmD at hn
  simp only[Bool.and_eq_true,bs_list]at hn
  exact hn.1.2
def joinW:List Wd→List UInt8
 |[]=>[]
 |w::ws=>textW w++(32::joinW ws)
theorem sp32 (t:List UInt8):Sp (32::t):= .inr ⟨32,t,rfl,by decide⟩
theorem drop32 (t:List UInt8):dropS (32::t)=dropS t:=by rw[dropS_tw,dropS_tw];rfl
theorem app_inv {w:Wd}{r:Nat ⊕ List Wd}{ws:List Wd}(h:appW [w] r= .inr ws):∃ws',ws=w::ws'∧r= .inr ws':=by
 cases r with
 |inl x=>cases h
 |inr v=>cases h;exact⟨v,rfl,rfl⟩
theorem lexG_inv {l:List UInt8}{e:Bool}{n:Nat}{w:Wd}{ws:List Wd}(h:lexG l e n= .inr (w::ws)):l≠[]∧n≠120∧∃k,wdL l e=some (w,k)∧lexG (dropS (l.drop k)) (endW w) (n+1)= .inr ws:=by
 by_cases hl:l=[]
 ·subst hl;rw[lexG_nil]at h;cases h
 ·cases hw:wdL l e with
  |none=>rw[lexG_none n hl hw]at h;cases h
  |some y=>
   obtain⟨w',k⟩:=y
   by_cases hn:n=120
   ·subst hn;rw[lexG_full hl hw]at h;cases h
   ·rw[lexG_some hl hw hn]at h
    obtain⟨ws',h1,h2⟩:=app_inv h
    cases h1
    exact⟨hl,hn,k,rfl,h2⟩
theorem lexG_end {l:List UInt8}{e:Bool}{n:Nat}(h:lexG l e n= .inr []):l=[]:=by
 by_cases hl:l=[]
 ·exact hl
 ·cases hw:wdL l e with
  |none=>rw[lexG_none n hl hw]at h;cases h
  |some y=>
   obtain⟨w',k⟩:=y
   by_cases hn:n=120
   ·subst hn;rw[lexG_full hl hw]at h;cases h
   ·rw[lexG_some hl hw hn]at h
    obtain⟨ws',h1,h2⟩:=app_inv h
    cases h1
theorem take_app {l:List UInt8}(k:Nat):l.take k++l.drop k=l:=List.take_append_drop k l
theorem lex_nx {l:List UInt8}{e:Bool}{n:Nat}{ws:List Wd}(h:lexG l e n= .inr ws):nx0 (joinW ws)=nx0 l∧dropS (joinW ws)=joinW ws:=by
 cases ws with
 |nil=>rw[lexG_end h];exact⟨rfl,rfl⟩
 |cons w ws=>
  obtain⟨hl,hn,k,hw,_⟩:=lexG_inv h
  have hf:=wd_form hw
  have h1:=form_nx hf (l.drop k)
  rw[take_app]at h1
  have h2:=form_nx (form_text hf) (32::joinW ws)
  refine⟨h2.trans h1.symm,?_⟩
  obtain⟨c,t,hc,hs⟩:=form_head (form_text hf)
  show dropS (textW w++(32::joinW ws))=textW w++(32::joinW ws)
  rw[hc]
  exact dropS_id _ hs
theorem lex_join:∀(ws:List Wd) (l:List UInt8) (e:Bool) (n:Nat),lexG l e n= .inr ws→lexG (joinW ws) e n= .inr ws
 |[],_,_,_,_=>rfl
 |w::ws,l,e,n,h=>by
  obtain⟨hl,hn,k,hw,hr⟩:=lexG_inv h
  have hf:=form_text (wd_form hw)
  obtain⟨q1,q2⟩:=lex_nx hr
  have hx:nxL (32::joinW ws)=nxL (l.drop k):=by
   unfold nxL
   rw[drop32,q2,q1]
  have hwd:=form_wd hf (sp32 (joinW ws)) hx
  obtain⟨c,t,hc,hs⟩:=form_head hf
  have hne:textW w++(32::joinW ws)≠[]:=by rw[hc];simp
  show lexG (textW w++(32::joinW ws)) e n=_
  rw[lexG_some hne hwd hn,List.drop_left' rfl,drop32,q2,lex_join ws _ _ _ hr]
  rfl
theorem tx_dropS {l:List UInt8}(h:txD l=true):txD (dropS l)=true:=by
 have :∀(g y:List UInt8),(∀b∈g,spC (b.toNat:Int)=true)→txD (g++y)=txD y:=gap_tx
 have e:=List.takeWhile_append_dropWhile (p:=fun b:UInt8=>spC (b.toNat:Int)) (l:=l)
 rw[←e,gap_tx _ _ fun b hb=>tw_mem (p:=fun b:UInt8=>spC (b.toNat:Int)) hb]at h
 rw[dropS_tw]
 exact h
theorem form_rest {e:Bool}{x:Nat}{w:Wd}{u:List UInt8}(h:Form e x w u):∀{r:List UInt8},txD (u++r)=true→txD r=true:=by
 intro r ht
 cases h with
 |lit q s hq hs=>
  have hq2:q.toNat<128:=by rcases hq with rfl|rfl<;>decide
  have e:q::(s++[q])++r=q::(s++(q::r)):=by simp
  rw[e,tx_ascii q _ hq2,Bool.and_eq_true,tx_split _ s _ (Nat.le_refl _) (by unfold asc0;rw[decide_eq_true_eq];exact hq2),Bool.and_eq_true,tx_ascii q _ hq2,Bool.and_eq_true]at ht
  exact ht.2.2.2
 |num u v hv hz=>
  have h:=form_tx (e:=e) (x:=x) (.num u v hv hz) ht
  unfold textW at h
  rw[if_neg (by decide:¬(9:Nat)=10),if_neg (by decide:¬(9:Nat)=8)]at h
  rwa [tx_more u r h]at ht
 |mark u hu=>
  have h:=form_tx (e:=e) (x:=x) (.mark u hu) ht
  unfold textW at h
  rw[if_neg (by decide:¬(1:Nat)=10),if_neg (by decide:¬(1:Nat)=8)]at h
  rwa [tx_more u r h]at ht
 |op u hu=>
  have h:=form_tx (e:=e) (x:=x) (.op u hu) ht
  unfold textW at h
  rw[if_neg (by decide:¬(5:Nat)=10),if_neg (by decide:¬(5:Nat)=8)]at h
  rwa [tx_more u r h]at ht
 |star=>rwa [tx_more [42] r (asc_tx (by decide))]at ht
 |var n hn=>
  have h:=form_tx (e:=e) (x:=x) (.var n hn) ht
  unfold textW at h
  rw[if_pos rfl]at h
  rwa [tx_more _ r h]at ht
 |name u hn hj=>
  have h:=form_tx (e:=e) (x:=x) (.name u hn hj) ht
  unfold textW at h
  rw[if_neg (kindN_ne e u x).1,if_neg (kindN_ne e u x).2.1]at h
  rwa [tx_more _ r h]at ht
theorem join_tx:∀(ws:List Wd) (l:List UInt8) (e:Bool) (n:Nat),lexG l e n= .inr ws→txD l=true→txD (joinW ws)=true
 |[],_,_,_,_,_=>rfl
 |w::ws,l,e,n,h,ht=>by
  obtain⟨hl,hn,k,hw,hr⟩:=lexG_inv h
  have hf:=wd_form hw
  rw[←take_app (l:=l) k]at ht
  have h1:=form_tx hf ht
  have h2:=join_tx ws _ _ _ hr (tx_dropS (form_rest hf ht))
  show txD (textW w++(32::joinW ws))=true
  rw[tx_more _ _ h1,tx_ascii 32 _ (by decide),h2]
  decide
theorem lex_again {s:List UInt8}{ws:List Wd}(h:lexL s= .inr ws)(hl:(joinW ws).length≤400):lexL (joinW ws)= .inr ws:=by
 unfold lexL at h ⊢
 rw[if_neg (by omega)]
 split at h
 ·cases h
 ·split at h
  ·cases h
  ·rename_i h1 h2
   have ht:txD s=true:=by simpa using h2
   rw[join_tx ws _ _ _ h (tx_dropS ht),if_neg (by simp),(lex_nx h).2]
   exact lex_join ws _ _ _ h
end Char
namespace Char
open Go.Lib Go.RowKit
open Go.Proofs.YtlmpkpjjakallaaGreatDoor.Fig (litL digB ptB decL dval allD toldD fitD)
theorem decL_bound:∀(l:List UInt8) (n:Nat),l.foldl (fun n b=>n*10+dval b) n≤(n+256)*11^l.length
 |[],n=>by simp
 |b::l,n=>by
  have h:=decL_bound l (n*10+dval b)
  have hd:dval b≤255:=by unfold dval;have :=UInt8.toNat_lt b;omega
  rw[List.foldl_cons,List.length_cons,Nat.pow_succ,Nat.mul_comm (11^l.length) 11,←Nat.mul_assoc]
  exact Nat.le_trans h (Nat.mul_le_mul_right _ (by omega))
theorem allD_len (f:List UInt8):(allD [] f).length=6:=by
 unfold allD
 have :(f.take 6).length≤6:=by rw[List.length_take];omega
 simp only[List.nil_append,List.length_append,List.length_replicate]
 omega
theorem told_dot (f:List UInt8):∃v,toldD [] f= .num v:=by
 have h:=decL_bound (allD [] f) 0
 rw[allD_len]at h
 have h2:decL (allD [] f)≤256*11^6:=by unfold decL;omega
 unfold toldD fitD
 rw[if_neg (by have :(256*11^6:Nat)=453519616:=by decide
               omega),if_neg (by omega)]
 exact⟨_,rfl⟩
theorem dw_all {q:UInt8→Bool}:∀l:List UInt8,(∀b∈l,q b=true)→l.dropWhile q=[]∧l.takeWhile q=l
 |[],_=>⟨rfl,rfl⟩
 |b::l,h=>by
  obtain⟨h1,h2⟩:=dw_all l fun c hc=>h c (List.mem_cons_of_mem _ hc)
  rw[List.dropWhile_cons,List.takeWhile_cons,if_pos (h b List.mem_cons_self),if_pos (h b List.mem_cons_self),h1,h2]
  exact⟨rfl,rfl⟩
theorem lit_dot {d:UInt8}{ds:List UInt8}(h:∀b∈d::ds,digB b=true):∃v,litL (46::d::ds)=some (.num v):=by
 obtain⟨v,hv⟩:=told_dot (d::ds)
 obtain⟨h1,h2⟩:=dw_all (d::ds) h
 have hd:=h d List.mem_cons_self
 have hp:ptB d=false:=by
  unfold digB at hd
  unfold ptB
  simp only[Bool.and_eq_true,decide_eq_true_eq]at hd
  rw[beq_eq_false_iff_ne]
  omega
 have e1:(46::d::ds:List UInt8).dropWhile digB=46::d::ds:=rfl
 have e2:(46::d::ds:List UInt8).takeWhile digB=[]:=rfl
 have e3:(46::d::ds:List UInt8).dropWhile ptB=d::ds:=by
  rw[List.dropWhile_cons,if_pos (by decide),List.dropWhile_cons,if_neg (by rw[hp];decide)]
 have e4:(46::d::ds:List UInt8).takeWhile ptB=[46]:=by
  rw[List.takeWhile_cons,if_pos (by decide),List.takeWhile_cons,if_neg (by rw[hp];decide)]
 refine⟨v,?_⟩
 show(if ((46::d::ds:List UInt8).dropWhile digB|>.dropWhile ptB).dropWhile digB=[]∧(((46::d::ds:List UInt8).dropWhile digB).takeWhile ptB).length≤1∧¬((46::d::ds:List UInt8).takeWhile digB=[]∧((46::d::ds:List UInt8).dropWhile digB|>.dropWhile ptB).takeWhile digB=[]) then some (toldD ((46::d::ds:List UInt8).takeWhile digB) (((46::d::ds:List UInt8).dropWhile digB|>.dropWhile ptB).takeWhile digB)) else none)=_
 rw[e1,e2,e3,e4,h1,h2,if_pos ⟨rfl,by decide,by simp⟩,hv]
theorem num_dot (t:List UInt8)(h:0<dgs t):∃x,numW (46::t)=some x:=by
 have h0:dgs (46::t)=0:=dgs_none t (by decide)
 have hs:sizN (46::t)=1+dgs t:=by
  unfold sizN
  rw[h0]
  show 0+(if true=true then 1+dgs t else 0)=_
  rw[if_pos rfl,Nat.zero_add]
 have hm:∀b∈t.take (dgs t),digB b=true:=fun b hb=>by rw[dgs_take]at hb;exact tw_mem hb
 have hl:(t.take (dgs t)).length=dgs t:=by rw[List.length_take];exact Nat.min_eq_left (dgs_le t)
 unfold numW
 rw[hs,show 1+dgs t=dgs t+1 by omega,List.take_succ_cons]
 cases hd:t.take (dgs t) with
 |nil=>rw[hd]at hl;simp at hl;omega
 |cons d ds=>
  rw[hd]at hm
  obtain⟨v,hv⟩:=lit_dot hm
  rw[hv]
  exact⟨_,rfl⟩
theorem quote_wd {c:UInt8}(t:List UInt8)(e:Bool)(h:c=34∨c=39):wdL (c::t) e=litW (c::t):=by
 obtain⟨a,b⟩:=head_low c (by rcases h with rfl|rfl<;>decide)
 obtain⟨s1,s2,s3⟩:=signs_none (c:=c) t (by rcases h with rfl|rfl<;>decide) e
 unfold wdL
 rw[numW_none t (by rcases h with rfl|rfl<;>decide) (by rcases h with rfl|rfl<;>decide),s1,s2,s3,varW_none t (by rcases h with rfl|rfl<;>decide),nameW_none t e a b]
 cases litW (c::t)<;>rfl
theorem dig_ne {c:UInt8}(h:digB c=true):c≠34∧c≠39∧signB c=false∧c≠36∧headB c=true:=by
 have :∀n:Fin 256,digB (UInt8.ofNat n.val)=true→UInt8.ofNat n.val≠34∧UInt8.ofNat n.val≠39∧signB (UInt8.ofNat n.val)=false∧UInt8.ofNat n.val≠36∧headB (UInt8.ofNat n.val)=true:=by decide+kernel
 have h2:=this ⟨c.toNat,UInt8.toNat_lt c⟩
 rw[UInt8.ofNat_toNat]at h2
 exact h2 h
theorem digit_wd {c:UInt8}(t:List UInt8)(e:Bool)(h:digB c=true):wdL (c::t) e=numW (c::t):=by
 obtain⟨n1,n2,n3,n4,n5⟩:=dig_ne h
 obtain⟨a,b⟩:=head_low c n5
 obtain⟨s1,s2,s3⟩:=signs_none (c:=c) t n3 e
 unfold wdL
 rw[litW_none t ⟨n1,n2⟩,s1,s2,s3,varW_none t n4,nameW_none t e a b]
 cases numW (c::t)<;>rfl
theorem dot_wd (t:List UInt8)(e:Bool)(h:0<dgs t):wdL (46::t) e=numW (46::t):=by
 obtain⟨x,hx⟩:=num_dot t h
 unfold wdL
 rw[litW_none t ⟨by decide,by decide⟩,hx]
 rfl
theorem dot_no (t:List UInt8)(h:dgs t=0):numW (46::t)=none:=by
 have h0:dgs (46::t)=0:=dgs_none t (by decide)
 have hs:sizN (46::t)=1:=by
  unfold sizN
  rw[h0]
  show 0+(if true=true then 1+dgs t else 0)=_
  rw[if_pos rfl,h]
 unfold numW
 rw[hs,show(46::t).take 1=[46] from rfl]
 rfl
theorem rest_wd {c:UInt8}(t:List UInt8)(e:Bool)(h:c≠34∧c≠39)(hn:numW (c::t)=none):wdL (c::t) e=orW (signW 1 marksL (c::t)) (orW (signW 5 opsL (c::t)) (orW (signW (starK e) [[42]] (c::t)) (orW (varW (c::t)) (nameW e (c::t))))):=by
 unfold wdL
 rw[litW_none t h,hn]
 rfl
end Char
namespace Char
open Go.Lib Go.RowKit
open Go.Proofs.YtlmpkpjjakallaaGreatDoor.Fig (Nm litL digB)
def noC (p:List UInt8):Bool:=p.all fun b=>b != 41
theorem pre_c (t:List UInt8):∀(p l:List UInt8),noC p=true→p.isPrefixOf (l++41::t)=p.isPrefixOf l
 |[],l,_=>by cases l<;>rfl
 |x::p,[],h=>by
  unfold noC at h
  rw[List.all_cons,Bool.and_eq_true]at h
  have hx:x≠41:=by simpa using h.1
  simp[List.isPrefixOf,hx]
 |x::p,y::l,h=>by
  unfold noC at h
  rw[List.all_cons,Bool.and_eq_true]at h
  rw[List.cons_append,List.isPrefixOf,List.isPrefixOf,pre_c t p l h.2]
theorem pre_c2 (t p:List UInt8){l:List UInt8}(hl:l≠[])(h:(noC p||p==[41])=true):p.isPrefixOf (l++41::t)=p.isPrefixOf l:=by
 rw[Bool.or_eq_true]at h
 rcases h with h|h
 ·exact pre_c t p l h
 ·rw[beq_iff_eq]at h
  subst h
  cases l with
  |nil=>exact absurd rfl hl
  |cons y l=>simp[List.isPrefixOf]
theorem dgs_c (t l:List UInt8):dgs (l++41::t)=dgs l:=by
 unfold dgs
 rw[tw_app (.inr ⟨41,t,rfl,by decide⟩)]
theorem siz_c (t l:List UInt8):sizN (l++41::t)=sizN l:=by
 have hd:=dgs_le l
 unfold sizN
 rw[dgs_c,List.drop_append_of_le_length hd,pre_c t _ _ (by decide)]
 cases hp:([46]:List UInt8).isPrefixOf (l.drop (dgs l)) with
 |false=>rfl
 |true=>
  have h1:dgs l+1≤l.length:=by
   have :=(List.isPrefixOf_iff_prefix.1 hp).length_le
   rw[List.length_drop]at this
   simp at this
   omega
  rw[List.drop_append_of_le_length h1,dgs_c]
theorem numW_c (t l:List UInt8):numW (l++41::t)=numW l:=by
 unfold numW
 rw[siz_c,List.take_append_of_le_length (siz_le l)]
theorem signW_c (t:List UInt8)(k:Nat)(ss:List (List UInt8))(hs:(ss.all fun p=>noC p||p==[41])=true){l:List UInt8}(hl:l≠[]):signW k ss (l++41::t)=signW k ss l:=by
 unfold signW firstP
 rw[find_congr fun p hp=>pre_c2 t p hl (List.all_eq_true.1 hs p hp)]
theorem one_c (t:List UInt8){l:List UInt8}(hl:l≠[]):oneL (l++41::t)=oneL l:=by
 unfold oneL
 rw[if_neg hl,if_neg (by simp),decode_front l (41::t) hl (by rfl)]
theorem run_c0 (t:List UInt8):runL (41::t)=0:=by
 refine run_stop (.inr ?_)
 unfold oneL
 rw[if_neg (by simp),decodeL_ascii 41 t (by decide),if_neg (by decide)]
 decide
theorem run_c (t:List UInt8):∀(n:Nat) (l:List UInt8),l.length≤n→runL (l++41::t)=runL l
 |n,l,hn=>by
  by_cases hl:l=[]
  ·subst hl
   rw[List.nil_append,run_c0]
   rfl
  ·have ho:=one_c t hl
   have hlp:=List.length_pos_iff.2 hl
   by_cases h0:(oneL l).2=0∨paC ((oneL l).1:Int)=false
   ·rw[run_stop h0,run_stop (by rw[ho];exact h0)]
   ·have h1:(oneL l).2≠0:=fun h=>h0 (.inl h)
    have h2:paC ((oneL l).1:Int)=true:=by
     cases hp:paC ((oneL l).1:Int) with
     |true=>rfl
     |false=>exact absurd (.inr hp) h0
    have hle:=one_le l
    rw[run_go h1 h2,run_go (by rw[ho];exact h1) (by rw[ho];exact h2),ho,List.drop_append_of_le_length hle]
    match n,hn with
    |0,hn=>omega
    |n+1,hn=>rw[run_c t n _ (by rw[List.length_drop];omega)]
theorem runL_c (t l:List UInt8):runL (l++41::t)=runL l:=run_c t _ l (Nat.le_refl _)
theorem varW_c (t:List UInt8){l:List UInt8}(hl:l≠[]):varW (l++41::t)=varW l:=by
 have h1:1≤l.length:=List.length_pos_iff.2 hl
 unfold varW
 rw[pre_c t _ _ (by decide),List.drop_append_of_le_length h1,runL_c,List.take_append_of_le_length (run_le _ _ (Nat.le_refl _))]
theorem drop_c (t l:List UInt8):dropS (l++41::t)=dropS l++41::t:=by
 rw[dropS_app]
 split
 ·rename_i h
  rw[h,dropS_id t (by decide)]
  rfl
 ·rfl
theorem nx_c (t l:List UInt8):nxL (l++41::t)=nxL l:=by
 unfold nxL nx0
 rw[drop_c,pre_c t _ _ (by decide),pre_c t _ _ (by decide)]
theorem nameW_c (t:List UInt8)(e:Bool)(l:List UInt8):nameW e (l++41::t)=nameW e l:=by
 unfold nameW
 rw[runL_c,List.take_append_of_le_length (run_le _ _ (Nat.le_refl _)),List.drop_append_of_le_length (run_le _ _ (Nat.le_refl _)),nx_c]
theorem wd_c (t:List UInt8){l:List UInt8}{e:Bool}{w:Wd}{k:Nat}(h:wdL l e=some (w,k)):wdL (l++41::t) e=some (w,k):=by
 have hk:=wdL_len h
 cases l with
 |nil=>simp at hk;omega
 |cons c r=>
  by_cases hq:c=34∨c=39
  ·rw[quote_wd r e hq,litW_cons,if_pos hq]at h
   rw[List.cons_append,quote_wd _ e hq,litW_cons,if_pos hq]
   split at h
   ·rename_i hl
    rw[tw_cut _ (by omega),if_pos (by rw[List.length_append];omega)]
    exact h
   ·cases h
  ·have hne:c::r≠[]:=by simp
   have hq2:c≠34∧c≠39:=by rw[not_or]at hq;exact hq
   rw[←h]
   unfold wdL
   rw[numW_c,signW_c t _ _ (by decide) hne,signW_c t _ _ (by decide) hne,signW_c t _ _ (by decide) hne,varW_c t hne,nameW_c,List.cons_append,litW_none _ hq2,litW_none _ hq2]
theorem lex_c (t:List UInt8):∀(ws:List Wd) (x:List UInt8) (e:Bool) (n:Nat),lexG (dropS x) e n= .inr ws→∀m,m≤120→
 lexG (dropS (x++41::t)) e m=if m+ws.length≤120 then appW ws (lexG (41::t) (lastE e ws) (m+ws.length)) else .inl 3
 |[],x,e,n,h,m,hm=>by
  have h0:=lexG_end h
  rw[drop_c,h0,if_pos (by simpa using hm)]
  show _=appW [] _
  rw[appW_nil]
  rfl
 |w::ws,x,e,n,h,m,hm=>by
  obtain⟨h0,h1,k,h2,h3⟩:=lexG_inv h
  have hk:=wdL_len h2
  rw[drop_c]
  have hw:=wd_c t h2
  have hne:dropS x++41::t≠[]:=by simp
  by_cases hm2:m=120
  ·subst hm2
   rw[lexG_full hne hw,if_neg (by rw[List.length_cons];omega)]
  ·rw[lexG_some hne hw hm2,List.drop_append_of_le_length hk.2,lex_c t ws _ _ _ h3 (m+1) (by omega),List.length_cons]
   by_cases hc:m+1+ws.length≤120
   ·rw[if_pos hc,if_pos (by omega),appW_app,show m+(ws.length+1)=m+1+ws.length by omega]
    rfl
   ·rw[if_neg hc,if_neg (by omega)]
    rfl
def opW:Wd:=⟨1,[40],.num 0⟩
def clW:Wd:=⟨1,[41],.num 0⟩
def plW:Wd:=⟨5,[43],.num 0⟩
theorem sign_first {k:Nat}{ss:List (List UInt8)}{l p:List UInt8}(h:firstP ss l=some p):signW k ss l=some (⟨k,p,.num 0⟩,p.length):=by
 unfold signW
 rw[h]
 rfl
theorem wd_mark (l:List UInt8)(e:Bool)(c:UInt8)(hc:c=40∨c=41):wdL (c::l) e=some (⟨1,[c],.num 0⟩,1):=by
 unfold wdL
 have h1:firstP marksL (c::l)=some [c]:=by
  rcases hc with rfl|rfl<;>rfl
 rw[litW_none l (by rcases hc with rfl|rfl<;>decide),numW_none l (by rcases hc with rfl|rfl<;>decide) (by rcases hc with rfl|rfl<;>decide),sign_first h1]
 rfl
theorem wd_plus (l:List UInt8)(e:Bool):wdL (43::l) e=some (plW,1):=by
 unfold wdL
 have h0:firstP marksL (43::l)=none:=by rfl
 have h1:firstP opsL (43::l)=some [43]:=by rfl
 have h2:signW 1 marksL (43::l)=none:=by unfold signW;rw[h0];rfl
 rw[litW_none l (by decide),numW_none l (by decide) (by decide),h2,sign_first h1]
 rfl
theorem lex_op (l:List UInt8)(e:Bool){n:Nat}(hn:n≠120):lexG (40::l) e n=appW [opW] (lexG (dropS l) false (n+1)):=by
 rw[lexG_some (by simp) (wd_mark l e 40 (.inl rfl)) hn]
 rfl
theorem lex_op3 (l:List UInt8)(e:Bool):lexG (40::l) e 120= .inl 3:=lexG_full (by simp) (wd_mark l e 40 (.inl rfl))
theorem lex_cl (l:List UInt8)(e:Bool){n:Nat}(hn:n≠120):lexG (41::l) e n=appW [clW] (lexG (dropS l) true (n+1)):=by
 rw[lexG_some (by simp) (wd_mark l e 41 (.inr rfl)) hn]
 rfl
theorem lex_cl3 (l:List UInt8)(e:Bool):lexG (41::l) e 120= .inl 3:=lexG_full (by simp) (wd_mark l e 41 (.inr rfl))
theorem lex_pl (l:List UInt8)(e:Bool){n:Nat}(hn:n≠120):lexG (43::l) e n=appW [plW] (lexG (dropS l) false (n+1)):=by
 rw[lexG_some (by simp) (wd_plus l e) hn]
 rfl
theorem lex_pl3 (l:List UInt8)(e:Bool):lexG (43::l) e 120= .inl 3:=lexG_full (by simp) (wd_plus l e)
def LexIs (r:Nat ⊕ List Wd)(ws:List Wd):Prop:=r= .inl 3∨r= .inr ws
theorem LexIs.app {r:Nat ⊕ List Wd}{ws:List Wd}(h:LexIs r ws)(vs:List Wd):LexIs (appW vs r) (vs++ws):=by
 rcases h with rfl|rfl
 ·exact .inl rfl
 ·exact .inr rfl
theorem lexIs_in {s t:List UInt8}{ws vs:List Wd}(h:lexG (dropS s) false 0= .inr ws)(ht:∀n,n≤120→LexIs (lexG (dropS t) true n) vs)(e:Bool)(n:Nat)(hn:n≤120):
 LexIs (lexG (40::(s++41::t)) e n) (opW::(ws++clW::vs)):=by
 by_cases h0:n=120
 ·subst h0
  exact .inl (lex_op3 _ _)
 ·rw[lex_op _ e h0,lex_c t ws s false 0 h (n+1) (by omega)]
  refine LexIs.app (vs:=[opW]) ?_
  by_cases hc:n+1+ws.length≤120
  ·rw[if_pos hc]
   show LexIs _ (ws++clW::vs)
   refine LexIs.app ?_ ws
   by_cases h1:n+1+ws.length=120
   ·rw[h1]
    exact .inl (lex_cl3 _ _)
   ·rw[lex_cl _ _ h1]
    exact LexIs.app (vs:=[clW]) (ht _ (by omega))
  ·rw[if_neg hc]
   exact .inl rfl
theorem lexIs_nil (n:Nat):LexIs (lexG (dropS []) true n) []:= .inr rfl
theorem lexIs_plus {t:List UInt8}{vs:List Wd}(ht:∀n,n≤120→LexIs (lexG (40::t) false n) vs)(n:Nat)(hn:n≤120):LexIs (lexG (dropS (32::43::32::40::t)) true n) (plW::vs):=by
 rw[drop32,dropS_id _ (by decide)]
 by_cases h0:n=120
 ·subst h0
  exact .inl (lex_pl3 _ _)
 ·rw[lex_pl _ _ h0,drop32,dropS_id _ (by decide)]
  exact LexIs.app (vs:=[plW]) (ht _ (by omega))
theorem lexL_in {s:List UInt8}{ws:List Wd}(h:lexL s= .inr ws):s.length≤400∧txD s=true∧lexG (dropS s) false 0= .inr ws:=by
 unfold lexL at h
 split at h
 ·cases h
 ·split at h
  ·cases h
  ·rename_i h1 h2
   exact⟨by omega,by simpa using h2,h⟩
theorem lexL_of {s:List UInt8}(h1:s.length≤400)(h2:txD s=true):lexL s=lexG (dropS s) false 0:=by
 unfold lexL
 rw[if_neg (by omega),if_neg (by rw[h2];decide)]
theorem lex_brack {s:List UInt8}{ws:List Wd}(h:lexL s= .inr ws)(hl:s.length≤190):LexIs (lexL (40::(s++[41]))) (opW::(ws++[clW])):=by
 obtain⟨h1,h2,h3⟩:=lexL_in h
 rw[lexL_of (by simp;omega) (by
  rw[tx_ascii _ _ (by decide),tx_more s [41] h2]
  rfl),dropS_id _ (by decide)]
 exact lexIs_in h3 (fun n _=>lexIs_nil n) false 0 (by omega)
theorem lex_sum {s t:List UInt8}{ws vs:List Wd}(h:lexL s= .inr ws)(hl:s.length≤190)(k:lexL t= .inr vs)(kl:t.length≤190):
 LexIs (lexL (40::(s++41::32::43::32::40::(t++[41])))) (opW::(ws++clW::plW::opW::(vs++[clW]))):=by
 obtain⟨h1,h2,h3⟩:=lexL_in h
 obtain⟨k1,k2,k3⟩:=lexL_in k
 rw[lexL_of (by simp;omega) (by
  rw[tx_ascii _ _ (by decide),tx_more s _ h2,tx_ascii _ _ (by decide),tx_ascii _ _ (by decide),tx_ascii _ _ (by decide),tx_ascii _ _ (by decide),tx_ascii _ _ (by decide),tx_more t _ k2]
  rfl),dropS_id _ (by decide)]
 exact lexIs_in h3 (fun n hn=>lexIs_plus (fun m hm=>lexIs_in k3 (fun n _=>lexIs_nil n) false m hm) n hn) false 0 (by omega)
end Char
namespace Char
open Go.RowKit Go.Lib
def deepS (n:Nat)(x:Wd):Nat:=if x.k=1 then (if x.s=[40]∨x.s=[91] then n+1 else if x.s=[41]∨x.s=[93] then n-1 else n) else n
def deepF:Nat→List Wd→Bool
 |_,[]=>false
 |n,x::r=>if 12<deepS n x then true else deepF (deepS n x) r
def deepL (ts:List Wd):Bool:=deepF 0 ts
theorem deepF_cons (n:Nat)(x:Wd)(r:List Wd):deepF n (x::r)=if 12<deepS n x then true else deepF (deepS n x) r:=rfl
set_option maxRecDepth 100000 in
set_option maxHeartbeats 8000000 in
theorem deep_any (B:Nat)(v:Value)(ts:List Wd)(w:World)(ho:OwnsWd B w v ts)(hl:ts.length≤1000):
 Calls Tryz.prog 27 #[v] w fun e w'=>e= .returned (.bool (deepL ts))∧Below w.heap.size w w':=by
 obtain⟨o,j,rfl⟩:=ho.form
 obtain⟨G,hG⟩:∃G,deepL ts=G:=⟨_,rfl⟩
 rw[hG]
 have HG:=Lib.hid hG
 have HO:=Lib.hid ho
 clear hG ho
 go_enter Tryz.func27,Tryz.ntmps27
 go_wp2_with fail
 go_loopw [3,8] (fun v3 v8 wr=>∃(n k:Nat),v3= .int .i64 (n:Int)∧v8= .int .i64 (k:Int)∧n≤12∧k≤ts.length∧Hid (deepF n (ts.drop k)=G∧Below w.heap.size w wr)) (fun _ v8 _=>ts.length-(RowKit.intOf v8).toNat)
 case atStart=>exact⟨0,0,rfl,rfl,by omega,Nat.zero_le _,Lib.hid ⟨HG.out,Below.refl _ _⟩⟩
 case round=>
  clear HG
  obtain⟨n,k,rfl,rfl,hn,hk,HI⟩:=hrel
  by_cases hlt:k<ts.length
  ·obtain⟨g,rfl,hg,x0,x1,x2,x3⟩:=(HO.out.below HI.out.2).reads k hlt
   have k0:decide ((k:Int)<(ts.length:Int))=true:=decide_eq_true (by omega)
   have hz0:(0:Int)≤(k:Int):=by omega
   have hz1:(k:Int)<(ts.length:Int):=by omega
   have hg2:=HI.out.1
   rw[List.drop_eq_getElem_cons hlt,deepF_cons]at hg2
   have HLT:=Lib.hid hlt
   generalize ts[k]=x at *
   have HB:=Lib.hid fun(o:Obj)=>HI.out.2.trans ((below_box (w:=wr) o).mono HI.out.2.size)
   clear hlt
   by_cases h1:x.k=1
   ·have k1:((x.k:Int) != 1)=false:=by rw[h1];rfl
    have hms:x.s=[40]∨x.s=[91]∨x.s=[41]∨x.s=[93]∨¬(x.s=[40]∨x.s=[91]∨x.s=[41]∨x.s=[93]):=by by_cases x.s=[40]∨x.s=[91]∨x.s=[41]∨x.s=[93]<;>simp_all
    rcases hms with e|e|e|e|e
    ·have s0:((bs x.s).toList==[40])=true:=by rw[bs_tl,e];rfl
     have hs:deepS n x=n+1:=by unfold deepS;rw[if_pos h1,if_pos (by rw[e];simp)]
     rw[hs]at hg2
     by_cases h12:n=12
     ·rw[if_pos (by omega)]at hg2
      have HGE:=Lib.hid hg2
      subst h12
      clear hs hg2 h1 e
      generalize (x.k:Int)=c0 at *
      generalize bs x.s=S at *
      go_wp2_with fail
      go_ret
      exact⟨by rw[←HGE.out];rfl,HB.out _⟩
     rw[if_neg (by omega)]at hg2
     have k12:decide ((12:Int)<(n:Int)+1)=false:=decide_eq_false (by omega)
     have HGE:=Lib.hid hg2
     clear hs hg2 h1 e
     generalize (x.k:Int)=c0 at *
     generalize bs x.s=S at *
     go_wp2_with fail
     go_roundw
     case rel=>exact⟨n+1,k+1,by go_num,by go_num,by omega,HLT.out,Lib.hid ⟨HGE.out,HB.out _⟩⟩
     case measure=>
      have :=HLT.out
      simp[RowKit.intOf]
      omega
    ·have s0:((bs x.s).toList==[40])=false:=by rw[bs_tl,beq_eq_false_iff_ne];rw[e];decide
     have s1:((bs x.s).toList==[91])=true:=by rw[bs_tl,e];rfl
     have hs:deepS n x=n+1:=by unfold deepS;rw[if_pos h1,if_pos (by rw[e];simp)]
     rw[hs]at hg2
     by_cases h12:n=12
     ·rw[if_pos (by omega)]at hg2
      have HGE:=Lib.hid hg2
      subst h12
      clear hs hg2 h1 e
      generalize (x.k:Int)=c0 at *
      generalize bs x.s=S at *
      go_wp2_with fail
      go_ret
      exact⟨by rw[←HGE.out];rfl,HB.out _⟩
     rw[if_neg (by omega)]at hg2
     have k12:decide ((12:Int)<(n:Int)+1)=false:=decide_eq_false (by omega)
     have HGE:=Lib.hid hg2
     clear hs hg2 h1 e
     generalize (x.k:Int)=c0 at *
     generalize bs x.s=S at *
     go_wp2_with fail
     go_roundw
     case rel=>exact⟨n+1,k+1,by go_num,by go_num,by omega,HLT.out,Lib.hid ⟨HGE.out,HB.out _⟩⟩
     case measure=>
      have :=HLT.out
      simp[RowKit.intOf]
      omega
    ·have s0:((bs x.s).toList==[40])=false:=by rw[bs_tl,beq_eq_false_iff_ne];rw[e];decide
     have s1:((bs x.s).toList==[91])=false:=by rw[bs_tl,beq_eq_false_iff_ne];rw[e];decide
     have s2:((bs x.s).toList==[41])=true:=by rw[bs_tl,e];rfl
     have hs:deepS n x=n-1:=by unfold deepS;rw[if_pos h1,if_neg (by rw[e];decide),if_pos (by rw[e];simp)]
     rw[hs,if_neg (by omega)]at hg2
     cases n with
     |zero=>
      have HGE:=Lib.hid hg2
      clear hs hg2 h1 e
      generalize (x.k:Int)=c0 at *
      generalize bs x.s=S at *
      go_wp2_with fail
      go_roundw
      case rel=>exact⟨0,k+1,by go_num,by go_num,by omega,HLT.out,Lib.hid ⟨HGE.out,HB.out _⟩⟩
      case measure=>
       have :=HLT.out
       simp[RowKit.intOf]
       omega
     |succ n=>
      have k13:max (((n+1:Nat):Int)-1) 0=(n:Int):=by omega
      have k14:decide ((12:Int)<(n:Int))=false:=decide_eq_false (by omega)
      have HGE:=Lib.hid hg2
      clear hs hg2 h1 e
      generalize (x.k:Int)=c0 at *
      generalize bs x.s=S at *
      go_wp2_with fail
      go_roundw
      case rel=>exact⟨n,k+1,by go_num,by go_num,by omega,HLT.out,Lib.hid ⟨HGE.out,HB.out _⟩⟩
      case measure=>
       have :=HLT.out
       simp[RowKit.intOf]
       omega
    ·have s0:((bs x.s).toList==[40])=false:=by rw[bs_tl,beq_eq_false_iff_ne];rw[e];decide
     have s1:((bs x.s).toList==[91])=false:=by rw[bs_tl,beq_eq_false_iff_ne];rw[e];decide
     have s2:((bs x.s).toList==[41])=false:=by rw[bs_tl,beq_eq_false_iff_ne];rw[e];decide
     have s3:((bs x.s).toList==[93])=true:=by rw[bs_tl,e];rfl
     have hs:deepS n x=n-1:=by unfold deepS;rw[if_pos h1,if_neg (by rw[e];decide),if_pos (by rw[e];simp)]
     rw[hs,if_neg (by omega)]at hg2
     cases n with
     |zero=>
      have HGE:=Lib.hid hg2
      clear hs hg2 h1 e
      generalize (x.k:Int)=c0 at *
      generalize bs x.s=S at *
      go_wp2_with fail
      go_roundw
      case rel=>exact⟨0,k+1,by go_num,by go_num,by omega,HLT.out,Lib.hid ⟨HGE.out,HB.out _⟩⟩
      case measure=>
       have :=HLT.out
       simp[RowKit.intOf]
       omega
     |succ n=>
      have k13:max (((n+1:Nat):Int)-1) 0=(n:Int):=by omega
      have k14:decide ((12:Int)<(n:Int))=false:=decide_eq_false (by omega)
      have HGE:=Lib.hid hg2
      clear hs hg2 h1 e
      generalize (x.k:Int)=c0 at *
      generalize bs x.s=S at *
      go_wp2_with fail
      go_roundw
      case rel=>exact⟨n,k+1,by go_num,by go_num,by omega,HLT.out,Lib.hid ⟨HGE.out,HB.out _⟩⟩
      case measure=>
       have :=HLT.out
       simp[RowKit.intOf]
       omega
    ·have s0:((bs x.s).toList==[40])=false:=by rw[bs_tl,beq_eq_false_iff_ne];exact fun hh=>e (by rw[hh];simp)
     have s1:((bs x.s).toList==[91])=false:=by rw[bs_tl,beq_eq_false_iff_ne];exact fun hh=>e (by rw[hh];simp)
     have s2:((bs x.s).toList==[41])=false:=by rw[bs_tl,beq_eq_false_iff_ne];exact fun hh=>e (by rw[hh];simp)
     have s3:((bs x.s).toList==[93])=false:=by rw[bs_tl,beq_eq_false_iff_ne];exact fun hh=>e (by rw[hh];simp)
     have hs:deepS n x=n:=by unfold deepS;rw[if_pos h1,if_neg (fun hh=>e (by rcases hh with hh|hh<;>simp[hh])),if_neg (fun hh=>e (by rcases hh with hh|hh<;>simp[hh]))]
     rw[hs,if_neg (by omega)]at hg2
     have k14:decide ((12:Int)<(n:Int))=false:=decide_eq_false (by omega)
     have HGE:=Lib.hid hg2
     clear hs hg2 h1 e
     generalize (x.k:Int)=c0 at *
     generalize bs x.s=S at *
     go_wp2_with fail
     go_roundw
     case rel=>exact⟨n,k+1,by go_num,by go_num,by omega,HLT.out,Lib.hid ⟨HGE.out,HB.out _⟩⟩
     case measure=>
      have :=HLT.out
      simp[RowKit.intOf]
      omega
   ·have k1:((x.k:Int) != 1)=true:=by rw[bne_iff_ne];omega
    have hs:deepS n x=n:=by unfold deepS;rw[if_neg h1]
    rw[hs,if_neg (by omega)]at hg2
    have HGE:=Lib.hid hg2
    clear hs hg2 h1
    generalize (x.k:Int)=c0 at *
    go_wp2_with fail
    go_roundw
    case rel=>exact⟨n,k+1,rfl,by go_num,hn,HLT.out,Lib.hid ⟨HGE.out,HB.out _⟩⟩
    case measure=>
     have :=HLT.out
     simp[RowKit.intOf]
     omega
  ·have e:k=ts.length:=by omega
   subst e
   have hg2:=HI.out.1
   rw[List.drop_length]at hg2
   have HGE:=Lib.hid hg2
   have k0:decide ((ts.length:Int)<(ts.length:Int))=false:=decide_eq_false (by omega)
   clear hg2 hlt
   go_wp2_with fail
   go_ret
   exact⟨by rw[←HGE.out];rfl,HI.out.2⟩
end Char
end Go.Proofs.YtlmpkpjjakallaaGreatDoor
