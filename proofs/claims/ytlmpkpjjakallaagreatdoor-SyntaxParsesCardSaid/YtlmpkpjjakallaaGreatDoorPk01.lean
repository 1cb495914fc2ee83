import Derived.Test.YtlmpkpjjakallaaGreatDoorPk00
import Derived.Lib.MapLaws
import Derived.Shelf.GgClosure.StringsTrimFunc
import Derived.ProofKit
namespace Go.Proofs.YtlmpkpjjakallaaGreatDoor
namespace Char
open Go.Lib
def txL (l:List UInt8):Bool:=validD l&&allR isC l
theorem txL_step (l:List UInt8)(hne:l≠[]):txL l=if (decodeL l).1=65533∧(decodeL l).2=1 then false else isC ((decodeL l).1:Int)&&txL (l.drop (decodeL l).2):=by
 unfold txL
 rw[validD_step l hne,allR_step isC l hne]
 split
 ·rfl
 ·cases isC ((decodeL l).1:Int)<;>simp
theorem txL_ascii (b:UInt8)(t:List UInt8)(h:b.toNat<128):txL (b::t)=(isC (b.toNat:Int)&&txL t):=by
 rw[txL_step _ (by simp),decodeL_ascii b t h,if_neg (by rintro⟨h1,_⟩;dsimp only at h1;omega)]
 rfl
theorem dec_same (n n' b0 b1 b2 b3 c1 c2 c3:Nat)(h1:(1<n∧b1/64=2)↔(1<n'∧c1/64=2))(e1:(1<n∧b1/64=2)→b1=c1)
 (h2:(1<n∧b1/64=2)→((2<n∧b2/64=2)↔(2<n'∧c2/64=2))) (e2:(1<n∧b1/64=2)→(2<n∧b2/64=2)→b2=c2)
 (h3:(1<n∧b1/64=2)→(2<n∧b2/64=2)→((3<n∧b3/64=2)↔(3<n'∧c3/64=2))) (e3:(1<n∧b1/64=2)→(2<n∧b2/64=2)→(3<n∧b3/64=2)→b3=c3):
 decodeN n' b0 c1 c2 c3=decodeN n b0 b1 b2 b3:=by
 by_cases a1:1<n∧b1/64=2
 ·have x1:=h1.1 a1
  obtain rfl:=e1 a1
  by_cases a2:2<n∧b2/64=2
  ·have x2:=(h2 a1).1 a2
   obtain rfl:=e2 a1 a2
   by_cases a3:3<n∧b3/64=2
   ·have x3:=(h3 a1 a2).1 a3
    obtain rfl:=e3 a1 a2 a3
    simp only[decodeN,a1.1,a1.2,x1.1,a2.1,a2.2,x2.1,a3.1,a3.2,x3.1]
   ·have x3:=mt (h3 a1 a2).2 a3
    simp only[decodeN,a1.1,a1.2,x1.1,a2.1,a2.2,x2.1,a3,x3,and_false,if_false]
  ·have x2:=mt (h2 a1).2 a2
   simp only[decodeN,a1.1,a1.2,x1.1,a2,x2,and_false,false_and,if_false]
 ·have x1:=mt h1.2 a1
  simp only[decodeN,a1,x1,and_false,false_and,if_false]
end Char
namespace Char
open Go.Lib
theorem tx_eq (l:List UInt8):txD l=txL l:=rfl
def asc0:List UInt8→Bool
 |[]=>true
 |b::_=>decide (b.toNat<128)
theorem getD_app {a b:List UInt8}{j:Nat}(h:j<a.length):(a++b).getD j 0=a.getD j 0:=by simp[List.getD,List.getElem?_append_left h]
theorem getD_seam {a b:List UInt8}(hb:asc0 b=true):¬(a.length<(a++b).length∧((a++b).getD a.length 0).toNat/64=2):=by
 cases b with
 |nil=>simp
 |cons c r=>
  have :((a++c::r).getD a.length 0)=c:=by simp[List.getD]
  rw[this]
  have h:c.toNat<128:=by simpa [asc0] using hb
  omega
theorem decode_front (a b:List UInt8)(hne:a≠[])(hb:asc0 b=true):decodeL (a++b)=decodeL a:=by
 have hl:0<a.length:=List.length_pos_iff.2 hne
 have hs:=getD_seam (a:=a) hb
 rw[decodeL_N,decodeL_N,getD_app hl]
 have hlen:(a++b).length=a.length+b.length:=by simp
 have key:∀j,j≤a.length→((j<a.length∧(a.getD j 0).toNat/64=2)↔(j<(a++b).length∧((a++b).getD j 0).toNat/64=2)):=by
  intro j hj
  rcases Nat.lt_or_ge j a.length with h|h
  ·rw[getD_app h]
   constructor
   ·rintro⟨_,h2⟩;exact⟨by omega,h2⟩
   ·rintro⟨_,h2⟩;exact⟨h,h2⟩
  ·have e:j=a.length:=by omega
   subst e
   constructor
   ·rintro⟨h1,_⟩;omega
   ·intro h1;exact absurd h1 hs
 have eqv:∀j,(j<a.length∧(a.getD j 0).toNat/64=2)→(a.getD j 0).toNat=((a++b).getD j 0).toNat:=fun j h=>by rw[getD_app h.1]
 exact dec_same _ _ _ _ _ _ _ _ _ (key 1 (by omega)) (eqv 1) (fun h1=>key 2 (by omega)) (fun _=>eqv 2) (fun _ h2=>key 3 (by omega)) (fun _ _=>eqv 3)
theorem tx_split:∀(n:Nat) (a b:List UInt8),a.length≤n→asc0 b=true→txD (a++b)=(txD a&&txD b)
 |0,a,b,h,_=>by
  obtain rfl:a=[]:=List.eq_nil_of_length_eq_zero (by omega)
  rfl
 |n+1,a,b,h,hb=>by
  by_cases hne:a=[]
  ·subst hne;rfl
  ·have hw:=decodeL_width a
   have hle:=decodeL_le a hne
   rw[tx_eq,tx_eq a,txL_step (a++b) (by simp[hne]),txL_step a hne,decode_front a b hne hb]
   split
   ·rfl
   ·rw[List.drop_append_of_le_length hle,←tx_eq,tx_split n _ b (by rw[List.length_drop];omega) hb,Bool.and_assoc]
    rfl
theorem tx_more (a b:List UInt8)(h:txD a=true):txD (a++b)=txD b:=by
 unfold txD at h ⊢
 rw[Bool.and_eq_true]at h
 rw[validD_more _ a b (Nat.le_refl _) h.1,allR_more isC _ a b (Nat.le_refl _) h.1,h.2]
 rfl
theorem tx_ascii (b:UInt8)(t:List UInt8)(h:b.toNat<128):txD (b::t)=(isC (b.toNat:Int)&&txD t):=txL_ascii b t h
theorem tx_behind:∀(m r:List UInt8),m.all (fun b=>decide (b.toNat<128))=true→txD (m++r)=true→txD r=true
 |[],_,_,h=>h
 |b::m,r,ha,h=>by
  rw[List.all_cons,Bool.and_eq_true,decide_eq_true_eq]at ha
  rw[List.cons_append,tx_ascii b _ ha.1,Bool.and_eq_true]at h
  exact tx_behind m r ha.2 h.2
theorem pre_split {m l:List UInt8}(h:m.isPrefixOf l=true):m++l.drop m.length=l:=by
 obtain⟨t,rfl⟩:=List.isPrefixOf_iff_prefix.1 h
 simp
theorem tx_take {m l:List UInt8}(ha:m.all (fun b=>decide (b.toNat<128))=true)(h:m.isPrefixOf l=true)(ht:txD l=true):txD (l.drop m.length)=true:=by
 rw[←pre_split h]at ht
 exact tx_behind m _ ha ht
def tlN (p:Nat→Bool):Nat→List UInt8→Nat
 |0,_=>0
 |n+1,l=>if l=[] then 0 else if p (decodeL l).1 then (decodeL l).2+tlN p n (l.drop (decodeL l).2) else 0
theorem tl_from (p:Nat→Bool)(s:ByteArray):∀(f pos:Nat),s.size≤pos+f→pos≤s.size→(if idxFuncFrom p false s f pos= -1 then s.size else (idxFuncFrom p false s f pos).toNat)=pos+tlN p f (s.data.toList.drop pos)
 |0,pos,h,hp=>by
  have :pos=s.size:=by omega
  subst this
  rfl
 |f+1,pos,h,hp=>by
  by_cases hlt:pos<s.size
  ·have hw:=decodeL_width (s.data.toList.drop pos)
   have hne:=drop_ne s pos hlt
   have hle:=decodeL_le _ hne
   rw[List.length_drop,size_list]at hle
   unfold idxFuncFrom tlN
   rw[if_pos hlt,if_neg hne,decode_drop]
   cases hpp:p (decodeL (s.data.toList.drop pos)).1 with
   |false=>simp
   |true=>
    have ih:=tl_from p s f (pos+(decodeL (s.data.toList.drop pos)).2) (by omega) (by omega)
    simp only[Bool.true_eq_false,if_false,if_true]
    rw[ih,List.drop_drop]
    omega
  ·have :pos=s.size:=by omega
   subst this
   rw[idxFuncFrom_end p false s _ _ hlt,if_pos rfl]
   unfold tlN
   rw[if_pos (drop_end s s.size hlt)]
   omega
def tlL (p:Nat→Bool)(l:List UInt8):Nat:=tlN p l.length l
theorem trimLeft_eq (p:Nat→Bool)(s:ByteArray):(trimLeftF p s).data.toList=s.data.toList.drop (tlL p s.data.toList):=by
 have h:=tl_from p s s.size 0 (by omega) (Nat.zero_le _)
 rw[Nat.zero_add,List.drop_zero]at h
 have e:tlL p s.data.toList=tlN p s.size s.data.toList:=by unfold tlL;rw[size_list]
 rw[e,←h]
 unfold trimLeftF
 change _=List.drop (if idxFunc p false s= -1 then _ else _) _
 split
 ·rw[List.drop_eq_nil_of_le (by rw[size_list];exact Nat.le_refl _)]
 ·rw[extract_data]
  exact List.take_of_length_le (by rw[List.length_drop,size_list];exact Nat.le_refl _)
theorem tlN_fuel (p:Nat→Bool):∀(n m:Nat) (l:List UInt8),l.length≤n→l.length≤m→tlN p n l=tlN p m l
 |0,0,_,_,_=>rfl
 |0,m+1,l,hn,_=>by
  obtain rfl:l=[]:=List.eq_nil_of_length_eq_zero (by omega)
  rfl
 |n+1,0,l,_,hm=>by
  obtain rfl:l=[]:=List.eq_nil_of_length_eq_zero (by omega)
  rfl
 |n+1,m+1,l,hn,hm=>by
  unfold tlN
  split
  ·rfl
  ·have :=decodeL_width l
   rw[tlN_fuel p n m _ (by rw[List.length_drop];omega) (by rw[List.length_drop];omega)]
theorem tl_step (p:Nat→Bool)(l:List UInt8)(hne:l≠[]):tlL p l=if p (decodeL l).1 then (decodeL l).2+tlL p (l.drop (decodeL l).2) else 0:=by
 have hl:0<l.length:=List.length_pos_iff.2 hne
 have hw:=decodeL_width l
 obtain⟨n,hn⟩:∃n,l.length=n+1:=⟨l.length-1,by omega⟩
 unfold tlL
 rw[hn]
 conv=>lhs;unfold tlN
 rw[if_neg hne,tlN_fuel p n (l.drop (decodeL l).2).length _ (by rw[List.length_drop];omega) (Nat.le_refl _)]
theorem tx_step {l:List UInt8}(hne:l≠[])(h:txD l=true):¬((decodeL l).1=65533∧(decodeL l).2=1)∧isC ((decodeL l).1:Int)=true∧txD (l.drop (decodeL l).2)=true:=by
 rw[tx_eq,txL_step l hne]at h
 split at h
 ·cases h
 ·rename_i hb
  rw[Bool.and_eq_true]at h
  exact⟨hb,h.1,h.2⟩
theorem run_tl:∀(n:Nat) (l:List UInt8),l.length≤n→txD l=true→runL l=tlL (fun r=>paC (r:Int)) l
 |n,l,hn,h=>by
  by_cases hne:l=[]
  ·subst hne;rfl
  ·have hw:=decodeL_width l
   have hl:0<l.length:=List.length_pos_iff.2 hne
   obtain⟨h1,h2,h3⟩:=tx_step hne h
   have ho:oneL l=decodeL l:=by
    unfold oneL
    rw[if_neg hne,if_neg h1]
   rw[tl_step _ l hne]
   split
   ·rename_i hp
    rw[run_go (by rw[ho];omega) (by rw[ho];exact hp),ho]
    match n,hn with
    |0,hn=>omega
    |n+1,hn=>rw[run_tl n _ (by rw[List.length_drop];omega) h3]
   ·rename_i hp
    exact run_stop (.inr (by rw[ho];simpa using hp))
theorem spc_tl:∀l:List UInt8,spcL l=tlL (fun r=>spC (r:Int)) l
 |[]=>rfl
 |b::t=>by
  rw[tl_step _ (b::t) (by simp),spc_cons]
  by_cases hb:b.toNat<128
  ·rw[decodeL_ascii b t hb]
   show _=if spC (b.toNat:Int)=true then 1+tlL _ t else 0
   rw[spc_tl t]
   split
   ·omega
   ·rfl
  ·have h1:=decodeL_high b t hb
   rw[spC_high (b.toNat:Int) (by omega)]
   show _=if spC ((decodeL (b::t)).1:Int)=true then _ else 0
   rw[spC_high _ (by omega)]
   rfl
end Char
namespace Fig
def val:List Nat→Nat
 |[]=>0
 |d::l=>d+10*val l
def dgN:Nat→Nat→List Nat
 |0,_=>[]
 |f+1,n=>if n=0 then [] else n%10::dgN f (n/10)
def dg (n:Nat):List Nat:=dgN n n
theorem dgN_zero:∀f,dgN f 0=[]
 |0=>rfl
 |_+1=>by simp[dgN]
theorem dgN_fuel:∀(f g n:Nat),n≤f→n≤g→dgN f n=dgN g n
 |0,g,n,h,_=>by
  obtain rfl:n=0:=by omega
  rw[dgN_zero,dgN_zero]
 |f+1,0,n,_,h=>by
  obtain rfl:n=0:=by omega
  rw[dgN_zero,dgN_zero]
 |f+1,g+1,n,h1,h2=>by
  unfold dgN
  by_cases h:n=0
  ·rw[if_pos h,if_pos h]
  ·rw[if_neg h,if_neg h,dgN_fuel f g (n/10) (by omega) (by omega)]
theorem dg_zero:dg 0=[]:=rfl
theorem dg_step (n:Nat)(h:n≠0):dg n=n%10::dg (n/10):=by
 obtain⟨m,rfl⟩:∃m,n=m+1:=⟨n-1,by omega⟩
 show dgN (m+1) (m+1)=_
 unfold dgN
 rw[if_neg h]
 show _=_::dgN _ _
 rw[dgN_fuel m ((m+1)/10) _ (by omega) (by omega)]
theorem val_dg (n:Nat):val (dg n)=n:=by
 induction n using Nat.strongRecOn with
 |_ n ih=>
  by_cases h:n=0
  ·subst h;rfl
  ·rw[dg_step n h,val,ih (n/10) (by omega)]
   omega
theorem dg_lt (n:Nat):∀d∈dg n,d<10:=by
 induction n using Nat.strongRecOn with
 |_ n ih=>
  intro d hd
  by_cases h:n=0
  ·subst h;cases hd
  ·rw[dg_step n h]at hd
   rcases List.mem_cons.1 hd with rfl|hd
   ·exact Nat.mod_lt _ (by omega)
   ·exact ih (n/10) (by omega) d hd
theorem dg_getD:∀(k n:Nat),(dg n).getD k 0=n/10^k%10
 |0,n=>by
  by_cases h:n=0
  ·subst h;rfl
  ·rw[dg_step n h];simp
 |k+1,n=>by
  by_cases h:n=0
  ·subst h;simp[dg_zero]
  ·have e:n/10^(k+1)=n/10/10^k:=by rw[Nat.pow_succ',Nat.div_div_eq_div_mul]
   rw[dg_step n h,e,←dg_getD k (n/10)]
   rfl
theorem dg_len_lt (n:Nat):n<10^(dg n).length:=by
 induction n using Nat.strongRecOn with
 |_ n ih=>
  by_cases h:n=0
  ·subst h;simp[dg_zero]
  ·have :=ih (n/10) (by omega)
   rw[dg_step n h,List.length_cons,Nat.pow_succ]
   omega
theorem dg_len_le (n:Nat):∀k,n<10^k→(dg n).length≤k:=by
 induction n using Nat.strongRecOn with
 |_ n ih=>
  intro k hk
  by_cases h:n=0
  ·subst h;simp[dg_zero]
  ·match k,hk with
   |0,hk=>simp at hk;omega
   |k+1,hk=>
    rw[Nat.pow_succ]at hk
    have :=ih (n/10) (by omega) k (by omega)
    rw[dg_step n h,List.length_cons]
    omega
theorem dg_len_below (a b:Nat)(h:(dg a).length<(dg b).length):a<b:=by
 have h1:=dg_len_lt a
 rcases Nat.lt_or_ge a b with h2|h2
 ·exact h2
 ·have :=dg_len_le b (dg a).length (by omega)
  omega
theorem val_append:∀a b:List Nat,val (a++b)=val a+10^a.length*val b
 |[],b=>by simp[val]
 |d::a,b=>by
  rw[List.cons_append,val,val,val_append a b,List.length_cons,Nat.pow_succ']
  rw[Nat.mul_assoc 10]
  omega
theorem val_snoc (a:List Nat)(d:Nat):val (a++[d])=val a+10^a.length*d:=by
 rw[val_append];simp[val]
theorem val_lt:∀l:List Nat,(∀d∈l,d<10)→val l<10^l.length
 |[],_=>by simp[val]
 |d::l,h=>by
  have h1:=val_lt l (fun x hx=>h x (List.mem_cons_of_mem _ hx))
  have h2:=h d (by simp)
  rw[val,List.length_cons,Nat.pow_succ]
  omega
theorem dg_val:∀l:List Nat,(∀d∈l,d<10)→(∀h:l≠[],l.getLast h≠0)→l=dg (val l)
 |[],_,_=>rfl
 |d::l,h,hl=>by
  have hd:=h d (by simp)
  have hne:val (d::l)≠0:=by
   rw[val]
   match l,hl with
   |[],hl=>have :=hl (by simp);simp at this;omega
   |x::l,hl=>
    have ih:=dg_val (x::l) (fun y hy=>h y (List.mem_cons_of_mem _ hy)) (fun hh=>by have :=hl (by simp);rwa [List.getLast_cons hh]at this)
    have :val (x::l)≠0:=by
     intro h0
     rw[h0]at ih
     cases ih
    omega
  rw[dg_step _ hne]
  have e1:val (d::l)%10=d:=by rw[val];omega
  have e2:val (d::l)/10=val l:=by rw[val];omega
  rw[e1,e2]
  by_cases hn:l=[]
  ·subst hn;rfl
  ·rw[←dg_val l (fun y hy=>h y (List.mem_cons_of_mem _ hy)) (fun hh=>by have :=hl (by simp);rwa [List.getLast_cons hh]at this)]
theorem val_take_zero (l:List Nat)(m:Nat)(hm:m+1≤l.length)(h:l.getD m 0=0):val (l.take (m+1))=val (l.take m):=by
 have e:l.take (m+1)=l.take m++[l.getD m 0]:=by
  rw[List.take_succ_eq_append_getElem (by omega:m<l.length)]
  simp[List.getD,List.getElem?_eq_getElem (by omega:m<l.length)]
 rw[e,val_snoc,h]
 simp
theorem dg_take (l:List Nat)(hl:∀d∈l,d<10)(m:Nat)(hm:m≤l.length)(h:0<m→l.getD (m-1) 0≠0):l.take m=dg (val (l.take m)):=by
 refine dg_val _ (fun d hd=>hl d (List.mem_of_mem_take hd)) (fun hne=> ?_)
 have hlen:(l.take m).length=m:=by simp;omega
 have hm0:0<m:=by rw[←hlen];exact List.length_pos_iff.2 hne
 have :=h hm0
 rw[List.getLast_eq_getElem]
 simp only[hlen,List.getElem_take]
 simpa [List.getD,List.getElem?_eq_getElem (by omega:m-1<l.length)] using this
theorem getD_lt (l:List Nat)(hl:∀d∈l,d<10)(k:Nat):l.getD k 0<10:=by
 rcases Nat.lt_or_ge k l.length with h|h
 ·have :l.getD k 0=l[k]:=by simp[List.getD,List.getElem?_eq_getElem h]
  rw[this];exact hl _ (List.getElem_mem h)
 ·have :l.getD k 0=0:=by simp[List.getD,List.getElem?_eq_none h]
  omega
theorem snoc_lt {l:List Nat}{d:Nat}(hl:∀x∈l,x<10)(hd:d<10):∀x∈l++[d],x<10:=by
 intro x hx
 rcases List.mem_append.1 hx with h|h
 ·exact hl x h
 ·rw[List.mem_singleton.1 h];exact hd
theorem div_step (a k:Nat):a/10^k=10*(a/10^(k+1))+a/10^k%10:=by
 rw[Nat.pow_succ,←Nat.div_div_eq_div_mul]
 omega
end Fig
namespace Fig
open Go.Proofs.YtlmpkpjjakallaaGreatDoor.Char Go.RowKit
inductive Nm
 |nan
 |over
 |under
 |num (n:Int)
def outT:Nm→Int
 | .nan=>1
 | .over=>2
 | .under=>3
 | .num _=>0
def outV:Nm→Int
 | .num n=>n
 |_=>0
def decV (x:Nm):Value:= .agg #[.int .i64 (outT x),.int .i64 (outV x)]
def fitD (n:Int):Nm:=if 9223372036854775807<n then .over else if n< -9223372036854775807 then .under else .num n
def sgn:Nm→Int
 | .nan=>0
 | .over=>1
 | .under=> -1
 | .num n=>n.sign
theorem fitD_in (n:Int)(h: -9223372036854775807≤n∧n≤9223372036854775807):fitD n= .num n:=by
 unfold fitD
 rw[if_neg (by omega),if_neg (by omega)]
end Fig
namespace Fig
def chr (d:Nat):UInt8:=UInt8.ofNat (48+d)
def dval (b:UInt8):Nat:=b.toNat-48
def digB (b:UInt8):Bool:=decide (48≤b.toNat)&&decide (b.toNat≤57)
def ptB (b:UInt8):Bool:=b.toNat==46
def decL (l:List UInt8):Nat:=l.foldl (fun n b=>n*10+dval b) 0
theorem snoc_ind {α:Type}{P:List α→Prop}(h0:P [])(h1:∀l b,P l→P (l++[b]))(l:List α):P l:=by
 have h:∀m:List α,P m.reverse:=fun m=>by
  induction m with
  |nil=>exact h0
  |cons b m ih=>rw[List.reverse_cons];exact h1 _ _ ih
 rw[←List.reverse_reverse l]
 exact h _
theorem decL_snoc (l:List UInt8)(b:UInt8):decL (l++[b])=decL l*10+dval b:=by unfold decL;rw[List.foldl_append];rfl
theorem decL_val (l:List UInt8):val ((l.map dval).reverse)=decL l:=by
 induction l using snoc_ind with
 |h0=>rfl
 |h1 l b ih=>
  rw[List.map_append,List.reverse_append,decL_snoc,←ih]
  show dval b+10*val ((l.map dval).reverse)=_
  omega
theorem decL_le_append (l m:List UInt8):decL l≤decL (l++m):=by
 induction m using snoc_ind with
 |h0=>rw[List.append_nil];exact Nat.le_refl _
 |h1 m b ih=>rw[←List.append_assoc,decL_snoc];omega
def lo:Nat→Nat→List UInt8
 |0,_=>[]
 |k+1,n=>lo k (n/10)++[chr (n%10)]
def txs (n:Nat):List UInt8:=((dg n).map chr).reverse
def tx (n:Nat):List UInt8:=if n=0 then [chr 0] else txs n
theorem txs_step (n:Nat)(h:n≠0):txs n=txs (n/10)++[chr (n%10)]:=by
 unfold txs
 rw[dg_step n h,List.map_cons,List.reverse_cons]
theorem tx_step (n:Nat):tx n=txs (n/10)++[chr (n%10)]:=by
 unfold tx
 by_cases h:n=0
 ·subst h;rfl
 ·rw[if_neg h,txs_step n h]
def fr:Nat→Nat→List UInt8
 |0,_=>[]
 |k+1,n=>if n%10=0 then fr k (n/10) else lo (k+1) n
def allD (w f:List UInt8):List UInt8:=w++(f.take 6++List.replicate (6-(f.take 6).length) (chr 0))
def toldD (w f:List UInt8):Nm:=fitD (decL (allD w f):Int)
def litL (l:List UInt8):Option Nm:=
 let r1:=l.dropWhile digB
 let r2:=r1.dropWhile ptB
 if r2.dropWhile digB=[]∧(r1.takeWhile ptB).length≤1∧¬(l.takeWhile digB=[]∧r2.takeWhile digB=[]) then some (toldD (l.takeWhile digB) (r2.takeWhile digB)) else none
theorem digB_not_pt {b:UInt8}(h:digB b=true):ptB b=false:=by
 unfold digB at h
 unfold ptB
 rw[Bool.and_eq_true,decide_eq_true_iff,decide_eq_true_iff]at h
 rw[beq_eq_false_iff_ne]
 omega
end Fig
end Go.Proofs.YtlmpkpjjakallaaGreatDoor
