import Derived.Test.YtlmpkpjjakallaaGreatDoorPk28
import Derived.Test.YtlmpkpjjakallaaGreatDoorPk03
namespace Go.Proofs.YtlmpkpjjakallaaGreatDoor
namespace Char
open Go.Lib Go.RowKit
open Go.Proofs.YtlmpkpjjakallaaGreatDoor.Fig (litL digB ptB decL dval allD toldD fitD)
theorem decL_bound:∀(l:List UInt8) (n:Nat),l.foldl (fun n b=>n*10+dval b) n≤(n+256)*11^l.length
 |[],n=>by simp
 |b::l,n=>by
  have h:=decL_bound l (n*10+dval b)
  have hd:dval b≤255:=by unfold dval;have :=UInt8.toNat_lt b;omega
  rw[List.foldl_cons,List.length_cons,Nat.pow_succ,Nat.mul_comm (11^l.length) 11,←Nat.mul_assoc]
  exact Nat.le_trans h (Nat.mul_le_mul_right _ (by omega))
theorem allD_len (f:List UInt8):(allD [] f).length=6:=by
 unfold allD
 have :(f.take 6).length≤6:=by rw[List.length_take];omega
 simp only[List.nil_append,List.length_append,List.length_replicate]
 omega
theorem told_dot (f:List UInt8):∃v,toldD [] f= .num v:=by
 have h:=decL_bound (allD [] f) 0
 rw[allD_len]at h
 have h2:decL (allD [] f)≤256*11^6:=by unfold decL;omega
 unfold toldD fitD
 rw[if_neg (by have :(256*11^6:Nat)=453519616:=by decide
               omega),if_neg (by omega)]
 exact⟨_,rfl⟩
theorem dw_all {q:UInt8→Bool}:∀l:List UInt8,(∀b∈l,q b=true)→l.dropWhile q=[]∧l.takeWhile q=l
 |[],_=>⟨rfl,rfl⟩
 |b::l,h=>by
  obtain⟨h1,h2⟩:=dw_all l fun c hc=>h c (List.mem_cons_of_mem _ hc)
  rw[List.dropWhile_cons,List.takeWhile_cons,if_pos (h b List.mem_cons_self),if_pos (h b List.mem_cons_self),h1,h2]
  exact⟨rfl,rfl⟩
theorem lit_dot {d:UInt8}{ds:List UInt8}(h:∀b∈d::ds,digB b=true):∃v,litL (46::d::ds)=some (.num v):=by
 obtain⟨v,hv⟩:=told_dot (d::ds)
 obtain⟨h1,h2⟩:=dw_all (d::ds) h
 have hd:=h d List.mem_cons_self
 have hp:ptB d=false:=by
  unfold digB at hd
  unfold ptB
  simp only[Bool.and_eq_true,decide_eq_true_eq]at hd
  rw[beq_eq_false_iff_ne]
  omega
 have e1:(46::d::ds:List UInt8).dropWhile digB=46::d::ds:=rfl
 have e2:(46::d::ds:List UInt8).takeWhile digB=[]:=rfl
 have e3:(46::d::ds:List UInt8).dropWhile ptB=d::ds:=by
  rw[List.dropWhile_cons,if_pos (by decide),List.dropWhile_cons,if_neg (by rw[hp];decide)]
 have e4:(46::d::ds:List UInt8).takeWhile ptB=[46]:=by
  rw[List.takeWhile_cons,if_pos (by decide),List.takeWhile_cons,if_neg (by rw[hp];decide)]
 refine⟨v,?_⟩
 show(if ((46::d::ds:List UInt8).dropWhile digB|>.dropWhile ptB).dropWhile digB=[]∧(((46::d::ds:List UInt8).dropWhile digB).takeWhile ptB).length≤1∧¬((46::d::ds:List UInt8).takeWhile digB=[]∧((46::d::ds:List UInt8).dropWhile digB|>.dropWhile ptB).takeWhile digB=[]) then some (toldD ((46::d::ds:List UInt8).takeWhile digB) (((46::d::ds:List UInt8).dropWhile digB|>.dropWhile ptB).takeWhile digB)) else none)=_
 rw[e1,e2,e3,e4,h1,h2,if_pos ⟨rfl,by decide,by simp⟩,hv]
theorem num_dot (t:List UInt8)(h:0<dgs t):∃x,numW (46::t)=some x:=by
 have h0:dgs (46::t)=0:=dgs_none t (by decide)
 have hs:sizN (46::t)=1+dgs t:=by
  unfold sizN
  rw[h0]
  show 0+(if true=true then 1+dgs t else 0)=_
  rw[if_pos rfl,Nat.zero_add]
 have hm:∀b∈t.take (dgs t),digB b=true:=fun b hb=>by rw[dgs_take]at hb;exact tw_mem hb
 have hl:(t.take (dgs t)).length=dgs t:=by rw[List.length_take];exact Nat.min_eq_left (dgs_le t)
 unfold numW
 rw[hs,show 1+dgs t=dgs t+1 by omega,List.take_succ_cons]
 cases hd:t.take (dgs t) with
 |nil=>rw[hd]at hl;simp at hl;omega
 |cons d ds=>
  rw[hd]at hm
  obtain⟨v,hv⟩:=lit_dot hm
  rw[hv]
  exact⟨_,rfl⟩
theorem quote_wd {c:UInt8}(t:List UInt8)(e:Bool)(h:c=34∨c=39):wdL (c::t) e=litW (c::t):=by
 obtain⟨a,b⟩:=head_low c (by rcases h with rfl|rfl<;>decide)
 obtain⟨s1,s2,s3⟩:=signs_none (c:=c) t (by rcases h with rfl|rfl<;>decide) e
 unfold wdL
 rw[numW_none t (by rcases h with rfl|rfl<;>decide) (by rcases h with rfl|rfl<;>decide),s1,s2,s3,varW_none t (by rcases h with rfl|rfl<;>decide),nameW_none t e a b]
 cases litW (c::t)<;>rfl
theorem dig_ne {c:UInt8}(h:digB c=true):c≠34∧c≠39∧signB c=false∧c≠36∧headB c=true:=by
 have :∀n:Fin 256,digB (UInt8.ofNat n.val)=true→UInt8.ofNat n.val≠34∧UInt8.ofNat n.val≠39∧signB (UInt8.ofNat n.val)=false∧UInt8.ofNat n.val≠36∧headB (UInt8.ofNat n.val)=true:=by decide+kernel
 have h2:=this ⟨c.toNat,UInt8.toNat_lt c⟩
 rw[UInt8.ofNat_toNat]at h2
 exact h2 h
theorem digit_wd {c:UInt8}(t:List UInt8)(e:Bool)(h:digB c=true):wdL (c::t) e=numW (c::t):=by
 obtain⟨n1,n2,n3,n4,n5⟩:=dig_ne h
 obtain⟨a,b⟩:=head_low c n5
 obtain⟨s1,s2,s3⟩:=signs_none (c:=c) t n3 e
 unfold wdL
 rw[litW_none t ⟨n1,n2⟩,s1,s2,s3,varW_none t n4,nameW_none t e a b]
 cases numW (c::t)<;>rfl
theorem dot_wd (t:List UInt8)(e:Bool)(h:0<dgs t):wdL (46::t) e=numW (46::t):=by
 obtain⟨x,hx⟩:=num_dot t h
 unfold wdL
 rw[litW_none t ⟨by decide,by decide⟩,hx]
 rfl
theorem dot_no (t:List UInt8)(h:dgs t=0):numW (46::t)=none:=by
 have h0:dgs (46::t)=0:=dgs_none t (by decide)
 have hs:sizN (46::t)=1:=by
  unfold sizN
  rw[h0]
  show 0+(if true=true then 1+dgs t else 0)=_
  rw[if_pos rfl,h]
 unfold numW
 rw[hs,show(46::t).take 1=[46] from rfl]
 rfl
theorem rest_wd {c:UInt8}(t:List UInt8)(e:Bool)(h:c≠34∧c≠39)(hn:numW (c::t)=none):wdL (c::t) e=orW (signW 1 marksL (c::t)) (orW (signW 5 opsL (c::t)) (orW (signW (starK e) [[42]] (c::t)) (orW (varW (c::t)) (nameW e (c::t))))):=by
 unfold wdL
 rw[litW_none t h,hn]
 rfl
end Char
namespace Fig
def litGo:List UInt8→Nat→Nat→Nat→List Nat→Option Nm
 |[],p,m,b,acc=>if 1<p∨m=0 then none else some (fitD (val (acc++List.replicate (6-b) 0).reverse:Int))
 |c::r,p,m,b,acc=>
  if ptB c=true then litGo r (p+1) m b acc
  else if digB c=true then
   (let b':=if 0<p then b+1 else b
    litGo r p (m+1) b' (if b'≤6 then acc++[dval c] else acc))
  else none
theorem litGo_pt (c:UInt8)(r:List UInt8)(p m b:Nat)(acc:List Nat)(h:ptB c=true):litGo (c::r) p m b acc=litGo r (p+1) m b acc:=by
 show(if ptB c=true then _ else _)=_
 rw[if_pos h]
theorem litGo_bad (c:UInt8)(r:List UInt8)(p m b:Nat)(acc:List Nat)(h:ptB c=false)(h2:digB c=false):litGo (c::r) p m b acc=none:=by
 show(if ptB c=true then _ else if digB c=true then _ else _)=_
 rw[if_neg (by rw[h];simp),if_neg (by rw[h2];simp)]
theorem litGo_dig0 (c:UInt8)(r:List UInt8)(m b:Nat)(acc:List Nat)(h:digB c=true)(hb:b≤6):litGo (c::r) 0 m b acc=litGo r 0 (m+1) b (acc++[dval c]):=by
 show(if ptB c=true then _ else if digB c=true then _ else _)=_
 rw[if_neg (by rw[digB_not_pt h];simp),if_pos h]
 show litGo r 0 (m+1) (if 0<0 then b+1 else b) (if (if 0<0 then b+1 else b)≤6 then acc++[dval c] else acc)=_
 rw[if_neg (Nat.lt_irrefl 0),if_pos hb]
theorem litGo_dig1 (c:UInt8)(r:List UInt8)(p m b:Nat)(acc:List Nat)(h:digB c=true)(hp:0<p):litGo (c::r) p m b acc=litGo r p (m+1) (b+1) (if b+1≤6 then acc++[dval c] else acc):=by
 show(if ptB c=true then _ else if digB c=true then _ else _)=_
 rw[if_neg (by rw[digB_not_pt h];simp),if_pos h]
 show litGo r p (m+1) (if 0<p then b+1 else b) (if (if 0<p then b+1 else b)≤6 then acc++[dval c] else acc)=_
 rw[if_pos hp]
theorem litGo_many:∀(l:List UInt8) (p m b:Nat) (acc:List Nat),1<p→litGo l p m b acc=none
 |[],p,m,b,acc,h=>by
  show(if 1<p∨m=0 then _ else _)=_
  rw[if_pos (.inl h)]
 |c::r,p,m,b,acc,h=>by
  cases hp:ptB c with
  |true=>rw[litGo_pt c r p m b acc hp];exact litGo_many r _ _ _ _ (by omega)
  |false=>
   cases hd:digB c with
   |true=>rw[litGo_dig1 c r p m b acc hd (by omega)];exact litGo_many r _ _ _ _ h
   |false=>exact litGo_bad c r p m b acc hp hd
theorem litGo_run0:∀(w r:List UInt8) (m:Nat) (acc:List Nat),(∀b∈w,digB b=true)→litGo (w++r) 0 m 0 acc=litGo r 0 (m+w.length) 0 (acc++w.map dval)
 |[],r,m,acc,_=>by simp
 |c::w,r,m,acc,h=>by
  rw[List.cons_append,litGo_dig0 c _ m 0 acc (h c (List.mem_cons_self ..)) (by omega),litGo_run0 w r (m+1) _ (fun b hb=>h b (List.mem_cons_of_mem _ hb)),List.length_cons,List.map_cons,List.append_assoc,show m+1+w.length=m+(w.length+1) by omega]
  rfl
theorem litGo_run1:∀(f r:List UInt8) (m b:Nat) (acc:List Nat),(∀x∈f,digB x=true)→litGo (f++r) 1 m b acc=litGo r 1 (m+f.length) (b+f.length) (acc++(f.take (6-b)).map dval)
 |[],r,m,b,acc,_=>by simp
 |c::f,r,m,b,acc,h=>by
  rw[List.cons_append,litGo_dig1 c _ 1 m b acc (h c (List.mem_cons_self ..)) (by omega),litGo_run1 f r (m+1) (b+1) _ (fun x hx=>h x (List.mem_cons_of_mem _ hx)),List.length_cons,
   show m+1+f.length=m+(f.length+1) by omega,show b+1+f.length=b+(f.length+1) by omega]
  congr 1
  by_cases hb:b+1≤6
  ·rw[if_pos hb,show 6-b=(6-(b+1))+1 by omega,List.take_succ_cons,List.map_cons,List.append_assoc]
   rfl
  ·rw[if_neg hb,show 6-b=0 by omega,show 6-(b+1)=0 by omega]
   rfl
theorem while_split (p:UInt8→Bool):∀l:List UInt8,l=l.takeWhile p++l.dropWhile p:=fun l=>(List.takeWhile_append_dropWhile (p:=p) (l:=l)).symm
theorem drop_head (p:UInt8→Bool):∀(l:List UInt8) (c:UInt8) (r:List UInt8),l.dropWhile p=c::r→p c=false
 |[],c,r,h=>by cases h
 |x::l,c,r,h=>by
  rw[List.dropWhile_cons]at h
  split at h
  ·exact drop_head p l c r h
  ·rename_i hx
   injection h with h1 h2
   rw[←h1]
   simpa using hx
theorem while_all (p:UInt8→Bool):∀l:List UInt8,∀b∈l.takeWhile p,p b=true
 |[],b,h=>by cases h
 |x::l,b,h=>by
  rw[List.takeWhile_cons]at h
  split at h
  ·rename_i hx
   rcases List.mem_cons.1 h with rfl|h
   ·exact hx
   ·exact while_all p l b h
  ·cases h
theorem told_val (w f:List UInt8):fitD (val ((w.map dval++(f.take 6).map dval)++List.replicate (6-f.length) 0).reverse:Int)=toldD w f:=by
 unfold toldD
 congr 2
 have e:allD w f=w++(f.take 6++List.replicate (6-f.length) (chr 0)):=by
  unfold allD
  rw[List.length_take]
  congr 3
  omega
 rw[e,←decL_val,List.map_append,List.map_append,List.map_replicate,List.append_assoc]
 rfl
theorem litGo_eq (l:List UInt8):litGo l 0 0 0 []=litL l:=by
 have hl:=while_split digB l
 have hw:=while_all digB l
 unfold litL
 simp only
 generalize hr1:l.dropWhile digB=r1 at *
 have hh:=drop_head digB l
 rw[hr1]at hh
 generalize l.takeWhile digB=w at *
 rw[hl,litGo_run0 w r1 0 [] hw,Nat.zero_add,List.nil_append]
 match r1,hh with
 |[],_=>
  show(if 1<0∨w.length=0 then none else some (fitD (val (w.map dval++List.replicate (6-0) 0).reverse:Int)))=if ([]:List UInt8)=[]∧([]:List UInt8).length≤1∧¬(w=[]∧([]:List UInt8)=[]) then some (toldD w []) else none
  by_cases h0:w=[]
  ·subst h0;rfl
  ·have h1:w.length≠0:=fun h=>h0 (List.eq_nil_of_length_eq_zero h)
   rw[if_neg (by omega),if_pos ⟨rfl,by simp,fun h=>h0 h.1⟩,←told_val]
   simp
 |c::r,hh=>
  have hcd:=hh c r rfl
  cases hp:ptB c with
  |false=>
   rw[litGo_bad c r _ _ _ _ hp hcd]
   have e1:(c::r).dropWhile ptB=c::r:=by rw[List.dropWhile_cons,if_neg (by rw[hp];simp)]
   have e2:(c::r).dropWhile digB=c::r:=by rw[List.dropWhile_cons,if_neg (by rw[hcd];simp)]
   rw[e1,e2,if_neg (fun h=>by cases h.1)]
  |true=>
   rw[litGo_pt c r _ _ _ _ hp]
   have e1:(c::r).dropWhile ptB=r.dropWhile ptB:=by rw[List.dropWhile_cons,if_pos hp]
   have e2:(c::r).takeWhile ptB=c::r.takeWhile ptB:=by rw[List.takeWhile_cons,if_pos hp]
   rw[e1,e2]
   by_cases hr:∃c' r',r=c'::r'∧ptB c'=true
   ·obtain⟨c',r',rfl,hp'⟩:=hr
    rw[litGo_pt c' r' _ _ _ _ hp',litGo_many _ _ _ _ _ (by omega),List.takeWhile_cons,if_pos hp',if_neg (fun h=>by simp at h)]
   ·have e3:r.dropWhile ptB=r∧r.takeWhile ptB=[]:=by
     match r,hr with
     |[],_=>exact⟨rfl,rfl⟩
     |c'::r',hr=>
      have hn:¬ptB c'=true:=fun h=>hr ⟨c',r',rfl,h⟩
      exact⟨by rw[List.dropWhile_cons,if_neg hn],by rw[List.takeWhile_cons,if_neg hn]⟩
    rw[e3.1,e3.2]
    have hrs:=while_split digB r
    have hf:=while_all digB r
    have hh2:=drop_head digB r
    generalize r.dropWhile digB=r3 at *
    generalize r.takeWhile digB=f at *
    have hg:litGo r (0+1) w.length 0 (w.map dval)=litGo r3 1 (w.length+f.length) (0+f.length) (w.map dval++(f.take (6-0)).map dval):=by rw[hrs];exact litGo_run1 f r3 _ 0 _ hf
    rw[hg]
    match r3,hh2 with
    |[],_=>
     show(if 1<1∨w.length+f.length=0 then none else some (fitD (val ((w.map dval++(f.take 6).map dval)++List.replicate (6-(0+f.length)) 0).reverse:Int)))=_
     rw[Nat.zero_add,told_val]
     by_cases h0:w=[]∧f=[]
     ·rw[h0.1,h0.2];rfl
     ·have h1:w.length+f.length≠0:=fun h=>h0 ⟨List.eq_nil_of_length_eq_zero (by omega),List.eq_nil_of_length_eq_zero (by omega)⟩
      rw[if_neg (by omega),if_pos ⟨rfl,by simp,h0⟩]
    |c3::r4,hh2=>
     have hd3:=hh2 c3 r4 rfl
     rw[if_neg (fun h=>by cases h.1)]
     cases hp3:ptB c3 with
     |true=>rw[litGo_pt c3 r4 _ _ _ _ hp3];exact litGo_many _ _ _ _ _ (by omega)
     |false=>exact litGo_bad c3 r4 _ _ _ _ hp3 hd3
end Fig
namespace Fig
open Go.Proofs.YtlmpkpjjakallaaGreatDoor.Char Go.RowKit
theorem val_drop (l:List Nat)(j:Nat)(h:j<l.length):val (l.drop (j+1))*10+l.getD j 0=val (l.drop j):=by
 have hg:l.getD j 0=l[j]:=by simp[List.getD,List.getElem?_eq_getElem h]
 rw[List.drop_eq_getElem_cons h,hg,val]
 omega
theorem val_drop_le:∀(l:List Nat) (j:Nat),val (l.drop j)≤val l
 |[],j=>by simp
 |d::l,0=>Nat.le_refl _
 |d::l,j+1=>by
  have h:=val_drop_le l j
  show val (l.drop j)≤d+10*val l
  omega
set_option maxRecDepth 100000 in
set_option maxHeartbeats 4000000 in
theorem madeL_any (below:Bool)(v:Value)(l:List Nat)(n:Nat)(w:World)(hv:Holds w v l)(hd:∀d∈l,d<10)(hn:val l=n)(hl:l.length≤1000):
 Calls Tryz.prog 134 #[.bool below,v] w fun e w'=>e= .returned (decV (sizedD n below))∧Below w.heap.size w w':=by
 obtain⟨W1,hW1⟩:∃W1,W1=w.alloc (Obj.cells #[Value.int IntKind.i64 0,Value.int IntKind.i64 0] 24):=⟨_,rfl⟩
 have hb1:Below w.heap.size w W1:=by rw[hW1];exact(Below.refl _ _).alloc (Nat.le_refl _) _
 have hsz:W1.heap.size=w.heap.size+1:=by rw[hW1];simp
 have aft:∀w1,Below W1.heap.size W1 w1→w1.cell? ⟨w.heap.size,0,none⟩=some (.int .i64 0)∧w1.cell? ⟨w.heap.size,1,none⟩=some (.int .i64 0)∧w1.frozen? ⟨w.heap.size,0,none⟩=false∧w1.frozen? ⟨w.heap.size,1,none⟩=false∧w.heap.size<w1.heap.size∧Below w.heap.size w w1:=fun w1 h=>by
  rw[hW1]at h
  exact kept_new w _ _ 24 w1 h
 have hv1:=hv.below hb1
 have CD:=Lib.hid (digits_any 9223372036854775807 W1 (by omega))
 have hmax:(dg 9223372036854775807).length≤1000:=Nat.le_trans (dg_len_le _ 19 (by decide)) (by omega)
 have CL:=Lib.hid (fun W va (ha:Holds W va (dg 9223372036854775807)) (hb:Holds W v l)=>leastL_any va v (dg 9223372036854775807) l 9223372036854775807 n W ha hb (dg_lt _) hd (val_dg _) hn hmax hl)
 have hvn:=hv1
 obtain⟨A,cap,rfl,hcap,_,hA⟩:=hvn
 have HV1:=Lib.hid hv1
 have HA:=Lib.hid hA
 have AFT:=Lib.hid aft
 have HW1:=Lib.hid hW1
 have HSZ:=Lib.hid hsz
 have HB1:=Lib.hid hb1
 have HD:=Lib.hid hd
 have HN:=Lib.hid hn
 clear hv hW1 hb1 hsz aft hv1 hA hmax hd hn
 by_cases hg:9223372036854775807<n
 ·rw[decide_eq_true hg]at CL
  have hX:sizedD n below=if below then .under else .over:=by
   cases below
   ·show fitD (n:Int)= .over
    unfold fitD
    rw[if_pos (by omega)]
   ·show fitD (-(n:Int))= .under
    unfold fitD
    rw[if_neg (by omega),if_pos (by omega)]
  rw[hX]
  clear hX hg
  go_enter Tryz.func134,Tryz.ntmps134
  go_wp2_with fail
  rw[←HW1.out]
  refine CD.out.mono ?_
  rintro e w2 ⟨va,rfl,ha,_,hb2⟩
  have HHA:=Lib.hid ha
  clear ha
  go_wp2_with fail
  refine(CL.out _ _ HHA.out (HV1.out.below hb2)).mono ?_
  rintro e w3 ⟨rfl,hb3⟩
  obtain⟨k0,k1,f0,f1,hs3,hbb⟩:=AFT.out _ (hb2.trans (hb3.mono hb2.size))
  clear hb2 hb3 HHA
  cases below
  all_goals
   go_wp2_with fail
   exact end_dec rfl w3 w.heap.size _ _ k0 k1 rfl rfl ⟨rfl,(hbb.setCell (Nat.le_refl _) _).setCell (Nat.le_refl _) _⟩
 ·rw[decide_eq_false hg]at CL
  have hX:sizedD n below= .num (if below then -(n:Int) else (n:Int)):=by
   cases below
   ·exact fitD_in _ ⟨by omega,by omega⟩
   ·show fitD (-(n:Int))=_
    exact fitD_in _ ⟨by omega,by omega⟩
  rw[hX]
  have hnb:n≤9223372036854775807:=by omega
  clear hX hg
  go_enter Tryz.func134,Tryz.ntmps134
  go_wp2_with fail
  rw[←HW1.out]
  refine CD.out.mono ?_
  rintro e w2 ⟨va,rfl,ha,_,hb2⟩
  have HHA:=Lib.hid ha
  clear ha
  go_wp2_with fail
  refine(CL.out _ _ HHA.out (HV1.out.below hb2)).mono ?_
  rintro e w3 ⟨rfl,hb3⟩
  have hbw:=hb2.trans (hb3.mono hb2.size)
  obtain⟨k0,k1,f0,f1,hs3,hbb⟩:=AFT.out _ hbw
  have HBW:=Lib.hid hbw
  clear hb2 hb3 HHA hbw
  go_wp2_with fail
  go_loop [5,6] (fun s i=>∃k:Nat,k≤l.length∧i= .int .i64 ((k:Int)-1)∧s= .int .i64 ((val (l.drop k):Nat):Int)) (fun _ i=>(intOf i+1).toNat)
  case atStart=>exact⟨l.length,Nat.le_refl _,rfl,by rw[List.drop_eq_nil_of_le (Nat.le_refl _)];rfl⟩
  case round=>
   obtain⟨k,hk,rfl,rfl⟩:=hrel
   by_cases h0:0<k
   ·obtain⟨j,rfl⟩:∃j,k=j+1:=⟨k-1,by omega⟩
    have ej:((↑(j+1):Int)-1)=(j:Int):=by omega
    rw[ej]
    obtain⟨g,rfl,hg,hc⟩:=HA.out j (by omega)
    have hcell:=(HBW.out.cell (p:=⟨g,j,none⟩) hg).trans hc
    have hst:=val_drop l j (by omega)
    have hle:=val_drop_le l j
    rw[HN.out]at hle
    have hd:=getD_lt l HD.out j
    generalize val (l.drop (j+1))=q at *
    generalize l.getD j 0=d at *
    generalize hp:val (l.drop j)=p at *
    have HP:=Lib.hid hp
    have hqb:q≤922337203685477580:=by omega
    have hpi:(q:Int)*10+(d:Int)=(p:Int):=by omega
    have hsum:(q:Int)*10+(d:Int)≤9223372036854775807:=by omega
    clear hc hst hp ej h0
    go_wp2_with fail
    go_round
    case rel=>exact⟨j,by omega,rfl,by rw[HP.out,←hpi]⟩
    case measure=>simp[intOf]
   ·obtain rfl:k=0:=by omega
    rw[List.drop_zero,HN.out]
    have wn:IntKind.i64.wrap (-(n:Int))= -(n:Int):=IntWalk.i64_in _ (by omega)
    clear h0
    cases below
    all_goals
     go_wp2_with fail
     exact end_dec rfl w3 w.heap.size _ _ k0 k1 rfl rfl ⟨rfl,(hbb.setCell (Nat.le_refl _) _).setCell (Nat.le_refl _) _⟩
end Fig
namespace Fig
open Go.Proofs.YtlmpkpjjakallaaGreatDoor.Char Go.RowKit Go.Lib
theorem drop_cons (l:List UInt8)(k:Nat)(h:k<l.length):l.drop k=l.getD k 0::l.drop (k+1):=by
 have hg:l.getD k 0=l[k]:=by simp[List.getD,List.getElem?_eq_getElem h]
 rw[List.drop_eq_getElem_cons h,hg]
theorem lt10 {l:List Nat}{d:Nat}(hl:∀x∈l,x<10)(hd:d<10):∀x∈l++[d],x<10:=snoc_lt hl hd
set_option maxRecDepth 100000 in
set_option maxHeartbeats 8000000 in
theorem refLit_any (l:List UInt8)(w:World)(hl:l.length≤500):
 Calls Tryz.prog 84 #[.string (bs l)] w fun e w'=>e= .returned (.tuple #[decV (litX (litL l)),.bool (litL l).isSome])∧Below w.heap.size w w':=by
 obtain⟨R,hR⟩:∃R,litL l=R:=⟨_,rfl⟩
 rw[hR]
 have hgo:litGo (l.drop 0) 0 0 0 []=R:=by rw[List.drop_zero,litGo_eq,hR]
 have HGO0:=Lib.hid hgo
 have hsz:(bs l).size=l.length:=bs_size l
 have HSZ:=Lib.hid hsz
 obtain⟨W0,hW0⟩:∃W0,W0=w.alloc (Obj.cells #[Value.int IntKind.i64 0,Value.int IntKind.i64 0] 24):=⟨_,rfl⟩
 have aft:∀w1,Below W0.heap.size W0 w1→w1.cell? ⟨w.heap.size,0,none⟩=some (.int .i64 0)∧w1.cell? ⟨w.heap.size,1,none⟩=some (.int .i64 0)∧w1.frozen? ⟨w.heap.size,0,none⟩=false∧w1.frozen? ⟨w.heap.size,1,none⟩=false∧w.heap.size<w1.heap.size∧Below w.heap.size w w1:=fun w1 h=>by
  rw[hW0]at h
  exact kept_new w _ _ 24 w1 h
 have AFT:=Lib.hid aft
 have HW0:=Lib.hid hW0
 clear hR hgo hW0 aft
 go_enter Tryz.func84,Tryz.ntmps84
 go_wp2_with fail
 rw[←HW0.out]
 go_loopw [4,5,6,7,8] (fun v p m b k wr=>∃(acc:List Nat) (pp mm bb kk:Nat),p= .int .i64 (pp:Int)∧m= .int .i64 (mm:Int)∧b= .int .i64 (bb:Int)∧k= .int .i64 (kk:Int)∧kk≤l.length∧pp≤kk∧mm≤kk∧bb≤kk∧acc.length≤kk∧Hid (pp=0→bb=0)∧
  Hid (∀d∈acc,d<10)∧Owns W0.heap.size wr v acc∧Below W0.heap.size W0 wr∧Hid (litGo (l.drop kk) pp mm bb acc=R)) (fun _ _ _ _ k _=>l.length-(RowKit.intOf k).toNat)
 case atStart=>exact⟨[],0,0,0,0,rfl,rfl,rfl,rfl,by omega,by omega,by omega,by omega,by simp,Lib.hid (fun _=>rfl),Lib.hid (fun d hd=>by cases hd),Owns.nil _ _,Below.refl _ _,HGO0⟩
 case round=>
  clear HGO0
  obtain⟨acc,p,m,b,k,rfl,rfl,rfl,rfl,hk,hp,hm,hb,hal,HPB,HD,hown,hbw,HG⟩:=hrel
  by_cases hlt:k<l.length
  ·have hlt':k<(bs l).size:=by rw[hsz];exact hlt
   have hgt:=bs_get l k hlt'
   have hg:=HG.out
   rw[drop_cons l k hlt]at hg
   generalize l.getD k 0=c at *
   cases hpt:ptB c with
   |true=>
    have hcv:(bs l)[k].toNat=46:=by rw[hgt];unfold ptB at hpt;exact beq_iff_eq.1 hpt
    rw[litGo_pt c _ _ _ _ _ hpt]at hg
    have HG':=Lib.hid hg
    have HPB':Hid (p+1=0→b=0):=Lib.hid (fun h=>by omega)
    clear hgt hg HG hpt HPB
    go_wp2_with fail
    go_roundw
    case rel=>exact⟨acc,p+1,m,b,k+1,by go_num,rfl,rfl,by go_num,by omega,by omega,by omega,by omega,by omega,HPB',HD,hown,hbw,HG'⟩
    case measure=>simp[RowKit.intOf];omega
   |false=>
    cases hdg:digB c with
    |true=>
     have hd:=digB_le hdg
     obtain⟨d,hdd⟩:∃d,d=dval c:=⟨_,rfl⟩
     have hcv:(bs l)[k].toNat=48+d:=by rw[hgt,hdd];unfold dval;omega
     have hd9:d≤9:=by rw[hdd];unfold dval;omega
     have HD':=Lib.hid (lt10 HD.out (show d<10 by omega))
     by_cases hp0:p=0
     ·subst hp0
      have hb0:=HPB.out rfl
      subst hb0
      rw[litGo_dig0 c _ _ _ _ hdg (by omega),←hdd]at hg
      have HG':=Lib.hid hg
      clear hgt hg HG hpt hdg hd hdd HD
      go_wp2_with (at_builtin;refine wpList_push rfl _ _ rfl d hown rfl rfl hbw (by omega) (by omega) ?_)
      intro v' w1 hown2 hb1
      clear hown
      go_wp2_with fail
      go_roundw
      case rel=>exact⟨acc++[d],0,m+1,0,k+1,rfl,by go_num,rfl,by go_num,by omega,by omega,by omega,by omega,by simp;omega,Lib.hid (fun _=>rfl),HD',hown2,hb1,HG'⟩
      case measure=>simp[RowKit.intOf];omega
     ·rw[litGo_dig1 c _ _ _ _ _ hdg (by omega),←hdd]at hg
      have hpp:0<p:=by omega
      have HPB':Hid (p=0→b+1=0):=Lib.hid (fun h=>absurd h hp0)
      by_cases hb6:b+1≤6
      ·rw[if_pos hb6]at hg
       have HG':=Lib.hid hg
       clear hgt hg HG hpt hdg hd hdd HD HPB hp0
       go_wp2_with (at_builtin;refine wpList_push rfl _ _ rfl d hown rfl rfl hbw (by omega) (by omega) ?_)
       intro v' w1 hown2 hb1
       clear hown
       go_wp2_with fail
       go_roundw
       case rel=>exact⟨acc++[d],p,m+1,b+1,k+1,rfl,by go_num,by go_num,by go_num,by omega,by omega,by omega,by omega,by simp;omega,HPB',HD',hown2,hb1,HG'⟩
       case measure=>simp[RowKit.intOf];omega
      ·rw[if_neg hb6]at hg
       have HG':=Lib.hid hg
       clear hgt hg HG hpt hdg hd hdd HD' HPB hp0
       go_wp2_with fail
       go_roundw
       case rel=>exact⟨acc,p,m+1,b+1,k+1,rfl,by go_num,by go_num,by go_num,by omega,by omega,by omega,by omega,by omega,HPB',HD,hown,hbw,HG'⟩
       case measure=>simp[RowKit.intOf];omega
    |false=>
     rw[litGo_bad c _ _ _ _ _ hpt hdg]at hg
     have XN:Hid (R=none):=Lib.hid hg.symm
     obtain⟨n,hcv⟩:∃n,(bs l)[k].toNat=n:=⟨_,rfl⟩
     have hn46:((n:Int)==46)=false:=by
      rw[beq_eq_false_iff_ne]
      intro h
      unfold ptB at hpt
      rw[←hgt,hcv,beq_eq_false_iff_ne]at hpt
      omega
     have hn:n<48∨(¬n<48∧57<n):=by
      unfold digB at hdg
      rw[←hgt,hcv,Bool.and_eq_false_iff,decide_eq_false_iff_not,decide_eq_false_iff_not]at hdg
      omega
     obtain⟨k0,k1,f0,f1,hs2,hbb⟩:=AFT.out _ hbw
     clear hgt hg HG hpt hdg hown HPB HD
     rcases hn with h1|⟨h1,h2⟩
     all_goals
      go_wp2_with fail
      exact end_lit rfl wr w.heap.size _ _ false k0 k1 rfl rfl rfl ⟨by rw[XN.out];rfl,(hbb.setCell (Nat.le_refl _) _).setCell (Nat.le_refl _) _⟩
  ·have hg:=HG.out
   rw[List.drop_eq_nil_of_le (by omega)]at hg
   have hg':(if 1<p∨m=0 then none else some (fitD (val (acc++List.replicate (6-b) 0).reverse:Int)))=R:=hg
   by_cases hbad:1<p∨m=0
   ·rw[if_pos hbad]at hg'
    have XN:Hid (R=none):=Lib.hid hg'.symm
    obtain⟨k0,k1,f0,f1,hs2,hbb⟩:=AFT.out _ hbw
    have hbad2:1<p∨(¬1<p∧m=0):=by omega
    clear hg hg' HG hown HPB HD hbad
    rcases hbad2 with h1|⟨h1,rfl⟩
    all_goals
     go_wp2_with fail
     exact end_lit rfl wr w.heap.size _ _ false k0 k1 rfl rfl rfl ⟨by rw[XN.out];rfl,(hbb.setCell (Nat.le_refl _) _).setCell (Nat.le_refl _) _⟩
   ·rw[if_neg hbad]at hg'
    obtain⟨N,hN⟩:∃N,acc++List.replicate (6-b) 0=N:=⟨_,rfl⟩
    rw[hN]at hg'
    have hNd:∀d∈N,d<10:=by
     rw[←hN]
     intro d hd
     rcases List.mem_append.1 hd with h|h
     ·exact HD.out d h
     ·rw[List.eq_of_mem_replicate h];omega
    have hNl:N.length≤506:=by rw[←hN,List.length_append,List.length_replicate];omega
    obtain⟨n,hn⟩:∃n,val N.reverse=n:=⟨_,rfl⟩
    rw[hn]at hg'
    obtain⟨Y,hY⟩:∃Y,fitD (n:Int)=Y:=⟨_,rfl⟩
    have hYs:sizedD n false=Y:=hY
    rw[hY]at hg'
    have XS:Hid (R=some Y):=Lib.hid hg'.symm
    have CM:=fun v W hv=>madeL_any false v N.reverse n W hv (fun d hd=>hNd d (List.mem_reverse.1 hd)) hn (by rw[List.length_reverse];omega)
    rw[hYs]at CM
    unfold decV at CM
    have HM:=Lib.hid CM
    have HN:=Lib.hid hN
    have hp1:p≤1:=by omega
    have hm0:((m:Int)==0)=false:=by rw[beq_eq_false_iff_ne];omega
    clear hg hg' HG HPB HD hbad hNd hn hY hYs CM hN
    go_wp2_with fail
    go_loopw [4,9] (fun v i wx=>∃(acc':List Nat) (i':Nat),i= .int .i64 (i':Int)∧i'≤506∧acc'.length≤506∧Owns W0.heap.size wx v acc'∧Below W0.heap.size W0 wx∧Hid (acc'++List.replicate (6-i') 0=N)) (fun _ i _=>6-(RowKit.intOf i).toNat)
    case atStart=>exact⟨acc,b,rfl,by omega,by omega,hown,hbw,HN⟩
    case round=>
     clear HN hown hbw
     obtain⟨acc',i,rfl,hi,hal',hown,hbw,HN⟩:=hrel
     by_cases h6:i<6
     ·have HN':Hid ((acc'++[0])++List.replicate (6-(i+1)) 0=N):=Lib.hid (by rw[←HN.out,List.append_assoc,show 6-i=(6-(i+1))+1 by omega,List.replicate_succ];rfl)
      have hal2:acc'.length+1≤506:=by
       have :=congrArg List.length HN.out
       rw[List.length_append,List.length_replicate]at this
       omega
      clear HN
      go_wp2_with (at_builtin;refine wpList_push rfl _ _ rfl 0 hown rfl rfl hbw (by omega) (by omega) ?_)
      intro v' w1 hown2 hb1
      clear hown
      go_wp2_with fail
      go_roundw
      case rel=>exact⟨acc'++[0],i+1,by go_num,by omega,by rw[List.length_append];exact hal2,hown2,hb1,HN'⟩
      case measure=>simp[RowKit.intOf];omega
     ·have hNe:acc'=N:=by
       have :=HN.out
       rwa [show 6-i=0 by omega,List.replicate_zero,List.append_nil]at this
      subst hNe
      clear HN
      obtain⟨wo,rfl⟩:∃wo:World,wo=wr:=⟨_,rfl⟩
      have hh:=hown.holds
      obtain⟨a,cap,rfl,hcap,_,hcells⟩:=hh
      have HC:=Lib.hid hcells
      clear hcells hown
      go_wp2_with fail
      go_loopw [10,11] (fun v i wx=>∃(T:List Nat) (kk:Nat),i= .int .i64 ((kk:Int)-1)∧kk≤acc'.length∧T.length+kk≤506∧Owns wo.heap.size wx v T∧Below wo.heap.size wo wx∧Hid (T++(acc'.take kk).reverse=acc'.reverse)) (fun _ i _=>(RowKit.intOf i+1).toNat)
      case atStart=>exact⟨[],acc'.length,rfl,Nat.le_refl _,by simpa using hNl,Owns.nil _ _,Below.refl _ _,Lib.hid (by rw[List.take_of_length_le (Nat.le_refl _)];rfl)⟩
      case round=>
       obtain⟨T,kk,rfl,hkk,hTl,hownT,hbT,HT⟩:=hrel
       by_cases h0:0<kk
       ·obtain⟨j,rfl⟩:∃j,kk=j+1:=⟨kk-1,by omega⟩
        have ej:((↑(j+1):Int)-1)=(j:Int):=by omega
        rw[ej]
        obtain⟨g,rfl,hgs,hc⟩:=HC.out j (by omega)
        have hcell:=(hbT.cell (p:=⟨g,j,none⟩) hgs).trans hc
        have hT':(T++[acc'.getD j 0])++(acc'.take j).reverse=acc'.reverse:=by
         have hg:acc'.getD j 0=acc'[j]'(by omega):=by simp[List.getD,List.getElem?_eq_getElem (show j<acc'.length by omega)]
         rw[←HT.out,List.take_succ_eq_append_getElem (by omega),List.reverse_append,List.append_assoc,hg]
         rfl
        have HT':=Lib.hid hT'
        generalize acc'.getD j 0=d at *
        clear hc hT' HT ej h0
        go_wp2_with (at_builtin;refine wpList_push rfl _ _ rfl d hownT rfl rfl hbT rfl (by omega) ?_)
        intro v' w1 hown2 hb1
        clear hownT
        go_wp2_with fail
        go_roundw
        case rel=>exact⟨T++[d],j,rfl,by omega,by rw[List.length_append,List.length_singleton];omega,hown2,hb1,HT'⟩
        case measure=>simp[RowKit.intOf]
       ·obtain rfl:kk=0:=by omega
        have hTe:T=acc'.reverse:=by
         have :=HT.out
         rwa [List.take_zero,List.reverse_nil,List.append_nil]at this
        subst hTe
        obtain⟨wp,rfl⟩:∃wp:World,wp=wr:=⟨_,rfl⟩
        have hC:=HM.out _ wp hownT.holds
        have HC2:=Lib.hid hC
        clear hC hownT HT HC HM
        go_wp2_with fail
        refine HC2.out.mono ?_
        rintro e w5 ⟨rfl,hb5⟩
        have hb6:=hbw.trans ((hbT.trans (hb5.mono hbT.size)).mono hbw.size)
        obtain⟨k0,k1,f0,f1,hs2,hbb⟩:=AFT.out _ hb6
        clear hb5 hb6 hbT hbw
        go_wp2_with fail
        exact end_lit rfl w5 w.heap.size _ _ true k0 k1 rfl rfl rfl ⟨by rw[XS.out];rfl,(hbb.setCell (Nat.le_refl _) _).setCell (Nat.le_refl _) _⟩
end Fig
end Go.Proofs.YtlmpkpjjakallaaGreatDoor
