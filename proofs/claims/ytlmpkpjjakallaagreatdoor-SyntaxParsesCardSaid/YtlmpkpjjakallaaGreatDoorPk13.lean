import Derived.Test.YtlmpkpjjakallaaGreatDoorPk12
namespace Go.Proofs.YtlmpkpjjakallaaGreatDoor
namespace Char
open Go.RowKit Go.Lib
open Go.Proofs.YtlmpkpjjakallaaGreatDoor.Fig (outT outV)
def mkW (m:List UInt8)(x:Wd):Bool:=aheadL 1 m [x]
def opMk (m:List UInt8)(x:Wd):Bool:=aheadL 5 m [x]
theorem ahead_mk (m:List UInt8)(x:Wd)(r:List Wd):aheadL 1 m (x::r)=mkW m x:=rfl
theorem ahead_op (m:List UInt8)(x:Wd)(r:List Wd):aheadL 5 m (x::r)=opMk m x:=rfl
theorem mkW_iff {m:List UInt8}{x:Wd}:mkW m x=true↔x.k=1∧x.s=m:=by
 unfold mkW aheadL
 dsimp only
 by_cases h:(x.k:Int)=1
 ·rw[if_pos (by simpa using h)]
  simp only[beq_iff_eq]
  exact⟨fun e=>⟨by omega,e⟩,fun e=>e.2⟩
 ·rw[if_neg (by simpa using h)]
  simp only[Bool.false_eq_true,false_iff]
  intro e
  exact h (by omega)
theorem opMk_iff {m:List UInt8}{x:Wd}:opMk m x=true↔x.k=5∧x.s=m:=by
 unfold opMk aheadL
 dsimp only
 by_cases h:(x.k:Int)=5
 ·rw[if_pos (by simpa using h)]
  simp only[beq_iff_eq]
  exact⟨fun e=>⟨by omega,e⟩,fun e=>e.2⟩
 ·rw[if_neg (by simpa using h)]
  simp only[Bool.false_eq_true,false_iff]
  intro e
  exact h (by omega)
theorem mkW_no {m:List UInt8}{x:Wd}(h:x.k≠1∨x.s≠m):mkW m x=false:=by
 cases hc:mkW m x with
 |false=>rfl
 |true=>have :=mkW_iff.1 hc;rcases h with h|h<;>simp_all
theorem opMk_no {m:List UInt8}{x:Wd}(h:x.k≠5∨x.s≠m):opMk m x=false:=by
 cases hc:opMk m x with
 |false=>rfl
 |true=>have :=opMk_iff.1 hc;rcases h with h|h<;>simp_all
def opnW (x:Wd):Bool:=mkW [40] x||mkW [91] x
def clsW (x:Wd):Bool:=mkW [41] x||mkW [93] x
def endD (x:Wd):Bool:= !((x.k:Int)==5)&&(!mkW [64] x&&(!mkW [58,58] x&&(!mkW [40] x&&(!mkW [91] x&& !mkW [44] x))))
def barW (x:Wd):Bool:=endD x||opMk [47] x
def clo (t:List UInt8):List UInt8:=if t=[91] then [93] else [41]
theorem cls_opn {x:Wd}(h:clsW x=true):opnW x=false:=by
 unfold clsW at h
 unfold opnW
 rw[Bool.or_eq_true]at h
 rcases h with h|h<;>
 ·have :=mkW_iff.1 h
  rw[mkW_no (.inr (by rw[this.2];decide)),mkW_no (.inr (by rw[this.2];decide))]
  rfl
theorem cls_end {x:Wd}(h:clsW x=true):endD x=true:=by
 unfold clsW at h
 rw[Bool.or_eq_true]at h
 unfold endD
 rcases h with h|h<;>
 ·have :=mkW_iff.1 h
  rw[mkW_no (.inr (by rw[this.2];decide)),mkW_no (.inr (by rw[this.2];decide)),mkW_no (.inr (by rw[this.2];decide)),mkW_no (.inr (by rw[this.2];decide)),mkW_no (.inr (by rw[this.2];decide))]
  rw[this.1]
  rfl
theorem cls_of {x:Wd}{t:List UInt8}(h:mkW (clo t) x=true):clsW x=true∧x.s=clo t:=by
 refine⟨?_,(mkW_iff.1 h).2⟩
 unfold clsW
 unfold clo at h
 split at h
 ·rw[h,Bool.or_true]
 ·rw[h,Bool.true_or]
theorem cls_mk {x:Wd}{t:List UInt8}(h:clsW x=true)(e:x.s=clo t):mkW (clo t) x=true:=by
 unfold clsW at h
 rw[Bool.or_eq_true]at h
 rcases h with h|h<;>exact mkW_iff.2 ⟨(mkW_iff.1 h).1,e⟩
def scanB:List (List UInt8)→List Wd→Option (List (List UInt8))
 |st,[]=>some st
 |st,x::r=>if opnW x=true then scanB (x.s::st) r else if clsW x=true then (match st with
  |[]=>none
  |t::st'=>if x.s=clo t then scanB st' r else none) else scanB st r
theorem scanB_nil (st:List (List UInt8)):scanB st []=some st:=by rw[scanB]
theorem scanB_cs (st:List (List UInt8))(x:Wd)(r:List Wd):scanB st (x::r)=if opnW x=true then scanB (x.s::st) r else if clsW x=true then (match st with
 |[]=>none
 |t::st'=>if x.s=clo t then scanB st' r else none) else scanB st r:=by cases st<;>rw[scanB]
theorem scanB_app:∀(u v:List Wd) (st:List (List UInt8)),scanB st (u++v)=(scanB st u).bind fun s=>scanB s v
 |[],v,st=>by rw[List.nil_append,scanB_nil];rfl
 |x::u,v,st=>by
  rw[List.cons_append,scanB_cs,scanB_cs]
  split
  ·exact scanB_app u v _
  ·split
   ·cases st with
    |nil=>rfl
    |cons t st'=>
     dsimp only
     split
     ·exact scanB_app u v _
     ·rfl
   ·exact scanB_app u v _
theorem scanB_more:∀(u:List Wd) (st s b:List (List UInt8)),scanB st u=some s→scanB (st++b) u=some (s++b)
 |[],st,s,b,h=>by rw[scanB_nil]at h ⊢;cases h;rfl
 |x::u,st,s,b,h=>by
  rw[scanB_cs]at h ⊢
  split at h
  ·rename_i c
   rw[if_pos c]
   exact scanB_more u (x.s::st) s b h
  ·rename_i c
   rw[if_neg c]
   split at h
   ·rename_i d
    rw[if_pos d]
    cases st with
    |nil=>cases h
    |cons t st'=>
     dsimp only[List.cons_append]at h ⊢
     split at h
     ·rename_i e
      rw[if_pos e]
      exact scanB_more u st' s b h
     ·cases h
   ·rename_i d
    rw[if_neg d]
    exact scanB_more u st s b h
def partR:List (List UInt8)→List Wd→Option (List Wd×List Wd)
 |_,[]=>none
 |st,x::r=>if opnW x=true then (partR (x.s::st) r).map fun p=>(x::p.1,p.2) else if clsW x=true then (match st with
  |[]=>none
  |t::st'=>if x.s=clo t then (if st'=[] then some ([],r) else (partR st' r).map fun p=>(x::p.1,p.2)) else none)
  else (partR st r).map fun p=>(x::p.1,p.2)
theorem partR_nil (st:List (List UInt8)):partR st []=none:=by rw[partR]
theorem partR_cs (st:List (List UInt8))(x:Wd)(r:List Wd):partR st (x::r)=if opnW x=true then (partR (x.s::st) r).map fun p=>(x::p.1,p.2) else if clsW x=true then (match st with
 |[]=>none
 |t::st'=>if x.s=clo t then (if st'=[] then some ([],r) else (partR st' r).map fun p=>(x::p.1,p.2)) else none)
 else (partR st r).map fun p=>(x::p.1,p.2):=by cases st<;>rw[partR]
theorem partR_in:∀(u:List Wd) (st:List (List UInt8)) (t:List UInt8) (c:Wd) (r:List Wd),scanB st u=some []→mkW (clo t) c=true→partR (st++[t]) (u++c::r)=some (u,r)
 |[],st,t,c,r,h,hc=>by
  rw[scanB_nil]at h
  cases h
  have h1:=cls_of hc
  rw[List.nil_append,List.nil_append,partR_cs,if_neg (by rw[cls_opn h1.1];simp),if_pos h1.1]
  dsimp only
  rw[if_pos h1.2,if_pos rfl]
 |x::u,st,t,c,r,h,hc=>by
  rw[scanB_cs]at h
  rw[List.cons_append,partR_cs]
  split at h
  ·rename_i d
   rw[if_pos d]
   have :=partR_in u (x.s::st) t c r h hc
   rw[List.cons_append]at this
   rw[this]
   rfl
  ·rename_i d
   rw[if_neg d]
   split at h
   ·rename_i e
    rw[if_pos e]
    cases st with
    |nil=>cases h
    |cons t' st'=>
     dsimp only[List.cons_append]at h ⊢
     split at h
     ·rename_i f
      rw[if_pos f,if_neg (by simp),partR_in u st' t c r h hc]
      rfl
     ·cases h
   ·rename_i e
    rw[if_neg e,partR_in u st t c r h hc]
    rfl
theorem partR_out:∀(l:List Wd) (st:List (List UInt8)) (t:List UInt8) (u r:List Wd),partR (st++[t]) l=some (u,r)→∃c,l=u++c::r∧scanB st u=some []∧mkW (clo t) c=true
 |[],st,t,u,r,h=>by
  rw[partR_nil]at h
  cases h
 |x::l,st,t,u,r,h=>by
  rw[partR_cs]at h
  split at h
  ·rename_i d
   cases hp:partR (x.s::(st++[t])) l with
   |none=>rw[hp]at h;cases h
   |some p=>
    obtain⟨u1,r1⟩:=p
    rw[hp]at h
    cases h
    obtain⟨c,e1,e2,e3⟩:=partR_out l (x.s::st) t _ _ hp
    refine⟨c,by rw[e1];rfl,?_,e3⟩
    rw[scanB_cs,if_pos d]
    exact e2
  ·rename_i d
   split at h
   ·rename_i e
    cases st with
    |nil=>
     dsimp only[List.nil_append]at h
     split at h
     ·rename_i f
      rw[if_pos rfl]at h
      cases h
      exact⟨x,rfl,by rw[scanB_nil],cls_mk e f⟩
     ·cases h
    |cons t' st'=>
     dsimp only[List.cons_append]at h
     split at h
     ·rename_i f
      rw[if_neg (by simp)]at h
      cases hp:partR (st'++[t]) l with
      |none=>rw[hp]at h;cases h
      |some p=>
       obtain⟨u1,r1⟩:=p
       rw[hp]at h
       cases h
       obtain⟨c,e1,e2,e3⟩:=partR_out l st' t _ _ hp
       refine⟨c,by rw[e1];rfl,?_,e3⟩
       rw[scanB_cs,if_neg d,if_pos e]
       dsimp only
       rw[if_pos f]
       exact e2
     ·cases h
   ·rename_i e
    cases hp:partR (st++[t]) l with
    |none=>rw[hp]at h;cases h
    |some p=>
     obtain⟨u1,r1⟩:=p
     rw[hp]at h
     cases h
     obtain⟨c,e1,e2,e3⟩:=partR_out l st t _ _ hp
     refine⟨c,by rw[e1];rfl,?_,e3⟩
     rw[scanB_cs,if_neg d,if_neg e]
     exact e2
def dpt (n:Int)(x:Wd):Int:=if opnW x=true then n+1 else if clsW x=true then n-1 else n
def dpL:Int→List Wd→Int
 |n,[]=>n
 |n,x::r=>dpL (dpt n x) r
theorem dpt_scan {x:Wd}{st s:List (List UInt8)}(h:scanB st [x]=some s)(n:Int):dpt (n+st.length) x=n+s.length:=by
 rw[scanB_cs]at h
 unfold dpt
 split at h
 ·rename_i c
  rw[scanB_nil]at h
  cases h
  rw[if_pos c,List.length_cons]
  omega
 ·rename_i c
  rw[if_neg c]
  split at h
  ·rename_i d
   rw[if_pos d]
   cases st with
   |nil=>cases h
   |cons t st'=>
    dsimp only at h
    split at h
    ·rw[scanB_nil]at h
     cases h
     rw[List.length_cons]
     omega
    ·cases h
  ·rename_i d
   rw[scanB_nil]at h
   cases h
   rw[if_neg d]
theorem scanB_cons {x:Wd}{r:List Wd}{st s:List (List UInt8)}(h:scanB st (x::r)=some s):∃s1,scanB st [x]=some s1∧scanB s1 r=some s:=by
 have :=scanB_app [x] r st
 rw[List.singleton_append,h]at this
 cases h1:scanB st [x] with
 |none=>rw[h1]at this;cases this
 |some s1=>rw[h1]at this;exact⟨s1,rfl,this.symm⟩
theorem dpL_scan:∀(u:List Wd) (st s:List (List UInt8)) (n:Int),scanB st u=some s→dpL (n+st.length) u=n+s.length
 |[],st,s,n,h=>by rw[scanB_nil]at h;cases h;rfl
 |x::r,st,s,n,h=>by
  obtain⟨s1,h1,h2⟩:=scanB_cons h
  rw[dpL,dpt_scan h1,dpL_scan r s1 s n h2]
theorem dpL_bal {u:List Wd}(h:scanB [] u=some [])(n:Int):dpL n u=n:=by
 have :=dpL_scan u [] [] n h
 simpa using this
def pendL:Bool→List Wd→Bool
 |p,[]=>p
 |_,x::r=>pendL (barW x) r
theorem pendL_app:∀(u v:List Wd) (p:Bool),pendL p (u++v)=pendL (pendL p u) v
 |[],_,_=>rfl
 |x::u,v,p=>by rw[List.cons_append,pendL,pendL,pendL_app u v]
theorem pendL_ne {u:List Wd}(h:u≠[])(p q:Bool):pendL p u=pendL q u:=by
 cases u with
 |nil=>exact absurd rfl h
 |cons x r=>rfl
def lastG (o:List (List UInt8)):Int→Bool→Nat→Option Nat→List Wd→Option Nat
 |_,_,_,acc,[]=>acc
 |n,p,k,acc,x::r=>lastG o (dpt n x) (barW x) (k+1) (if dpt n x=0∧(x.k:Int)=5∧p=true∧x.s∈o then some k else acc) r
theorem lastG_app (o:List (List UInt8)):∀(u v:List Wd) (n:Int) (p:Bool) (k:Nat) (acc:Option Nat),lastG o n p k acc (u++v)=lastG o (dpL n u) (pendL p u) (k+u.length) (lastG o n p k acc u) v
 |[],_,_,_,_,_=>rfl
 |x::u,v,n,p,k,acc=>by
  rw[List.cons_append,lastG,lastG,dpL,pendL,lastG_app o u v,List.length_cons,show k+1+u.length=k+(u.length+1) by omega]
theorem lastG_acc (o:List (List UInt8)):∀(u:List Wd) (n:Int) (p:Bool) (k:Nat) (acc:Option Nat),lastG o n p k none u=none→lastG o n p k acc u=acc
 |[],_,_,_,_,_=>rfl
 |x::u,n,p,k,acc,h=>by
  rw[lastG]at h ⊢
  by_cases hc:dpt n x=0∧(x.k:Int)=5∧p=true∧x.s∈o
  ·rw[if_pos hc]at h
   exfalso
   have key:∀(u:List Wd) (n:Int) (p:Bool) (k j:Nat),lastG o n p k (some j) u≠none:=by
    intro u
    induction u with
    |nil=>intro n p k j h;cases h
    |cons y u ih=>
     intro n p k j h
     rw[lastG]at h
     split at h
     ·exact ih _ _ _ _ h
     ·exact ih _ _ _ _ h
   exact key _ _ _ _ _ h
  ·rw[if_neg hc]at h ⊢
   exact lastG_acc o u _ _ _ acc h
theorem lastG_sh (o:List (List UInt8)):∀(u:List Wd) (n:Int) (p:Bool) (k k':Nat),lastG o n p k none u=none→lastG o n p k' none u=none
 |[],_,_,_,_,_=>rfl
 |x::u,n,p,k,k',h=>by
  rw[lastG]at h ⊢
  by_cases hc:dpt n x=0∧(x.k:Int)=5∧p=true∧x.s∈o
  ·rw[if_pos hc]at h
   exfalso
   have key:∀(u:List Wd) (n:Int) (p:Bool) (k j:Nat),lastG o n p k (some j) u≠none:=by
    intro u
    induction u with
    |nil=>intro n p k j h;cases h
    |cons y u ih=>
     intro n p k j h
     rw[lastG]at h
     split at h
     ·exact ih _ _ _ _ h
     ·exact ih _ _ _ _ h
   exact key _ _ _ _ _ h
  ·rw[if_neg hc]at h ⊢
   exact lastG_sh o u _ _ _ _ h
def noOp (o:List (List UInt8))(p:Bool)(u:List Wd):Prop:=lastG o 0 p 0 none u=none
theorem noOp.acc {o:List (List UInt8)}{p:Bool}{u:List Wd}(h:noOp o p u)(k:Nat)(acc:Option Nat):lastG o 0 p k acc u=acc:=
 lastG_acc o u 0 p k acc (lastG_sh o u 0 p 0 k h)
def noCm:Int→List Wd→Bool
 |_,[]=>true
 |n,x::r=> !(decide (dpt n x=0)&&mkW [44] x)&&noCm (dpt n x) r
theorem noCm_app:∀(u v:List Wd) (n:Int),noCm n (u++v)=(noCm n u&&noCm (dpL n u) v)
 |[],_,_=>by rw[List.nil_append,noCm,dpL,Bool.true_and]
 |x::u,v,n=>by rw[List.cons_append,noCm,noCm,noCm_app u v,dpL,Bool.and_assoc]
theorem in_deep (o:List (List UInt8)):∀(u:List Wd) (st s:List (List UInt8)) (n:Int) (p:Bool) (k:Nat) (acc:Option Nat),scanB st u=some s→1≤n→lastG o (n+st.length) p k acc u=acc∧noCm (n+st.length) u=true
 |[],_,_,_,_,_,_,_,_=>⟨rfl,rfl⟩
 |x::r,st,s,n,p,k,acc,h,hn=>by
  obtain⟨s1,h1,h2⟩:=scanB_cons h
  have hd:=dpt_scan h1 n
  have hz:¬dpt (n+st.length) x=0:=by rw[hd];omega
  rw[lastG,noCm,if_neg (fun c=>hz c.1),decide_eq_false hz,hd]
  obtain⟨q1,q2⟩:=in_deep o r s1 s n (barW x) (k+1) acc h2 hn
  exact⟨q1,by rw[q2];rfl⟩
def cutA:Int→List Wd→List Wd→List (List Wd)
 |_,cur,[]=>[cur]
 |n,cur,x::r=>if dpt n x=0∧mkW [44] x=true then cur::cutA (dpt n x) [] r else cutA (dpt n x) (cur++[x]) r
theorem cutA_no:∀(u v:List Wd) (n:Int) (cur:List Wd),noCm n u=true→cutA n cur (u++v)=cutA (dpL n u) (cur++u) v
 |[],_,_,_,_=>by rw[List.nil_append,List.append_nil,dpL]
 |x::u,v,n,cur,h=>by
  rw[noCm,Bool.and_eq_true,Bool.not_eq_true',Bool.and_eq_false_iff,decide_eq_false_iff_not]at h
  rw[List.cons_append,cutA,if_neg,cutA_no u v _ _ h.2,dpL,List.append_assoc,List.singleton_append]
  rintro⟨c1,c2⟩
  rcases h.1 with h1|h1
  ·exact h1 c1
  ·rw[h1]at c2;cases c2
structure Pln (u:List Wd):Prop where
 bal:scanB [] u=some []
 com:noCm 0 u=true
 ops:∀o:List (List UInt8),[47]∉o→[47,47]∉o→∀p,noOp o p u
theorem Pln.nil:Pln []:=⟨rfl,rfl,fun _ _ _ _=>rfl⟩
theorem Pln.app {u v:List Wd}(h:Pln u)(k:Pln v):Pln (u++v):=by
 refine⟨?_,?_,fun o h1 h2 p=> ?_⟩
 ·rw[scanB_app,h.bal];exact k.bal
 ·rw[noCm_app,h.com,dpL_bal h.bal,k.com];rfl
 ·show lastG _ _ _ _ _ _=none
  rw[lastG_app,dpL_bal h.bal,(h.ops o h1 h2 p).acc]
  exact(k.ops o h1 h2 _).acc _ _
theorem Pln.word {x:Wd}(h1:opnW x=false)(h2:clsW x=false)(h3:mkW [44] x=false)(h4:x.k=5→x.s=[47]∨x.s=[47,47]):Pln [x]:=by
 have hd:dpt 0 x=0:=by unfold dpt;rw[if_neg (by rw[h1];simp),if_neg (by rw[h2];simp)]
 refine⟨?_,?_,fun o k1 k2 p=> ?_⟩
 ·rw[scanB_cs,if_neg (by rw[h1];simp),if_neg (by rw[h2];simp),scanB_nil]
 ·rw[noCm,h3,Bool.and_false,noCm];rfl
 ·show lastG _ _ _ _ _ _=none
  rw[lastG,if_neg,lastG]
  rintro⟨_,c1,_,c2⟩
  rcases h4 (by omega) with e|e
  ·rw[e]at c2;exact k1 c2
  ·rw[e]at c2;exact k2 c2
theorem Pln.brk {a c:Wd}{u:List Wd}(ha:opnW a=true)(hu:scanB [] u=some [])(hc:mkW (clo a.s) c=true):Pln (a::(u++[c])):=by
 obtain⟨c1,c2⟩:=cls_of hc
 have c3:=cls_opn c1
 have hs:scanB [a.s] u=some [a.s]:=scanB_more u [] [] [a.s] hu
 have hd:dpL 1 u=1:=dpL_bal hu 1
 have h1:dpt 0 a=1:=by unfold dpt;rw[if_pos ha];rfl
 have h2:dpt 1 c=0:=by unfold dpt;rw[if_neg (by rw[c3];simp),if_pos c1];rfl
 have hk:c.k=1:=(mkW_iff.1 hc).1
 refine⟨?_,?_,fun o k1 k2 p=> ?_⟩
 ·rw[scanB_cs,if_pos ha,scanB_app,hs]
  show scanB [a.s] [c]=_
  rw[scanB_cs,if_neg (by rw[c3];simp),if_pos c1]
  dsimp only
  rw[if_pos c2,scanB_nil]
 ·have q:=(in_deep [] u [] [] 1 false 0 none hu (by omega)).2
  simp only[List.length_nil,Int.natCast_zero,Int.add_zero]at q
  rw[noCm,h1,noCm_app,q,hd,noCm,noCm,h2,mkW_no (x:=c) (.inr (by rw[c2];unfold clo;split<;>decide))]
  simp
 ·show lastG _ _ _ _ _ _=none
  have q:=fun p k acc=>(in_deep o u [] [] 1 p k acc hu (by omega)).1
  simp only[List.length_nil,Int.natCast_zero,Int.add_zero]at q
  rw[lastG,h1,if_neg (by omega),lastG_app,hd,q,lastG,lastG,if_neg]
  rintro⟨_,e,_⟩
  omega
theorem pend_brk (a c:Wd)(u:List Wd)(p:Bool)(hc:clsW c=true):pendL p (a::(u++[c]))=true:=by
 rw[pendL,pendL_app]
 show barW c=true
 unfold barW
 rw[cls_end hc]
 rfl
end Char
namespace Char
open Go.RowKit Go.Lib
open Go.Proofs.YtlmpkpjjakallaaGreatDoor.Fig (outT outV)
def StopT (T:List Wd):Prop:=∀c r,T=c::r→c.k=1∧(c.s=[41]∨c.s=[93]∨c.s=[44])
theorem stop_cls {c:Wd}{r:List Wd}{t:List UInt8}(h:mkW (clo t) c=true):StopT (c::r):=fun c' r' e=>by
 cases e
 obtain⟨h1,h2⟩:=mkW_iff.1 h
 refine⟨h1,?_⟩
 rw[h2]
 unfold clo
 split
 ·exact .inr (.inl rfl)
 ·exact .inl rfl
theorem stop_com {c:Wd}{r:List Wd}(h:mkW [44] c=true):StopT (c::r):=fun c' r' e=>by
 cases e
 exact⟨(mkW_iff.1 h).1,.inr (.inr (mkW_iff.1 h).2)⟩
theorem stop_ah1 {T:List Wd}(h:StopT T){m:List UInt8}(h1:m≠[41])(h2:m≠[93])(h3:m≠[44]):aheadL 1 m T=false:=by
 cases T with
 |nil=>rfl
 |cons c r=>
  rw[ahead_mk]
  obtain⟨_,k2⟩:=h c r rfl
  refine mkW_no (.inr fun e=> ?_)
  rcases k2 with k|k|k
  ·exact h1 (e.symm.trans k)
  ·exact h2 (e.symm.trans k)
  ·exact h3 (e.symm.trans k)
theorem stop_at {T:List Wd}(h:StopT T){k:Int}(hk:k≠1):atL k T=false:=by
 cases T with
 |nil=>rfl
 |cons c r=>
  obtain⟨k1,_⟩:=h c r rfl
  unfold atL
  dsimp only
  rw[k1,beq_eq_false_iff_ne]
  exact fun e=>hk e.symm
theorem stop_ah {T:List Wd}(h:StopT T){k:Int}(hk:k≠1)(m:List UInt8):aheadL k m T=false:=by
 cases T with
 |nil=>rfl
 |cons c r=>
  obtain⟨k1,_⟩:=h c r rfl
  unfold aheadL
  dsimp only
  rw[k1,if_neg]
  rw[beq_iff_eq]
  exact fun e=>hk e.symm
theorem stop_op {T:List Wd}(h:StopT T):∀sg:List Sg,opL sg T=none
 |[]=>rfl
 |p::r=>by rw[opL,if_neg (by rw[stop_ah h (by decide)];simp),stop_op h r]
theorem stop_rank {T:List Wd}(h:StopT T):∀n,NoRank n T
 |0=>by
  refine⟨⟨⟨⟨stop_ah1 h (by decide) (by decide) (by decide),stop_ah h (by decide) _,stop_ah h (by decide) _⟩,?_⟩,stop_op h _⟩,stop_op h _⟩
  unfold stpL
  rw[stop_at h (by decide),stop_at h (by decide),stop_at h (by decide),stop_at h (by decide),stop_ah1 h (by decide) (by decide) (by decide),stop_ah1 h (by decide) (by decide) (by decide),stop_ah1 h (by decide) (by decide) (by decide)]
  rfl
 |n+1=>⟨stop_rank h n,stop_op h _⟩
theorem ahead1_inv {m:List UInt8}{l:List Wd}(h:aheadL 1 m l=true):∃a r,l=a::r∧mkW m a=true:=by
 cases l with
 |nil=>cases h
 |cons a r=>exact⟨a,r,rfl,h⟩
theorem ahead5_inv {m:List UInt8}{l:List Wd}(h:aheadL 5 m l=true):∃a r,l=a::r∧opMk m a=true:=by
 cases l with
 |nil=>cases h
 |cons a r=>exact⟨a,r,rfl,h⟩
theorem must_inv {m:List UInt8}{l t:List Wd}(h:mustW m l=some t):∃c,l=c::t∧mkW m c=true:=by
 unfold mustW at h
 split at h
 ·rename_i ha
  obtain⟨a,r,rfl,hm⟩:=ahead1_inv ha
  cases h
  exact⟨a,rfl,hm⟩
 ·cases h
theorem must_mk {m:List UInt8}{c:Wd}{t:List Wd}(h:mkW m c=true):mustW m (c::t)=some t:=by
 unfold mustW
 rw[ahead_mk,if_pos h]
 rfl
def Pe (u:List Wd):Prop:=u=[]∨pendL false u=true
theorem pend_app {v u:List Wd}(hv:pendL false v=true)(hu:Pe u):pendL false (v++u)=true:=by
 rw[pendL_app,hv]
 rcases hu with rfl|hu
 ·rfl
 ·by_cases h:u=[]
  ·subst h;rfl
  ·rw[pendL_ne h true false,hu]
theorem Pe.app {v u:List Wd}(hv:Pe v)(hu:Pe u):Pe (v++u):=by
 rcases hv with rfl|hv
 ·exact hu
 ·exact .inr (pend_app hv hu)
structure Gd (L:List (List (List UInt8)))(u:List Wd):Prop where
 ne:u≠[]
 bal:scanB [] u=some []
 com:noCm 0 u=true
 pe:pendL false u=true
 ops:∀o∈L,noOp o false u
structure RelE (E:PE)(O:List Wd→Option Ex)(N:Nat):Prop where
 A:∀ts x r,ts.length<N→E ts=some (x,r)→∃u,ts=u++r∧Gd [] u∧O u=some x∧E u=some (x,[])
 B:∀u x,u.length<N→O u=some x→E u=some (x,[])
 M:MsE E
 X:∀T,XtE E E (NoRank 5 T) T
section
variable {E:PE} {O:List Wd→Option Ex} {N:Nat}
theorem RelE.x (H:RelE E O N){u T:List Wd}{x:Ex}(hu:E u=some (x,[]))(hT:StopT T):E (u++T)=some (x,T):=by
 have :=H.X T u x [] hu (.inr (stop_rank hT 5))
 rwa [List.nil_append]at this
theorem RelE.sh (H:RelE E O N){ts r:List Wd}{x:Ex}(h:E ts=some (x,r)):r.length<ts.length:=by
 have h1:=H.M _ _ _ h
 have h2:=cntE_pos x
 omega
theorem br_to (H:RelE E O N){l r:List Wd}{t:List UInt8}{x:Ex}{c:Wd}(hl:l.length<N)(h:E l=some (x,c::r))(hc:mkW (clo t) c=true):
 ∃u,l=u++c::r∧partR [t] l=some (u,r)∧O u=some x∧scanB [] u=some []∧E u=some (x,[]):=by
 obtain⟨u,e,g,o,eu⟩:=H.A _ _ _ hl h
 refine⟨u,e,?_,o,g.bal,eu⟩
 rw[e]
 exact partR_in u [] t c r g.bal hc
theorem br_of (H:RelE E O N){l u r:List Wd}{t:List UInt8}{x:Ex}(hl:l.length<N)(h:partR [t] l=some (u,r))(ho:O u=some x):
 ∃c,mkW (clo t) c=true∧l=u++c::r∧scanB [] u=some []∧E l=some (x,c::r):=by
 obtain⟨c,e1,e2,e3⟩:=partR_out l [] t u r h
 have hu:u.length<N:=by
  rw[e1,List.length_append]at hl
  omega
 have :=H.x (H.B u x hu ho) (stop_cls (r:=r) e3)
 exact⟨c,e3,e1,e2,by rw[e1];exact this⟩
def predsD (O:List Wd→Option Ex):Nat→List Wd→List Ex→Option (List Ex×List Wd)
 |0,_,_=>none
 |f+1,l,acc=>if aheadL 1 [91] l then (match partR [[91]] l.tail with
  |none=>none
  |some (u,r)=>match O u with
   |none=>none
   |some x=>predsD O f r (acc++[x])) else some (acc,l)
theorem preds_eq (H:RelE E O N):∀(f:Nat) (l:List Wd) (acc:List Ex),l.length≤N→predsL E f l acc=predsD O f l acc
 |0,_,_,_=>by rw[predsL,predsD]
 |f+1,l,acc,hl=>by
  rw[predsL,predsD]
  split
  ·rename_i ha
   have ht:=tail_len (ahead_ne ha)
   cases hp:partR [[91]] l.tail with
   |none=>
    dsimp only
    cases hE:E l.tail with
    |none=>rfl
    |some q=>
     obtain⟨x,r⟩:=q
     dsimp only
     cases hm:mustW [93] r with
     |none=>rfl
     |some t=>
      obtain⟨c,rfl,hc⟩:=must_inv hm
      obtain⟨u,_,q1,_⟩:=br_to H (t:=[91]) (by omega) hE hc
      rw[hp]at q1
      cases q1
   |some q=>
    obtain⟨u,r⟩:=q
    dsimp only
    cases hO:O u with
    |none=>
     dsimp only
     cases hE:E l.tail with
     |none=>rfl
     |some q=>
      obtain⟨x,r1⟩:=q
      dsimp only
      cases hm:mustW [93] r1 with
      |none=>rfl
      |some t=>
       obtain⟨c,rfl,hc⟩:=must_inv hm
       obtain⟨u',_,q1,q2,_⟩:=br_to H (t:=[91]) (by omega) hE hc
       rw[hp]at q1
       cases q1
       rw[hO]at q2
       cases q2
    |some x=>
     obtain⟨c,hc,e1,_,hE⟩:=br_of H (by omega) hp hO
     rw[hE]
     dsimp only
     have hm1:mustW [93] (c::r)=some r:=must_mk hc
     rw[hm1]
     dsimp only
     refine preds_eq H f r _ ?_
     rw[e1,List.length_append,List.length_cons]at ht
     omega
  ·rfl
theorem preds_loc (H:RelE E O N):∀(f:Nat) (ts:List Wd) (acc ps:List Ex) (r:List Wd),ts.length≤N→predsL E f ts acc=some (ps,r)→
 ∃u,ts=u++r∧Pln u∧Pe u∧aheadL 1 [91] r=false∧∀f',u.length<f'→predsL E f' u acc=some (ps,[])
 |0,_,_,_,_,_,h=>by rw[predsL]at h;cases h
 |f+1,ts,acc,ps,r,hl,h=>by
  rw[predsL]at h
  split at h
  ·rename_i ha
   obtain⟨a,l,rfl,hm⟩:=ahead1_inv ha
   rw[List.tail_cons]at h
   rw[List.length_cons]at hl
   cases hE:E l with
   |none=>rw[hE]at h;cases h
   |some q=>
    obtain⟨x,r1⟩:=q
    rw[hE]at h
    dsimp only at h
    cases hm1:mustW [93] r1 with
    |none=>rw[hm1]at h;cases h
    |some t=>
     rw[hm1]at h
     dsimp only at h
     obtain⟨c,rfl,hc⟩:=must_inv hm1
     obtain⟨u,e1,_,_,hb,hu⟩:=br_to H (t:=[91]) (by omega) hE hc
     have hlt:t.length≤N:=by
      rw[e1,List.length_append,List.length_cons]at hl
      omega
     obtain⟨u2,e2,p2,q2,n2,k2⟩:=preds_loc H f t _ _ _ hlt h
     have ho:opnW a=true:=by unfold opnW;rw[hm,Bool.or_true]
     have hs:a.s=[91]:=(mkW_iff.1 hm).2
     refine⟨(a::(u++[c]))++u2,by rw[e1,e2];simp,(Pln.brk ho hb (by rw[hs];exact hc)).app p2,(Pe.app (.inr (pend_brk a c u false (cls_of (t:=[91]) hc).1)) q2),n2,fun f' hf=> ?_⟩
     obtain⟨f'',rfl⟩:∃k,f'=k+1:=⟨f'-1,by omega⟩
     have hx:=H.x (T:=c::u2) hu (stop_cls (t:=[91]) hc)
     rw[List.cons_append,List.append_assoc,List.singleton_append,predsL,ahead_mk,if_pos hm,List.tail_cons,hx]
     dsimp only
     rw[must_mk hc]
     exact k2 f'' (by simp only[List.length_append,List.length_cons]at hf;omega)
  ·rename_i ha
   cases h
   refine⟨[],rfl,Pln.nil,.inl rfl,by simpa using ha,fun f' hf=> ?_⟩
   obtain⟨f'',rfl⟩:∃k,f'=k+1:=⟨f'-1,by omega⟩
   rw[predsL]
   rfl
def partsD (O:List Wd→Option Ex):List (List Wd)→List Ex→Option (List Ex)
 |[],acc=>some acc
 |u::r,acc=>match O u with
  |none=>none
  |some x=>partsD O r (acc++[x])
def argsD (O:List Wd→Option Ex)(l:List Wd):Option (List Ex×List Wd):=if aheadL 1 [40] l then (match partR [[40]] l.tail with
 |none=>none
 |some (w,r)=>if w=[] then some ([],r) else match partsD O (cutA 0 [] w) [] with
  |none=>none
  |some xs=>some (xs,r)) else none
theorem com_no {k:Wd}(h:mkW [44] k=true):opnW k=false∧clsW k=false:=by
 have :=(mkW_iff.1 h).2
 unfold opnW clsW
 rw[mkW_no (.inr (by rw[this];decide)),mkW_no (.inr (by rw[this];decide)),mkW_no (.inr (by rw[this];decide)),mkW_no (.inr (by rw[this];decide))]
 exact⟨rfl,rfl⟩
theorem dpt_com {k:Wd}(h:mkW [44] k=true)(n:Int):dpt n k=n:=by
 obtain⟨h1,h2⟩:=com_no h
 unfold dpt
 rw[if_neg (by rw[h1];simp),if_neg (by rw[h2];simp)]
theorem scan_com {k:Wd}(h:mkW [44] k=true)(st:List (List UInt8))(r:List Wd):scanB st (k::r)=scanB st r:=by
 obtain⟨h1,h2⟩:=com_no h
 rw[scanB_cs,if_neg (by rw[h1];simp),if_neg (by rw[h2];simp)]
theorem cut_first:∀(w:List Wd) (st:List (List UInt8)) (cur:List Wd),scanB st w=some []→(cutA st.length cur w=[cur++w]∧noCm st.length w=true)∨
 ∃u k w',w=u++k::w'∧scanB st u=some []∧mkW [44] k=true∧scanB [] w'=some []∧cutA st.length cur w=(cur++u)::cutA 0 [] w'
 |[],st,cur,_=> .inl ⟨by rw[cutA,List.append_nil],rfl⟩
 |x::w,st,cur,h=>by
  obtain⟨s1,h1,h2⟩:=scanB_cons h
  have hd:=dpt_scan h1 0
  rw[Int.zero_add,Int.zero_add]at hd
  by_cases hc:dpt st.length x=0∧mkW [44] x=true
  ·have hs:=scan_com hc.2 st []
   obtain rfl:s1=st:=by rw[h1,scanB_nil]at hs;exact Option.some.inj hs
   have h0:s1=[]:=List.length_eq_zero_iff.1 (by have :=hc.1;rw[hd]at this;omega)
   subst h0
   exact .inr ⟨[],x,w,rfl,rfl,hc.2,h2,by rw[cutA,if_pos hc,List.append_nil,hc.1]⟩
  ·rw[cutA,if_neg hc,hd]
   rcases cut_first w s1 (cur++[x]) h2 with⟨q1,q2⟩|⟨u,k,w',e1,e2,e3,e4,e5⟩
   ·refine .inl ⟨by rw[q1];simp,?_⟩
    rw[noCm,hd,q2,Bool.and_true,Bool.not_eq_true',Bool.and_eq_false_iff,decide_eq_false_iff_not]
    by_cases c1:(s1.length:Int)=0
    ·right
     cases hk:mkW [44] x with
     |false=>rfl
     |true=>exact absurd ⟨by rw[hd];exact c1,hk⟩ hc
    ·exact .inl c1
   ·refine .inr ⟨x::u,k,w',by rw[e1];rfl,?_,e3,e4,by rw[e5];simp⟩
    have :=scanB_app [x] u st
    rw[List.singleton_append,h1]at this
    rw[this]
    exact e2
def argsE (E:PE)(f:Nat)(l:List Wd)(acc:List Ex):Option (List Ex×List Wd):=match E l with
 |none=>none
 |some (x,r)=>argsT E f r (acc++[x])
theorem args_to (H:RelE E O N):∀(f:Nat) (l:List Wd) (acc xs:List Ex) (r:List Wd),l.length<N→argsE E f l acc=some (xs,r)→
 ∃w c,l=w++c::r∧mkW [41] c=true∧scanB [] w=some []∧w≠[]∧partsD O (cutA 0 [] w) acc=some xs:=by
 intro f
 induction f with
 |zero=>
  intro l acc xs r _ h
  unfold argsE at h
  cases hE:E l with
  |none=>rw[hE]at h;cases h
  |some q=>rw[hE]at h;dsimp only at h;rw[argsT]at h;cases h
 |succ f ih=>
  intro l acc xs r hl h
  unfold argsE at h
  cases hE:E l with
  |none=>rw[hE]at h;cases h
  |some q=>
   obtain⟨x,r1⟩:=q
   rw[hE]at h
   dsimp only at h
   obtain⟨u,e1,g,ho,_⟩:=H.A _ _ _ hl hE
   rw[argsT]at h
   split at h
   ·rename_i ha
    obtain⟨k,l2,rfl,hk⟩:=ahead1_inv ha
    rw[List.tail_cons]at h
    have hl2:l2.length<N:=by
     rw[e1,List.length_append,List.length_cons]at hl
     omega
    obtain⟨w,c,e2,e3,e4,e5,e6⟩:=ih l2 (acc++[x]) xs r hl2 h
    refine⟨u++k::w,c,by rw[e1,e2];simp,e3,?_,by simp,?_⟩
    ·rw[scanB_app,g.bal]
     show scanB [] (k::w)=_
     rw[scan_com hk,e4]
    ·rw[cutA_no u _ 0 [] g.com,dpL_bal g.bal,List.nil_append,cutA,dpt_com hk,if_pos ⟨rfl,hk⟩,partsD,ho]
     exact e6
   ·cases hm:mustW [41] r1 with
    |none=>rw[hm]at h;cases h
    |some t=>
     rw[hm]at h
     cases h
     obtain⟨c,rfl,hc⟩:=must_inv hm
     refine⟨u,c,e1,hc,g.bal,g.ne,?_⟩
     have :=cutA_no u [] 0 [] g.com
     rw[List.append_nil,dpL_bal g.bal,List.nil_append]at this
     rw[this,cutA,partsD,ho]
     rfl
theorem args_of (H:RelE E O N)(c:Wd)(r:List Wd)(hc:mkW [41] c=true):∀(n:Nat) (w:List Wd) (acc xs:List Ex),w.length≤n→(w++c::r).length<N→scanB [] w=some []→partsD O (cutA 0 [] w) acc=some xs→
 ∃x r1,E (w++c::r)=some (x,r1)∧∀f,r1.length<f→argsT E f r1 (acc++[x])=some (xs,r):=by
 have hcc:mkW [44] c=false:=mkW_no (.inr (by rw[(mkW_iff.1 hc).2];decide))
 intro n
 induction n with
 |zero=>
  intro w acc xs hw hl hb hp
  have hw0:w=[]:=List.length_eq_zero_iff.1 (by omega)
  subst hw0
  rw[cutA,partsD]at hp
  cases ho:O [] with
  |none=>rw[ho]at hp;cases hp
  |some x=>
   have hE:=H.B [] x (by simp at hl ⊢;omega) ho
   have :=H.sh hE
   simp at this
 |succ n ih=>
  intro w acc xs hw hl hb hp
  rcases cut_first w [] [] hb with⟨q1,_⟩|⟨u,k,w',e1,e2,e3,e4,e5⟩
  ·rw[List.nil_append]at q1
   change cutA 0 [] w=[w]at q1
   rw[q1,partsD]at hp
   cases ho:O w with
   |none=>rw[ho]at hp;cases hp
   |some x=>
    rw[ho]at hp
    dsimp only at hp
    rw[partsD]at hp
    cases hp
    have hwl:w.length<N:=by
     rw[List.length_append]at hl
     omega
    refine⟨x,c::r,H.x (H.B w x hwl ho) (stop_cls (t:=[40]) hc),fun f hf=> ?_⟩
    obtain⟨f',rfl⟩:∃k,f=k+1:=⟨f-1,by omega⟩
    rw[argsT,ahead_mk,hcc,if_neg (by simp),must_mk hc]
    rfl
  ·change cutA 0 [] w=([]++u)::cutA 0 [] w' at e5
   rw[e5,List.nil_append,partsD]at hp
   cases ho:O u with
   |none=>rw[ho]at hp;cases hp
   |some x=>
    rw[ho]at hp
    dsimp only at hp
    subst e1
    simp only[List.length_append,List.length_cons]at hw hl
    obtain⟨y,r2,k1,k2⟩:=ih w' (acc++[x]) xs (by omega) (by simp only[List.length_append,List.length_cons];omega) e4 hp
    refine⟨x,k::(w'++c::r),by rw[List.append_assoc,List.cons_append];exact H.x (H.B u x (by omega) ho) (stop_com e3),fun f hf=> ?_⟩
    obtain⟨f',rfl⟩:∃k,f=k+1:=⟨f-1,by omega⟩
    rw[argsT,ahead_mk,if_pos e3,List.tail_cons,k1]
    refine k2 f' ?_
    have :=H.sh k1
    rw[List.length_cons]at hf
    omega
def argsM (E:PE)(t:List Wd):Option (List Ex×List Wd):=match E t with
 |none=>none
 |some (x,r)=>argsT E (r.length+1) r [x]
def argsN (O:List Wd→Option Ex)(t:List Wd):Option (List Ex×List Wd):=match partR [[40]] t with
 |none=>none
 |some (w,r)=>if w=[] then some ([],r) else match partsD O (cutA 0 [] w) [] with
  |none=>none
  |some xs=>some (xs,r)
theorem opt_eq {α:Type}{a b:Option α}(h:∀p,a=some p↔b=some p):a=b:=by
 cases a with
 |none=>cases b with
  |none=>rfl
  |some q=>exact(h q).2 rfl
 |some q=>exact((h q).1 rfl).symm
theorem args_eq (H:RelE E O N)(l:List Wd)(hl:l.length≤N):argsL E l=argsD O l:=by
 unfold argsL argsD
 by_cases ha:aheadL 1 [40] l=true
 ·obtain⟨a,t,rfl,hm⟩:=ahead1_inv ha
  rw[if_pos ha,must_mk hm,List.tail_cons]
  dsimp only
  rw[List.length_cons]at hl
  by_cases hb:aheadL 1 [41] t=true
  ·obtain⟨c,t2,rfl,hc⟩:=ahead1_inv hb
   rw[if_pos hb,List.tail_cons]
   have :=partR_in [] [] [40] c t2 rfl hc
   rw[List.nil_append,List.nil_append]at this
   rw[this]
   dsimp only
   rw[if_pos rfl]
  ·rw[if_neg hb]
   show argsM E t=argsN O t
   refine opt_eq fun p=> ?_
   obtain⟨xs,r⟩:=p
   constructor
   ·intro h
    unfold argsM at h
    cases hE:E t with
    |none=>rw[hE]at h;cases h
    |some q=>
     obtain⟨x,r1⟩:=q
     rw[hE]at h
     dsimp only at h
     obtain⟨w,c,e1,e2,e3,e4,e5⟩:=args_to H (r1.length+1) t [] xs r (by omega) (by unfold argsE;rw[hE];exact h)
     have hp:=partR_in w [] [40] c r e3 e2
     rw[List.nil_append,←e1]at hp
     unfold argsN
     rw[hp]
     dsimp only
     rw[if_neg e4,e5]
   ·intro h
    unfold argsN at h
    cases hp:partR [[40]] t with
    |none=>rw[hp]at h;cases h
    |some q=>
     obtain⟨w,r1⟩:=q
     rw[hp]at h
     dsimp only at h
     obtain⟨c,e1,e2,e3⟩:=partR_out t [] [40] w r1 hp
     split at h
     ·rename_i hw
      subst hw
      rw[e1,List.nil_append,ahead_mk]at hb
      exact absurd e3 hb
     ·cases hq:partsD O (cutA 0 [] w) [] with
      |none=>rw[hq]at h;cases h
      |some ys=>
       rw[hq]at h
       cases h
       obtain⟨x,r2,k1,k2⟩:=args_of H c r e3 w.length w [] xs (Nat.le_refl _) (by rw[←e1];omega) e2 hq
       unfold argsM
       rw[e1,k1]
       exact k2 _ (by omega)
 ·rw[if_neg ha]
  have :mustW [40] l=none:=by unfold mustW;rw[if_neg ha]
  rw[this]
theorem args_loc (H:RelE E O N){ts:List Wd}{xs:List Ex}{r:List Wd}(hl:ts.length≤N)(h:argsL E ts=some (xs,r)):
 ∃u,ts=u++r∧u≠[]∧Pln u∧pendL false u=true∧argsL E u=some (xs,[]):=by
 rw[args_eq H ts hl]at h
 unfold argsD at h
 split at h
 ·rename_i ha
  obtain⟨a,t,rfl,hm⟩:=ahead1_inv ha
  rw[List.tail_cons]at h
  cases hp:partR [[40]] t with
  |none=>rw[hp]at h;cases h
  |some q=>
   obtain⟨w,r1⟩:=q
   rw[hp]at h
   dsimp only at h
   obtain⟨c,e1,e2,e3⟩:=partR_out t [] [40] w r1 hp
   have ho:opnW a=true:=by unfold opnW;rw[hm,Bool.true_or]
   have hs:a.s=[40]:=(mkW_iff.1 hm).2
   have hr:r1=r:=by
    split at h
    ·cases h;rfl
    ·cases hq:partsD O (cutA 0 [] w) [] with
     |none=>rw[hq]at h;cases h
     |some ys=>rw[hq]at h;cases h;rfl
   subst hr
   refine⟨a::(w++[c]),by rw[e1];simp,by simp,Pln.brk ho e2 (by rw[hs];exact e3),pend_brk a c w false (cls_of (t:=[40]) e3).1,?_⟩
   rw[args_eq H _ (by rw[e1]at hl;simp at hl ⊢;omega)]
   unfold argsD
   have hp2:=partR_in w [] [40] c [] e2 e3
   rw[List.nil_append]at hp2
   rw[ahead_mk,if_pos hm,List.tail_cons,hp2]
   dsimp only
   split at h
   ·rename_i hw
    cases h
    rw[if_pos hw]
   ·rename_i hw
    rw[if_neg hw]
    cases hq:partsD O (cutA 0 [] w) [] with
    |none=>rw[hq]at h;cases h
    |some ys=>rw[hq]at h;cases h;rfl
 ·cases h
end
end Char
end Go.Proofs.YtlmpkpjjakallaaGreatDoor
