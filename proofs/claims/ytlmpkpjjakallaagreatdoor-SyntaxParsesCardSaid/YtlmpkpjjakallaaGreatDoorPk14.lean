import Derived.Test.YtlmpkpjjakallaaGreatDoorPk13
namespace Go.Proofs.YtlmpkpjjakallaaGreatDoor
namespace Char
open Go.RowKit Go.Lib
open Go.Proofs.YtlmpkpjjakallaaGreatDoor.Fig (outT outV)
theorem mk_kind {x:Wd}(h:x.k≠1)(m:List UInt8):mkW m x=false:=mkW_no (.inl h)
theorem Pln.kind {x:Wd}(h1:x.k≠1)(h5:x.k≠5):Pln [x]:=
 Pln.word (by unfold opnW;rw[mk_kind h1,mk_kind h1];rfl) (by unfold clsW;rw[mk_kind h1,mk_kind h1];rfl) (mk_kind h1 _) (fun e=>absurd e h5)
theorem end_kind {x:Wd}(h1:x.k≠1)(h5:x.k≠5):endD x=true:=by
 unfold endD
 rw[mk_kind h1,mk_kind h1,mk_kind h1,mk_kind h1,mk_kind h1]
 have :((x.k:Int)==5)=false:=by rw[beq_eq_false_iff_ne];omega
 rw[this]
 rfl
theorem pend_kind {x:Wd}(h1:x.k≠1)(h5:x.k≠5)(p:Bool):pendL p [x]=true:=by
 show barW x=true
 unfold barW
 rw[end_kind h1 h5]
 rfl
theorem Pln.mark {x:Wd}{m:List UInt8}(h:mkW m x=true)(h1:m≠[40])(h2:m≠[91])(h3:m≠[41])(h4:m≠[93])(h5:m≠[44]):Pln [x]:=by
 obtain⟨k,s⟩:=mkW_iff.1 h
 exact Pln.word (by unfold opnW;rw[mkW_no (.inr (by rw[s];exact h1)),mkW_no (.inr (by rw[s];exact h2))];rfl) (by unfold clsW;rw[mkW_no (.inr (by rw[s];exact h3)),mkW_no (.inr (by rw[s];exact h4))];rfl) (mkW_no (.inr (by rw[s];exact h5))) (fun e=>by omega)
theorem Pln.bar {x:Wd}{m:List UInt8}(h:opMk m x=true)(hm:m=[47]∨m=[47,47]):Pln [x]:=by
 obtain⟨k,s⟩:=opMk_iff.1 h
 have h1:x.k≠1:=by omega
 exact Pln.word (by unfold opnW;rw[mk_kind h1,mk_kind h1];rfl) (by unfold clsW;rw[mk_kind h1,mk_kind h1];rfl) (mk_kind h1 _) (fun _=>by rw[s];exact hm)
theorem atL_cons {k:Int}{x:Wd}{r:List Wd}:atL k (x::r)=((x.k:Int)==k):=rfl
theorem pend_cons {x:Wd}{u:List Wd}(hn:u≠[])(h:pendL false u=true)(p:Bool):pendL p (x::u)=true:=by
 rw[pendL,pendL_ne hn _ false,h]
theorem pend_app2 {v u:List Wd}(hn:u≠[])(h:pendL false u=true)(p:Bool):pendL p (v++u)=true:=by
 rw[pendL_app,pendL_ne hn _ false,h]
theorem test_loc {ts r:List Wd}{te:Te3}(h:testL ts=some (te,r)):∃u,ts=u++r∧u≠[]∧Pln u∧pendL false u=true∧testL u=some (te,[]):=by
 cases ts with
 |nil=>cases h
 |cons x t=>
  unfold testL at h
  dsimp only at h
  split at h
  ·rename_i c
   cases h
   exact⟨[x],rfl,by simp,Pln.kind (by omega) (by omega),pend_kind (by omega) (by omega) _,by unfold testL;dsimp only;rw[if_pos c]⟩
  ·rename_i c2
   split at h
   ·rename_i c
    cases h
    exact⟨[x],rfl,by simp,Pln.kind (by omega) (by omega),pend_kind (by omega) (by omega) _,by unfold testL;dsimp only;rw[if_neg c2,if_pos c]⟩
   ·rename_i c3
    split at h
    ·rename_i c4
     have hx:Pln [x]:=Pln.kind (by omega) (by omega)
     unfold typL at h
     cases hm:mustW [40] t with
     |none=>rw[hm]at h;cases h
     |some t1=>
      rw[hm]at h
      dsimp only at h
      obtain⟨a,rfl,ha⟩:=must_inv hm
      have ho:opnW a=true:=by unfold opnW;rw[ha,Bool.true_or]
      have hs:a.s=[40]:=(mkW_iff.1 ha).2
      split at h
      ·rename_i c5
       cases t1 with
       |nil=>cases h
       |cons y t2=>
        dsimp only at h
        cases hm2:mustW [41] t2 with
        |none=>rw[hm2]at h;cases h
        |some t3=>
         rw[hm2]at h
         cases h
         obtain⟨c,rfl,hc⟩:=must_inv hm2
         have hy:(y.k:Int)==8:=c5.2
         have hy8:y.k=8:=by rw[beq_iff_eq]at hy;omega
         have hb:scanB [] [y]=some []:=(Pln.kind (by omega) (by omega)).bal
         refine⟨x::a::([y]++[c]),rfl,by simp,hx.app (Pln.brk ho hb (by rw[hs];exact hc)),pend_cons (by simp) (pend_brk a c [y] false (cls_of (t:=[40]) hc).1) _,?_⟩
         unfold testL
         dsimp only
         rw[if_neg c2,if_neg c3,if_pos c4]
         unfold typL
         rw[must_mk ha]
         dsimp only
         rw[if_pos ⟨c5.1,c5.2⟩]
         dsimp only[List.singleton_append]
         rw[must_mk hc]
         rfl
      ·rename_i c5
       cases hm2:mustW [41] t1 with
       |none=>rw[hm2]at h;cases h
       |some t3=>
        rw[hm2]at h
        cases h
        obtain⟨c,rfl,hc⟩:=must_inv hm2
        refine⟨x::a::([]++[c]),rfl,by simp,hx.app (Pln.brk ho rfl (by rw[hs];exact hc)),pend_cons (by simp) (pend_brk a c [] false (cls_of (t:=[40]) hc).1) _,?_⟩
        unfold testL
        dsimp only
        rw[if_neg c2,if_neg c3,if_pos c4]
        unfold typL
        rw[must_mk ha]
        dsimp only
        have c6:¬(tyK x.s=6∧atL 8 ([]++[c])=true):=c5
        rw[if_neg c6]
        dsimp only[List.nil_append]
        rw[must_mk hc]
        rfl
    ·cases h
theorem axis_loc {ts t:List Wd}{a:Int}(h:axisL ts=some (a,t)):∃u,ts=u++t∧Pln u∧∀t1 t2,t=t1++t2→t1≠[]→axisL (u++t1)=some (a,t1):=by
 unfold axisL at h
 split at h
 ·rename_i ha
  obtain⟨x,r,rfl,hm⟩:=ahead1_inv ha
  cases h
  refine⟨[x],rfl,Pln.mark hm (by decide) (by decide) (by decide) (by decide) (by decide),fun t1 t2 _ _=> ?_⟩
  unfold axisL
  rw[List.singleton_append,ahead_mk,if_pos hm]
  rfl
 ·rename_i ha
  split at h
  ·rename_i hb
   cases ts with
   |nil=>cases h
   |cons x r=>
    dsimp only at h
    split at h
    ·cases h
    ·rename_i h0
     cases hm:mustW [58,58] r with
     |none=>rw[hm]at h;cases h
     |some t'=>
      rw[hm]at h
      cases h
      obtain⟨c,rfl,hc⟩:=must_inv hm
      have hk:x.k=7:=by rw[atL_cons,beq_iff_eq]at hb;omega
      refine⟨[x]++[c],rfl,(Pln.kind (by omega) (by omega)).app (Pln.mark hc (by decide) (by decide) (by decide) (by decide) (by decide)),fun t1 t2 _ _=> ?_⟩
      unfold axisL
      have hb1:atL 7 (x::c::t1)=true:=hb
      rw[List.append_assoc,List.singleton_append,List.singleton_append,ahead_mk,if_neg (by rw[mk_kind (by omega)];simp),if_pos hb1]
      dsimp only
      rw[if_neg h0,must_mk hc]
      rfl
  ·rename_i hb
   cases h
   refine⟨[],rfl,Pln.nil,fun t1 t2 e hn=> ?_⟩
   unfold axisL
   rw[List.nil_append,if_neg,if_neg]
   ·rw[e,at_app t2 hn]at hb;exact hb
   ·rw[e,ahead_app t2 hn]at ha;exact ha
section
variable {E:PE} {O:List Wd→Option Ex} {N:Nat}
def stpDc (O:List Wd→Option Ex)(ts:List Wd):Option (St×List Wd):=
 if aheadL 1 [46] ts then some (anySt 10,ts.tail) else if aheadL 1 [46,46] ts then some (anySt 3,ts.tail) else match axisL ts with
  |none=>none
  |some (a,t)=>match testL t with
   |none=>none
   |some (te,u)=>match predsD O (u.length+1) u [] with
    |none=>none
    |some (ps,r)=>some (.mk a te.1 te.2.1 te.2.2 ps,r)
theorem step_eq (H:RelE E O N)(l:List Wd)(hl:l.length≤N):stepL E l=stpDc O l:=by
 unfold stepL stpDc
 split
 ·rfl
 ·split
  ·rfl
  ·cases ha:axisL l with
   |none=>rfl
   |some q=>
    obtain⟨a,t⟩:=q
    dsimp only
    cases hb:testL t with
    |none=>rfl
    |some q=>
     obtain⟨te,u⟩:=q
     dsimp only
     have h1:=axis_lenX ha
     have h2:=test_lenX hb
     rw[preds_eq H _ u [] (by omega)]
     cases predsD O (u.length+1) u []<;>rfl
theorem step_loc (H:RelE E O N){ts r:List Wd}{s:St}(hl:ts.length≤N)(h:stepL E ts=some (s,r)):∃u,ts=u++r∧u≠[]∧Pln u∧pendL false u=true∧stepL E u=some (s,[]):=by
 unfold stepL at h
 split at h
 ·rename_i ha
  obtain⟨x,t,rfl,hm⟩:=ahead1_inv ha
  cases h
  refine⟨[x],rfl,by simp,Pln.mark hm (by decide) (by decide) (by decide) (by decide) (by decide),?_,by unfold stepL;rw[ahead_mk,if_pos hm];rfl⟩
  show barW x=true
  unfold barW endD
  obtain⟨k,s⟩:=mkW_iff.1 hm
  rw[mkW_no (.inr (by rw[s];decide)),mkW_no (.inr (by rw[s];decide)),mkW_no (.inr (by rw[s];decide)),mkW_no (.inr (by rw[s];decide)),mkW_no (.inr (by rw[s];decide)),k]
  rfl
 ·rename_i ha
  split at h
  ·rename_i hb
   obtain⟨x,t,rfl,hm⟩:=ahead1_inv hb
   cases h
   refine⟨[x],rfl,by simp,Pln.mark hm (by decide) (by decide) (by decide) (by decide) (by decide),?_,by unfold stepL;rw[ahead_mk]at ha ⊢;rw[if_neg ha,ahead_mk,if_pos hm];rfl⟩
   show barW x=true
   unfold barW endD
   obtain⟨k,s⟩:=mkW_iff.1 hm
   rw[mkW_no (.inr (by rw[s];decide)),mkW_no (.inr (by rw[s];decide)),mkW_no (.inr (by rw[s];decide)),mkW_no (.inr (by rw[s];decide)),mkW_no (.inr (by rw[s];decide)),k]
   rfl
  ·rename_i hb
   cases hx:axisL ts with
   |none=>rw[hx]at h;cases h
   |some q=>
    obtain⟨a,t⟩:=q
    rw[hx]at h
    dsimp only at h
    cases hy:testL t with
    |none=>rw[hy]at h;cases h
    |some q=>
     obtain⟨te,v⟩:=q
     rw[hy]at h
     dsimp only at h
     cases hz:predsL E (v.length+1) v [] with
     |none=>rw[hz]at h;cases h
     |some q=>
      obtain⟨ps,w⟩:=q
      rw[hz]at h
      cases h
      have h1:=axis_lenX hx
      have h2:=test_lenX hy
      obtain⟨ua,e1,p1,k1⟩:=axis_loc hx
      obtain⟨ut,e2,n2,p2,q2,k2⟩:=test_loc hy
      obtain⟨up,e3,p3,q3,_,k3⟩:=preds_loc H _ v [] ps r (by omega) hz
      have hn:ut++up≠[]:=by simp[n2]
      refine⟨ua++(ut++up),by rw[e1,e2,e3];simp,by simp[n2],p1.app (p2.app p3),pend_app2 hn (pend_app q2 q3) _,?_⟩
      have e4:ts=(ua++(ut++up))++r:=by rw[e1,e2,e3];simp
      have hn4:ua++(ut++up)≠[]:=by simp[n2]
      rw[e4,ahead_app r hn4]at ha hb
      unfold stepL
      rw[if_neg ha,if_neg hb,k1 (ut++up) r (by rw[e2,e3];simp) hn]
      dsimp only
      have :=test_x (T:=up) k2
      rw[List.nil_append]at this
      rw[this]
      dsimp only
      rw[k3 _ (by omega)]
def stepsD (O:List Wd→Option Ex):Nat→List Wd→List St→Option (List St)
 |0,_,_=>none
 |f+1,l,acc=>if l=[] then some acc else if aheadL 5 [47] l then (match stpDc O l.tail with
  |none=>none
  |some (s,r)=>stepsD O f r (acc++[s])) else if aheadL 5 [47,47] l then (match stpDc O l.tail with
  |none=>none
  |some (s,r)=>stepsD O f r ((acc++[anySt 11])++[s])) else none
def whl {α:Type}:Option (α×List Wd)→Option α
 |some (x,[])=>some x
 |_=>none
theorem whl_iff {α:Type}{o:Option (α×List Wd)}{x:α}:whl o=some x↔o=some (x,[]):=by
 unfold whl
 split
 ·exact⟨fun h=>by cases h;rfl,fun h=>by cases h;rfl⟩
 ·rename_i h
  exact⟨fun e=>(by cases e),fun e=>absurd e (h x)⟩
def stepsS (O:List Wd→Option Ex)(f:Nat)(acc:List St)(l:List Wd):Option (List St):=match stpDc O l with
 |none=>none
 |some (s,r)=>stepsD O f r (acc++[s])
def onwS (E:PE)(f:Nat)(acc:List St)(l:List Wd):Option (List St×List Wd):=match stepL E l with
 |none=>none
 |some (s,r)=>onwL E f r (acc++[s])
theorem steps_eq (H:RelE E O N):∀(f:Nat) (l:List Wd) (acc:List St),l.length≤N→stepsD O f l acc=whl (onwL E f l acc)
 |0,_,_,_=>by rw[stepsD,onwL];rfl
 |f+1,l,acc,hl=>by
  rw[stepsD,onwL]
  by_cases h0:l=[]
  ·subst h0
   rfl
  ·rw[if_neg h0]
   have ht:=tail_len h0
   have key:∀acc2,stepsS O f acc2 l.tail=whl (onwS E f acc2 l.tail):=fun acc2=>by
    unfold stepsS onwS
    rw[←step_eq H l.tail (by omega)]
    cases hs:stepL E l.tail with
    |none=>rfl
    |some q=>
     obtain⟨s,r⟩:=q
     dsimp only
     have :=step_m H.M hs
     exact steps_eq H f r _ (by omega)
   split
   ·exact key acc
   ·split
    ·exact key _
    ·cases l with
     |nil=>exact absurd rfl h0
     |cons x r=>rfl
theorem onw_loc (H:RelE E O N):∀(f:Nat) (ts:List Wd) (acc ss:List St) (r:List Wd),ts.length≤N→onwL E f ts acc=some (ss,r)→
 ∃u,ts=u++r∧Pln u∧Pe u∧aheadL 1 [91] u=false∧∀f',u.length<f'→onwL E f' u acc=some (ss,[])
 |0,_,_,_,_,_,h=>by rw[onwL]at h;cases h
 |f+1,ts,acc,ss,r,hl,h=>by
  rw[onwL]at h
  have key:∀(a:Wd) (l:List Wd) (m:List UInt8) (acc2:List St),ts=a::l→opMk m a=true→(m=[47]∨m=[47,47])→(∀f' l',onwL E (f'+1) (a::l') acc=onwS E f' acc2 l')→onwS E f acc2 l=some (ss,r)→∃u,ts=u++r∧Pln u∧Pe u∧aheadL 1 [91] u=false∧∀f',u.length<f'→onwL E f' u acc=some (ss,[]):=by
   intro a l m acc2 e ha hm hu hk
   clear h
   subst e
   rw[List.length_cons]at hl
   unfold onwS at hk
   cases hs:stepL E l with
   |none=>rw[hs]at hk;cases hk
   |some q=>
    obtain⟨s,r1⟩:=q
    rw[hs]at hk
    dsimp only at hk
    have hlen:=step_m H.M hs
    obtain⟨u1,e1,n1,p1,q1,k1⟩:=step_loc H (by omega) hs
    obtain⟨u2,e2,p2,q2,a2,k2⟩:=onw_loc H f r1 _ ss r (by omega) hk
    refine⟨a::(u1++u2),by rw[e1,e2];simp,(Pln.bar ha hm).app (p1.app p2),.inr (pend_cons (by simp[n1]) (pend_app q1 q2) _),by rw[ahead_mk];exact mk_kind (by have :=(opMk_iff.1 ha).1;omega) _,fun f' hf=> ?_⟩
    obtain⟨f'',rfl⟩:∃k,f'=k+1:=⟨f'-1,by omega⟩
    have hx:=step_x (H.X u2) k1 (.inr a2)
    rw[List.nil_append]at hx
    rw[hu]
    unfold onwS
    rw[hx]
    exact k2 f'' (by simp only[List.length_append,List.length_cons]at hf;omega)
  split at h
  ·rename_i ha
   obtain⟨a,l,rfl,hm⟩:=ahead5_inv ha
   exact key a l [47] acc rfl hm (.inl rfl) (fun f' l'=>by rw[onwL,ahead_op,if_pos hm,List.tail_cons];rfl) h
  ·rename_i ha
   split at h
   ·rename_i hb
    obtain⟨a,l,rfl,hm⟩:=ahead5_inv hb
    exact key a l [47,47] (acc++[anySt 11]) rfl hm (.inr rfl) (fun f' l'=>by rw[onwL,ahead_op,if_neg (by rw[ahead_op]at ha;exact ha),ahead_op,if_pos hm,List.tail_cons];rfl) h
   ·cases h
    refine⟨[],rfl,Pln.nil,.inl rfl,rfl,fun f' hf=> ?_⟩
    obtain⟨f'',rfl⟩:∃k,f'=k+1:=⟨f'-1,by omega⟩
    rw[onwL]
    rfl
def primD (O:List Wd→Option Ex)(l:List Wd):Option (Ex×List Wd):=match l with
 |[]=>none
 |x::r=>if x.k=10 then some (.mk 21 x.s 0 0 false [] [],r) else if x.k=8 then some (.mk 18 x.s 0 0 false [] [],r) else if x.k=9 then some (.mk 19 [] (outT x.n) (outV x.n) false [] [],r)
  else if x.k=6 then (match argsD O r with
   |none=>none
   |some (xs,t)=>some (.mk 20 x.s 0 0 false xs [],t))
  else if mkW [40] x then (match partR [[40]] r with
   |none=>none
   |some (u,t)=>match O u with
    |none=>none
    |some e=>some (e,t)) else none
theorem pri_cases {x:Wd}{r:List Wd}(h:priL (x::r)=true)(h1:x.k≠10)(h2:x.k≠8)(h3:x.k≠9)(h4:x.k≠6):mkW [40] x=true:=by
 unfold priL at h
 simp only[Bool.or_eq_true,atL_cons,ahead_mk,beq_iff_eq]at h
 rcases h with(((h|h)|h)|h)|h
 ·omega
 ·omega
 ·omega
 ·omega
 ·exact h
theorem prim_eq (H:RelE E O N)(l:List Wd)(hl:l.length≤N)(hp:priL l=true):primL E l=primD O l:=by
 cases l with
 |nil=>rfl
 |cons x r=>
  unfold primL primD
  dsimp only
  rw[List.length_cons]at hl
  split
  ·rfl
  ·rename_i c1
   split
   ·rfl
   ·rename_i c2
    split
    ·rfl
    ·rename_i c3
     split
     ·rw[args_eq H r (by omega)]
      cases argsD O r<;>rfl
     ·rename_i c4
      have hm:=pri_cases hp c1 c2 c3 c4
      rw[if_pos hm]
      cases hq:partR [[40]] r with
      |none=>
       dsimp only
       cases hE:E r with
       |none=>rfl
       |some q=>
        obtain⟨e,t⟩:=q
        dsimp only
        cases hm1:mustW [41] t with
        |none=>rfl
        |some t1=>
         obtain⟨c,rfl,hc⟩:=must_inv hm1
         obtain⟨u,_,q1,_⟩:=br_to H (t:=[40]) (by omega) hE hc
         rw[hq]at q1
         cases q1
      |some q=>
       obtain⟨u,t⟩:=q
       dsimp only
       cases hO:O u with
       |none=>
        dsimp only
        cases hE:E r with
        |none=>rfl
        |some q=>
         obtain⟨e,t1⟩:=q
         dsimp only
         cases hm1:mustW [41] t1 with
         |none=>rfl
         |some t2=>
          obtain⟨c,rfl,hc⟩:=must_inv hm1
          obtain⟨u',_,q1,q2,_⟩:=br_to H (t:=[40]) (by omega) hE hc
          rw[hq]at q1
          cases q1
          rw[hO]at q2
          cases q2
       |some e=>
        obtain⟨c,hc,_,_,hE⟩:=br_of H (by omega) hq hO
        rw[hE]
        dsimp only
        have hm1:mustW [41] (c::t)=some t:=must_mk hc
        rw[hm1]
theorem prim_loc (H:RelE E O N){ts r:List Wd}{e:Ex}(hl:ts.length≤N)(hp:priL ts=true)(h:primL E ts=some (e,r)):
 ∃u,ts=u++r∧u≠[]∧Pln u∧pendL false u=true∧primL E u=some (e,[]):=by
 cases ts with
 |nil=>cases h
 |cons x t=>
  unfold primL at h
  dsimp only at h
  rw[List.length_cons]at hl
  split at h
  ·rename_i c1
   cases h
   exact⟨[x],rfl,by simp,Pln.kind (by omega) (by omega),pend_kind (by omega) (by omega) _,by unfold primL;dsimp only;rw[if_pos c1]⟩
  ·rename_i c1
   split at h
   ·rename_i c2
    cases h
    exact⟨[x],rfl,by simp,Pln.kind (by omega) (by omega),pend_kind (by omega) (by omega) _,by unfold primL;dsimp only;rw[if_neg c1,if_pos c2]⟩
   ·rename_i c2
    split at h
    ·rename_i c3
     cases h
     exact⟨[x],rfl,by simp,Pln.kind (by omega) (by omega),pend_kind (by omega) (by omega) _,by unfold primL;dsimp only;rw[if_neg c1,if_neg c2,if_pos c3]⟩
    ·rename_i c3
     split at h
     ·rename_i c4
      cases ha:argsL E t with
      |none=>rw[ha]at h;cases h
      |some q=>
       obtain⟨xs,t1⟩:=q
       rw[ha]at h
       cases h
       obtain⟨u,e1,n1,p1,q1,k1⟩:=args_loc H (by omega) ha
       exact⟨x::u,by rw[e1];rfl,by simp,(Pln.kind (by omega) (by omega)).app p1,pend_cons n1 q1 _,by unfold primL;dsimp only;rw[if_neg c1,if_neg c2,if_neg c3,if_pos c4,k1]⟩
     ·rename_i c4
      have hm:=pri_cases hp c1 c2 c3 c4
      cases hE:E t with
      |none=>rw[hE]at h;cases h
      |some q=>
       obtain⟨e',t1⟩:=q
       rw[hE]at h
       dsimp only at h
       cases hm1:mustW [41] t1 with
       |none=>rw[hm1]at h;cases h
       |some t2=>
        rw[hm1]at h
        cases h
        obtain⟨c,rfl,hc⟩:=must_inv hm1
        obtain⟨u,e1,_,_,hb,k1⟩:=br_to H (t:=[40]) (by omega) hE hc
        have ho:opnW x=true:=by unfold opnW;rw[hm,Bool.true_or]
        have hs:x.s=[40]:=(mkW_iff.1 hm).2
        refine⟨x::(u++[c]),by rw[e1];simp,by simp,Pln.brk ho hb (by rw[hs];exact hc),pend_brk x c u false (cls_of (t:=[40]) hc).1,?_⟩
        unfold primL
        dsimp only
        rw[if_neg c1,if_neg c2,if_neg c3,if_neg c4,H.x k1 (stop_cls (t:=[40]) hc)]
        dsimp only
        rw[must_mk hc]
def filtD (O:List Wd→Option Ex)(ts:List Wd):Option (Ex×List Wd):=match primD O ts with
 |none=>none
 |some (x,r)=>match predsD O (r.length+1) r [] with
  |none=>none
  |some (ps,t)=>if ps=[] then some (x,t) else some (.mk 17 [] 0 0 false (x::ps) [],t)
theorem filt_eq (H:RelE E O N)(l:List Wd)(hl:l.length≤N)(hp:priL l=true):filtL E l=filtD O l:=by
 unfold filtL filtD
 rw[←prim_eq H l hl hp]
 cases h:primL E l with
 |none=>rfl
 |some q=>
  obtain⟨x,r⟩:=q
  dsimp only
  have :=prim_m H.M h
  rw[preds_eq H _ r [] (by omega)]
  cases predsD O (r.length+1) r []<;>rfl
theorem filt_loc (H:RelE E O N){ts r:List Wd}{e:Ex}(hl:ts.length≤N)(hp:priL ts=true)(h:filtL E ts=some (e,r)):
 ∃u,ts=u++r∧u≠[]∧Pln u∧pendL false u=true∧filtL E u=some (e,[]):=by
 unfold filtL at h
 cases hq:primL E ts with
 |none=>rw[hq]at h;cases h
 |some q=>
  obtain⟨x,r1⟩:=q
  rw[hq]at h
  dsimp only at h
  cases hz:predsL E (r1.length+1) r1 [] with
  |none=>rw[hz]at h;cases h
  |some q=>
   obtain⟨ps,w⟩:=q
   rw[hz]at h
   dsimp only at h
   have hw:w=r:=by split at h<;> · cases h;rfl
   subst hw
   have hm:=prim_m H.M hq
   obtain⟨u1,e1,n1,p1,q1,k1⟩:=prim_loc H hl hp hq
   obtain⟨u2,e2,p2,q2,_,k2⟩:=preds_loc H _ r1 [] ps w (by omega) hz
   refine⟨u1++u2,by rw[e1,e2];simp,by simp[n1],p1.app p2,pend_app q1 q2,?_⟩
   unfold filtL
   have hx:=prim_x H.M (H.X u2) k1
   rw[List.nil_append]at hx
   rw[hx]
   dsimp only
   rw[k2 _ (by omega)]
   dsimp only
   split at h
   ·rename_i c;cases h;rw[if_pos c]
   ·rename_i c;cases h;rw[if_neg c]
theorem rel_loc (H:RelE E O N){ab:Bool}{ts r:List Wd}{e:Ex}(hl:ts.length≤N)(h:relL E ab ts=some (e,r)):
 ∃u,ts=u++r∧u≠[]∧Pln u∧pendL false u=true∧relL E ab u=some (e,[]):=by
 unfold relL at h
 cases hq:stepL E ts with
 |none=>rw[hq]at h;cases h
 |some q=>
  obtain⟨s,r1⟩:=q
  rw[hq]at h
  dsimp only at h
  cases hz:onwL E (r1.length+1) r1 [s] with
  |none=>rw[hz]at h;cases h
  |some q=>
   obtain⟨ss,w⟩:=q
   rw[hz]at h
   cases h
   have hm:=step_m H.M hq
   obtain⟨u1,e1,n1,p1,q1,k1⟩:=step_loc H hl hq
   obtain⟨u2,e2,p2,q2,a2,k2⟩:=onw_loc H _ r1 [s] ss r (by omega) hz
   refine⟨u1++u2,by rw[e1,e2];simp,by simp[n1],p1.app p2,pend_app q1 q2,?_⟩
   unfold relL
   have hx:=step_x (H.X u2) k1 (.inr a2)
   rw[List.nil_append]at hx
   rw[hx]
   dsimp only
   rw[k2 _ (by omega)]
theorem bar_two {a:Wd}(h:opMk [47,47] a=true):opMk [47] a=false:=opMk_no (.inr (by rw[(opMk_iff.1 h).2];decide))
theorem loc_loc (H:RelE E O N){ts r:List Wd}{e:Ex}(hl:ts.length≤N)(h:locL E ts=some (e,r)):
 ∃u,ts=u++r∧u≠[]∧Pln u∧pendL false u=true∧locL E u=some (e,[]):=by
 unfold locL at h
 split at h
 ·rename_i ha
  obtain⟨a,l,rfl,hm⟩:=ahead5_inv ha
  rw[List.tail_cons,List.length_cons]at *
  split at h
  ·rename_i hb
   obtain⟨u,e1,n1,p1,q1,k1⟩:=rel_loc H (by omega) h
   refine⟨a::u,by rw[e1];rfl,by simp,(Pln.bar hm (.inl rfl)).app p1,pend_cons n1 q1 _,?_⟩
   unfold locL
   rw[e1,stp_app n1]at hb
   rw[ahead_op,if_pos hm,List.tail_cons,if_pos hb,k1]
  ·cases h
   refine⟨[a],rfl,by simp,Pln.bar hm (.inl rfl),?_,?_⟩
   ·show barW a=true
    unfold barW
    rw[hm,Bool.or_true]
   ·unfold locL
    rw[ahead_op,if_pos hm,List.tail_cons,if_neg (by decide)]
 ·rename_i ha
  split at h
  ·rename_i hb
   obtain⟨a,l,rfl,hm⟩:=ahead5_inv hb
   rw[List.length_cons]at hl
   cases hq:onwL E ((a::l).length+1) (a::l) [] with
   |none=>rw[hq]at h;cases h
   |some q=>
    obtain⟨ss,w⟩:=q
    rw[hq]at h
    cases h
    have hone:=bar_two hm
    rw[onwL,ahead_op,hone,if_neg (by simp),ahead_op,if_pos hm,List.tail_cons]at hq
    cases hs:stepL E l with
    |none=>rw[hs]at hq;cases hq
    |some q=>
     obtain⟨s,r1⟩:=q
     rw[hs]at hq
     dsimp only at hq
     have hlen:=step_m H.M hs
     obtain⟨u1,e1,n1,p1,q1,k1⟩:=step_loc H (by omega) hs
     obtain⟨u2,e2,p2,q2,a2,k2⟩:=onw_loc H _ r1 _ ss r (by omega) hq
     refine⟨a::(u1++u2),by rw[e1,e2];simp,by simp,(Pln.bar hm (.inr rfl)).app (p1.app p2),pend_cons (by simp[n1]) (pend_app q1 q2) _,?_⟩
     unfold locL
     have hx:=step_x (H.X u2) k1 (.inr a2)
     rw[List.nil_append]at hx
     rw[ahead_op,hone,if_neg (by simp),ahead_op,if_pos hm,onwL,ahead_op,hone,if_neg (by simp),ahead_op,if_pos hm,List.tail_cons,hx]
     dsimp only
     rw[k2 _ (by simp only[List.length_append,List.length_cons];omega)]
  ·rename_i hb
   obtain⟨u,e1,n1,p1,q1,k1⟩:=rel_loc H hl h
   refine⟨u,e1,n1,p1,q1,?_⟩
   unfold locL
   rw[e1,ahead_app r n1]at ha hb
   rw[if_neg ha,if_neg hb,k1]
theorem path_loc (H:RelE E O N){ts r:List Wd}{e:Ex}(hl:ts.length≤N)(h:pathL E ts=some (e,r)):
 ∃u,ts=u++r∧u≠[]∧Pln u∧pendL false u=true∧pathL E u=some (e,[]):=by
 unfold pathL at h
 split at h
 ·rename_i hp
  cases hq:filtL E ts with
  |none=>rw[hq]at h;cases h
  |some q=>
   obtain⟨x,r1⟩:=q
   rw[hq]at h
   dsimp only at h
   cases hz:onwL E (r1.length+1) r1 [] with
   |none=>rw[hz]at h;cases h
   |some q=>
    obtain⟨ss,w⟩:=q
    rw[hz]at h
    dsimp only at h
    have hw:w=r:=by split at h<;> · cases h;rfl
    subst hw
    have hm:=filt_m H.M hq
    have hc:=cntE_pos x
    obtain⟨u1,e1,n1,p1,q1,k1⟩:=filt_loc H hl hp hq
    obtain⟨u2,e2,p2,q2,a2,k2⟩:=onw_loc H _ r1 [] ss w (by omega) hz
    have hn:u1++u2≠[]:=by simp[n1]
    have e3:ts=(u1++u2)++w:=by rw[e1,e2];simp
    refine⟨u1++u2,e3,hn,p1.app p2,pend_app q1 q2,?_⟩
    unfold pathL
    have hx:=filt_x H.M (H.X u2) k1 (.inr a2)
    rw[List.nil_append]at hx
    rw[e3,pri_app hn]at hp
    rw[if_pos hp,hx]
    dsimp only
    rw[k2 _ (by omega)]
    dsimp only
    split at h
    ·rename_i c;cases h;rw[if_pos c]
    ·rename_i c;cases h;rw[if_neg c]
 ·rename_i hp
  obtain⟨u,e1,n1,p1,q1,k1⟩:=loc_loc H hl h
  refine⟨u,e1,n1,p1,q1,?_⟩
  unfold pathL
  rw[e1,pri_app n1]at hp
  rw[if_neg hp,k1]
def locD (O:List Wd→Option Ex)(l:List Wd):Option Ex:=
 if aheadL 5 [47] l||aheadL 5 [47,47] l then (if l.length=1 then (if aheadL 5 [47] l then some (.mk 16 [] 0 0 true [] []) else none) else (stepsD O (l.length+1) l []).map fun ss=> .mk 16 [] 0 0 true [] ss)
 else (match stpDc O l with
  |none=>none
  |some (s,r)=>stepsD O (r.length+1) r [s]).map fun ss=> .mk 16 [] 0 0 false [] ss
def pathD (O:List Wd→Option Ex)(l:List Wd):Option Ex:=if l=[] then none else if priL l then (match filtD O l with
 |none=>none
 |some (x,r)=>if r=[] then some x else (stepsD O (r.length+1) r []).map fun ss=> .mk 16 [] 0 0 false [x] ss)
 else locD O l
theorem step_stp {E:PE}{l:List Wd}{s:St}{r:List Wd}(h:stepL E l=some (s,r)):stpL l=true:=by
 unfold stpL
 unfold stepL at h
 split at h
 ·rename_i ha
  rw[ha]
  simp
 ·rename_i ha
  split at h
  ·rename_i hb
   rw[hb]
   simp
  ·rename_i hb
   cases hx:axisL l with
   |none=>rw[hx]at h;cases h
   |some q=>
    obtain⟨a,t⟩:=q
    rw[hx]at h
    dsimp only at h
    unfold axisL at hx
    split at hx
    ·rename_i hc
     rw[hc]
     simp
    ·split at hx
     ·rename_i hd
      rw[hd]
      simp
     ·cases hx
      cases l with
      |nil=>cases h
      |cons x r1=>
       simp only[atL_cons]
       cases hy:testL (x::r1) with
       |none=>rw[hy]at h;cases h
       |some q=>
        unfold testL at hy
        dsimp only at hy
        split at hy
        ·rename_i e;rw[e];rfl
        ·split at hy
         ·rename_i e;rw[e];rfl
         ·split at hy
          ·rename_i e;rw[e];rfl
          ·cases hy
theorem steps_ne {O:List Wd→Option Ex}:∀{f:Nat} {l:List Wd} {acc ss:List St},stepsD O f l acc=some ss→l≠[]∨acc≠[]→ss≠[]
 |0,_,_,_,h,_=>by rw[stepsD]at h;cases h
 |f+1,l,acc,ss,h,hn=>by
  rw[stepsD]at h
  split at h
  ·rename_i h0
   cases h
   rcases hn with hn|hn
   ·exact absurd h0 hn
   ·exact hn
  ·split at h
   ·cases hs:stpDc O l.tail with
    |none=>rw[hs]at h;cases h
    |some q=>rw[hs]at h;exact steps_ne h (.inr (by simp))
   ·split at h
    ·cases hs:stpDc O l.tail with
     |none=>rw[hs]at h;cases h
     |some q=>rw[hs]at h;exact steps_ne h (.inr (by simp))
    ·cases h
theorem onw_fuel {E:PE}(hM:MsE E):∀(f f':Nat) (l:List Wd) (acc:List St),l.length<f→l.length<f'→onwL E f l acc=onwL E f' l acc
 |0,_,_,_,h,_=>by omega
 |_+1,0,_,_,_,h=>by omega
 |f+1,f'+1,l,acc,h,h'=>by
  rw[onwL,onwL]
  have key:∀acc2,l≠[]→onwS E f acc2 l.tail=onwS E f' acc2 l.tail:=fun acc2 hn=>by
   have ht:=tail_len hn
   unfold onwS
   cases hs:stepL E l.tail with
   |none=>rfl
   |some q=>
    obtain⟨s,r⟩:=q
    dsimp only
    have :=step_m hM hs
    exact onw_fuel hM f f' r _ (by omega) (by omega)
  split
  ·rename_i ha
   exact key acc (ahead_ne ha)
  ·split
   ·rename_i hb
    exact key _ (ahead_ne hb)
   ·rfl
theorem loc_eq (H:RelE E O N)(l:List Wd)(hl:l.length≤N)(hn:l≠[]):locD O l=whl (locL E l):=by
 unfold locD locL
 by_cases ha:aheadL 5 [47] l=true
 ·obtain⟨a,t,rfl,hm⟩:=ahead5_inv ha
  rw[ha,Bool.true_or,if_pos rfl,if_pos rfl,List.tail_cons,if_pos rfl,List.length_cons]
  rw[List.length_cons]at hl
  by_cases h0:t=[]
  ·subst h0
   rw[if_pos (by simp),if_neg (by decide)]
   rfl
  ·have hpos:t.length≠0:=fun e=>h0 (List.length_eq_zero_iff.1 e)
   rw[if_neg (by omega),stepsD,if_neg (by simp),ahead_op,if_pos hm,List.tail_cons,←step_eq H t (by omega)]
   cases hs:stepL E t with
   |none=>
    dsimp only
    split
    ·unfold relL
     rw[hs]
     rfl
    ·cases t with
     |nil=>exact absurd rfl h0
     |cons b t=>rfl
   |some q=>
    obtain⟨s,r⟩:=q
    dsimp only
    have hlen:=step_m H.M hs
    rw[if_pos (step_stp hs)]
    unfold relL
    rw[hs]
    dsimp only
    rw[List.nil_append,steps_eq H _ r [s] (by omega)]
    have hf:onwL E (t.length+1) r [s]=onwL E (r.length+1) r [s]:=onw_fuel H.M _ _ r [s] (by omega) (by omega)
    rw[hf]
    cases onwL E (r.length+1) r [s] with
    |none=>rfl
    |some q=>
     obtain⟨ss,u⟩:=q
     cases u<;>rfl
 ·rw[if_neg ha]
  by_cases hb:aheadL 5 [47,47] l=true
  ·obtain⟨a,t,rfl,hm⟩:=ahead5_inv hb
   rw[hb,Bool.or_true,if_pos rfl,if_pos rfl,if_neg ha,List.length_cons]
   by_cases h0:t=[]
   ·subst h0
    rw[if_pos (by simp),onwL,if_neg ha,if_pos hb,List.tail_cons,step_nil]
    rfl
   ·have hpos:t.length≠0:=fun e=>h0 (List.length_eq_zero_iff.1 e)
    rw[if_neg (by omega),steps_eq H _ _ [] hl]
    cases onwL E (t.length+1+1) (a::t) [] with
    |none=>rfl
    |some q=>
     obtain⟨ss,u⟩:=q
     cases u<;>rfl
  ·have ha':aheadL 5 [47] l=false:=by simpa using ha
   have hb':aheadL 5 [47,47] l=false:=by simpa using hb
   rw[ha',hb',if_neg (by simp),if_neg (by simp),←step_eq H l hl]
   unfold relL
   cases hs:stepL E l with
   |none=>rfl
   |some q=>
    obtain⟨s,r⟩:=q
    dsimp only
    have hlen:=step_m H.M hs
    rw[steps_eq H _ r [s] (by omega)]
    cases onwL E (r.length+1) r [s] with
    |none=>rfl
    |some q=>
     obtain⟨ss,u⟩:=q
     cases u<;>rfl
theorem path_eq (H:RelE E O N)(l:List Wd)(hl:l.length≤N):pathD O l=whl (pathL E l):=by
 unfold pathD
 by_cases hn:l=[]
 ·subst hn
  rw[if_pos rfl]
  cases hp:pathL E [] with
  |none=>rfl
  |some q=>exact absurd rfl (path_ne hp)
 ·rw[if_neg hn]
  unfold pathL
  split
  ·rename_i hp
   rw[←filt_eq H l hl hp]
   cases hf:filtL E l with
   |none=>rfl
   |some q=>
    obtain⟨x,r⟩:=q
    dsimp only
    have hm:=filt_m H.M hf
    have hc:=cntE_pos x
    by_cases h0:r=[]
    ·subst h0
     rw[if_pos rfl,onwL]
     rfl
    ·rw[if_neg h0,steps_eq H _ r [] (by omega)]
     cases hz:onwL E (r.length+1) r [] with
     |none=>rfl
     |some q=>
      obtain⟨ss,u⟩:=q
      dsimp only
      cases u with
      |nil=>
       have hd:=steps_eq H (r.length+1) r [] (by omega)
       rw[hz]at hd
       have hne:=steps_ne (O:=O) (ss:=ss) hd (.inl h0)
       rw[if_neg hne]
       rfl
      |cons b u=>
       split<;>rfl
  ·exact loc_eq H l hl hn
end
end Char
namespace Char
open Go.RowKit Go.Lib
open Go.Proofs.YtlmpkpjjakallaaGreatDoor.Fig (outT outV)
def namesO (sg:List Sg):List (List UInt8):=sg.map (·.1)
def lastD (o:List (List UInt8))(l:List Wd):Option Nat:=lastG o 0 false 0 none l
def opC (sg:List Sg)(l:List Wd):Int:=match opL sg l with
 |some (o,_)=>o
 |none=>0
def cutD (L:List Wd→Option Ex)(sg:List Sg):Nat→List Wd→Option Ex
 |0,_=>none
 |f+1,l=>match lastD (namesO sg) l with
  |none=>L l
  |some k=>match cutD L sg f (l.take k) with
   |none=>none
   |some a=>match L (l.drop (k+1)) with
    |none=>none
    |some b=>some (.mk (opC sg (l.drop k)) [] 0 0 false [a,b] [])
theorem opL_some:∀{sg:List Sg} {ts t:List Wd} {o:Int},opL sg ts=some (o,t)→∃x,ts=x::t∧x.k=5∧x.s∈namesO sg
 |[],_,_,_,h=>by cases h
 |p::r,ts,t,o,h=>by
  rw[opL]at h
  split at h
  ·rename_i ha
   obtain⟨a,l,rfl,hm⟩:=ahead5_inv ha
   cases h
   obtain⟨h1,h2⟩:=opMk_iff.1 hm
   exact⟨a,rfl,h1,by rw[h2];simp[namesO]⟩
  ·obtain⟨x,h1,h2,h3⟩:=opL_some h
   exact⟨x,h1,h2,by simp only[namesO,List.map_cons,List.mem_cons]at h3 ⊢;exact .inr h3⟩
theorem opL_in {x:Wd}(hk:x.k=5):∀{sg:List Sg},x.s∈namesO sg→∃o,∀r,opL sg (x::r)=some (o,r)
 |[],h=>by cases h
 |p::t,h=>by
  by_cases hp:x.s=p.1
  ·exact⟨p.2,fun r=>by rw[opL,ahead_op,if_pos (opMk_iff.2 ⟨hk,hp⟩)];rfl⟩
  ·simp only[namesO,List.map_cons,List.mem_cons]at h
   rcases h with h|h
   ·exact absurd h hp
   ·obtain⟨o,ho⟩:=opL_in hk h
    exact⟨o,fun r=>by rw[opL,ahead_op,if_neg (by rw[opMk_no (.inr hp)];simp)];exact ho r⟩
theorem opL_out {x:Wd}{r:List Wd}:∀{sg:List Sg},x.s∉namesO sg→opL sg (x::r)=none
 |[],_=>rfl
 |p::t,h=>by
  simp only[namesO,List.map_cons,List.mem_cons,not_or]at h
  rw[opL,ahead_op,if_neg (by rw[opMk_no (.inr h.1)];simp)]
  exact opL_out h.2
def StopOp (sg:List Sg)(T:List Wd):Prop:=∃x r,T=x::r∧x.k=5∧x.s∈namesO sg
theorem op_neutral {x:Wd}(hk:x.k=5):opnW x=false∧clsW x=false∧mkW [44] x=false:=by
 have h:x.k≠1:=by omega
 unfold opnW clsW
 rw[mk_kind h,mk_kind h,mk_kind h,mk_kind h,mk_kind h]
 exact⟨rfl,rfl,rfl⟩
theorem dpt_op {x:Wd}(hk:x.k=5)(n:Int):dpt n x=n:=by
 obtain⟨h1,h2,_⟩:=op_neutral hk
 unfold dpt
 rw[if_neg (by rw[h1];simp),if_neg (by rw[h2];simp)]
theorem scan_op {x:Wd}(hk:x.k=5)(st:List (List UInt8))(r:List Wd):scanB st (x::r)=scanB st r:=by
 obtain⟨h1,h2,_⟩:=op_neutral hk
 rw[scanB_cs,if_neg (by rw[h1];simp),if_neg (by rw[h2];simp)]
theorem bar_op {x:Wd}(hk:x.k=5)(hs:x.s≠[47]):barW x=false:=by
 unfold barW endD
 rw[opMk_no (.inr hs),hk]
 rfl
theorem noC_op {x:Wd}(hk:x.k=5)(r:List Wd):noCm 0 (x::r)=noCm 0 r:=by
 rw[noCm,(op_neutral hk).2.2,Bool.and_false,dpt_op hk]
 rfl
theorem last_join {o:List (List UInt8)}{v u:List Wd}{x:Wd}(hv:scanB [] v=some [])(hp:pendL false v=true)(hk:x.k=5)(hx:x.s∈o)(hs:x.s≠[47])(hu:noOp o false u):lastD o (v++x::u)=some v.length:=by
 unfold lastD
 rw[lastG_app,dpL_bal hv,hp,lastG,dpt_op hk,if_pos ⟨rfl,by omega,rfl,hx⟩,bar_op hk hs,hu.acc,Nat.zero_add]
theorem noOp_join {o:List (List UInt8)}{v u:List Wd}{x:Wd}(hv:scanB [] v=some [])(h1:noOp o false v)(hk:x.k=5)(hx:x.s∉o)(hs:x.s≠[47])(hu:noOp o false u):noOp o false (v++x::u):=by
 unfold noOp
 rw[lastG_app,dpL_bal hv,h1.acc,lastG,dpt_op hk,if_neg (fun c=>hx c.2.2.2),bar_op hk hs,hu.acc]
theorem last_at (o:List (List UInt8)):∀(l:List Wd) (n:Int) (p:Bool) (k j:Nat) (acc:Option Nat),lastG o n p k acc l=some j→acc=some j∨∃a x b,l=a++x::b∧j=k+a.length∧x.k=5∧x.s∈o
 |[],_,_,_,_,_,h=> .inl h
 |x::r,n,p,k,j,acc,h=>by
  rw[lastG]at h
  rcases last_at o r _ _ _ _ _ h with h1|⟨a,y,b,e1,e2,e3,e4⟩
  ·split at h1
   ·rename_i c
    cases h1
    exact .inr ⟨[],x,r,rfl,by simp,by have :=c.2.1;omega,c.2.2.2⟩
   ·exact .inl h1
  ·exact .inr ⟨x::a,y,b,by rw[e1];rfl,by rw[e2,List.length_cons];omega,e3,e4⟩
theorem lastD_at {o:List (List UInt8)}{l:List Wd}{k:Nat}(h:lastD o l=some k):∃a x b,l=a++x::b∧k=a.length∧x.k=5∧x.s∈o:=by
 rcases last_at o l _ _ _ _ _ h with h1|⟨a,x,b,e1,e2,e3,e4⟩
 ·cases h1
 ·exact⟨a,x,b,e1,by omega,e3,e4⟩
theorem cut_take {a b:List Wd}{x:Wd}:(a++x::b).take a.length=a∧(a++x::b).drop a.length=x::b∧(a++x::b).drop (a.length+1)=b:=by
 refine⟨List.take_left,List.drop_left,?_⟩
 rw[←List.drop_drop,List.drop_left]
 rfl
theorem cutD_fuel {L:List Wd→Option Ex}{sg:List Sg}:∀(f f':Nat) (l:List Wd),l.length<f→l.length<f'→cutD L sg f l=cutD L sg f' l
 |0,_,_,h,_=>by omega
 |_+1,0,_,_,h=>by omega
 |f+1,f'+1,l,h,h'=>by
  rw[cutD,cutD]
  cases hk:lastD (namesO sg) l with
  |none=>rfl
  |some k=>
   obtain⟨a,x,b,e1,e2,_⟩:=lastD_at hk
   subst e2
   dsimp only
   have ht:(l.take a.length).length<f∧(l.take a.length).length<f':=by
    rw[e1,cut_take.1]
    rw[e1,List.length_append,List.length_cons]at h h'
    omega
   rw[cutD_fuel f f' _ ht.1 ht.2]
theorem joinT_fuel {S:PE}{sg:List Sg}(hM:MsE S):∀(f f':Nat) (ts:List Wd) (x:Ex),ts.length<f→ts.length<f'→joinT S sg f ts x=joinT S sg f' ts x
 |0,_,_,_,h,_=>by omega
 |_+1,0,_,_,_,h=>by omega
 |f+1,f'+1,ts,x,h,h'=>by
  rw[joinT,joinT]
  cases ho:opL sg ts with
  |none=>rfl
  |some p=>
   obtain⟨o,t⟩:=p
   dsimp only
   cases hS:S t with
   |none=>rfl
   |some q=>
    obtain⟨z,u⟩:=q
    dsimp only
    have h1:=(op_lenX ho).1
    have h2:=hM _ _ _ hS
    have h3:=cntE_pos z
    exact joinT_fuel hM f f' u _ (by omega) (by omega)
def LocS (S:PE)(L:List (List (List UInt8)))(N:Nat):Prop:=∀ts x r,ts.length≤N→S ts=some (x,r)→∃u,ts=u++r∧Gd L u∧S u=some (x,[])
def ExtS (S:PE)(sg:List Sg):Prop:=∀u x T,S u=some (x,[])→StopOp sg T→S (u++T)=some (x,T)
def WhlS (S:PE)(D:List Wd→Option Ex)(N:Nat):Prop:=∀u x,u.length≤N→(S u=some (x,[])↔D u=some x)
theorem Gd.low {L L':List (List (List UInt8))}{u:List Wd}(h:Gd L u)(hL:∀o∈L',o∈L):Gd L' u:=⟨h.ne,h.bal,h.com,h.pe,fun o ho=>h.ops o (hL o ho)⟩
theorem Gd.op {L:List (List (List UInt8))}{v u:List Wd}{x:Wd}(hv:Gd L v)(hu:Gd L u)(hk:x.k=5)(hs:x.s≠[47])(hx:∀o∈L,x.s∉o):Gd L (v++x::u):=by
 refine⟨by simp,?_,?_,?_,fun o ho=>noOp_join hv.bal (hv.ops o ho) hk (hx o ho) hs (hu.ops o ho)⟩
 ·rw[scanB_app,hv.bal]
  show scanB [] (x::u)=_
  rw[scan_op hk,hu.bal]
 ·rw[noCm_app,hv.com,dpL_bal hv.bal,noC_op hk,hu.com]
  rfl
 ·rw[pendL_app,hv.pe,pendL,pendL_ne hu.ne _ false,hu.pe]
section
variable {S:PE} {D:List Wd→Option Ex} {sg:List Sg} {L:List (List (List UInt8))} {N:Nat}
theorem joinT_loc (hM:MsE S)(hS:LocS S (namesO sg::L) N)(hX:ExtS S sg)(hd:∀o∈L,∀n∈namesO sg,n∉o)(hb:[47]∉namesO sg):∀(f:Nat) (ts:List Wd) (x y:Ex) (r:List Wd),ts.length≤N→joinT S sg f ts x=some (y,r)→
 ∃u,ts=u++r∧(∀v,Gd L v→Gd L (v++u))∧(u=[]∨StopOp sg u)∧∀f',u.length<f'→joinT S sg f' u x=some (y,[])
 |0,_,_,_,_,_,h=>by rw[joinT]at h;cases h
 |f+1,ts,x,y,r,hl,h=>by
  rw[joinT]at h
  cases ho:opL sg ts with
  |none=>
   rw[ho]at h
   cases h
   refine⟨[],rfl,fun v hv=>by rw[List.append_nil];exact hv,.inl rfl,fun f' hf=> ?_⟩
   obtain⟨f'',rfl⟩:∃k,f'=k+1:=⟨f'-1,by omega⟩
   rw[joinT,op_nil]
  |some p=>
   obtain⟨o,t⟩:=p
   rw[ho]at h
   dsimp only at h
   obtain⟨a,rfl,hk,hn⟩:=opL_some ho
   rw[List.length_cons]at hl
   cases hs:S t with
   |none=>rw[hs]at h;cases h
   |some q=>
    obtain⟨z,r1⟩:=q
    rw[hs]at h
    dsimp only at h
    have hlen:=hM _ _ _ hs
    obtain⟨u1,e1,g1,k1⟩:=hS t z r1 (by omega) hs
    obtain⟨u2,e2,g2,s2,k2⟩:=joinT_loc hM hS hX hd hb f r1 _ y r (by omega) h
    have hs47:a.s≠[47]:=fun e=>hb (by rw[←e];exact hn)
    refine⟨a::(u1++u2),by rw[e1,e2];simp,fun v hv=> ?_,.inr ⟨a,_,rfl,hk,hn⟩,fun f' hf=> ?_⟩
    ·have :=g2 _ (Gd.op hv (g1.low fun o ho=>List.mem_cons_of_mem _ ho) hk hs47 (fun o ho=>hd o ho _ hn))
     rwa [List.append_assoc,List.cons_append]at this
    ·obtain⟨f'',rfl⟩:∃k,f'=k+1:=⟨f'-1,by omega⟩
     obtain⟨o',ho'⟩:=opL_in hk hn
     have hoo:o'=o:=by
      have :=ho' t
      rw[ho]at this
      cases this
      rfl
     subst hoo
     have hx:S (u1++u2)=some (z,u2):=by
      rcases s2 with rfl|s2
      ·rw[List.append_nil];exact k1
      ·exact hX u1 z u2 k1 s2
     rw[joinT,ho']
     dsimp only
     rw[hx]
     exact k2 f'' (by simp only[List.length_cons,List.length_append]at hf;omega)
theorem joined_loc (hM:MsE S)(hS:LocS S (namesO sg::L) N)(hX:ExtS S sg)(hd:∀o∈L,∀n∈namesO sg,n∉o)(hb:[47]∉namesO sg):LocS (joinedL S sg) L N:=by
 intro ts y r hl h
 unfold joinedL at h
 cases hs:S ts with
 |none=>rw[hs]at h;cases h
 |some q=>
  obtain⟨x,r1⟩:=q
  rw[hs]at h
  dsimp only at h
  have hlen:=hM _ _ _ hs
  have hc:=cntE_pos x
  obtain⟨u1,e1,g1,k1⟩:=hS ts x r1 hl hs
  obtain⟨u2,e2,g2,s2,k2⟩:=joinT_loc hM hS hX hd hb _ r1 x y r (by omega) h
  refine⟨u1++u2,by rw[e1,e2];simp,g2 u1 (g1.low fun o ho=>List.mem_cons_of_mem _ ho),?_⟩
  have hx:S (u1++u2)=some (x,u2):=by
   rcases s2 with rfl|s2
   ·rw[List.append_nil];exact k1
   ·exact hX u1 x u2 k1 s2
  unfold joinedL
  rw[hx]
  exact k2 _ (by omega)
theorem cut_to (hM:MsE S)(hS:LocS S (namesO sg::L) N)(hW:WhlS S D N)(hb:[47]∉namesO sg):∀(f:Nat) (ts:List Wd) (x y:Ex) (v:List Wd),ts.length≤N→joinT S sg f ts x=some (y,[])→scanB [] v=some []→pendL false v=true→cutD D sg (v.length+1) v=some x→
 cutD D sg ((v++ts).length+1) (v++ts)=some y
 |0,_,_,_,_,_,h,_,_,_=>by rw[joinT]at h;cases h
 |f+1,ts,x,y,v,hl,h,hv,hp,hc=>by
  rw[joinT]at h
  cases ho:opL sg ts with
  |none=>
   rw[ho]at h
   cases h
   rw[List.append_nil]
   exact hc
  |some p=>
   obtain⟨o,t⟩:=p
   rw[ho]at h
   dsimp only at h
   obtain⟨a,rfl,hk,hn⟩:=opL_some ho
   rw[List.length_cons]at hl
   cases hs:S t with
   |none=>rw[hs]at h;cases h
   |some q=>
    obtain⟨z,r1⟩:=q
    rw[hs]at h
    dsimp only at h
    have hlen:=hM _ _ _ hs
    have hcz:=cntE_pos z
    obtain⟨u1,e1,g1,k1⟩:=hS t z r1 (by omega) hs
    have hs47:a.s≠[47]:=fun e=>hb (by rw[←e];exact hn)
    have hu:u1.length≤N:=by rw[e1,List.length_append]at hl;omega
    have hz:D u1=some z:=(hW u1 z hu).1 k1
    have hop:opC sg (a::u1)=o:=by
     obtain⟨o',ho'⟩:=opL_in hk hn
     have h1:=ho' t
     rw[ho]at h1
     cases h1
     unfold opC
     rw[ho']
    have hlast:=last_join hv hp hk hn hs47 (g1.ops _ List.mem_cons_self)
    have hcut:cutD D sg ((v++a::u1).length+1) (v++a::u1)=some (.mk o [] 0 0 false [x,z] []):=by
     rw[cutD,hlast]
     dsimp only
     obtain⟨q1,q2,q3⟩:=cut_take (a:=v) (b:=u1) (x:=a)
     rw[q1,q2,q3,cutD_fuel _ (v.length+1) v (by simp) (by omega),hc]
     dsimp only
     rw[hz]
     dsimp only
     rw[hop]
    have :=cut_to hM hS hW hb f r1 _ y (v++a::u1) (by omega) h (by rw[scanB_app,hv];show scanB [] (a::u1)=_;rw[scan_op hk,g1.bal]) (by rw[pendL_app,hp,pendL,pendL_ne g1.ne _ false,g1.pe]) hcut
    rwa [List.append_assoc,List.cons_append,←e1]at this
theorem cut_of (hM:MsE S)(hX:ExtS S sg)(hW:WhlS S D N):∀(f:Nat) (l:List Wd) (y:Ex) (T:List Wd),l.length≤N→cutD D sg f l=some y→(T=[]∨StopOp sg T)→joinedL S sg (l++T)=joinT S sg (T.length+1) T y
 |0,_,_,_,_,h,_=>by rw[cutD]at h;cases h
 |f+1,l,y,T,hl,h,hT=>by
  have ext:∀u x,S u=some (x,[])→S (u++T)=some (x,T):=fun u x hu=>by
   rcases hT with rfl|hT
   ·rw[List.append_nil];exact hu
   ·exact hX u x T hu hT
  rw[cutD]at h
  cases hk:lastD (namesO sg) l with
  |none=>
   rw[hk]at h
   dsimp only at h
   unfold joinedL
   rw[ext l y ((hW l y hl).2 h)]
  |some k=>
   rw[hk]at h
   dsimp only at h
   obtain⟨a,x,b,rfl,rfl,hk5,hn⟩:=lastD_at hk
   obtain⟨q1,q2,q3⟩:=cut_take (a:=a) (b:=b) (x:=x)
   rw[q1,q2,q3]at h
   rw[List.length_append,List.length_cons]at hl
   cases ha:cutD D sg f a with
   |none=>rw[ha]at h;cases h
   |some z=>
    rw[ha]at h
    dsimp only at h
    cases hb:D b with
    |none=>rw[hb]at h;cases h
    |some w=>
     rw[hb]at h
     cases h
     have h1:=cut_of hM hX hW f a z (x::(b++T)) (by omega) ha (.inr ⟨x,_,rfl,hk5,hn⟩)
     rw[List.append_assoc,List.cons_append,h1,joinT]
     obtain⟨o,ho⟩:=opL_in hk5 hn
     rw[ho]
     dsimp only
     rw[ext b w ((hW b w (by omega)).2 hb)]
     dsimp only
     have hop:opC sg (x::b)=o:=by unfold opC;rw[ho]
     rw[hop]
     exact joinT_fuel hM _ _ T _ (by simp;omega) (by omega)
theorem joined_W (hM:MsE S)(hS:LocS S (namesO sg::L) N)(hX:ExtS S sg)(hW:WhlS S D N)(hb:[47]∉namesO sg):WhlS (joinedL S sg) (fun l=>cutD D sg (l.length+1) l) N:=by
 intro u y hu
 constructor
 ·intro h
  unfold joinedL at h
  cases hs:S u with
  |none=>rw[hs]at h;cases h
  |some q=>
   obtain⟨x,r1⟩:=q
   rw[hs]at h
   dsimp only at h
   have hlen:=hM _ _ _ hs
   have hcz:=cntE_pos x
   obtain⟨u1,e1,g1,k1⟩:=hS u x r1 hu hs
   have hu1:u1.length≤N:=by rw[e1,List.length_append]at hu;omega
   have hno:lastD (namesO sg) u1=none:=g1.ops _ List.mem_cons_self
   have hc:cutD D sg (u1.length+1) u1=some x:=by
    rw[cutD,hno]
    exact(hW u1 x hu1).1 k1
   have :=cut_to hM hS hW hb _ r1 x y u1 (by omega) h g1.bal g1.pe hc
   rw[←e1]at this
   exact this
 ·intro h
  have :=cut_of hM hX hW _ u y [] hu h (.inl rfl)
  rw[List.append_nil]at this
  rw[this,List.length_nil,joinT,op_nil]
end
end Char
end Go.Proofs.YtlmpkpjjakallaaGreatDoor
