import Derived.Test.YtlmpkpjjakallaaGreatDoorPt17
import Derived.Test.YtlmpkpjjakallaaGreatDoorPt04
import Derived.Test.YtlmpkpjjakallaaGreatDoorPt02
namespace Go.Proofs.YtlmpkpjjakallaaGreatDoor
namespace Char
open Go.RowKit Go.Lib
open Go.Proofs.YtlmpkpjjakallaaGreatDoor.Fig (outT outV)
abbrev PE:=List Wd→Option (Ex×List Wd)
theorem ahead_app {k:Int}{m:List UInt8}{ts:List Wd}(T:List Wd)(h:ts≠[]):aheadL k m (ts++T)=aheadL k m ts:=by
 cases ts with
 |nil=>exact absurd rfl h
 |cons x r=>rfl
theorem at_app {k:Int}{ts:List Wd}(T:List Wd)(h:ts≠[]):atL k (ts++T)=atL k ts:=by
 cases ts with
 |nil=>exact absurd rfl h
 |cons x r=>rfl
theorem ahead_ne {k:Int}{m:List UInt8}{ts:List Wd}(h:aheadL k m ts=true):ts≠[]:=by
 rintro rfl
 cases h
theorem at_ne {k:Int}{ts:List Wd}(h:atL k ts=true):ts≠[]:=by
 rintro rfl
 cases h
theorem tail_app {ts:List Wd}(T:List Wd)(h:ts≠[]):(ts++T).tail=ts.tail++T:=by
 cases ts with
 |nil=>exact absurd rfl h
 |cons x r=>rfl
theorem tail_len {ts:List Wd}(h:ts≠[]):ts.tail.length+1=ts.length:=by
 cases ts with
 |nil=>exact absurd rfl h
 |cons x r=>rfl
theorem must_lenX {m:List UInt8}{ts r:List Wd}(h:mustW m ts=some r):r.length+1=ts.length∧ts≠[]:=by
 unfold mustW at h
 split at h
 ·rename_i ha
  cases h
  exact⟨tail_len (ahead_ne ha),ahead_ne ha⟩
 ·cases h
theorem must_app {m:List UInt8}{ts r:List Wd}(T:List Wd)(h:mustW m ts=some r):mustW m (ts++T)=some (r++T):=by
 have hn:=(must_lenX h).2
 unfold mustW at h ⊢
 rw[ahead_app T hn,tail_app T hn]
 split at h
 ·rename_i ha
  cases h
  rw[if_pos ha]
 ·cases h
theorem op_app {sg:List Sg}{ts:List Wd}(T:List Wd)(h:ts≠[]):opL sg (ts++T)=(opL sg ts).map fun p=>(p.1,p.2++T):=by
 induction sg with
 |nil=>rfl
 |cons p r ih=>
  rw[opL,opL,ahead_app T h,tail_app T h]
  split
  ·rfl
  ·exact ih
theorem op_nil (sg:List Sg):opL sg []=none:=by
 induction sg with
 |nil=>rfl
 |cons p r ih=>rw[opL,if_neg (by simp[aheadL]),ih]
theorem op_lenX {sg:List Sg}{ts:List Wd}{o:Int}{t:List Wd}(h:opL sg ts=some (o,t)):t.length+1=ts.length∧ts≠[]∧t=ts.tail:=by
 induction sg with
 |nil=>cases h
 |cons p r ih=>
  rw[opL]at h
  split at h
  ·rename_i ha
   cases h
   exact⟨tail_len (ahead_ne ha),ahead_ne ha,rfl⟩
  ·exact ih h
theorem cntEs_app:∀a b:List Ex,cntEs (a++b)=cntEs a+cntEs b
 |[],b=>by rw[List.nil_append,cntEs];omega
 |x::a,b=>by rw[List.cons_append,cntEs,cntEs,cntEs_app a b];omega
theorem cntSs_app:∀a b:List St,cntSs (a++b)=cntSs a+cntSs b
 |[],b=>by rw[List.nil_append,cntSs];omega
 |x::a,b=>by rw[List.cons_append,cntSs,cntSs,cntSs_app a b];omega
theorem cntEs_one (x:Ex):cntEs [x]=cntE x:=by rw[cntEs,cntEs];rfl
theorem cntSs_one (x:St):cntSs [x]=cntS x:=by rw[cntSs,cntSs];rfl
theorem cntS_any (a:Int):cntS (anySt a)=1:=by unfold anySt;rw[cntS,cntEs]
def MsE (E:PE):Prop:=∀ts x r,E ts=some (x,r)→cntE x+2*r.length≤2*ts.length
def XtE (E E':PE)(P:Prop)(T:List Wd):Prop:=∀ts x r,E ts=some (x,r)→(r≠[]∨P)→E' (ts++T)=some (x,r++T)
section
variable {E E':PE} {P:Prop} {T:List Wd}
theorem preds_m (hM:MsE E):∀(f:Nat) (ts:List Wd) (acc ps:List Ex) (r:List Wd),predsL E f ts acc=some (ps,r)→cntEs ps+2*r.length≤cntEs acc+2*ts.length
 |0,_,_,_,_,h=>by rw[predsL]at h;cases h
 |f+1,ts,acc,ps,r,h=>by
  rw[predsL]at h
  split at h
  ·rename_i ha
   have hl:=tail_len (ahead_ne ha)
   cases hE:E ts.tail with
   |none=>rw[hE]at h;cases h
   |some p=>
    obtain⟨x,r1⟩:=p
    rw[hE]at h
    dsimp only at h
    cases hm:mustW [93] r1 with
    |none=>rw[hm]at h;cases h
    |some t=>
     rw[hm]at h
     dsimp only at h
     have h1:=preds_m hM f t _ _ _ h
     have h2:=hM _ _ _ hE
     have h3:=(must_lenX hm).1
     rw[cntEs_app,cntEs_one]at h1
     omega
  ·cases h
   omega
theorem preds_x (hX:XtE E E' P T):∀(f f':Nat) (ts:List Wd) (acc ps:List Ex) (r:List Wd),predsL E f ts acc=some (ps,r)→f≤f'→(r≠[]∨aheadL 1 [91] T=false)→predsL E' f' (ts++T) acc=some (ps,r++T)
 |0,_,_,_,_,_,h,_,_=>by rw[predsL]at h;cases h
 |_+1,0,_,_,_,_,_,hf,_=>by omega
 |f+1,f'+1,ts,acc,ps,r,h,hf,hs=>by
  rw[predsL]at h
  split at h
  ·rename_i ha
   have hn:=ahead_ne ha
   cases hE:E ts.tail with
   |none=>rw[hE]at h;cases h
   |some p=>
    obtain⟨x,r1⟩:=p
    rw[hE]at h
    dsimp only at h
    cases hm:mustW [93] r1 with
    |none=>rw[hm]at h;cases h
    |some t=>
     rw[hm]at h
     dsimp only at h
     rw[predsL,ahead_app T hn,if_pos ha,tail_app T hn,hX _ _ _ hE (.inl (must_lenX hm).2)]
     dsimp only
     rw[must_app T hm]
     dsimp only
     exact preds_x hX f f' t _ _ _ h (by omega) hs
  ·rename_i ha
   cases h
   rw[predsL,if_neg]
   by_cases hn:ts=[]
   ·subst hn
    rcases hs with hs|hs
    ·exact absurd rfl hs
    ·rw[List.nil_append,hs];simp
   ·rw[ahead_app T hn];exact ha
theorem argsT_m (hM:MsE E):∀(f:Nat) (ts:List Wd) (acc ps:List Ex) (r:List Wd),argsT E f ts acc=some (ps,r)→cntEs ps+2*r.length+2≤cntEs acc+2*ts.length
 |0,_,_,_,_,h=>by rw[argsT]at h;cases h
 |f+1,ts,acc,ps,r,h=>by
  rw[argsT]at h
  split at h
  ·rename_i ha
   have hl:=tail_len (ahead_ne ha)
   cases hE:E ts.tail with
   |none=>rw[hE]at h;cases h
   |some p=>
    obtain⟨x,r1⟩:=p
    rw[hE]at h
    dsimp only at h
    have h1:=argsT_m hM f r1 _ _ _ h
    have h2:=hM _ _ _ hE
    rw[cntEs_app,cntEs_one]at h1
    omega
  ·cases hm:mustW [41] ts with
   |none=>rw[hm]at h;cases h
   |some t=>
    rw[hm]at h
    cases h
    have h3:=(must_lenX hm).1
    omega
theorem argsT_x (hM:MsE E)(hX:XtE E E' P T):∀(f f':Nat) (ts:List Wd) (acc ps:List Ex) (r:List Wd),argsT E f ts acc=some (ps,r)→f≤f'→argsT E' f' (ts++T) acc=some (ps,r++T)
 |0,_,_,_,_,_,h,_=>by rw[argsT]at h;cases h
 |_+1,0,_,_,_,_,_,hf=>by omega
 |f+1,f'+1,ts,acc,ps,r,h,hf=>by
  rw[argsT]at h
  split at h
  ·rename_i ha
   have hn:=ahead_ne ha
   cases hE:E ts.tail with
   |none=>rw[hE]at h;cases h
   |some p=>
    obtain⟨x,r1⟩:=p
    rw[hE]at h
    dsimp only at h
    have hr1:r1≠[]:=by
     rintro rfl
     cases f with
     |zero=>rw[argsT]at h;cases h
     |succ f=>
      rw[argsT,if_neg (by simp[aheadL])]at h
      cases h
    rw[argsT,ahead_app T hn,if_pos ha,tail_app T hn,hX _ _ _ hE (.inl hr1)]
    dsimp only
    exact argsT_x hM hX f f' r1 _ _ _ h (by omega)
  ·rename_i ha
   cases hm:mustW [41] ts with
   |none=>rw[hm]at h;cases h
   |some t=>
    rw[hm]at h
    cases h
    rw[argsT,ahead_app T (must_lenX hm).2,if_neg ha,must_app T hm]
    rfl
theorem argsT_nil (f:Nat)(acc ps:List Ex)(r:List Wd):argsT E f [] acc≠some (ps,r):=by
 cases f with
 |zero=>rw[argsT];intro h;cases h
 |succ f=>
  rw[argsT,if_neg (by simp[aheadL])]
  intro h
  cases h
theorem args_m (hM:MsE E){ts:List Wd}{ps:List Ex}{r:List Wd}(h:argsL E ts=some (ps,r)):cntEs ps+2*r.length+4≤2*ts.length:=by
 unfold argsL at h
 cases hm:mustW [40] ts with
 |none=>rw[hm]at h;cases h
 |some t=>
  rw[hm]at h
  dsimp only at h
  have h3:=(must_lenX hm).1
  split at h
  ·rename_i ha
   cases h
   have :=tail_len (ahead_ne ha)
   rw[cntEs]
   omega
  ·cases hE:E t with
   |none=>rw[hE]at h;cases h
   |some p=>
    obtain⟨x,r1⟩:=p
    rw[hE]at h
    dsimp only at h
    have h1:=argsT_m hM _ _ _ _ _ h
    have h2:=hM _ _ _ hE
    rw[cntEs_one]at h1
    omega
theorem args_x (hM:MsE E)(hX:XtE E E' P T){ts:List Wd}{ps:List Ex}{r:List Wd}(h:argsL E ts=some (ps,r)):argsL E' (ts++T)=some (ps,r++T):=by
 unfold argsL at h ⊢
 cases hm:mustW [40] ts with
 |none=>rw[hm]at h;cases h
 |some t=>
  rw[hm]at h
  dsimp only at h
  rw[must_app T hm]
  dsimp only
  split at h
  ·rename_i ha
   cases h
   rw[ahead_app T (ahead_ne ha),if_pos ha,tail_app T (ahead_ne ha)]
  ·rename_i ha
   cases hE:E t with
   |none=>rw[hE]at h;cases h
   |some p=>
    obtain⟨x,r1⟩:=p
    rw[hE]at h
    dsimp only at h
    have hn:t≠[]:=by
     rintro rfl
     have q1:=hM _ _ _ hE
     have q2:=cntE_pos x
     rw[List.length_nil]at q1
     omega
    have hr1:r1≠[]:=by
     rintro rfl
     exact argsT_nil _ _ _ _ h
    rw[ahead_app T hn,if_neg ha,hX _ _ _ hE (.inl hr1)]
    dsimp only
    exact argsT_x hM hX _ _ _ _ _ _ h (by rw[List.length_append];omega)
theorem axis_lenX {ts t:List Wd}{a:Int}(h:axisL ts=some (a,t)):t.length≤ts.length:=by
 unfold axisL at h
 split at h
 ·rename_i ha
  cases h
  have :=tail_len (ahead_ne ha)
  omega
 ·split at h
  ·cases ts with
   |nil=>cases h
   |cons x r=>
    dsimp only at h
    split at h
    ·cases h
    ·cases hm:mustW [58,58] r with
     |none=>rw[hm]at h;cases h
     |some u=>
      rw[hm]at h
      cases h
      have :=(must_lenX hm).1
      rw[List.length_cons]
      omega
  ·cases h
   omega
theorem axis_x {ts t:List Wd}{a:Int}(hn:ts≠[])(h:axisL ts=some (a,t)):axisL (ts++T)=some (a,t++T):=by
 cases ts with
 |nil=>exact absurd rfl hn
 |cons x r=>
  unfold axisL at h ⊢
  rw[ahead_app T hn,at_app T hn]
  split at h
  ·rename_i ha
   cases h
   rw[if_pos ha]
   rfl
  ·rename_i ha
   rw[if_neg ha]
   split at h
   ·rename_i hb
    rw[if_pos hb]
    rw[List.cons_append]
    dsimp only at h ⊢
    split at h
    ·cases h
    ·rename_i hc
     rw[if_neg hc]
     cases hm:mustW [58,58] r with
     |none=>rw[hm]at h;cases h
     |some u=>
      rw[hm]at h
      cases h
      rw[must_app T hm]
      rfl
   ·rename_i hb
    rw[if_neg hb]
    cases h
    rfl
theorem typ_lenX {s:List UInt8}{ts u:List Wd}{te:Te3}(h:typL s ts=some (te,u)):u.length+2≤ts.length:=by
 unfold typL at h
 cases hm:mustW [40] ts with
 |none=>rw[hm]at h;cases h
 |some t=>
  rw[hm]at h
  dsimp only at h
  have h1:=(must_lenX hm).1
  split at h
  ·cases t with
   |nil=>cases h
   |cons x r=>
    dsimp only at h
    cases hm2:mustW [41] r with
    |none=>rw[hm2]at h;cases h
    |some v=>
     rw[hm2]at h
     cases h
     have h2:=(must_lenX hm2).1
     rw[List.length_cons]at h1
     omega
  ·cases hm2:mustW [41] t with
   |none=>rw[hm2]at h;cases h
   |some v=>
    rw[hm2]at h
    cases h
    have h2:=(must_lenX hm2).1
    omega
theorem typ_x {s:List UInt8}{ts u:List Wd}{te:Te3}(h:typL s ts=some (te,u)):typL s (ts++T)=some (te,u++T):=by
 unfold typL at h ⊢
 cases hm:mustW [40] ts with
 |none=>rw[hm]at h;cases h
 |some t=>
  rw[hm]at h
  rw[must_app T hm]
  dsimp only at h ⊢
  cases t with
  |nil=>
   rw[if_neg (by simp[atL])]at h
   cases h
  |cons x r=>
   rw[at_app T (by simp)]
   split at h
   ·rename_i hc
    rw[if_pos hc,List.cons_append]
    dsimp only at h ⊢
    cases hm2:mustW [41] r with
    |none=>rw[hm2]at h;cases h
    |some v=>
     rw[hm2]at h
     cases h
     rw[must_app T hm2]
     rfl
   ·rename_i hc
    rw[if_neg hc]
    cases hm2:mustW [41] (x::r) with
    |none=>rw[hm2]at h;cases h
    |some v=>
     rw[hm2]at h
     cases h
     rw[must_app T hm2]
     rfl
theorem test_lenX {ts u:List Wd}{te:Te3}(h:testL ts=some (te,u)):u.length+1≤ts.length:=by
 cases ts with
 |nil=>cases h
 |cons x r=>
  unfold testL at h
  dsimp only at h
  rw[List.length_cons]
  split at h
  ·cases h;omega
  ·split at h
   ·cases h;omega
   ·split at h
    ·have :=typ_lenX h;omega
    ·cases h
theorem test_x {ts u:List Wd}{te:Te3}(h:testL ts=some (te,u)):testL (ts++T)=some (te,u++T):=by
 cases ts with
 |nil=>cases h
 |cons x r=>
  rw[List.cons_append]
  unfold testL at h ⊢
  dsimp only at h ⊢
  split at h
  ·rename_i hc;cases h;rw[if_pos hc]
  ·rename_i hc
   rw[if_neg hc]
   split at h
   ·rename_i hd;cases h;rw[if_pos hd]
   ·rename_i hd
    rw[if_neg hd]
    split at h
    ·rename_i he;rw[if_pos he];exact typ_x h
    ·cases h
theorem step_m (hM:MsE E){ts:List Wd}{s:St}{r:List Wd}(h:stepL E ts=some (s,r)):cntS s+1+2*r.length≤2*ts.length:=by
 unfold stepL at h
 split at h
 ·rename_i ha
  cases h
  have :=tail_len (ahead_ne ha)
  rw[cntS_any]
  omega
 ·split at h
  ·rename_i ha
   cases h
   have :=tail_len (ahead_ne ha)
   rw[cntS_any]
   omega
  ·cases ha:axisL ts with
   |none=>rw[ha]at h;cases h
   |some p=>
    obtain⟨a,t⟩:=p
    rw[ha]at h
    dsimp only at h
    cases hb:testL t with
    |none=>rw[hb]at h;cases h
    |some q=>
     obtain⟨te,u⟩:=q
     rw[hb]at h
     dsimp only at h
     cases hc:predsL E (u.length+1) u [] with
     |none=>rw[hc]at h;cases h
     |some q=>
      obtain⟨ps,v⟩:=q
      rw[hc]at h
      cases h
      have h1:=axis_lenX ha
      have h2:=test_lenX hb
      have h3:=preds_m hM _ _ _ _ _ hc
      rw[cntEs]at h3
      rw[cntS]
      omega
theorem step_x (hX:XtE E E' P T){ts:List Wd}{s:St}{r:List Wd}(h:stepL E ts=some (s,r))(hs:r≠[]∨aheadL 1 [91] T=false):stepL E' (ts++T)=some (s,r++T):=by
 have hn:ts≠[]:=by
  rintro rfl
  unfold stepL at h
  rw[if_neg (by simp[aheadL]),if_neg (by simp[aheadL])]at h
  cases h
 unfold stepL at h ⊢
 rw[ahead_app T hn,ahead_app T hn,tail_app T hn]
 split at h
 ·rename_i ha
  cases h
  rw[if_pos ha]
 ·rename_i ha
  rw[if_neg ha]
  split at h
  ·rename_i hb
   cases h
   rw[if_pos hb]
  ·rename_i hb
   rw[if_neg hb]
   cases ha:axisL ts with
   |none=>rw[ha]at h;cases h
   |some p=>
    obtain⟨a,t⟩:=p
    rw[ha]at h
    rw[axis_x hn ha]
    dsimp only at h ⊢
    cases hb:testL t with
    |none=>rw[hb]at h;cases h
    |some q=>
     obtain⟨te,u⟩:=q
     rw[hb]at h
     rw[test_x hb]
     dsimp only at h ⊢
     cases hc:predsL E (u.length+1) u [] with
     |none=>rw[hc]at h;cases h
     |some q=>
      obtain⟨ps,v⟩:=q
      rw[hc]at h
      cases h
      rw[preds_x hX _ ((u++T).length+1) _ _ _ _ hc (by rw[List.length_append];omega) hs]
theorem onw_m (hM:MsE E):∀(f:Nat) (ts:List Wd) (acc ss:List St) (r:List Wd),onwL E f ts acc=some (ss,r)→cntSs ss+ss.length+2*r.length≤cntSs acc+acc.length+2*ts.length∧acc.length≤ss.length
 |0,_,_,_,_,h=>by rw[onwL]at h;cases h
 |f+1,ts,acc,ss,r,h=>by
  rw[onwL]at h
  split at h
  ·rename_i ha
   have hl:=tail_len (ahead_ne ha)
   cases hE:stepL E ts.tail with
   |none=>rw[hE]at h;cases h
   |some p=>
    obtain⟨x,r1⟩:=p
    rw[hE]at h
    dsimp only at h
    have h1:=onw_m hM f r1 _ _ _ h
    have h2:=step_m hM hE
    rw[cntSs_app,cntSs_one,List.length_append,List.length_singleton]at h1
    omega
  ·split at h
   ·rename_i ha
    have hl:=tail_len (ahead_ne ha)
    cases hE:stepL E ts.tail with
    |none=>rw[hE]at h;cases h
    |some p=>
     obtain⟨x,r1⟩:=p
     rw[hE]at h
     dsimp only at h
     have h1:=onw_m hM f r1 _ _ _ h
     have h2:=step_m hM hE
     rw[cntSs_app,cntSs_app,cntSs_one,cntSs_one,cntS_any,List.length_append,List.length_append,List.length_singleton,List.length_singleton]at h1
     omega
   ·cases h
    omega
def NoOn (T:List Wd):Prop:=aheadL 1 [91] T=false∧aheadL 5 [47] T=false∧aheadL 5 [47,47] T=false
theorem onw_x (hM:MsE E)(hX:XtE E E' P T):∀(f f':Nat) (ts:List Wd) (acc ss:List St) (r:List Wd),onwL E f ts acc=some (ss,r)→f≤f'→(r≠[]∨NoOn T)→onwL E' f' (ts++T) acc=some (ss,r++T)
 |0,_,_,_,_,_,h,_,_=>by rw[onwL]at h;cases h
 |_+1,0,_,_,_,_,_,hf,_=>by omega
 |f+1,f'+1,ts,acc,ss,r,h,hf,hs=>by
  rw[onwL]at h
  have key:∀(x:St) (r1:List Wd) (acc2:List St),stepL E ts.tail=some (x,r1)→onwL E f r1 acc2=some (ss,r)→r1≠[]∨aheadL 1 [91] T=false:=by
   intro x r1 acc2 _ h2
   by_cases h0:r1=[]
   ·subst h0
    rcases hs with hs|hs
    ·exfalso
     cases f with
     |zero=>rw[onwL]at h2;cases h2
     |succ f=>
      rw[onwL,if_neg (by simp[aheadL]),if_neg (by simp[aheadL])]at h2
      cases h2
      exact hs rfl
    ·exact .inr hs.1
   ·exact .inl h0
  split at h
  ·rename_i ha
   have hn:=ahead_ne ha
   cases hE:stepL E ts.tail with
   |none=>rw[hE]at h;cases h
   |some p=>
    obtain⟨x,r1⟩:=p
    rw[hE]at h
    dsimp only at h
    rw[onwL,ahead_app T hn,if_pos ha,tail_app T hn,step_x hX hE (key _ _ _ hE h)]
    dsimp only
    exact onw_x hM hX f f' r1 _ _ _ h (by omega) hs
  ·rename_i ha
   split at h
   ·rename_i hb
    have hn:=ahead_ne hb
    cases hE:stepL E ts.tail with
    |none=>rw[hE]at h;cases h
    |some p=>
     obtain⟨x,r1⟩:=p
     rw[hE]at h
     dsimp only at h
     rw[onwL,ahead_app T hn,if_neg ha,ahead_app T hn,if_pos hb,tail_app T hn,step_x hX hE (key _ _ _ hE h)]
     dsimp only
     exact onw_x hM hX f f' r1 _ _ _ h (by omega) hs
   ·rename_i hb
    cases h
    by_cases hn:ts=[]
    ·subst hn
     rcases hs with hs|hs
     ·exact absurd rfl hs
     ·rw[onwL,List.nil_append,hs.2.1,hs.2.2]
      rfl
    ·rw[onwL,ahead_app T hn,if_neg ha,ahead_app T hn,if_neg hb]
end
end Char
namespace Char
open Go.RowKit Go.Lib
open Go.Proofs.YtlmpkpjjakallaaGreatDoor.Fig (outT outV)
section
variable {E E':PE} {P:Prop} {T:List Wd}
theorem prim_m (hM:MsE E){ts:List Wd}{x:Ex}{r:List Wd}(h:primL E ts=some (x,r)):cntE x+1+2*r.length≤2*ts.length:=by
 cases ts with
 |nil=>cases h
 |cons y t=>
  unfold primL at h
  dsimp only at h
  rw[List.length_cons]
  split at h
  ·cases h;rw[cntE,cntEs,cntSs];omega
  ·split at h
   ·cases h;rw[cntE,cntEs,cntSs];omega
   ·split at h
    ·cases h;rw[cntE,cntEs,cntSs];omega
    ·split at h
     ·cases ha:argsL E t with
      |none=>rw[ha]at h;cases h
      |some p=>
       obtain⟨xs,u⟩:=p
       rw[ha]at h
       cases h
       have :=args_m hM ha
       rw[cntE,cntSs]
       omega
     ·cases hE:E t with
      |none=>rw[hE]at h;cases h
      |some p=>
       obtain⟨e,u⟩:=p
       rw[hE]at h
       dsimp only at h
       cases hm:mustW [41] u with
       |none=>rw[hm]at h;cases h
       |some v=>
        rw[hm]at h
        cases h
        have h1:=hM _ _ _ hE
        have h2:=(must_lenX hm).1
        omega
theorem prim_x (hM:MsE E)(hX:XtE E E' P T){ts:List Wd}{x:Ex}{r:List Wd}(h:primL E ts=some (x,r)):primL E' (ts++T)=some (x,r++T):=by
 cases ts with
 |nil=>cases h
 |cons y t=>
  rw[List.cons_append]
  unfold primL at h ⊢
  dsimp only at h ⊢
  split at h
  ·rename_i c1;cases h;rw[if_pos c1]
  ·rename_i c1
   rw[if_neg c1]
   split at h
   ·rename_i c2;cases h;rw[if_pos c2]
   ·rename_i c2
    rw[if_neg c2]
    split at h
    ·rename_i c3;cases h;rw[if_pos c3]
    ·rename_i c3
     rw[if_neg c3]
     split at h
     ·rename_i c4
      rw[if_pos c4]
      cases ha:argsL E t with
      |none=>rw[ha]at h;cases h
      |some p=>
       obtain⟨xs,u⟩:=p
       rw[ha]at h
       cases h
       rw[args_x hM hX ha]
     ·rename_i c4
      rw[if_neg c4]
      cases hE:E t with
      |none=>rw[hE]at h;cases h
      |some p=>
       obtain⟨e,u⟩:=p
       rw[hE]at h
       dsimp only at h
       cases hm:mustW [41] u with
       |none=>rw[hm]at h;cases h
       |some v=>
        rw[hm]at h
        cases h
        rw[hX _ _ _ hE (.inl (must_lenX hm).2)]
        dsimp only
        rw[must_app T hm]
theorem filt_m (hM:MsE E){ts:List Wd}{x:Ex}{r:List Wd}(h:filtL E ts=some (x,r)):cntE x+2*r.length≤2*ts.length:=by
 unfold filtL at h
 cases hp:primL E ts with
 |none=>rw[hp]at h;cases h
 |some p=>
  obtain⟨y,t⟩:=p
  rw[hp]at h
  dsimp only at h
  have h1:=prim_m hM hp
  cases hq:predsL E (t.length+1) t [] with
  |none=>rw[hq]at h;cases h
  |some q=>
   obtain⟨ps,u⟩:=q
   rw[hq]at h
   dsimp only at h
   have h2:=preds_m hM _ _ _ _ _ hq
   rw[cntEs]at h2
   split at h
   ·cases h;omega
   ·cases h
    rw[cntE,cntEs,cntSs]
    omega
theorem filt_x (hM:MsE E)(hX:XtE E E' P T){ts:List Wd}{x:Ex}{r:List Wd}(h:filtL E ts=some (x,r))(hs:r≠[]∨aheadL 1 [91] T=false):filtL E' (ts++T)=some (x,r++T):=by
 unfold filtL at h ⊢
 cases hp:primL E ts with
 |none=>rw[hp]at h;cases h
 |some p=>
  obtain⟨y,t⟩:=p
  rw[hp]at h
  rw[prim_x hM hX hp]
  dsimp only at h ⊢
  cases hq:predsL E (t.length+1) t [] with
  |none=>rw[hq]at h;cases h
  |some q=>
   obtain⟨ps,u⟩:=q
   rw[hq]at h
   dsimp only at h
   have hu:u=r:=by
    split at h<;> · cases h;rfl
   rw[preds_x hX _ ((t++T).length+1) _ _ _ _ hq (by rw[List.length_append];omega) (by rw[hu];exact hs)]
   dsimp only
   split at h
   ·rename_i c;cases h;rw[if_pos c]
   ·rename_i c;cases h;rw[if_neg c]
theorem rel_m (hM:MsE E){ab:Bool}{ts:List Wd}{x:Ex}{r:List Wd}(h:relL E ab ts=some (x,r)):cntE x+2*r.length≤2*ts.length:=by
 unfold relL at h
 cases hp:stepL E ts with
 |none=>rw[hp]at h;cases h
 |some p=>
  obtain⟨y,t⟩:=p
  rw[hp]at h
  dsimp only at h
  cases hq:onwL E (t.length+1) t [y] with
  |none=>rw[hq]at h;cases h
  |some q=>
   obtain⟨ss,u⟩:=q
   rw[hq]at h
   cases h
   have h1:=step_m hM hp
   have h2:=(onw_m hM _ _ _ _ _ hq)
   rw[cntSs_one,List.length_singleton]at h2
   rw[cntE,cntEs]
   omega
theorem onw_nil {f:Nat}{acc ss:List St}{r:List Wd}(h:onwL E f [] acc=some (ss,r)):r=[]:=by
 cases f with
 |zero=>rw[onwL]at h;cases h
 |succ f=>
  rw[onwL,if_neg (by simp[aheadL]),if_neg (by simp[aheadL])]at h
  cases h
  rfl
theorem rel_x (hM:MsE E)(hX:XtE E E' P T){ab:Bool}{ts:List Wd}{x:Ex}{r:List Wd}(h:relL E ab ts=some (x,r))(hs:r≠[]∨NoOn T):relL E' ab (ts++T)=some (x,r++T):=by
 unfold relL at h ⊢
 cases hp:stepL E ts with
 |none=>rw[hp]at h;cases h
 |some p=>
  obtain⟨y,t⟩:=p
  rw[hp]at h
  dsimp only at h
  cases hq:onwL E (t.length+1) t [y] with
  |none=>rw[hq]at h;cases h
  |some q=>
   obtain⟨ss,u⟩:=q
   rw[hq]at h
   cases h
   rw[step_x hX hp (by
    by_cases h0:t=[]
    ·subst h0
     rcases hs with hs|hs
     ·exact absurd (onw_nil hq) hs
     ·exact .inr hs.1
    ·exact .inl h0)]
   dsimp only
   rw[onw_x hM hX _ ((t++T).length+1) _ _ _ _ hq (by rw[List.length_append];omega) hs]
theorem step_nil:stepL E []=none:=by
 unfold stepL
 rw[if_neg (by simp[aheadL]),if_neg (by simp[aheadL])]
 rfl
theorem stp_app {ts:List Wd}(h:ts≠[]):stpL (ts++T)=stpL ts:=by
 unfold stpL
 simp only[at_app T h,ahead_app T h]
theorem pri_app {ts:List Wd}(h:ts≠[]):priL (ts++T)=priL ts:=by
 unfold priL
 simp only[at_app T h,ahead_app T h]
theorem loc_m (hM:MsE E){ts:List Wd}{x:Ex}{r:List Wd}(h:locL E ts=some (x,r)):cntE x+2*r.length≤2*ts.length:=by
 unfold locL at h
 split at h
 ·rename_i ha
  have hl:=tail_len (ahead_ne ha)
  split at h
  ·have :=rel_m hM h
   omega
  ·cases h
   rw[cntE,cntEs,cntSs]
   omega
 ·split at h
  ·rename_i ha
   have hl:=tail_len (ahead_ne ha)
   cases hq:onwL E (ts.length+1) ts [] with
   |none=>rw[hq]at h;cases h
   |some q=>
    obtain⟨ss,u⟩:=q
    rw[hq]at h
    cases h
    rename_i hb
    rw[onwL,if_neg hb,if_pos ha]at hq
    cases hE:stepL E ts.tail with
    |none=>rw[hE]at hq;cases hq
    |some p=>
     obtain⟨y,r1⟩:=p
     rw[hE]at hq
     dsimp only at hq
     have h1:=onw_m hM _ _ _ _ _ hq
     have h2:=step_m hM hE
     rw[cntSs_app,cntSs_app,cntSs_one,cntSs_one,cntS_any,List.length_append,List.length_append,List.length_singleton,List.length_singleton,cntSs,List.length_nil]at h1
     rw[cntE,cntEs]
     omega
  ·exact rel_m hM h
def NoPath (T:List Wd):Prop:=NoOn T∧stpL T=false
theorem loc_x (hM:MsE E)(hX:XtE E E' P T){ts:List Wd}{x:Ex}{r:List Wd}(h:locL E ts=some (x,r))(hs:r≠[]∨NoPath T):locL E' (ts++T)=some (x,r++T):=by
 have hs2:r≠[]∨NoOn T:=hs.imp_right And.left
 have hn:ts≠[]:=by
  rintro rfl
  unfold locL at h
  rw[if_neg (by simp[aheadL]),if_neg (by simp[aheadL])]at h
  unfold relL at h
  rw[step_nil]at h
  cases h
 unfold locL at h ⊢
 rw[ahead_app T hn,ahead_app T hn,tail_app T hn]
 split at h
 ·rename_i ha
  rw[if_pos ha]
  split at h
  ·rename_i hb
   have hn2:ts.tail≠[]:=by
    intro h0
    rw[h0]at hb
    cases hb
   rw[stp_app hn2,if_pos hb]
   exact rel_x hM hX h hs2
  ·rename_i hb
   cases h
   by_cases h0:ts.tail=[]
   ·rcases hs with hs|hs
    ·exact absurd h0 hs
    ·rw[h0,List.nil_append,if_neg (by rw[hs.2];simp)]
   ·rw[stp_app h0,if_neg hb]
 ·rename_i ha
  rw[if_neg ha]
  split at h
  ·rename_i hb
   rw[if_pos hb]
   cases hq:onwL E (ts.length+1) ts [] with
   |none=>rw[hq]at h;cases h
   |some q=>
    obtain⟨ss,u⟩:=q
    rw[hq]at h
    cases h
    rw[onw_x hM hX _ ((ts++T).length+1) _ _ _ _ hq (by rw[List.length_append];omega) hs2]
  ·rename_i hb
   rw[if_neg hb]
   exact rel_x hM hX h hs2
theorem path_m (hM:MsE E){ts:List Wd}{x:Ex}{r:List Wd}(h:pathL E ts=some (x,r)):cntE x+2*r.length≤2*ts.length:=by
 unfold pathL at h
 split at h
 ·cases hp:filtL E ts with
  |none=>rw[hp]at h;cases h
  |some p=>
   obtain⟨y,t⟩:=p
   rw[hp]at h
   dsimp only at h
   cases hq:onwL E (t.length+1) t [] with
   |none=>rw[hq]at h;cases h
   |some q=>
    obtain⟨ss,u⟩:=q
    rw[hq]at h
    dsimp only at h
    have h1:=filt_m hM hp
    have h2:=onw_m hM _ _ _ _ _ hq
    rw[cntSs,List.length_nil]at h2
    split at h
    ·cases h;omega
    ·rename_i hc
     cases h
     have h3:0<ss.length:=List.length_pos_iff.2 hc
     rw[cntE,cntEs_one]
     omega
 ·exact loc_m hM h
theorem pri_ne {ts:List Wd}(h:priL ts=true):ts≠[]:=by
 rintro rfl
 cases h
theorem path_ne {ts:List Wd}{x:Ex}{r:List Wd}(h:pathL E ts=some (x,r)):ts≠[]:=by
 rintro rfl
 unfold pathL at h
 rw[if_neg (by simp[priL,atL,aheadL])]at h
 unfold locL at h
 rw[if_neg (by simp[aheadL]),if_neg (by simp[aheadL])]at h
 unfold relL at h
 rw[step_nil]at h
 cases h
theorem path_x (hM:MsE E)(hX:XtE E E' P T){ts:List Wd}{x:Ex}{r:List Wd}(h:pathL E ts=some (x,r))(hs:r≠[]∨NoPath T):pathL E' (ts++T)=some (x,r++T):=by
 have hn:=path_ne h
 have hs2:r≠[]∨NoOn T:=hs.imp_right And.left
 unfold pathL at h ⊢
 rw[pri_app hn]
 split at h
 ·rename_i ha
  rw[if_pos ha]
  cases hp:filtL E ts with
  |none=>rw[hp]at h;cases h
  |some p=>
   obtain⟨y,t⟩:=p
   rw[hp]at h
   dsimp only at h
   cases hq:onwL E (t.length+1) t [] with
   |none=>rw[hq]at h;cases h
   |some q=>
    obtain⟨ss,u⟩:=q
    rw[hq]at h
    dsimp only at h
    have hu:u=r:=by
     split at h<;> · cases h;rfl
    rw[filt_x hM hX hp (by
     by_cases h0:t=[]
     ·subst h0
      rcases hs2 with hs|hs
      ·exact absurd (onw_nil hq) (by rw[hu];exact hs)
      ·exact .inr hs.1
     ·exact .inl h0)]
    dsimp only
    rw[onw_x hM hX _ ((t++T).length+1) _ _ _ _ hq (by rw[List.length_append];omega) (by rw[hu];exact hs2)]
    dsimp only
    split at h
    ·rename_i c;cases h;rw[if_pos c]
    ·rename_i c;cases h;rw[if_neg c]
 ·rename_i ha
  rw[if_neg ha]
  exact loc_x hM hX h hs
theorem joinT_m {S:PE}{sg:List Sg}(hM:MsE S):∀(f:Nat) (ts:List Wd) (x y:Ex) (r:List Wd),joinT S sg f ts x=some (y,r)→cntE y+2*r.length≤cntE x+2*ts.length
 |0,_,_,_,_,h=>by rw[joinT]at h;cases h
 |f+1,ts,x,y,r,h=>by
  rw[joinT]at h
  cases ho:opL sg ts with
  |none=>rw[ho]at h;cases h;omega
  |some p=>
   obtain⟨o,t⟩:=p
   rw[ho]at h
   dsimp only at h
   cases hS:S t with
   |none=>rw[hS]at h;cases h
   |some q=>
    obtain⟨z,u⟩:=q
    rw[hS]at h
    dsimp only at h
    have h1:=joinT_m hM f u _ _ _ h
    have h2:=hM _ _ _ hS
    have h3:=(op_lenX ho).1
    rw[cntE,cntEs,cntEs_one,cntSs]at h1
    omega
theorem joinT_x {S S':PE}{sg:List Sg}{Q:Prop}(hX:XtE S S' Q T):∀(f f':Nat) (ts:List Wd) (x y:Ex) (r:List Wd),joinT S sg f ts x=some (y,r)→f≤f'→(r≠[]∨(Q∧opL sg T=none))→joinT S' sg f' (ts++T) x=some (y,r++T)
 |0,_,_,_,_,_,h,_,_=>by rw[joinT]at h;cases h
 |_+1,0,_,_,_,_,_,hf,_=>by omega
 |f+1,f'+1,ts,x,y,r,h,hf,hs=>by
  rw[joinT]at h ⊢
  by_cases hn:ts=[]
  ·subst hn
   rw[op_nil]at h
   cases h
   rcases hs with hs|hs
   ·exact absurd rfl hs
   ·rw[List.nil_append,hs.2]
  ·rw[op_app T hn]
   cases ho:opL sg ts with
   |none=>rw[ho]at h;cases h;rfl
   |some p=>
    obtain⟨o,t⟩:=p
    rw[ho]at h
    dsimp only[Option.map]at h ⊢
    cases hS:S t with
    |none=>rw[hS]at h;cases h
    |some q=>
     obtain⟨z,u⟩:=q
     rw[hS]at h
     dsimp only at h
     rw[hX _ _ _ hS (by
      by_cases h0:u=[]
      ·subst h0
       rcases hs with hs|hs
       ·exfalso
        cases f with
        |zero=>rw[joinT]at h;cases h
        |succ f=>rw[joinT,op_nil]at h;cases h;exact hs rfl
       ·exact .inr hs.1
      ·exact .inl h0)]
     dsimp only
     exact joinT_x hX f f' u _ _ _ h (by omega) hs
theorem joined_ms {S:PE}{sg:List Sg}(hM:MsE S):MsE (joinedL S sg):=by
 intro ts x r h
 unfold joinedL at h
 cases hS:S ts with
 |none=>rw[hS]at h;cases h
 |some q=>
  obtain⟨z,u⟩:=q
  rw[hS]at h
  dsimp only at h
  have h1:=joinT_m hM _ _ _ _ _ h
  have h2:=hM _ _ _ hS
  omega
theorem joined_xt {S S':PE}{sg:List Sg}{Q:Prop}(hX:XtE S S' Q T):XtE (joinedL S sg) (joinedL S' sg) (Q∧opL sg T=none) T:=by
 intro ts x r h hs
 unfold joinedL at h ⊢
 cases hS:S ts with
 |none=>rw[hS]at h;cases h
 |some q=>
  obtain⟨z,u⟩:=q
  rw[hS]at h
  dsimp only at h
  rw[hX _ _ _ hS (by
   by_cases h0:u=[]
   ·subst h0
    rcases hs with hs|hs
    ·exfalso
     rw[joinT,op_nil]at h
     cases h
     exact hs rfl
    ·exact .inr hs.1
   ·exact .inl h0)]
  dsimp only
  exact joinT_x hX _ _ _ _ _ _ h (by rw[List.length_append];omega) hs
theorem sign_m (hM:MsE E):∀f,MsE (signL E f)
 |0=>fun _ _ _ h=>by rw[signL]at h;cases h
 |f+1=>fun ts x r h=>by
  rw[signL]at h
  split at h
  ·rename_i ha
   have hl:=tail_len (ahead_ne ha)
   cases hS:signL E f ts.tail with
   |none=>rw[hS]at h;cases h
   |some q=>
    obtain⟨z,u⟩:=q
    rw[hS]at h
    cases h
    have h1:=sign_m hM f _ _ _ hS
    rw[cntE,cntEs_one,cntSs]
    omega
  ·exact joined_ms (fun _ _ _ h=>path_m hM h) _ _ _ h
def NoSign (T:List Wd):Prop:=NoPath T∧opL barS T=none
theorem sign_ne {f:Nat}{ts:List Wd}{x:Ex}{r:List Wd}(h:signL E f ts=some (x,r)):ts≠[]:=by
 rintro rfl
 cases f with
 |zero=>rw[signL]at h;cases h
 |succ f=>
  rw[signL,if_neg (by simp[aheadL])]at h
  unfold joinedL at h
  cases hp:pathL E [] with
  |none=>rw[hp]at h;cases h
  |some q=>exact path_ne hp rfl
theorem sign_x (hM:MsE E)(hX:XtE E E' P T):∀(f f':Nat) (ts:List Wd) (x:Ex) (r:List Wd),signL E f ts=some (x,r)→f≤f'→(r≠[]∨NoSign T)→signL E' f' (ts++T)=some (x,r++T)
 |0,_,_,_,_,h,_,_=>by rw[signL]at h;cases h
 |_+1,0,_,_,_,_,hf,_=>by omega
 |f+1,f'+1,ts,x,r,h,hf,hs=>by
  have hn:=sign_ne h
  rw[signL]at h ⊢
  rw[ahead_app T hn,tail_app T hn]
  split at h
  ·rename_i ha
   rw[if_pos ha]
   cases hS:signL E f ts.tail with
   |none=>rw[hS]at h;cases h
   |some q=>
    obtain⟨z,u⟩:=q
    rw[hS]at h
    cases h
    rw[sign_x hM hX f f' _ _ _ hS (by omega) hs]
  ·rename_i ha
   rw[if_neg ha]
   exact joined_xt (Q:=NoPath T) (fun _ _ _ h hs=>path_x hM hX h hs) _ _ _ h hs
end
def NoRank:Nat→List Wd→Prop
 |0,T=>NoSign T∧opL (sgs 5) T=none
 |n+1,T=>NoRank n T∧opL (sgs (4-n)) T=none
theorem rank_m {E:PE}(hM:MsE E):∀n,MsE (rankL E n)
 |0=>by
  rw[rankL]
  exact joined_ms fun ts=>sign_m hM _ ts
 |n+1=>by
  rw[rankL]
  exact joined_ms (rank_m hM n)
theorem rank_x {E E':PE}{P:Prop}{T:List Wd}(hM:MsE E)(hX:XtE E E' P T):∀n,XtE (rankL E n) (rankL E' n) (NoRank n T) T
 |0=>by
  rw[rankL,rankL]
  exact joined_xt (Q:=NoSign T) fun ts x r h hs=>sign_x hM hX _ ((ts++T).length+1) ts x r h (by rw[List.length_append];omega) hs
 |n+1=>by
  rw[rankL,rankL]
  exact joined_xt (rank_x hM hX n)
theorem expr_m:∀d,MsE (exprL d)
 |0=>fun _ _ _ h=>by rw[exprL]at h;cases h
 |d+1=>by
  rw[exprL]
  exact rank_m (expr_m d) 5
theorem expr_x (T:List Wd):∀(d d':Nat),d≤d'→XtE (exprL d) (exprL d') (NoRank 5 T) T
 |0,_,_=>fun _ _ _ h=>by rw[exprL]at h;cases h
 |d+1,0,h=>by omega
 |d+1,d'+1,h=>by
  rw[exprL,exprL]
  exact rank_x (expr_m d) (expr_x T d d' (by omega)) 5
end Char
namespace Char
open Go.Lib Go.RowKit
open Go.Proofs.YtlmpkpjjakallaaGreatDoor.Fig (Nm litL digB)
def Sp (g:List UInt8):Prop:=g=[]∨∃b t,g=b::t∧spC (b.toNat:Int)=true
theorem sp_low {b:UInt8}(h:spC (b.toNat:Int)=true):b.toNat=9∨b.toNat=10∨b.toNat=13∨b.toNat=32:=by
 unfold spC at h
 simp only[Bool.or_eq_true,beq_iff_eq]at h
 omega
theorem sp_dig {b:UInt8}(h:spC (b.toNat:Int)=true):digB b=false:=by
 have :=sp_low h
 unfold digB
 rw[Bool.and_eq_false_iff,decide_eq_false_iff_not,decide_eq_false_iff_not]
 omega
theorem tw_app {p:UInt8→Bool}{g:List UInt8}(hg:g=[]∨∃b t,g=b::t∧p b=false):∀l:List UInt8,(l++g).takeWhile p=l.takeWhile p
 |[]=>by
  rcases hg with rfl|⟨b,t,rfl,h⟩
  ·rfl
  ·rw[List.nil_append,List.takeWhile_cons,h];rfl
 |x::l=>by
  rw[List.cons_append,List.takeWhile_cons,List.takeWhile_cons,tw_app hg l]
theorem Sp.dig {g:List UInt8}(h:Sp g):g=[]∨∃b t,g=b::t∧digB b=false:=by
 rcases h with h|⟨b,t,h1,h2⟩
 ·exact .inl h
 ·exact .inr ⟨b,t,h1,sp_dig h2⟩
theorem Sp.asc {g:List UInt8}(h:Sp g):asc0 g=true:=by
 rcases h with rfl|⟨b,t,rfl,h2⟩
 ·rfl
 ·have :=sp_low h2
  unfold asc0
  rw[decide_eq_true_eq]
  omega
def noSp (p:List UInt8):Bool:=p.all fun b=> !spC (b.toNat:Int)
theorem pre_app {g:List UInt8}(hg:Sp g):∀(p l:List UInt8),noSp p=true→p.isPrefixOf (l++g)=p.isPrefixOf l
 |[],l,_=>by cases l<;>cases g<;>rfl
 |x::p,[],h=>by
  rcases hg with rfl|⟨b,t,rfl,h2⟩
  ·rfl
  ·unfold noSp at h
   rw[List.all_cons,Bool.and_eq_true]at h
   have hx:x≠b:=fun e=>by rw[e,h2]at h;exact absurd h.1 (by decide)
   simp[List.isPrefixOf,hx]
 |x::p,y::l,h=>by
  unfold noSp at h
  rw[List.all_cons,Bool.and_eq_true]at h
  rw[List.cons_append,List.isPrefixOf,List.isPrefixOf,pre_app hg p l h.2]
theorem dgs_app {g:List UInt8}(hg:Sp g)(l:List UInt8):dgs (l++g)=dgs l:=by
 unfold dgs
 rw[tw_app hg.dig]
theorem siz_app {g:List UInt8}(hg:Sp g)(l:List UInt8):sizN (l++g)=sizN l:=by
 have hd:=dgs_le l
 unfold sizN
 rw[dgs_app hg,List.drop_append_of_le_length hd,pre_app hg _ _ (by decide)]
 cases hp:([46]:List UInt8).isPrefixOf (l.drop (dgs l)) with
 |false=>rfl
 |true=>
  have h1:dgs l+1≤l.length:=by
   have :=(List.isPrefixOf_iff_prefix.1 hp).length_le
   rw[List.length_drop]at this
   simp at this
   omega
  rw[List.drop_append_of_le_length h1,dgs_app hg]
theorem numW_app {g:List UInt8}(hg:Sp g)(l:List UInt8):numW (l++g)=numW l:=by
 unfold numW
 rw[siz_app hg,List.take_append_of_le_length (siz_le l)]
theorem find_congr {α:Type}{f g:α→Bool}:∀{l:List α},(∀x,x∈l→f x=g x)→l.find? f=l.find? g
 |[],_=>rfl
 |x::l,h=>by
  rw[List.find?_cons,List.find?_cons,h x List.mem_cons_self,find_congr fun y hy=>h y (List.mem_cons_of_mem _ hy)]
theorem signW_app {g:List UInt8}(hg:Sp g)(k:Nat)(ss:List (List UInt8))(hs:ss.all noSp=true)(l:List UInt8):signW k ss (l++g)=signW k ss l:=by
 unfold signW firstP
 rw[find_congr fun p hp=>pre_app hg p l (List.all_eq_true.1 hs p hp)]
theorem one_app {g:List UInt8}(hg:Sp g){l:List UInt8}(hl:l≠[]):oneL (l++g)=oneL l:=by
 unfold oneL
 rw[if_neg hl,if_neg (by simp[hl]),decode_front l g hl hg.asc]
theorem sp_one {b:UInt8}(t:List UInt8)(h:spC (b.toNat:Int)=true):oneL (b::t)=(b.toNat,1):=by
 have :=sp_low h
 unfold oneL
 rw[if_neg (by simp),decodeL_ascii b t (by omega),if_neg (by simp;omega)]
theorem sp_run {g:List UInt8}(hg:Sp g):runL g=0:=by
 rcases hg with rfl|⟨b,t,rfl,h⟩
 ·rfl
 ·refine run_stop (.inr ?_)
  rw[sp_one t h]
  cases hp:paC (b.toNat:Int) with
  |false=>rfl
  |true=>rw[pa_sp _ hp]at h;cases h
theorem run_app {g:List UInt8}(hg:Sp g):∀(n:Nat) (l:List UInt8),l.length≤n→runL (l++g)=runL l
 |n,l,hn=>by
  by_cases hl:l=[]
  ·subst hl
   rw[List.nil_append,sp_run hg]
   rfl
  ·have ho:=one_app hg hl
   have hlp:=List.length_pos_iff.2 hl
   by_cases h0:(oneL l).2=0∨paC ((oneL l).1:Int)=false
   ·rw[run_stop h0,run_stop (by rw[ho];exact h0)]
   ·have h1:(oneL l).2≠0:=fun h=>h0 (.inl h)
    have h2:paC ((oneL l).1:Int)=true:=by
     cases hp:paC ((oneL l).1:Int) with
     |true=>rfl
     |false=>exact absurd (.inr hp) h0
    have hle:=one_le l
    rw[run_go h1 h2,run_go (by rw[ho];exact h1) (by rw[ho];exact h2),ho,List.drop_append_of_le_length hle]
    match n,hn with
    |0,hn=>omega
    |n+1,hn=>rw[run_app hg n _ (by rw[List.length_drop];omega)]
theorem runL_app {g:List UInt8}(hg:Sp g)(l:List UInt8):runL (l++g)=runL l:=run_app hg _ l (Nat.le_refl _)
theorem tw_full {p:UInt8→Bool}:∀{l:List UInt8},(l.takeWhile p).length=l.length→∀b∈l,p b=true
 |[],_,b,hb=>by cases hb
 |x::l,h,b,hb=>by
  rw[List.takeWhile_cons]at h
  split at h
  ·rename_i hx
   rcases List.mem_cons.1 hb with rfl|hb
   ·exact hx
   ·exact tw_full (by simpa using h) b hb
  ·simp at h
theorem tw_yes {p:UInt8→Bool}:∀{l:List UInt8},(∀b∈l,p b=true)→l.takeWhile p=l
 |[],_=>rfl
 |x::l,h=>by rw[List.takeWhile_cons,if_pos (h x List.mem_cons_self),tw_yes fun b hb=>h b (List.mem_cons_of_mem _ hb)]
theorem tw_cut {p:UInt8→Bool}:∀{l:List UInt8} (g:List UInt8),(l.takeWhile p).length≠l.length→(l++g).takeWhile p=l.takeWhile p
 |[],g,h=>absurd rfl h
 |x::l,g,h=>by
  rw[List.cons_append,List.takeWhile_cons,List.takeWhile_cons]
  split
  ·rename_i hx
   rw[List.takeWhile_cons,if_pos hx]at h
   rw[tw_cut g (by simpa using h)]
  ·rfl
theorem litW_app {g:List UInt8}(hq:∀b∈g,b≠34∧b≠39){l:List UInt8}(hl:l≠[]):litW (l++g)=litW l:=by
 cases l with
 |nil=>exact absurd rfl hl
 |cons c t=>
  rw[List.cons_append,litW_cons,litW_cons]
  by_cases hc:c=34∨c=39
  ·rw[if_pos hc,if_pos hc]
   by_cases hf:(t.takeWhile (· != c)).length=t.length
   ·rw[if_neg (show ¬(t.takeWhile (· != c)).length<t.length by omega)]
    rw[tw_yes (l:=t++g) (fun b hb=>by
     rcases List.mem_append.1 hb with h|h
     ·exact tw_full hf b h
     ·have :=hq b h
      rw[bne_iff_ne]
      rintro rfl
      rcases hc with rfl|rfl
      ·exact this.1 rfl
      ·exact this.2 rfl),if_neg (by omega)]
   ·have hle:=(List.takeWhile_prefix (· != c) (l:=t)).length_le
    have h1:(t.takeWhile (· != c)).length<t.length:=by omega
    have h2:(t.takeWhile (· != c)).length<(t++g).length:=by rw[List.length_append];omega
    rw[tw_cut g hf,if_pos h2,if_pos h1]
  ·rw[if_neg hc,if_neg hc]
theorem varW_app {g:List UInt8}(hg:Sp g){l:List UInt8}(hl:l≠[]):varW (l++g)=varW l:=by
 have h1:1≤l.length:=List.length_pos_iff.2 hl
 unfold varW
 rw[pre_app hg _ _ (by decide),List.drop_append_of_le_length h1,runL_app hg,List.take_append_of_le_length (run_le _ _ (Nat.le_refl _))]
theorem nameW_app {g:List UInt8}(hg:Sp g)(e:Bool){l:List UInt8}(hx:nxL (l.drop (runL l)++g)=nxL (l.drop (runL l))):nameW e (l++g)=nameW e l:=by
 unfold nameW
 rw[runL_app hg,List.take_append_of_le_length (run_le _ _ (Nat.le_refl _)),List.drop_append_of_le_length (run_le _ _ (Nat.le_refl _)),hx]
theorem dropS_tw (l:List UInt8):dropS l=l.dropWhile fun b=>spC (b.toNat:Int):=by
 unfold dropS spcL
 have h:=List.takeWhile_append_dropWhile (p:=fun b:UInt8=>spC (b.toNat:Int)) (l:=l)
 have h2:=List.drop_left (l₁:=l.takeWhile fun b:UInt8=>spC (b.toNat:Int)) (l₂:=l.dropWhile fun b:UInt8=>spC (b.toNat:Int))
 rwa [h]at h2
theorem dropS_app (r g:List UInt8):dropS (r++g)=if dropS r=[] then dropS g else dropS r++g:=by
 rw[dropS_tw,dropS_tw,dropS_tw]
 induction r with
 |nil=>rfl
 |cons b r ih=>
  rw[List.cons_append,List.dropWhile_cons,List.dropWhile_cons]
  split
  ·exact ih
  ·rw[if_neg (by simp)];rfl
theorem dropS_head {l:List UInt8}{b:UInt8}{t:List UInt8}(h:dropS l=b::t):spC (b.toNat:Int)=false:=by
 rw[dropS_tw]at h
 induction l with
 |nil=>cases h
 |cons c l ih=>
  rw[List.dropWhile_cons]at h
  split at h
  ·exact ih h
  ·rename_i hc
   cases h
   simpa using hc
theorem dropS_id {b:UInt8}(t:List UInt8)(h:spC (b.toNat:Int)=false):dropS (b::t)=b::t:=by
 rw[dropS_tw,List.dropWhile_cons,h]
 rfl
theorem nx_app {g:List UInt8}(hg:Sp g)(h0:nxL g=0)(r:List UInt8):nxL (r++g)=nxL r:=by
 unfold nxL at h0 ⊢
 rw[dropS_app]
 split
 ·rename_i h
  rw[h,h0]
  rfl
 ·unfold nx0
  rw[pre_app hg _ _ (by decide),pre_app hg _ _ (by decide)]
theorem wd_app {g:List UInt8}(hg:Sp g)(hq:∀b∈g,b≠34∧b≠39)(h0:nxL g=0){l:List UInt8}(hl:l≠[])(e:Bool):wdL (l++g) e=wdL l e:=by
 unfold wdL
 rw[litW_app hq hl,numW_app hg,signW_app hg _ _ (by decide),signW_app hg _ _ (by decide),signW_app hg _ _ (by decide),varW_app hg hl,nameW_app hg e (nx_app hg h0 _)]
def lastE (e:Bool):List Wd→Bool
 |[]=>e
 |w::ws=>lastE (endW w) ws
def thenW (r:Nat ⊕ List Wd)(F:List Wd→Nat ⊕ List Wd):Nat ⊕ List Wd:=match r with
 | .inl x=> .inl x
 | .inr ws=>F ws
theorem lex_app {g:List UInt8}(hg:Sp g)(hq:∀b∈g,b≠34∧b≠39)(h0:nxL g=0):∀(N:Nat) (x:List UInt8),x.length≤N→∀(e:Bool) (n:Nat),
 lexG (dropS (x++g)) e n=thenW (lexG (dropS x) e n) fun ws=>appW ws (lexG (dropS g) (lastE e ws) (n+ws.length))
 |N,x,hx,e,n=>by
  rw[dropS_app]
  by_cases hl:dropS x=[]
  ·rw[if_pos hl,hl,lexG_nil]
   show _=appW [] _
   rw[appW_nil]
   rfl
  ·rw[if_neg hl]
   have hd:=dropS_le x
   have hlg:dropS x++g≠[]:=by simp[hl]
   have hw:=wd_app hg hq h0 hl e
   generalize dropS x=l at *
   cases h:wdL l e with
   |none=>
    rw[h]at hw
    rw[lexG_none n hl h,lexG_none n hlg hw]
    rfl
   |some y=>
    obtain⟨w,k⟩:=y
    rw[h]at hw
    have hk:=wdL_len h
    by_cases hn:n=120
    ·subst hn
     rw[lexG_full hl h,lexG_full hlg hw]
     rfl
    ·have hlp:=List.length_pos_iff.2 hl
     rw[lexG_some hl h hn,lexG_some hlg hw hn,List.drop_append_of_le_length hk.2]
     match N,hx with
     |0,hx=>omega
     |N+1,hx=>
      rw[lex_app hg hq h0 N (l.drop k) (by rw[List.length_drop];omega)]
      cases lexG (dropS (l.drop k)) (endW w) (n+1) with
      |inl y=>rfl
      |inr ws=>
       show appW [w] (appW ws _)=appW (w::ws) (lexG (dropS g) (lastE (endW w) ws) (n+(ws.length+1)))
       rw[appW_app,show n+(ws.length+1)=n+1+ws.length by omega]
       rfl
theorem gap_tx:∀(g y:List UInt8),(∀b∈g,spC (b.toNat:Int)=true)→txD (g++y)=txD y
 |[],_,_=>rfl
 |b::g,y,h=>by
  have hb:=h b List.mem_cons_self
  have h2:=sp_low hb
  have hc:isC (b.toNat:Int)=true:=by
   rcases h2 with h|h|h|h<;>rw[h]<;>decide
  rw[List.cons_append,tx_ascii b _ (by omega),hc,gap_tx g y fun c hc=>h c (List.mem_cons_of_mem _ hc)]
  rfl
theorem gap_drop:∀(g y:List UInt8),(∀b∈g,spC (b.toNat:Int)=true)→dropS (g++y)=dropS y
 |[],_,_=>rfl
 |b::g,y,h=>by
  have :=gap_drop g y fun c hc=>h c (List.mem_cons_of_mem _ hc)
  rw[dropS_tw]at this ⊢
  rw[List.cons_append,List.dropWhile_cons,if_pos (h b List.mem_cons_self),this]
theorem gap_sp {g:List UInt8}(h:∀b∈g,spC (b.toNat:Int)=true):Sp g:=by
 cases g with
 |nil=>exact .inl rfl
 |cons b t=>exact .inr ⟨b,t,rfl,h b List.mem_cons_self⟩
theorem lex_gap {g s:List UInt8}(h:∀b∈g,spC (b.toNat:Int)=true)(hl:s.length+2*g.length≤400):lexL (g++(s++g))=lexL s:=by
 have hd:dropS g=[]:=by
  have :=gap_drop g [] h
  rw[List.append_nil]at this
  rw[this]
  rfl
 have htx:txD (s++g)=txD s:=by
  rw[tx_split _ s g (Nat.le_refl _) (gap_sp h).asc]
  have :=gap_tx g [] h
  rw[List.append_nil]at this
  rw[this,tx_nil,Bool.and_true]
 unfold lexL
 rw[gap_tx g _ h,gap_drop g _ h,htx,if_neg (by simp only[List.length_append];omega),if_neg (show ¬400<s.length by omega)]
 split
 ·rfl
 ·rw[lex_app (gap_sp h) (fun b hb=>by have :=sp_low (h b hb);exact⟨fun e=>by rw[e]at this;simp at this,fun e=>by rw[e]at this;simp at this⟩) (by unfold nxL;rw[hd];rfl) _ s (Nat.le_refl _),hd]
  cases lexG (dropS s) false 0 with
  |inl x=>rfl
  |inr ws=>
   show appW ws (.inr [])=_
   show Sum.inr (ws++[])=_
   rw[List.append_nil]
end Char
end Go.Proofs.YtlmpkpjjakallaaGreatDoor
