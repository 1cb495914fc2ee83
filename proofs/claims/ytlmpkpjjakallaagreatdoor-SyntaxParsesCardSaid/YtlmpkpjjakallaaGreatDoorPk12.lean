import Derived.Test.YtlmpkpjjakallaaGreatDoorPk04
import Derived.Test.YtlmpkpjjakallaaGreatDoorPk11
namespace Go.Proofs.YtlmpkpjjakallaaGreatDoor
namespace Char
open Go.RowKit Go.Lib
mutual
def eqE:Ex→Ex→Bool
 | .mk op s tg vl ab ks ss,b=>(decide (op=b.op)&&decide (s=b.s)&&decide (tg=b.tg∧vl=b.vl)&&decide (ab=b.abs))&&(eqEs ks b.ks&&eqSs ss b.ss)
def eqEs:List Ex→List Ex→Bool
 |[],[]=>true
 |[],_::_=>false
 |_::_,[]=>false
 |k::r,l::s=>eqE k l&&eqEs r s
def eqSs:List St→List St→Bool
 |[],[]=>true
 |[],_::_=>false
 |_::_,[]=>false
 |k::r,l::s=>eqS k l&&eqSs r s
def eqS:St→St→Bool
 | .mk ax tk nm has ps,b=>(decide (ax=b.ax)&&decide (tk=b.tk∧nm=b.nm∧has=b.has))&&eqEs ps b.ps
end
theorem eqE_def (a b:Ex):eqE a b=((decide (a.op=b.op)&&decide (a.s=b.s)&&decide (a.tg=b.tg∧a.vl=b.vl)&&decide (a.abs=b.abs))&&(eqEs a.ks b.ks&&eqSs a.ss b.ss)):=by
 cases a
 rw[eqE]
 rfl
theorem eqS_def (a b:St):eqS a b=((decide (a.ax=b.ax)&&decide (a.tk=b.tk∧a.nm=b.nm∧a.has=b.has))&&eqEs a.ps b.ps):=by
 cases a
 rw[eqS]
 rfl
theorem eqEs_len:∀(k l:List Ex),k.length≠l.length→eqEs k l=false
 |[],[],h=>absurd rfl h
 |[],_::_,_=>by rw[eqEs]
 |_::_,[],_=>by rw[eqEs]
 |k::r,l::s,h=>by
  rw[eqEs,eqEs_len r s (by simpa using h),Bool.and_false]
theorem eqSs_len:∀(k l:List St),k.length≠l.length→eqSs k l=false
 |[],[],h=>absurd rfl h
 |[],_::_,_=>by rw[eqSs]
 |_::_,[],_=>by rw[eqSs]
 |k::r,l::s,h=>by
  rw[eqSs,eqSs_len r s (by simpa using h),Bool.and_false]
theorem eqEs_drop (k l:List Ex)(j:Nat)(h1:j<k.length)(h2:j<l.length):eqEs (k.drop j) (l.drop j)=(eqE k[j] l[j]&&eqEs (k.drop (j+1)) (l.drop (j+1))):=by
 rw[List.drop_eq_getElem_cons h1,List.drop_eq_getElem_cons h2,eqEs]
theorem eqSs_drop (k l:List St)(j:Nat)(h1:j<k.length)(h2:j<l.length):eqSs (k.drop j) (l.drop j)=(eqS k[j] l[j]&&eqSs (k.drop (j+1)) (l.drop (j+1))):=by
 rw[List.drop_eq_getElem_cons h1,List.drop_eq_getElem_cons h2,eqSs]
theorem eqEs_end (k l:List Ex)(h:k.length=l.length):eqEs (k.drop k.length) (l.drop k.length)=true:=by
 rw[List.drop_length,h,List.drop_length,eqEs]
theorem eqSs_end (k l:List St)(h:k.length=l.length):eqSs (k.drop k.length) (l.drop k.length)=true:=by
 rw[List.drop_length,h,List.drop_length,eqSs]
mutual
theorem eqE_self:∀a:Ex,eqE a a=true
 | .mk op s tg vl ab ks ss=>by
  have h1:=eqEs_self ks
  have h2:=eqSs_self ss
  rw[eqE_def]
  simp[Ex.ks,Ex.ss,h1,h2]
theorem eqEs_self:∀k:List Ex,eqEs k k=true
 |[]=>by rw[eqEs]
 |k::r=>by rw[eqEs,eqE_self k,eqEs_self r];rfl
theorem eqSs_self:∀k:List St,eqSs k k=true
 |[]=>by rw[eqSs]
 |k::r=>by rw[eqSs,eqS_self k,eqSs_self r];rfl
theorem eqS_self:∀a:St,eqS a a=true
 | .mk ax tk nm has ps=>by
  have h1:=eqEs_self ps
  rw[eqS_def]
  simp[St.ps,h1]
end
mutual
def cntE:Ex→Nat
 | .mk _ _ _ _ _ ks ss=>1+cntEs ks+cntSs ss
def cntEs:List Ex→Nat
 |[]=>0
 |k::r=>cntE k+cntEs r
def cntSs:List St→Nat
 |[]=>0
 |k::r=>cntS k+cntSs r
def cntS:St→Nat
 | .mk _ _ _ _ ps=>1+cntEs ps
end
theorem cntE_def (a:Ex):cntE a=1+cntEs a.ks+cntSs a.ss:=by cases a;rw[cntE];rfl
theorem cntS_def (a:St):cntS a=1+cntEs a.ps:=by cases a;rw[cntS];rfl
theorem cntE_pos (a:Ex):1≤cntE a:=by rw[cntE_def];omega
theorem cntEs_at:∀(ks:List Ex) (j:Nat) (h:j<ks.length),cntE ks[j]≤cntEs ks
 |[],j,h=>by cases h
 |x::r,0,_=>by rw[cntEs];simp only[List.getElem_cons_zero];omega
 |x::r,j+1,h=>by
  have :=cntEs_at r j (by simpa using h)
  rw[cntEs]
  simp only[List.getElem_cons_succ]
  omega
theorem cntSs_at:∀(ks:List St) (j:Nat) (h:j<ks.length),cntS ks[j]≤cntSs ks
 |[],j,h=>by cases h
 |x::r,0,_=>by rw[cntSs];simp only[List.getElem_cons_zero];omega
 |x::r,j+1,h=>by
  have :=cntSs_at r j (by simpa using h)
  rw[cntSs]
  simp only[List.getElem_cons_succ]
  omega
theorem cntEs_len:∀ks:List Ex,ks.length≤cntEs ks
 |[]=>by simp
 |x::r=>by
  have :=cntEs_len r
  have :=cntE_pos x
  rw[cntEs,List.length_cons]
  omega
theorem cntSs_len:∀ks:List St,ks.length≤cntSs ks
 |[]=>by simp
 |x::r=>by
  have :=cntSs_len r
  have :=cntS_def x
  rw[cntSs,List.length_cons]
  omega
end Char
namespace Char
open Go.RowKit Go.Lib
open Go.Proofs.YtlmpkpjjakallaaGreatDoor.Fig (outT outV)
abbrev PE:=List Wd→Option (Ex×List Wd)
theorem ahead_app {k:Int}{m:List UInt8}{ts:List Wd}(T:List Wd)(h:ts≠[]):aheadL k m (ts++T)=aheadL k m ts:=by
 cases ts with
 |nil=>exact absurd rfl h
 |cons x r=>rfl
theorem at_app {k:Int}{ts:List Wd}(T:List Wd)(h:ts≠[]):atL k (ts++T)=atL k ts:=by
 cases ts with
 |nil=>exact absurd rfl h
 |cons x r=>rfl
theorem ahead_ne {k:Int}{m:List UInt8}{ts:List Wd}(h:aheadL k m ts=true):ts≠[]:=by
 rintro rfl
 cases h
theorem tail_app {ts:List Wd}(T:List Wd)(h:ts≠[]):(ts++T).tail=ts.tail++T:=by
 cases ts with
 |nil=>exact absurd rfl h
 |cons x r=>rfl
theorem tail_len {ts:List Wd}(h:ts≠[]):ts.tail.length+1=ts.length:=by
 cases ts with
 |nil=>exact absurd rfl h
 |cons x r=>rfl
theorem must_lenX {m:List UInt8}{ts r:List Wd}(h:mustW m ts=some r):r.length+1=ts.length∧ts≠[]:=by
 unfold mustW at h
 split at h
 ·rename_i ha
  cases h
  exact⟨tail_len (ahead_ne ha),ahead_ne ha⟩
 ·cases h
theorem must_app {m:List UInt8}{ts r:List Wd}(T:List Wd)(h:mustW m ts=some r):mustW m (ts++T)=some (r++T):=by
 have hn:=(must_lenX h).2
 unfold mustW at h ⊢
 rw[ahead_app T hn,tail_app T hn]
 split at h
 ·rename_i ha
  cases h
  rw[if_pos ha]
 ·cases h
theorem op_app {sg:List Sg}{ts:List Wd}(T:List Wd)(h:ts≠[]):opL sg (ts++T)=(opL sg ts).map fun p=>(p.1,p.2++T):=by
 induction sg with
 |nil=>rfl
 |cons p r ih=>
  rw[opL,opL,ahead_app T h,tail_app T h]
  split
  ·rfl
  ·exact ih
theorem op_nil (sg:List Sg):opL sg []=none:=by
 induction sg with
 |nil=>rfl
 |cons p r ih=>rw[opL,if_neg (by simp[aheadL]),ih]
theorem op_lenX {sg:List Sg}{ts:List Wd}{o:Int}{t:List Wd}(h:opL sg ts=some (o,t)):t.length+1=ts.length∧ts≠[]∧t=ts.tail:=by
 induction sg with
 |nil=>cases h
 |cons p r ih=>
  rw[opL]at h
  split at h
  ·rename_i ha
   cases h
   exact⟨tail_len (ahead_ne ha),ahead_ne ha,rfl⟩
  ·exact ih h
theorem cntEs_app:∀a b:List Ex,cntEs (a++b)=cntEs a+cntEs b
 |[],b=>by rw[List.nil_append,cntEs];omega
 |x::a,b=>by rw[List.cons_append,cntEs,cntEs,cntEs_app a b];omega
theorem cntSs_app:∀a b:List St,cntSs (a++b)=cntSs a+cntSs b
 |[],b=>by rw[List.nil_append,cntSs];omega
 |x::a,b=>by rw[List.cons_append,cntSs,cntSs,cntSs_app a b];omega
theorem cntEs_one (x:Ex):cntEs [x]=cntE x:=by rw[cntEs,cntEs];rfl
theorem cntSs_one (x:St):cntSs [x]=cntS x:=by rw[cntSs,cntSs];rfl
theorem cntS_any (a:Int):cntS (anySt a)=1:=by unfold anySt;rw[cntS,cntEs]
def MsE (E:PE):Prop:=∀ts x r,E ts=some (x,r)→cntE x+2*r.length≤2*ts.length
def XtE (E E':PE)(P:Prop)(T:List Wd):Prop:=∀ts x r,E ts=some (x,r)→(r≠[]∨P)→E' (ts++T)=some (x,r++T)
section
variable {E E':PE} {P:Prop} {T:List Wd}
theorem preds_m (hM:MsE E):∀(f:Nat) (ts:List Wd) (acc ps:List Ex) (r:List Wd),predsL E f ts acc=some (ps,r)→cntEs ps+2*r.length≤cntEs acc+2*ts.length
 |0,_,_,_,_,h=>by rw[predsL]at h;cases h
 |f+1,ts,acc,ps,r,h=>by
  rw[predsL]at h
  split at h
  ·rename_i ha
   have hl:=tail_len (ahead_ne ha)
   cases hE:E ts.tail with
   |none=>rw[hE]at h;cases h
   |some p=>
    obtain⟨x,r1⟩:=p
    rw[hE]at h
    dsimp only at h
    cases hm:mustW [93] r1 with
    |none=>rw[hm]at h;cases h
    |some t=>
     rw[hm]at h
     dsimp only at h
     have h1:=preds_m hM f t _ _ _ h
     have h2:=hM _ _ _ hE
     have h3:=(must_lenX hm).1
     rw[cntEs_app,cntEs_one]at h1
     omega
  ·cases h
   omega
theorem preds_x (hX:XtE E E' P T):∀(f f':Nat) (ts:List Wd) (acc ps:List Ex) (r:List Wd),predsL E f ts acc=some (ps,r)→f≤f'→(r≠[]∨aheadL 1 [91] T=false)→predsL E' f' (ts++T) acc=some (ps,r++T)
 |0,_,_,_,_,_,h,_,_=>by rw[predsL]at h;cases h
 |_+1,0,_,_,_,_,_,hf,_=>by omega
 |f+1,f'+1,ts,acc,ps,r,h,hf,hs=>by
  rw[predsL]at h
  split at h
  ·rename_i ha
   have hn:=ahead_ne ha
   cases hE:E ts.tail with
   |none=>rw[hE]at h;cases h
   |some p=>
    obtain⟨x,r1⟩:=p
    rw[hE]at h
    dsimp only at h
    cases hm:mustW [93] r1 with
    |none=>rw[hm]at h;cases h
    |some t=>
     rw[hm]at h
     dsimp only at h
     rw[predsL,ahead_app T hn,if_pos ha,tail_app T hn,hX _ _ _ hE (.inl (must_lenX hm).2)]
     dsimp only
     rw[must_app T hm]
     dsimp only
     exact preds_x hX f f' t _ _ _ h (by omega) hs
  ·rename_i ha
   cases h
   rw[predsL,if_neg]
   by_cases hn:ts=[]
   ·subst hn
    rcases hs with hs|hs
    ·exact absurd rfl hs
    ·rw[List.nil_append,hs];simp
   ·rw[ahead_app T hn];exact ha
theorem argsT_m (hM:MsE E):∀(f:Nat) (ts:List Wd) (acc ps:List Ex) (r:List Wd),argsT E f ts acc=some (ps,r)→cntEs ps+2*r.length+2≤cntEs acc+2*ts.length
 |0,_,_,_,_,h=>by rw[argsT]at h;cases h
 |f+1,ts,acc,ps,r,h=>by
  rw[argsT]at h
  split at h
  ·rename_i ha
   have hl:=tail_len (ahead_ne ha)
   cases hE:E ts.tail with
   |none=>rw[hE]at h;cases h
   |some p=>
    obtain⟨x,r1⟩:=p
    rw[hE]at h
    dsimp only at h
    have h1:=argsT_m hM f r1 _ _ _ h
    have h2:=hM _ _ _ hE
    rw[cntEs_app,cntEs_one]at h1
    omega
  ·cases hm:mustW [41] ts with
   |none=>rw[hm]at h;cases h
   |some t=>
    rw[hm]at h
    cases h
    have h3:=(must_lenX hm).1
    omega
theorem argsT_x (hM:MsE E)(hX:XtE E E' P T):∀(f f':Nat) (ts:List Wd) (acc ps:List Ex) (r:List Wd),argsT E f ts acc=some (ps,r)→f≤f'→argsT E' f' (ts++T) acc=some (ps,r++T)
 |0,_,_,_,_,_,h,_=>by rw[argsT]at h;cases h
 |_+1,0,_,_,_,_,_,hf=>by omega
 |f+1,f'+1,ts,acc,ps,r,h,hf=>by
  rw[argsT]at h
  split at h
  ·rename_i ha
   have hn:=ahead_ne ha
   cases hE:E ts.tail with
   |none=>rw[hE]at h;cases h
   |some p=>
    obtain⟨x,r1⟩:=p
    rw[hE]at h
    dsimp only at h
    have hr1:r1≠[]:=by
     rintro rfl
     cases f with
     |zero=>rw[argsT]at h;cases h
     |succ f=>
      rw[argsT,if_neg (by simp[aheadL])]at h
      cases h
    rw[argsT,ahead_app T hn,if_pos ha,tail_app T hn,hX _ _ _ hE (.inl hr1)]
    dsimp only
    exact argsT_x hM hX f f' r1 _ _ _ h (by omega)
  ·rename_i ha
   cases hm:mustW [41] ts with
   |none=>rw[hm]at h;cases h
   |some t=>
    rw[hm]at h
    cases h
    rw[argsT,ahead_app T (must_lenX hm).2,if_neg ha,must_app T hm]
    rfl
theorem argsT_nil (f:Nat)(acc ps:List Ex)(r:List Wd):argsT E f [] acc≠some (ps,r):=by
 cases f with
 |zero=>rw[argsT];intro h;cases h
 |succ f=>
  rw[argsT,if_neg (by simp[aheadL])]
  intro h
  cases h
theorem args_m (hM:MsE E){ts:List Wd}{ps:List Ex}{r:List Wd}(h:argsL E ts=some (ps,r)):cntEs ps+2*r.length+4≤2*ts.length:=by
 unfold argsL at h
 cases hm:mustW [40] ts with
 |none=>rw[hm]at h;cases h
 |some t=>
  rw[hm]at h
  dsimp only at h
  have h3:=(must_lenX hm).1
  split at h
  ·rename_i ha
   cases h
   have :=tail_len (ahead_ne ha)
   rw[cntEs]
   omega
  ·cases hE:E t with
   |none=>rw[hE]at h;cases h
   |some p=>
    obtain⟨x,r1⟩:=p
    rw[hE]at h
    dsimp only at h
    have h1:=argsT_m hM _ _ _ _ _ h
    have h2:=hM _ _ _ hE
    rw[cntEs_one]at h1
    omega
theorem args_x (hM:MsE E)(hX:XtE E E' P T){ts:List Wd}{ps:List Ex}{r:List Wd}(h:argsL E ts=some (ps,r)):argsL E' (ts++T)=some (ps,r++T):=by
 unfold argsL at h ⊢
 cases hm:mustW [40] ts with
 |none=>rw[hm]at h;cases h
 |some t=>
  rw[hm]at h
  dsimp only at h
  rw[must_app T hm]
  dsimp only
  split at h
  ·rename_i ha
   cases h
   rw[ahead_app T (ahead_ne ha),if_pos ha,tail_app T (ahead_ne ha)]
  ·rename_i ha
   cases hE:E t with
   |none=>rw[hE]at h;cases h
   |some p=>
    obtain⟨x,r1⟩:=p
    rw[hE]at h
    dsimp only at h
    have hn:t≠[]:=by
     rintro rfl
     have q1:=hM _ _ _ hE
     have q2:=cntE_pos x
     rw[List.length_nil]at q1
     omega
    have hr1:r1≠[]:=by
     rintro rfl
     exact argsT_nil _ _ _ _ h
    rw[ahead_app T hn,if_neg ha,hX _ _ _ hE (.inl hr1)]
    dsimp only
    exact argsT_x hM hX _ _ _ _ _ _ h (by rw[List.length_append];omega)
theorem axis_lenX {ts t:List Wd}{a:Int}(h:axisL ts=some (a,t)):t.length≤ts.length:=by
 unfold axisL at h
 split at h
 ·rename_i ha
  cases h
  have :=tail_len (ahead_ne ha)
  omega
 ·split at h
  ·cases ts with
   |nil=>cases h
   |cons x r=>
    dsimp only at h
    split at h
    ·cases h
    ·cases hm:mustW [58,58] r with
     |none=>rw[hm]at h;cases h
     |some u=>
      rw[hm]at h
      cases h
      have :=(must_lenX hm).1
      rw[List.length_cons]
      omega
  ·cases h
   omega
theorem axis_x {ts t:List Wd}{a:Int}(hn:ts≠[])(h:axisL ts=some (a,t)):axisL (ts++T)=some (a,t++T):=by
 cases ts with
 |nil=>exact absurd rfl hn
 |cons x r=>
  unfold axisL at h ⊢
  rw[ahead_app T hn,at_app T hn]
  split at h
  ·rename_i ha
   cases h
   rw[if_pos ha]
   rfl
  ·rename_i ha
   rw[if_neg ha]
   split at h
   ·rename_i hb
    rw[if_pos hb]
    rw[List.cons_append]
    dsimp only at h ⊢
    split at h
    ·cases h
    ·rename_i hc
     rw[if_neg hc]
     cases hm:mustW [58,58] r with
     |none=>rw[hm]at h;cases h
     |some u=>
      rw[hm]at h
      cases h
      rw[must_app T hm]
      rfl
   ·rename_i hb
    rw[if_neg hb]
    cases h
    rfl
theorem typ_lenX {s:List UInt8}{ts u:List Wd}{te:Te3}(h:typL s ts=some (te,u)):u.length+2≤ts.length:=by
 unfold typL at h
 cases hm:mustW [40] ts with
 |none=>rw[hm]at h;cases h
 |some t=>
  rw[hm]at h
  dsimp only at h
  have h1:=(must_lenX hm).1
  split at h
  ·cases t with
   |nil=>cases h
   |cons x r=>
    dsimp only at h
    cases hm2:mustW [41] r with
    |none=>rw[hm2]at h;cases h
    |some v=>
     rw[hm2]at h
     cases h
     have h2:=(must_lenX hm2).1
     rw[List.length_cons]at h1
     omega
  ·cases hm2:mustW [41] t with
   |none=>rw[hm2]at h;cases h
   |some v=>
    rw[hm2]at h
    cases h
    have h2:=(must_lenX hm2).1
    omega
theorem typ_x {s:List UInt8}{ts u:List Wd}{te:Te3}(h:typL s ts=some (te,u)):typL s (ts++T)=some (te,u++T):=by
 unfold typL at h ⊢
 cases hm:mustW [40] ts with
 |none=>rw[hm]at h;cases h
 |some t=>
  rw[hm]at h
  rw[must_app T hm]
  dsimp only at h ⊢
  cases t with
  |nil=>
   rw[if_neg (by simp[atL])]at h
   cases h
  |cons x r=>
   rw[at_app T (by simp)]
   split at h
   ·rename_i hc
    rw[if_pos hc,List.cons_append]
    dsimp only at h ⊢
    cases hm2:mustW [41] r with
    |none=>rw[hm2]at h;cases h
    |some v=>
     rw[hm2]at h
     cases h
     rw[must_app T hm2]
     rfl
   ·rename_i hc
    rw[if_neg hc]
    cases hm2:mustW [41] (x::r) with
    |none=>rw[hm2]at h;cases h
    |some v=>
     rw[hm2]at h
     cases h
     rw[must_app T hm2]
     rfl
theorem test_lenX {ts u:List Wd}{te:Te3}(h:testL ts=some (te,u)):u.length+1≤ts.length:=by
 cases ts with
 |nil=>cases h
 |cons x r=>
  unfold testL at h
  dsimp only at h
  rw[List.length_cons]
  split at h
  ·cases h;omega
  ·split at h
   ·cases h;omega
   ·split at h
    ·have :=typ_lenX h;omega
    ·cases h
theorem test_x {ts u:List Wd}{te:Te3}(h:testL ts=some (te,u)):testL (ts++T)=some (te,u++T):=by
 cases ts with
 |nil=>cases h
 |cons x r=>
  rw[List.cons_append]
  unfold testL at h ⊢
  dsimp only at h ⊢
  split at h
  ·rename_i hc;cases h;rw[if_pos hc]
  ·rename_i hc
   rw[if_neg hc]
   split at h
   ·rename_i hd;cases h;rw[if_pos hd]
   ·rename_i hd
    rw[if_neg hd]
    split at h
    ·rename_i he;rw[if_pos he];exact typ_x h
    ·cases h
theorem step_m (hM:MsE E){ts:List Wd}{s:St}{r:List Wd}(h:stepL E ts=some (s,r)):cntS s+1+2*r.length≤2*ts.length:=by
 unfold stepL at h
 split at h
 ·rename_i ha
  cases h
  have :=tail_len (ahead_ne ha)
  rw[cntS_any]
  omega
 ·split at h
  ·rename_i ha
   cases h
   have :=tail_len (ahead_ne ha)
   rw[cntS_any]
   omega
  ·cases ha:axisL ts with
   |none=>rw[ha]at h;cases h
   |some p=>
    obtain⟨a,t⟩:=p
    rw[ha]at h
    dsimp only at h
    cases hb:testL t with
    |none=>rw[hb]at h;cases h
    |some q=>
     obtain⟨te,u⟩:=q
     rw[hb]at h
     dsimp only at h
     cases hc:predsL E (u.length+1) u [] with
     |none=>rw[hc]at h;cases h
     |some q=>
      obtain⟨ps,v⟩:=q
      rw[hc]at h
      cases h
      have h1:=axis_lenX ha
      have h2:=test_lenX hb
      have h3:=preds_m hM _ _ _ _ _ hc
      rw[cntEs]at h3
      rw[cntS]
      omega
theorem step_x (hX:XtE E E' P T){ts:List Wd}{s:St}{r:List Wd}(h:stepL E ts=some (s,r))(hs:r≠[]∨aheadL 1 [91] T=false):stepL E' (ts++T)=some (s,r++T):=by
 have hn:ts≠[]:=by
  rintro rfl
  unfold stepL at h
  rw[if_neg (by simp[aheadL]),if_neg (by simp[aheadL])]at h
  cases h
 unfold stepL at h ⊢
 rw[ahead_app T hn,ahead_app T hn,tail_app T hn]
 split at h
 ·rename_i ha
  cases h
  rw[if_pos ha]
 ·rename_i ha
  rw[if_neg ha]
  split at h
  ·rename_i hb
   cases h
   rw[if_pos hb]
  ·rename_i hb
   rw[if_neg hb]
   cases ha:axisL ts with
   |none=>rw[ha]at h;cases h
   |some p=>
    obtain⟨a,t⟩:=p
    rw[ha]at h
    rw[axis_x hn ha]
    dsimp only at h ⊢
    cases hb:testL t with
    |none=>rw[hb]at h;cases h
    |some q=>
     obtain⟨te,u⟩:=q
     rw[hb]at h
     rw[test_x hb]
     dsimp only at h ⊢
     cases hc:predsL E (u.length+1) u [] with
     |none=>rw[hc]at h;cases h
     |some q=>
      obtain⟨ps,v⟩:=q
      rw[hc]at h
      cases h
      rw[preds_x hX _ ((u++T).length+1) _ _ _ _ hc (by rw[List.length_append];omega) hs]
theorem onw_m (hM:MsE E):∀(f:Nat) (ts:List Wd) (acc ss:List St) (r:List Wd),onwL E f ts acc=some (ss,r)→cntSs ss+ss.length+2*r.length≤cntSs acc+acc.length+2*ts.length∧acc.length≤ss.length
 |0,_,_,_,_,h=>by rw[onwL]at h;cases h
 |f+1,ts,acc,ss,r,h=>by
  rw[onwL]at h
  split at h
  ·rename_i ha
   have hl:=tail_len (ahead_ne ha)
   cases hE:stepL E ts.tail with
   |none=>rw[hE]at h;cases h
   |some p=>
    obtain⟨x,r1⟩:=p
    rw[hE]at h
    dsimp only at h
    have h1:=onw_m hM f r1 _ _ _ h
    have h2:=step_m hM hE
    rw[cntSs_app,cntSs_one,List.length_append,List.length_singleton]at h1
    omega
  ·split at h
   ·rename_i ha
    have hl:=tail_len (ahead_ne ha)
    cases hE:stepL E ts.tail with
    |none=>rw[hE]at h;cases h
    |some p=>
     obtain⟨x,r1⟩:=p
     rw[hE]at h
     dsimp only at h
     have h1:=onw_m hM f r1 _ _ _ h
     have h2:=step_m hM hE
     rw[cntSs_app,cntSs_app,cntSs_one,cntSs_one,cntS_any,List.length_append,List.length_append,List.length_singleton,List.length_singleton]at h1
     omega
   ·cases h
    omega
def NoOn (T:List Wd):Prop:=aheadL 1 [91] T=false∧aheadL 5 [47] T=false∧aheadL 5 [47,47] T=false
theorem onw_x (hM:MsE E)(hX:XtE E E' P T):∀(f f':Nat) (ts:List Wd) (acc ss:List St) (r:List Wd),onwL E f ts acc=some (ss,r)→f≤f'→(r≠[]∨NoOn T)→onwL E' f' (ts++T) acc=some (ss,r++T)
 |0,_,_,_,_,_,h,_,_=>by rw[onwL]at h;cases h
 |_+1,0,_,_,_,_,_,hf,_=>by omega
 |f+1,f'+1,ts,acc,ss,r,h,hf,hs=>by
  rw[onwL]at h
  have key:∀(x:St) (r1:List Wd) (acc2:List St),stepL E ts.tail=some (x,r1)→onwL E f r1 acc2=some (ss,r)→r1≠[]∨aheadL 1 [91] T=false:=by
   intro x r1 acc2 _ h2
   by_cases h0:r1=[]
   ·subst h0
    rcases hs with hs|hs
    ·exfalso
     cases f with
     |zero=>rw[onwL]at h2;cases h2
     |succ f=>
      rw[onwL,if_neg (by simp[aheadL]),if_neg (by simp[aheadL])]at h2
      cases h2
      exact hs rfl
    ·exact .inr hs.1
   ·exact .inl h0
  split at h
  ·rename_i ha
   have hn:=ahead_ne ha
   cases hE:stepL E ts.tail with
   |none=>rw[hE]at h;cases h
   |some p=>
    obtain⟨x,r1⟩:=p
    rw[hE]at h
    dsimp only at h
    rw[onwL,ahead_app T hn,if_pos ha,tail_app T hn,step_x hX hE (key _ _ _ hE h)]
    dsimp only
    exact onw_x hM hX f f' r1 _ _ _ h (by omega) hs
  ·rename_i ha
   split at h
   ·rename_i hb
    have hn:=ahead_ne hb
    cases hE:stepL E ts.tail with
    |none=>rw[hE]at h;cases h
    |some p=>
     obtain⟨x,r1⟩:=p
     rw[hE]at h
     dsimp only at h
     rw[onwL,ahead_app T hn,if_neg ha,ahead_app T hn,if_pos hb,tail_app T hn,step_x hX hE (key _ _ _ hE h)]
     dsimp only
     exact onw_x hM hX f f' r1 _ _ _ h (by omega) hs
   ·rename_i hb
    cases h
    by_cases hn:ts=[]
    ·subst hn
     rcases hs with hs|hs
     ·exact absurd rfl hs
     ·rw[onwL,List.nil_append,hs.2.1,hs.2.2]
      rfl
    ·rw[onwL,ahead_app T hn,if_neg ha,ahead_app T hn,if_neg hb]
end
end Char
namespace Char
open Go.RowKit Go.Lib
open Go.Proofs.YtlmpkpjjakallaaGreatDoor.Fig (outT outV)
section
variable {E E':PE} {P:Prop} {T:List Wd}
theorem prim_m (hM:MsE E){ts:List Wd}{x:Ex}{r:List Wd}(h:primL E ts=some (x,r)):cntE x+1+2*r.length≤2*ts.length:=by
 cases ts with
 |nil=>cases h
 |cons y t=>
  unfold primL at h
  dsimp only at h
  rw[List.length_cons]
  split at h
  ·cases h;rw[cntE,cntEs,cntSs];omega
  ·split at h
   ·cases h;rw[cntE,cntEs,cntSs];omega
   ·split at h
    ·cases h;rw[cntE,cntEs,cntSs];omega
    ·split at h
     ·cases ha:argsL E t with
      |none=>rw[ha]at h;cases h
      |some p=>
       obtain⟨xs,u⟩:=p
       rw[ha]at h
       cases h
       have :=args_m hM ha
       rw[cntE,cntSs]
       omega
     ·cases hE:E t with
      |none=>rw[hE]at h;cases h
      |some p=>
       obtain⟨e,u⟩:=p
       rw[hE]at h
       dsimp only at h
       cases hm:mustW [41] u with
       |none=>rw[hm]at h;cases h
       |some v=>
        rw[hm]at h
        cases h
        have h1:=hM _ _ _ hE
        have h2:=(must_lenX hm).1
        omega
theorem prim_x (hM:MsE E)(hX:XtE E E' P T){ts:List Wd}{x:Ex}{r:List Wd}(h:primL E ts=some (x,r)):primL E' (ts++T)=some (x,r++T):=by
 cases ts with
 |nil=>cases h
 |cons y t=>
  rw[List.cons_append]
  unfold primL at h ⊢
  dsimp only at h ⊢
  split at h
  ·rename_i c1;cases h;rw[if_pos c1]
  ·rename_i c1
   rw[if_neg c1]
   split at h
   ·rename_i c2;cases h;rw[if_pos c2]
   ·rename_i c2
    rw[if_neg c2]
    split at h
    ·rename_i c3;cases h;rw[if_pos c3]
    ·rename_i c3
     rw[if_neg c3]
     split at h
     ·rename_i c4
      rw[if_pos c4]
      cases ha:argsL E t with
      |none=>rw[ha]at h;cases h
      |some p=>
       obtain⟨xs,u⟩:=p
       rw[ha]at h
       cases h
       rw[args_x hM hX ha]
     ·rename_i c4
      rw[if_neg c4]
      cases hE:E t with
      |none=>rw[hE]at h;cases h
      |some p=>
       obtain⟨e,u⟩:=p
       rw[hE]at h
       dsimp only at h
       cases hm:mustW [41] u with
       |none=>rw[hm]at h;cases h
       |some v=>
        rw[hm]at h
        cases h
        rw[hX _ _ _ hE (.inl (must_lenX hm).2)]
        dsimp only
        rw[must_app T hm]
theorem filt_m (hM:MsE E){ts:List Wd}{x:Ex}{r:List Wd}(h:filtL E ts=some (x,r)):cntE x+2*r.length≤2*ts.length:=by
 unfold filtL at h
 cases hp:primL E ts with
 |none=>rw[hp]at h;cases h
 |some p=>
  obtain⟨y,t⟩:=p
  rw[hp]at h
  dsimp only at h
  have h1:=prim_m hM hp
  cases hq:predsL E (t.length+1) t [] with
  |none=>rw[hq]at h;cases h
  |some q=>
   obtain⟨ps,u⟩:=q
   rw[hq]at h
   dsimp only at h
   have h2:=preds_m hM _ _ _ _ _ hq
   rw[cntEs]at h2
   split at h
   ·cases h;omega
   ·cases h
    rw[cntE,cntEs,cntSs]
    omega
theorem filt_x (hM:MsE E)(hX:XtE E E' P T){ts:List Wd}{x:Ex}{r:List Wd}(h:filtL E ts=some (x,r))(hs:r≠[]∨aheadL 1 [91] T=false):filtL E' (ts++T)=some (x,r++T):=by
 unfold filtL at h ⊢
 cases hp:primL E ts with
 |none=>rw[hp]at h;cases h
 |some p=>
  obtain⟨y,t⟩:=p
  rw[hp]at h
  rw[prim_x hM hX hp]
  dsimp only at h ⊢
  cases hq:predsL E (t.length+1) t [] with
  |none=>rw[hq]at h;cases h
  |some q=>
   obtain⟨ps,u⟩:=q
   rw[hq]at h
   dsimp only at h
   have hu:u=r:=by
    split at h<;> · cases h;rfl
   rw[preds_x hX _ ((t++T).length+1) _ _ _ _ hq (by rw[List.length_append];omega) (by rw[hu];exact hs)]
   dsimp only
   split at h
   ·rename_i c;cases h;rw[if_pos c]
   ·rename_i c;cases h;rw[if_neg c]
theorem rel_m (hM:MsE E){ab:Bool}{ts:List Wd}{x:Ex}{r:List Wd}(h:relL E ab ts=some (x,r)):cntE x+2*r.length≤2*ts.length:=by
 unfold relL at h
 cases hp:stepL E ts with
 |none=>rw[hp]at h;cases h
 |some p=>
  obtain⟨y,t⟩:=p
  rw[hp]at h
  dsimp only at h
  cases hq:onwL E (t.length+1) t [y] with
  |none=>rw[hq]at h;cases h
  |some q=>
   obtain⟨ss,u⟩:=q
   rw[hq]at h
   cases h
   have h1:=step_m hM hp
   have h2:=(onw_m hM _ _ _ _ _ hq)
   rw[cntSs_one,List.length_singleton]at h2
   rw[cntE,cntEs]
   omega
theorem onw_nil {f:Nat}{acc ss:List St}{r:List Wd}(h:onwL E f [] acc=some (ss,r)):r=[]:=by
 cases f with
 |zero=>rw[onwL]at h;cases h
 |succ f=>
  rw[onwL,if_neg (by simp[aheadL]),if_neg (by simp[aheadL])]at h
  cases h
  rfl
theorem rel_x (hM:MsE E)(hX:XtE E E' P T){ab:Bool}{ts:List Wd}{x:Ex}{r:List Wd}(h:relL E ab ts=some (x,r))(hs:r≠[]∨NoOn T):relL E' ab (ts++T)=some (x,r++T):=by
 unfold relL at h ⊢
 cases hp:stepL E ts with
 |none=>rw[hp]at h;cases h
 |some p=>
  obtain⟨y,t⟩:=p
  rw[hp]at h
  dsimp only at h
  cases hq:onwL E (t.length+1) t [y] with
  |none=>rw[hq]at h;cases h
  |some q=>
   obtain⟨ss,u⟩:=q
   rw[hq]at h
   cases h
   rw[step_x hX hp (by
    by_cases h0:t=[]
    ·subst h0
     rcases hs with hs|hs
     ·exact absurd (onw_nil hq) hs
     ·exact .inr hs.1
    ·exact .inl h0)]
   dsimp only
   rw[onw_x hM hX _ ((t++T).length+1) _ _ _ _ hq (by rw[List.length_append];omega) hs]
theorem step_nil:stepL E []=none:=by
 unfold stepL
 rw[if_neg (by simp[aheadL]),if_neg (by simp[aheadL])]
 rfl
theorem stp_app {ts:List Wd}(h:ts≠[]):stpL (ts++T)=stpL ts:=by
 unfold stpL
 simp only[at_app T h,ahead_app T h]
theorem pri_app {ts:List Wd}(h:ts≠[]):priL (ts++T)=priL ts:=by
 unfold priL
 simp only[at_app T h,ahead_app T h]
theorem loc_m (hM:MsE E){ts:List Wd}{x:Ex}{r:List Wd}(h:locL E ts=some (x,r)):cntE x+2*r.length≤2*ts.length:=by
 unfold locL at h
 split at h
 ·rename_i ha
  have hl:=tail_len (ahead_ne ha)
  split at h
  ·have :=rel_m hM h
   omega
  ·cases h
   rw[cntE,cntEs,cntSs]
   omega
 ·split at h
  ·rename_i ha
   have hl:=tail_len (ahead_ne ha)
   cases hq:onwL E (ts.length+1) ts [] with
   |none=>rw[hq]at h;cases h
   |some q=>
    obtain⟨ss,u⟩:=q
    rw[hq]at h
    cases h
    rename_i hb
    rw[onwL,if_neg hb,if_pos ha]at hq
    cases hE:stepL E ts.tail with
    |none=>rw[hE]at hq;cases hq
    |some p=>
     obtain⟨y,r1⟩:=p
     rw[hE]at hq
     dsimp only at hq
     have h1:=onw_m hM _ _ _ _ _ hq
     have h2:=step_m hM hE
     rw[cntSs_app,cntSs_app,cntSs_one,cntSs_one,cntS_any,List.length_append,List.length_append,List.length_singleton,List.length_singleton,cntSs,List.length_nil]at h1
     rw[cntE,cntEs]
     omega
  ·exact rel_m hM h
def NoPath (T:List Wd):Prop:=NoOn T∧stpL T=false
theorem loc_x (hM:MsE E)(hX:XtE E E' P T){ts:List Wd}{x:Ex}{r:List Wd}(h:locL E ts=some (x,r))(hs:r≠[]∨NoPath T):locL E' (ts++T)=some (x,r++T):=by
 have hs2:r≠[]∨NoOn T:=hs.imp_right And.left
 have hn:ts≠[]:=by
  rintro rfl
  unfold locL at h
  rw[if_neg (by simp[aheadL]),if_neg (by simp[aheadL])]at h
  unfold relL at h
  rw[step_nil]at h
  cases h
 unfold locL at h ⊢
 rw[ahead_app T hn,ahead_app T hn,tail_app T hn]
 split at h
 ·rename_i ha
  rw[if_pos ha]
  split at h
  ·rename_i hb
   have hn2:ts.tail≠[]:=by
    intro h0
    rw[h0]at hb
    cases hb
   rw[stp_app hn2,if_pos hb]
   exact rel_x hM hX h hs2
  ·rename_i hb
   cases h
   by_cases h0:ts.tail=[]
   ·rcases hs with hs|hs
    ·exact absurd h0 hs
    ·rw[h0,List.nil_append,if_neg (by rw[hs.2];simp)]
   ·rw[stp_app h0,if_neg hb]
 ·rename_i ha
  rw[if_neg ha]
  split at h
  ·rename_i hb
   rw[if_pos hb]
   cases hq:onwL E (ts.length+1) ts [] with
   |none=>rw[hq]at h;cases h
   |some q=>
    obtain⟨ss,u⟩:=q
    rw[hq]at h
    cases h
    rw[onw_x hM hX _ ((ts++T).length+1) _ _ _ _ hq (by rw[List.length_append];omega) hs2]
  ·rename_i hb
   rw[if_neg hb]
   exact rel_x hM hX h hs2
theorem path_m (hM:MsE E){ts:List Wd}{x:Ex}{r:List Wd}(h:pathL E ts=some (x,r)):cntE x+2*r.length≤2*ts.length:=by
 unfold pathL at h
 split at h
 ·cases hp:filtL E ts with
  |none=>rw[hp]at h;cases h
  |some p=>
   obtain⟨y,t⟩:=p
   rw[hp]at h
   dsimp only at h
   cases hq:onwL E (t.length+1) t [] with
   |none=>rw[hq]at h;cases h
   |some q=>
    obtain⟨ss,u⟩:=q
    rw[hq]at h
    dsimp only at h
    have h1:=filt_m hM hp
    have h2:=onw_m hM _ _ _ _ _ hq
    rw[cntSs,List.length_nil]at h2
    split at h
    ·cases h;omega
    ·rename_i hc
     cases h
     have h3:0<ss.length:=List.length_pos_iff.2 hc
     rw[cntE,cntEs_one]
     omega
 ·exact loc_m hM h
theorem path_ne {ts:List Wd}{x:Ex}{r:List Wd}(h:pathL E ts=some (x,r)):ts≠[]:=by
 rintro rfl
 unfold pathL at h
 rw[if_neg (by simp[priL,atL,aheadL])]at h
 unfold locL at h
 rw[if_neg (by simp[aheadL]),if_neg (by simp[aheadL])]at h
 unfold relL at h
 rw[step_nil]at h
 cases h
theorem path_x (hM:MsE E)(hX:XtE E E' P T){ts:List Wd}{x:Ex}{r:List Wd}(h:pathL E ts=some (x,r))(hs:r≠[]∨NoPath T):pathL E' (ts++T)=some (x,r++T):=by
 have hn:=path_ne h
 have hs2:r≠[]∨NoOn T:=hs.imp_right And.left
 unfold pathL at h ⊢
 rw[pri_app hn]
 split at h
 ·rename_i ha
  rw[if_pos ha]
  cases hp:filtL E ts with
  |none=>rw[hp]at h;cases h
  |some p=>
   obtain⟨y,t⟩:=p
   rw[hp]at h
   dsimp only at h
   cases hq:onwL E (t.length+1) t [] with
   |none=>rw[hq]at h;cases h
   |some q=>
    obtain⟨ss,u⟩:=q
    rw[hq]at h
    dsimp only at h
    have hu:u=r:=by
     split at h<;> · cases h;rfl
    rw[filt_x hM hX hp (by
     by_cases h0:t=[]
     ·subst h0
      rcases hs2 with hs|hs
      ·exact absurd (onw_nil hq) (by rw[hu];exact hs)
      ·exact .inr hs.1
     ·exact .inl h0)]
    dsimp only
    rw[onw_x hM hX _ ((t++T).length+1) _ _ _ _ hq (by rw[List.length_append];omega) (by rw[hu];exact hs2)]
    dsimp only
    split at h
    ·rename_i c;cases h;rw[if_pos c]
    ·rename_i c;cases h;rw[if_neg c]
 ·rename_i ha
  rw[if_neg ha]
  exact loc_x hM hX h hs
theorem joinT_m {S:PE}{sg:List Sg}(hM:MsE S):∀(f:Nat) (ts:List Wd) (x y:Ex) (r:List Wd),joinT S sg f ts x=some (y,r)→cntE y+2*r.length≤cntE x+2*ts.length
 |0,_,_,_,_,h=>by rw[joinT]at h;cases h
 |f+1,ts,x,y,r,h=>by
  rw[joinT]at h
  cases ho:opL sg ts with
  |none=>rw[ho]at h;cases h;omega
  |some p=>
   obtain⟨o,t⟩:=p
   rw[ho]at h
   dsimp only at h
   cases hS:S t with
   |none=>rw[hS]at h;cases h
   |some q=>
    obtain⟨z,u⟩:=q
    rw[hS]at h
    dsimp only at h
    have h1:=joinT_m hM f u _ _ _ h
    have h2:=hM _ _ _ hS
    have h3:=(op_lenX ho).1
    rw[cntE,cntEs,cntEs_one,cntSs]at h1
    omega
theorem joinT_x {S S':PE}{sg:List Sg}{Q:Prop}(hX:XtE S S' Q T):∀(f f':Nat) (ts:List Wd) (x y:Ex) (r:List Wd),joinT S sg f ts x=some (y,r)→f≤f'→(r≠[]∨(Q∧opL sg T=none))→joinT S' sg f' (ts++T) x=some (y,r++T)
 |0,_,_,_,_,_,h,_,_=>by rw[joinT]at h;cases h
 |_+1,0,_,_,_,_,_,hf,_=>by omega
 |f+1,f'+1,ts,x,y,r,h,hf,hs=>by
  rw[joinT]at h ⊢
  by_cases hn:ts=[]
  ·subst hn
   rw[op_nil]at h
   cases h
   rcases hs with hs|hs
   ·exact absurd rfl hs
   ·rw[List.nil_append,hs.2]
  ·rw[op_app T hn]
   cases ho:opL sg ts with
   |none=>rw[ho]at h;cases h;rfl
   |some p=>
    obtain⟨o,t⟩:=p
    rw[ho]at h
    dsimp only[Option.map]at h ⊢
    cases hS:S t with
    |none=>rw[hS]at h;cases h
    |some q=>
     obtain⟨z,u⟩:=q
     rw[hS]at h
     dsimp only at h
     rw[hX _ _ _ hS (by
      by_cases h0:u=[]
      ·subst h0
       rcases hs with hs|hs
       ·exfalso
        cases f with
        |zero=>rw[joinT]at h;cases h
        |succ f=>rw[joinT,op_nil]at h;cases h;exact hs rfl
       ·exact .inr hs.1
      ·exact .inl h0)]
     dsimp only
     exact joinT_x hX f f' u _ _ _ h (by omega) hs
theorem joined_ms {S:PE}{sg:List Sg}(hM:MsE S):MsE (joinedL S sg):=by
 intro ts x r h
 unfold joinedL at h
 cases hS:S ts with
 |none=>rw[hS]at h;cases h
 |some q=>
  obtain⟨z,u⟩:=q
  rw[hS]at h
  dsimp only at h
  have h1:=joinT_m hM _ _ _ _ _ h
  have h2:=hM _ _ _ hS
  omega
theorem joined_xt {S S':PE}{sg:List Sg}{Q:Prop}(hX:XtE S S' Q T):XtE (joinedL S sg) (joinedL S' sg) (Q∧opL sg T=none) T:=by
 intro ts x r h hs
 unfold joinedL at h ⊢
 cases hS:S ts with
 |none=>rw[hS]at h;cases h
 |some q=>
  obtain⟨z,u⟩:=q
  rw[hS]at h
  dsimp only at h
  rw[hX _ _ _ hS (by
   by_cases h0:u=[]
   ·subst h0
    rcases hs with hs|hs
    ·exfalso
     rw[joinT,op_nil]at h
     cases h
     exact hs rfl
    ·exact .inr hs.1
   ·exact .inl h0)]
  dsimp only
  exact joinT_x hX _ _ _ _ _ _ h (by rw[List.length_append];omega) hs
theorem sign_m (hM:MsE E):∀f,MsE (signL E f)
 |0=>fun _ _ _ h=>by rw[signL]at h;cases h
 |f+1=>fun ts x r h=>by
  rw[signL]at h
  split at h
  ·rename_i ha
   have hl:=tail_len (ahead_ne ha)
   cases hS:signL E f ts.tail with
   |none=>rw[hS]at h;cases h
   |some q=>
    obtain⟨z,u⟩:=q
    rw[hS]at h
    cases h
    have h1:=sign_m hM f _ _ _ hS
    rw[cntE,cntEs_one,cntSs]
    omega
  ·exact joined_ms (fun _ _ _ h=>path_m hM h) _ _ _ h
def NoSign (T:List Wd):Prop:=NoPath T∧opL barS T=none
theorem sign_ne {f:Nat}{ts:List Wd}{x:Ex}{r:List Wd}(h:signL E f ts=some (x,r)):ts≠[]:=by
 rintro rfl
 cases f with
 |zero=>rw[signL]at h;cases h
 |succ f=>
  rw[signL,if_neg (by simp[aheadL])]at h
  unfold joinedL at h
  cases hp:pathL E [] with
  |none=>rw[hp]at h;cases h
  |some q=>exact path_ne hp rfl
theorem sign_x (hM:MsE E)(hX:XtE E E' P T):∀(f f':Nat) (ts:List Wd) (x:Ex) (r:List Wd),signL E f ts=some (x,r)→f≤f'→(r≠[]∨NoSign T)→signL E' f' (ts++T)=some (x,r++T)
 |0,_,_,_,_,h,_,_=>by rw[signL]at h;cases h
 |_+1,0,_,_,_,_,hf,_=>by omega
 |f+1,f'+1,ts,x,r,h,hf,hs=>by
  have hn:=sign_ne h
  rw[signL]at h ⊢
  rw[ahead_app T hn,tail_app T hn]
  split at h
  ·rename_i ha
   rw[if_pos ha]
   cases hS:signL E f ts.tail with
   |none=>rw[hS]at h;cases h
   |some q=>
    obtain⟨z,u⟩:=q
    rw[hS]at h
    cases h
    rw[sign_x hM hX f f' _ _ _ hS (by omega) hs]
  ·rename_i ha
   rw[if_neg ha]
   exact joined_xt (Q:=NoPath T) (fun _ _ _ h hs=>path_x hM hX h hs) _ _ _ h hs
end
def NoRank:Nat→List Wd→Prop
 |0,T=>NoSign T∧opL (sgs 5) T=none
 |n+1,T=>NoRank n T∧opL (sgs (4-n)) T=none
theorem rank_m {E:PE}(hM:MsE E):∀n,MsE (rankL E n)
 |0=>by
  rw[rankL]
  exact joined_ms fun ts=>sign_m hM _ ts
 |n+1=>by
  rw[rankL]
  exact joined_ms (rank_m hM n)
theorem rank_x {E E':PE}{P:Prop}{T:List Wd}(hM:MsE E)(hX:XtE E E' P T):∀n,XtE (rankL E n) (rankL E' n) (NoRank n T) T
 |0=>by
  rw[rankL,rankL]
  exact joined_xt (Q:=NoSign T) fun ts x r h hs=>sign_x hM hX _ ((ts++T).length+1) ts x r h (by rw[List.length_append];omega) hs
 |n+1=>by
  rw[rankL,rankL]
  exact joined_xt (rank_x hM hX n)
theorem expr_m:∀d,MsE (exprL d)
 |0=>fun _ _ _ h=>by rw[exprL]at h;cases h
 |d+1=>by
  rw[exprL]
  exact rank_m (expr_m d) 5
theorem expr_x (T:List Wd):∀(d d':Nat),d≤d'→XtE (exprL d) (exprL d') (NoRank 5 T) T
 |0,_,_=>fun _ _ _ h=>by rw[exprL]at h;cases h
 |d+1,0,h=>by omega
 |d+1,d'+1,h=>by
  rw[exprL,exprL]
  exact rank_x (expr_m d) (expr_x T d d' (by omega)) 5
end Char
end Go.Proofs.YtlmpkpjjakallaaGreatDoor
