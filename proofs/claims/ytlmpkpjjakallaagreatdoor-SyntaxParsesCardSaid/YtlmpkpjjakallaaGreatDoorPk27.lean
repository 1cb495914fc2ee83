import Derived.Test.YtlmpkpjjakallaaGreatDoorPk26
import Derived.Test.YtlmpkpjjakallaaGreatDoorPk25
import Derived.Test.YtlmpkpjjakallaaGreatDoorPk02
namespace Go.Proofs.YtlmpkpjjakallaaGreatDoor
namespace Char
open Go.RowKit Go.Lib
open Go.Proofs.YtlmpkpjjakallaaGreatDoor.Fig (outT outV)
theorem argsD_suf {O:List Wd→Option Ex}{r t:List Wd}{xs:List Ex}(h:argsD O r=some (xs,t)):∃m,m≤r.length∧t=r.drop m:=by
 unfold argsD at h
 split at h
 ·rename_i ha
  obtain⟨x,r',rfl,hm⟩:=ahead1_inv ha
  rw[List.tail_cons]at h
  cases hp:partR [[40]] r' with
  |none=>rw[hp]at h;cases h
  |some q=>
   obtain⟨u,v⟩:=q
   obtain⟨c,hsp⟩:=par_split hp
   rw[hp]at h
   dsimp only at h
   have key:v=(x::r').drop (1+u.length+1):=by
    rw[hsp,show 1+u.length+1=(x::(u++[c])).length by simp;omega,show x::(u++c::v)=(x::(u++[c]))++v by simp,List.drop_left]
   have hl:1+u.length+1≤(x::r').length:=by rw[hsp];simp;omega
   split at h
   ·cases h
    exact⟨_,hl,key⟩
   ·cases ho:partsD O (cutA 0 [] u) [] with
    |none=>rw[ho]at h;cases h
    |some ys=>
     rw[ho]at h
     cases h
     exact⟨_,hl,key⟩
 ·cases h
theorem primD_suf {O:List Wd→Option Ex}{l v:List Wd}{y:Ex}(h:primD O l=some (y,v)):∃m,1≤m∧m≤l.length∧v=l.drop m:=by
 cases l with
 |nil=>cases h
 |cons x r=>
  unfold primD at h
  dsimp only at h
  split at h
  ·cases h;exact⟨1,Nat.le_refl _,by simp,rfl⟩
  split at h
  ·cases h;exact⟨1,Nat.le_refl _,by simp,rfl⟩
  split at h
  ·cases h;exact⟨1,Nat.le_refl _,by simp,rfl⟩
  split at h
  ·cases ha:argsD O r with
   |none=>rw[ha]at h;cases h
   |some q=>
    obtain⟨xs,t⟩:=q
    rw[ha]at h
    cases h
    obtain⟨m,hm,rfl⟩:=argsD_suf ha
    exact⟨m+1,by omega,by simp;omega,rfl⟩
  split at h
  ·cases hp:partR [[40]] r with
   |none=>rw[hp]at h;cases h
   |some q=>
    obtain⟨u,t⟩:=q
    obtain⟨c,hsp⟩:=par_split hp
    rw[hp]at h
    dsimp only at h
    cases ho:O u with
    |none=>rw[ho]at h;cases h
    |some e=>
     rw[ho]at h
     cases h
     refine⟨1+u.length+1,by omega,by rw[hsp];simp;omega,?_⟩
     rw[hsp,show 1+u.length+1=(x::(u++[c])).length by simp;omega,show x::(u++c::v)=(x::(u++[c]))++v by simp,List.drop_left]
  ·cases h
theorem predsD_num {O:List Wd→Option Ex}:∀(f:Nat) (l:List Wd) (acc ps:List Ex) (r:List Wd),predsD O f l acc=some (ps,r)→ps.length≤acc.length+l.length
 |0,_,_,_,_,h=>by rw[predsD]at h;cases h
 |f+1,l,acc,ps,r,h=>by
  rw[predsD]at h
  split at h
  ·rename_i ha
   obtain⟨x,t,rfl,hm⟩:=ahead1_inv ha
   rw[List.tail_cons]at h
   cases hp:partR [[91]] t with
   |none=>rw[hp]at h;cases h
   |some q=>
    obtain⟨u,v⟩:=q
    rw[hp]at h
    dsimp only at h
    cases ho:O u with
    |none=>rw[ho]at h;cases h
    |some y=>
     rw[ho]at h
     dsimp only at h
     have h1:=predsD_num f v _ ps r h
     obtain⟨c,hsp⟩:=par_split hp
     have h2:=congrArg List.length hsp
     rw[List.length_append,List.length_cons]at h2
     rw[List.length_append,List.length_singleton]at h1
     rw[List.length_cons]
     omega
  ·cases h
   omega
theorem refLoc_any {N:Nat}{O:List Wd→Option Ex}(hO:OrC N O)(hN:N≤399)(l:List Wd)(o:Option Addr)(c:Nat)(w:World)(h:WSl w o c l)(hne:l≠[])(hn:l.length≤N):Calls Tryz.prog 183 #[.slice o l.length c] w (OrP w (locD O l)):=by
 have hSt:=refStep_any hO (by omega)
 cases l with
 |nil=>exact absurd rfl hne
 |cons x r=>
  obtain⟨g,off,rfl,_⟩:=h.word 0 (by simp)
  have hn0:0<(x::r).length:=by simp
  have hSS:=fun W (hW:Below w.heap.size w W)=>refSteps_any N O hSt (x::r) _ c W (h.below hW) (by omega) (by omega)
  have hbar:∀(o:Option Addr) (j:Nat) (W:World),WSl W o j (barWd::x::r)→Calls Tryz.prog 186 #[.slice o ((x::r).length+1) j] W (SsP2 W (match stpDc O (x::r) with
   |none=>none
   |some (s,t)=>stepsD O (t.length+1) t [s])):=fun o j W hW=>by
   have :=refSteps_any N O hSt (barWd::x::r) o j W hW (by simpa using hn) (by simp only[List.length_cons]at hn ⊢;omega)
   rw[steps_bar]at this
   exact this
  have e1:opMk [47] x=if (x.k:Int)==5 then x.s==[47] else false:=rfl
  have e2:opMk [47,47] x=if (x.k:Int)==5 then x.s==[47,47] else false:=rfl
  have hL:locD O (x::r)=if opMk [47] x||opMk [47,47] x then (if (x::r).length=1 then (if opMk [47] x then some (.mk 16 [] 0 0 true [] []) else none) else (stepsD O ((x::r).length+1) (x::r) []).map fun ss=> .mk 16 [] 0 0 true [] ss)
   else (match stpDc O (x::r) with
    |none=>none
    |some (s,t)=>stepsD O (t.length+1) t [s]).map fun ss=> .mk 16 [] 0 0 false [] ss:=by
   unfold locD
   rw[ahead_op,ahead_op]
   rfl
  rw[hL]
  cases h5:((x.k:Int)==5) with
  |false=>
   rw[h5]at e1 e2
   rw[e1,e2]
   exact refLoc_no5 w g off _ c x (wc_of h) hn0 h5 (x::r) h rfl (by omega) _ hbar _ rfl
  |true=>
   rw[h5]at e1 e2
   rw[if_pos rfl]at e1 e2
   rw[e1,e2]
   cases h1:(x.s==[47]) with
   |true=>
    have s1:((bs x.s).toList==[47])=true:=by rw[bs_tl];exact h1
    by_cases hl:(x::r).length=1
    ·refine refLoc_one1 w g off c x (wc_of h) h5 s1 _ hl _ ?_
     rw[if_pos hl]
     rfl
    ·refine refLoc_one w g off _ c x (wc_of h) hn0 h5 s1 _ hSS hl _ ?_
     rw[if_neg hl]
     rfl
   |false=>
    have s1:((bs x.s).toList==[47])=false:=by rw[bs_tl];exact h1
    cases h2:(x.s==[47,47]) with
    |true=>
     have s2:((bs x.s).toList==[47,47])=true:=by rw[bs_tl];exact h2
     by_cases hl:(x::r).length=1
     ·refine refLoc_two1 w g off c x (wc_of h) h5 s1 s2 _ hl _ ?_
      rw[if_pos hl]
      rfl
     ·refine refLoc_two w g off _ c x (wc_of h) hn0 h5 s1 s2 _ hSS hl _ ?_
      rw[if_neg hl]
      rfl
    |false=>
     have s2:((bs x.s).toList==[47,47])=false:=by rw[bs_tl];exact h2
     exact refLoc_non w g off _ c x (wc_of h) hn0 h5 s1 s2 (x::r) h rfl (by omega) _ hbar _ rfl
def pthF (O:List Wd→Option Ex)(l:List Wd):Option Ex:=match filtD O l with
 |none=>none
 |some (x,r)=>if r=[] then some x else (stepsD O (r.length+1) r []).map fun ss=> .mk 16 [] 0 0 false [x] ss
theorem pthF_n {O:List Wd→Option Ex}{l:List Wd}(h:primD O l=none):pthF O l=none:=by unfold pthF filtD;rw[h]
theorem pthF_pn {O:List Wd→Option Ex}{l v:List Wd}{y:Ex}(h:primD O l=some (y,v))(hq:predsD O (v.length+1) v []=none):pthF O l=none:=by unfold pthF filtD;rw[h];dsimp only;rw[hq]
theorem pthF_0 {O:List Wd→Option Ex}{l v t:List Wd}{y:Ex}{ps:List Ex}(h:primD O l=some (y,v))(hq:predsD O (v.length+1) v []=some (ps,t))(hp:ps=[]):pthF O l=if t=[] then some y else (stepsD O (t.length+1) t []).map fun ss=> .mk 16 [] 0 0 false [y] ss:=by
 unfold pthF filtD;rw[h];dsimp only;rw[hq];dsimp only;rw[if_pos hp]
theorem pthF_1 {O:List Wd→Option Ex}{l v t:List Wd}{y:Ex}{ps:List Ex}(h:primD O l=some (y,v))(hq:predsD O (v.length+1) v []=some (ps,t))(hp:ps≠[]):pthF O l=if t=[] then some (.mk 17 [] 0 0 false (y::ps) []) else (stepsD O (t.length+1) t []).map fun ss=> .mk 16 [] 0 0 false [.mk 17 [] 0 0 false (y::ps) []] ss:=by
 unfold pthF filtD;rw[h];dsimp only;rw[hq];dsimp only;rw[if_neg hp]
theorem refPath_p {N:Nat}{O:List Wd→Option Ex}(hO:OrC N O)(hN:N≤399)(w:World)(g off c:Nat)(x:Wd)(hcx:∀W,Below w.heap.size w W→Wc W g off x)(l:List Wd)(h:WSl w (some ⟨g,off,none⟩) c l)(hn0:0<l.length)(hn:l.length≤N)(hw:PWay x):
 Calls Tryz.prog 157 #[.slice (some ⟨g,off,none⟩) l.length c] w (OrP w (pthF O l)):=by
 have hSt:=refStep_any hO (by omega)
 have HPR:=fun W (hW:Below w.heap.size w W)=>refPrim_any hO (by omega) l _ c W (h.below hW) (fun e=>by rw[e]at hn0;cases hn0) hn
 cases hp:primD O l with
 |none=>
  rw[hp]at HPR
  exact refPath_p_n w g off _ c x hcx hn0 hw l HPR _ (pthF_n hp)
 |some q=>
  obtain⟨y,v⟩:=q
  obtain⟨m1,a1,b1,rfl⟩:=primD_suf hp
  rw[hp]at HPR
  obtain⟨o9,hsl,hw9⟩:=h.drop m1 b1
  have hld:(l.drop m1).length=l.length-m1:=List.length_drop
  have HP:∀W,Below w.heap.size w W→Calls Tryz.prog 185 #[.slice o9 (l.length-m1) (c-m1)] W (PdP W (l.drop m1) (predsD O ((l.drop m1).length+1) (l.drop m1) [])):=fun W hW=>by
   have :=refPreds_any N O hO (l.drop m1) o9 (c-m1) W (hw9.below hW) (by omega) (by omega)
   rw[hld]at this ⊢
   exact this
  cases hq:predsD O ((l.drop m1).length+1) (l.drop m1) [] with
  |none=>
   rw[hq]at HP
   exact refPath_p_pn w g off _ c x hcx hn0 hw m1 y l HPR o9 hsl HP a1 b1 _ (pthF_pn hp hq)
  |some q=>
   obtain⟨ps,t⟩:=q
   obtain⟨m2,b2,rfl⟩:=predsD_suf _ _ _ _ _ hq
   have hz:=predsD_zero hq b2
   have hnum:=predsD_num _ _ _ _ _ hq
   rw[hq]at HP
   have h12:m1+m2≤l.length:=by omega
   have hdd:(l.drop m1).drop m2=l.drop (m1+m2):=List.drop_drop
   by_cases he:m1+m2=l.length
   ·have hnil:(l.drop m1).drop m2=[]:=by rw[hdd];exact List.drop_eq_nil_of_le (by omega)
    by_cases hz0:m2=0
    ·exact refPath_p_ok0 w g off _ c x hcx hn0 hw m1 y l HPR o9 hsl m2 ps HP a1 b1 b2 (by omega) h12 hz0 he _ (by rw[pthF_0 hp hq (hz.2 hz0),if_pos hnil])
    ·have hps:ps≠[]:=fun e=>hz0 (hz.1 e)
     exact refPath_p_ok1 w g off _ c x hcx hn0 hw m1 y l HPR o9 hsl m2 ps HP a1 b1 b2 (by omega) h12 (by omega) hps (fun k hk=>by rw[List.length_nil]at hnum;omega) he _ (by rw[pthF_1 hp hq hps,if_pos hnil])
   ·obtain⟨o8,hsl2,hw8⟩:=h.drop (m1+m2) h12
    have hl8:(l.drop (m1+m2)).length=l.length-(m1+m2):=List.length_drop
    have hnil:(l.drop m1).drop m2≠[]:=fun e=>by
     rw[hdd]at e
     rw[e,List.length_nil]at hl8
     omega
    rw[show((m1+m2:Nat):Int)=(m1:Int)+(m2:Int) by omega]at hsl2
    have HS:∀W,Below w.heap.size w W→Calls Tryz.prog 186 #[.slice o8 (l.length-(m1+m2)) (c-(m1+m2))] W (SsP2 W (stepsD O (((l.drop m1).drop m2).length+1) ((l.drop m1).drop m2) [])):=fun W hW=>by
     have :=refSteps_any N O hSt (l.drop (m1+m2)) o8 _ W (hw8.below hW) (by omega) (by omega)
     rw[hdd]
     rw[hl8]at this ⊢
     exact this
    by_cases hz0:m2=0
    ·exact refPath_p_st0 w g off _ c x hcx hn0 hw m1 y l HPR o9 hsl m2 ps HP a1 b1 b2 (by omega) h12 hz0 (by omega) o8 hsl2 _ HS _ (by rw[pthF_0 hp hq (hz.2 hz0),if_neg hnil])
    ·have hps:ps≠[]:=fun e=>hz0 (hz.1 e)
     exact refPath_p_st1 w g off _ c x hcx hn0 hw m1 y l HPR o9 hsl m2 ps HP a1 b1 b2 (by omega) h12 (by omega) hps (fun k hk=>by rw[List.length_nil]at hnum;omega) (by omega) o8 hsl2 _ HS _ (by rw[pthF_1 hp hq hps,if_neg hnil])
theorem refPath_any {N:Nat}{O:List Wd→Option Ex}(hO:OrC N O)(hN:N≤399):WdC 157 N (pathD O):=by
 intro l o c w h hn
 cases l with
 |nil=>exact refPath_nil w o c
 |cons x r=>
  obtain⟨g,off,rfl,_⟩:=h.word 0 (by simp)
  have hn0:0<(x::r).length:=by simp
  have hp:pathD O (x::r)=if priL (x::r) then pthF O (x::r) else locD O (x::r):=by
   unfold pathD
   rw[if_neg (by simp)]
   rfl
  have hpr:priL (x::r)=(((((x.k:Int)==10)||((x.k:Int)==8))||((x.k:Int)==9))||((x.k:Int)==6)||mkW [40] x):=by
   cases h10:((x.k:Int)==10)<;>cases h8:((x.k:Int)==8)<;>cases h9:((x.k:Int)==9)<;>cases h6:((x.k:Int)==6)<;>cases hm:mkW [40] x<;>simp[priL,atL_cons,ahead_mk,h10,h8,h9,h6,hm]
  rw[hp,hpr]
  have nk:∀(k:Int) (b:Bool),((x.k:Int)==k)=b→((x.k:Int) != k)= !b:=fun k b e=>by rw[bne,e]
  cases h10:((x.k:Int)==10) with
  |true=>exact refPath_p hO hN w g off c x (wc_of h) _ h hn0 hn (.inl (nk 10 _ h10))
  |false=>
  cases h8:((x.k:Int)==8) with
  |true=>exact refPath_p hO hN w g off c x (wc_of h) _ h hn0 hn (.inr (.inl ⟨nk 10 _ h10,nk 8 _ h8⟩))
  |false=>
  cases h9:((x.k:Int)==9) with
  |true=>exact refPath_p hO hN w g off c x (wc_of h) _ h hn0 hn (.inr (.inr (.inl ⟨nk 10 _ h10,nk 8 _ h8,nk 9 _ h9⟩)))
  |false=>
  cases h6:((x.k:Int)==6) with
  |true=>exact refPath_p hO hN w g off c x (wc_of h) _ h hn0 hn (.inr (.inr (.inr (.inl ⟨nk 10 _ h10,nk 8 _ h8,nk 9 _ h9,nk 6 _ h6⟩))))
  |false=>
  cases hm:mkW [40] x with
  |true=>exact refPath_p hO hN w g off c x (wc_of h) _ h hn0 hn (.inr (.inr (.inr (.inr ⟨nk 10 _ h10,nk 8 _ h8,nk 9 _ h9,nk 6 _ h6,hm⟩))))
  |false=>exact refPath_loc w g off _ c x (wc_of h) hn0 (nk 10 _ h10) (nk 8 _ h8) (nk 9 _ h9) (nk 6 _ h6) (mkC_of hm) _ (fun W hW=>refLoc_any hO hN _ _ c W (h.below hW) (by simp) hn)
end Char
namespace Char
open Go.RowKit Go.Lib
open Go.Proofs.YtlmpkpjjakallaaGreatDoor.Fig (outT outV)
def orR (O:List Wd→Option Ex)(r:Nat)(l:List Wd):Option Ex:=if r≤5 then rankD O (5-r) l else signD O (l.length+1) l
theorem orR_six (O:List Wd→Option Ex)(l:List Wd):orR O 6 l=signD O (l.length+1) l:=by
 unfold orR
 rw[if_neg (by omega)]
theorem orR_lt (O:List Wd→Option Ex)(r:Nat)(hr:r<6)(l:List Wd):orR O r l=cutD (orR O (r+1)) (sgs r) (l.length+1) l:=by
 have h1:orR O r l=rankD O (5-r) l:=by unfold orR;rw[if_pos (by omega)]
 rw[h1]
 by_cases h5:r=5
 ·subst h5
  have :orR O 6=fun t=>signD O (t.length+1) t:=funext fun t=>orR_six O t
  show cutD (fun t=>signD O (t.length+1) t) (sgs 5) (l.length+1) l=cutD (orR O 6) (sgs 5) (l.length+1) l
  rw[this]
 ·have e:5-r=(4-r)+1:=by omega
  have h2:orR O (r+1)=rankD O (4-r):=funext fun t=>by
   unfold orR
   rw[if_pos (by omega),show 5-(r+1)=4-r by omega]
  rw[e,h2]
  show cutD (rankD O (4-r)) (sgs (4-(4-r))) (l.length+1) l=_
  rw[show 4-(4-r)=r by omega]
theorem refOr_six_any {N:Nat}{O:List Wd→Option Ex}(hO:OrC N O)(hN:N≤399)(l:List Wd)(o:Option Addr)(c:Nat)(w:World)(h:WSl w o c l)(hn:l.length≤N):Calls Tryz.prog 29 #[.slice o l.length c,.int .i64 6] w (OrP w (signD O (l.length+1) l)):=by
 have hP:=refPath_any hO hN
 have hU:WdC 116 N (fun l=>cutD (pathD O) barS (l.length+1) l):=fun l o c W h hn=>refUnion_any hP (by omega) (l.length+1) l o c W h hn (by omega)
 exact refOr_six w o _ c _ (fun W hW=>refSign_any O N hU (l.length+1) l o c W (h.below hW) hn (by omega))
theorem refOr_rank {N:Nat}{O:List Wd→Option Ex}(hN:N≤399)(r:Nat)(hr:r<6)(hNx:∀(l:List Wd) (o:Option Addr) (c:Nat) (w:World),WSl w o c l→l.length≤N→Calls Tryz.prog 29 #[.slice o l.length c,.int .i64 ((r:Int)+1)] w (OrP w (orR O (r+1) l))):
 ∀(f:Nat) (l:List Wd) (o:Option Addr) (c:Nat) (w:World),WSl w o c l→l.length≤N→l.length<f→Calls Tryz.prog 29 #[.slice o l.length c,.int .i64 (r:Int)] w (OrP w (cutD (orR O (r+1)) (sgs r) f l)):=by
 intro f
 induction f with
 |zero=>intro l o c w _ _ h;omega
 |succ f ih=>
 intro l o c w h hn hf
 have hol:(namesO (sgs r)).length≤100:=by
  have :r=0∨r=1∨r=2∨r=3∨r=4∨r=5:=by omega
  rcases this with rfl|rfl|rfl|rfl|rfl|rfl<;>decide
 have hla:=fun g2 W (hW:Below w.heap.size w W) (hs:StSl W g2 (namesO (sgs r)))=>last_any l o c g2 (namesO (sgs r)) W (h.below hW) hs (by omega) hol
 rw[cutD]
 cases hd:lastD (namesO (sgs r)) l with
 |none=>
  rw[hd]at hla
  exact refOr_none w o _ c r _ _ hr (ops_any r hr) _ hla (by decide) _ (fun W hW=>hNx l o c W (h.below hW) hn)
 |some k=>
  rw[hd]at hla
  have hk:=lastD_lt hd
  dsimp only
  obtain⟨o8,hs1,hw8⟩:=h.take k (Nat.le_of_lt hk)
  obtain⟨o9,hs2,hw9⟩:=h.drop (k+1) hk
  have ht:(l.take k).length=k:=by rw[List.length_take];omega
  have hdl:(l.drop (k+1)).length=l.length-(k+1):=List.length_drop
  have HU:∀W,Below w.heap.size w W→Calls Tryz.prog 29 #[.slice o8 k c,.int .i64 (r:Int)] W (OrP W (cutD (orR O (r+1)) (sgs r) f (l.take k))):=fun W hW=>by
   have :=ih (l.take k) o8 c W (hw8.below hW) (by omega) (by omega)
   rwa [ht]at this
  have HP:∀W,Below w.heap.size w W→Calls Tryz.prog 29 #[.slice o9 (l.length-(k+1)) (c-(k+1)),.int .i64 ((r:Int)+1)] W (OrP W (orR O (r+1) (l.drop (k+1)))):=fun W hW=>by
   have :=hNx (l.drop (k+1)) o9 (c-(k+1)) W (hw9.below hW) (by omega)
   rwa [hdl]at this
  obtain⟨g,off,e0,_⟩:=h.word k hk
  subst e0
  have hxs:∀W,Below w.heap.size w W→g<W.heap.size∧W.cell? ⟨g,off+k*4+1,none⟩=some (.string (bs l[k].s)):=fun W hW=>by
   obtain⟨g',off',e,h1,_,h3,_⟩:=(h.below hW).word k hk
   cases e
   exact⟨h1,h3⟩
  have hop:opC (sgs r) (l.drop k)=kdD l[k].s:=by
   rcases last_at _ l 0 false 0 k none hd with h|⟨a,x,b,hl,e,hx,hs⟩
   ·cases h
   ·have hlk:l[k]=x:=by
     have h1:l[k]? =some x:=by rw[hl,show k=a.length by omega,List.getElem?_append_right (Nat.le_refl _),Nat.sub_self];rfl
     rw[List.getElem?_eq_getElem hk]at h1
     exact Option.some.inj h1
    have hdr:l.drop k=x::b:=by rw[hl,show k=a.length by omega,List.drop_left]
    rw[hdr,hlk,opC_of hx,opN_kd r hr _ hs]
  cases h1:cutD (orR O (r+1)) (sgs r) f (l.take k) with
  |none=>exact refOr_n1 w g off _ c r _ _ hr (ops_any r hr) _ hla k rfl hk (by omega) _ hxs o8 o9 hs1 hs2 _ _ HU HP h1 _ rfl
  |some y=>
   dsimp only
   cases h2:orR O (r+1) (l.drop (k+1)) with
   |none=>exact refOr_n2 w g off _ c r _ _ hr (ops_any r hr) _ hla k rfl hk (by omega) _ hxs o8 o9 hs1 hs2 _ _ HU HP y h1 h2 _ rfl
   |some z=>exact refOr_ok w g off _ c r _ _ hr (ops_any r hr) _ hla k rfl hk (by omega) _ hxs o8 o9 hs1 hs2 _ _ HU HP y z h1 h2 _ (by dsimp only;rw[hop])
theorem refOr_ranks {N:Nat}{O:List Wd→Option Ex}(hO:OrC N O)(hN:N≤399):∀(j r:Nat),r+j=6→∀(l:List Wd) (o:Option Addr) (c:Nat) (w:World),WSl w o c l→l.length≤N→Calls Tryz.prog 29 #[.slice o l.length c,.int .i64 (r:Int)] w (OrP w (orR O r l))
 |0,r,hr,l,o,c,w,h,hn=>by
  obtain rfl:r=6:=by omega
  rw[orR_six]
  exact refOr_six_any hO hN l o c w h hn
 |j+1,r,hr,l,o,c,w,h,hn=>by
  rw[orR_lt O r (by omega)]
  refine refOr_rank hN r (by omega) (fun l o c w h hn=> ?_) (l.length+1) l o c w h hn (by omega)
  have :=refOr_ranks hO hN j (r+1) (by omega) l o c w h hn
  rwa [show((r+1:Nat):Int)=(r:Int)+1 by omega]at this
theorem refOr_any:∀(d:Nat),d≤400→OrC d (orD d)
 |0,_=>fun l _ _ _ _ h _=>absurd h (by omega)
 |d+1,hd=>fun l o c W h hn _=>by
  have ih:=refOr_any d (by omega)
  have :=refOr_ranks ih (by omega) 6 0 (by omega) l o c W h (by omega)
  have e:orR (orD d) 0 l=orD (d+1) l:=by unfold orR;rw[if_pos (by omega)];rfl
  rw[e]at this
  exact this
end Char
namespace Char
open Go.RowKit Go.Lib
set_option maxRecDepth 100000 in
set_option maxHeartbeats 4000000 in
theorem spaces_any (l:List UInt8)(p:Nat)(w:World)(hl:l.length≤60000)(hp:p≤l.length):
 Calls Tryz.prog 51 #[.string (bs l),.int .i64 (p:Int)] w fun e w'=>e= .returned (.int .i64 ((p+spcL (l.drop p):Nat):Int))∧w=w':=by
 obtain⟨R,hR⟩:∃R,p+spcL (l.drop p)=R:=⟨_,rfl⟩
 rw[hR]
 have HR:=Lib.hid hR
 have hsz:=bs_size l
 clear hR
 go_enter Tryz.func51,Tryz.ntmps51
 go_wp2_with fail
 go_loop [1] (fun v=>∃k:Nat,v= .int .i64 (k:Int)∧k≤l.length∧Hid (k+spcL (l.drop k)=R)) (fun v=>l.length-(RowKit.intOf v).toNat)
 case atStart=>exact⟨p,rfl,hp,HR⟩
 case round=>
  obtain⟨k,rfl,hk,HK⟩:=hrel
  by_cases hlt:k<l.length
  ·have hlt':k<(bs l).size:=by rw[hsz];exact hlt
   have hgt:=bs_get l k hlt'
   have hk2:=HK.out
   rw[drop_cons l k hlt,spc_cons]at hk2
   obtain⟨nb,hnb⟩:∃nb,(l.getD k 0).toNat=nb:=⟨_,rfl⟩
   have hg:((bs l)[k]'hlt').toNat=nb:=by rw[hgt,hnb]
   rw[hnb]at hk2
   have hn256:nb<256:=by rw[←hnb];exact UInt8.toNat_lt _
   clear hgt hnb
   cases hb:spC (nb:Int) with
   |true=>
    have HS:=Lib.hid (fun W=>refSpace_any (nb:Int) W)
    rw[hb]at HS hk2
    have HK2:Hid (k+1+spcL (l.drop (k+1))=R):=Lib.hid (by rw[if_pos rfl]at hk2;omega)
    clear hk2 hb
    go_wp2_with fail
    refine(HS.out _).mono ?_
    rintro e w1 ⟨rfl,rfl⟩
    go_wp2_with fail
    go_round
    case rel=>exact⟨k+1,by go_num,by omega,HK2⟩
    case measure=>simp[RowKit.intOf];omega
   |false=>
    have HS:=Lib.hid (fun W=>refSpace_any (nb:Int) W)
    rw[hb]at HS hk2
    have HK2:Hid ((k:Int)=(R:Int)):=Lib.hid (by rw[if_neg (by simp)]at hk2;omega)
    clear hk2 hb
    go_wp2_with fail
    refine(HS.out _).mono ?_
    rintro e w1 ⟨rfl,rfl⟩
    go_wp2_with fail
    go_ret
    exact⟨ret_i HK2.out,rfl⟩
  ·have hk2:=HK.out
   rw[List.drop_eq_nil_of_le (by omega)]at hk2
   have HK2:Hid ((k:Int)=(R:Int)):=Lib.hid (by rw[←hk2];rfl)
   clear hk2
   go_wp2_with fail
   go_ret
   exact⟨ret_i HK2.out,rfl⟩
end Char
namespace Char
open Go.Lib Go.RowKit
open Go.Proofs.YtlmpkpjjakallaaGreatDoor.Fig (Nm litL digB)
theorem sp_low {b:UInt8}(h:spC (b.toNat:Int)=true):b.toNat=9∨b.toNat=10∨b.toNat=13∨b.toNat=32:=by
 unfold spC at h
 simp only[Bool.or_eq_true,beq_iff_eq]at h
 omega
theorem tw_app {p:UInt8→Bool}{g:List UInt8}(hg:g=[]∨∃b t,g=b::t∧p b=false):∀l:List UInt8,(l++g).takeWhile p=l.takeWhile p
 |[]=>by
  rcases hg with rfl|⟨b,t,rfl,h⟩
  ·rfl
  ·rw[List.nil_append,List.takeWhile_cons,h];rfl
 |x::l=>by
  rw[List.cons_append,List.takeWhile_cons,List.takeWhile_cons,tw_app hg l]
theorem tw_yes {p:UInt8→Bool}:∀{l:List UInt8},(∀b∈l,p b=true)→l.takeWhile p=l
 |[],_=>rfl
 |x::l,h=>by rw[List.takeWhile_cons,if_pos (h x List.mem_cons_self),tw_yes fun b hb=>h b (List.mem_cons_of_mem _ hb)]
theorem dropS_tw (l:List UInt8):dropS l=l.dropWhile fun b=>spC (b.toNat:Int):=by
 unfold dropS spcL
 have h:=List.takeWhile_append_dropWhile (p:=fun b:UInt8=>spC (b.toNat:Int)) (l:=l)
 have h2:=List.drop_left (l₁:=l.takeWhile fun b:UInt8=>spC (b.toNat:Int)) (l₂:=l.dropWhile fun b:UInt8=>spC (b.toNat:Int))
 rwa [h]at h2
def lastE (e:Bool):List Wd→Bool
 |[]=>e
 |w::ws=>lastE (endW w) ws
theorem gap_tx:∀(g y:List UInt8),(∀b∈g,spC (b.toNat:Int)=true)→txD (g++y)=txD y
 |[],_,_=>rfl
 |b::g,y,h=>by
  have hb:=h b List.mem_cons_self
  have h2:=sp_low hb
  have hc:isC (b.toNat:Int)=true:=by
   rcases h2 with h|h|h|h<;>rw[h]<;>decide
  rw[List.cons_append,tx_ascii b _ (by omega),hc,gap_tx g y fun c hc=>h c (List.mem_cons_of_mem _ hc)]
  rfl
end Char
end Go.Proofs.YtlmpkpjjakallaaGreatDoor
