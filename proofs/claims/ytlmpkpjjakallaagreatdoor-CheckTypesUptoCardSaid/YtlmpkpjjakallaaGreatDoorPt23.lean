import Derived.Test.YtlmpkpjjakallaaGreatDoorPt22
import Derived.Test.YtlmpkpjjakallaaGreatDoorPt04
import Derived.Test.YtlmpkpjjakallaaGreatDoorPt12
namespace Go.Proofs.YtlmpkpjjakallaaGreatDoor
namespace Char
open Go.RowKit Go.Lib
open Go.Proofs.YtlmpkpjjakallaaGreatDoor.Fig (outT outV rightB litL toldD fitD toD)
mutual
def atE:Ex→Prop
 | .mk op s tg vl _ ks ss=>(okI op∧okI tg∧okI vl∧s.length≤1048576)∧atEs ks∧atSs ss
def atEs:List Ex→Prop
 |[]=>True
 |k::r=>atE k∧atEs r
def atSs:List St→Prop
 |[]=>True
 |k::r=>atS k∧atSs r
def atS:St→Prop
 | .mk ax tk nm _ ps=>(okI ax∧okI tk∧nm.length≤1048576)∧atEs ps
end
mutual
theorem wf_of:∀x:Ex,atE x→cntE x≤1048576→wfE 1048576 x
 | .mk op s tg vl ab ks ss,h,hc=>by
   rw[atE]at h
   rw[cntE]at hc
   have h1:=cntEs_len ks
   have h2:=cntSs_len ss
   rw[wfE]
   exact⟨⟨h.1.1,h.1.2.1,h.1.2.2.1,h.1.2.2.2,by omega,by omega⟩,wfs_of ks h.2.1 (by omega),wfss_of ss h.2.2 (by omega)⟩
theorem wfs_of:∀ks:List Ex,atEs ks→cntEs ks≤1048576→wfEs 1048576 ks
 |[],_,_=>by rw[wfEs];trivial
 |k::r,h,hc=>by
  rw[atEs]at h
  rw[cntEs]at hc
  rw[wfEs]
  exact⟨wf_of k h.1 (by omega),wfs_of r h.2 (by omega)⟩
theorem wfss_of:∀ks:List St,atSs ks→cntSs ks≤1048576→wfSs 1048576 ks
 |[],_,_=>by rw[wfSs];trivial
 |k::r,h,hc=>by
  rw[atSs]at h
  rw[cntSs]at hc
  rw[wfSs]
  exact⟨wfS_of k h.1 (by omega),wfss_of r h.2 (by omega)⟩
theorem wfS_of:∀x:St,atS x→cntS x≤1048576→wfS 1048576 x
 | .mk ax tk nm hs ps,h,hc=>by
   rw[atS]at h
   rw[cntS]at hc
   have h1:=cntEs_len ps
   rw[wfS]
   exact⟨⟨h.1.1,h.1.2.1,h.1.2.2,by omega⟩,wfs_of ps h.2 (by omega)⟩
end
structure WdR (B:Prop)(x:Wd):Prop where
 sl:x.s.length≤1048576
 nt:outT x.n=0
 nv:0≤outV x.n∧outV x.n≤9223372036854775807
 nm:B→x.k=2∨x.k=10→nmD (bs x.s)=true
 fn:B→x.k=6→fnD x.s=true
 lt:B→x.k=8→litD x.s=true
def WsR (B:Prop)(ts:List Wd):Prop:=∀w∈ts,WdR B w
theorem WsR.tail {B:Prop}{ts:List Wd}(h:WsR B ts):WsR B ts.tail:=fun w hw=>h w (List.mem_of_mem_tail hw)
theorem WsR.must {B:Prop}{ts t:List Wd}{m:List UInt8}(h:WsR B ts)(hm:mustW m ts=some t):WsR B t:=by
 unfold mustW at hm
 split at hm
 ·cases hm;exact h.tail
 ·cases hm
def OkX (B:Prop)(x:Ex):Prop:=atE x∧(B→rightE x=true)
def OkS (B:Prop)(x:St):Prop:=atS x∧(B→rightS x=true)
def OkL (B:Prop)(ks:List Ex):Prop:=atEs ks∧(B→rightEs ks=true)
def OkM (B:Prop)(ks:List St):Prop:=atSs ks∧(B→rightSs ks=true)
theorem OkL.nil {B:Prop}:OkL B []:=⟨by rw[atEs];trivial,fun _=>by rw[rightEs]⟩
theorem OkM.nil {B:Prop}:OkM B []:=⟨by rw[atSs];trivial,fun _=>by rw[rightSs]⟩
theorem OkL.cons {B:Prop}{x:Ex}{ks:List Ex}(hx:OkX B x)(h:OkL B ks):OkL B (x::ks):=⟨by rw[atEs];exact⟨hx.1,h.1⟩,fun b=>by rw[rightEs,hx.2 b,h.2 b];rfl⟩
theorem OkM.cons {B:Prop}{x:St}{ks:List St}(hx:OkS B x)(h:OkM B ks):OkM B (x::ks):=⟨by rw[atSs];exact⟨hx.1,h.1⟩,fun b=>by rw[rightSs,hx.2 b,h.2 b];rfl⟩
theorem OkL.inv {B:Prop}{x:Ex}{ks:List Ex}(h:OkL B (x::ks)):OkX B x∧OkL B ks:=by
 obtain⟨h1,h2⟩:=h
 rw[atEs]at h1
 simp only[rightEs,Bool.and_eq_true]at h2
 exact⟨⟨h1.1,fun b=>(h2 b).1⟩,h1.2,fun b=>(h2 b).2⟩
theorem OkM.inv {B:Prop}{x:St}{ks:List St}(h:OkM B (x::ks)):OkS B x∧OkM B ks:=by
 obtain⟨h1,h2⟩:=h
 rw[atSs]at h1
 simp only[rightSs,Bool.and_eq_true]at h2
 exact⟨⟨h1.1,fun b=>(h2 b).1⟩,h1.2,fun b=>(h2 b).2⟩
theorem OkL.app {B:Prop}:∀{a:List Ex} {b:List Ex},OkL B a→OkL B b→OkL B (a++b)
 |[],_,_,h=>h
 |x::a,b,h,k=>by
  obtain⟨h1,h2⟩:=h.inv
  exact OkL.cons h1 (h2.app k)
theorem OkM.app {B:Prop}:∀{a:List St} {b:List St},OkM B a→OkM B b→OkM B (a++b)
 |[],_,_,h=>h
 |x::a,b,h,k=>by
  obtain⟨h1,h2⟩:=h.inv
  exact OkM.cons h1 (h2.app k)
theorem OkX.mk {B:Prop}{op tg vl:Int}{s:List UInt8}{ab:Bool}{ks:List Ex}{ss:List St}(h1:okI op∧okI tg∧okI vl∧s.length≤1048576)(hf:B→fieldsB op tg vl s ab ks.length ss.length=true)(hk:OkL B ks)(hs:OkM B ss):OkX B (.mk op s tg vl ab ks ss):=
 ⟨by rw[atE];exact⟨h1,hk.1,hs.1⟩,fun b=>by rw[rightE,hf b,hk.2 b,hs.2 b];rfl⟩
def OkE (B:Prop)(E:PE):Prop:=∀ts x r,WsR B ts→E ts=some (x,r)→OkX B x∧WsR B r
section
variable {B:Prop} {E:PE}
theorem preds_ok (hE:OkE B E):∀(f:Nat) (ts:List Wd) (acc ps:List Ex) (r:List Wd),WsR B ts→OkL B acc→predsL E f ts acc=some (ps,r)→OkL B ps∧WsR B r
 |0,_,_,_,_,_,_,h=>by rw[predsL]at h;cases h
 |f+1,ts,acc,ps,r,hw,ha,h=>by
  rw[predsL]at h
  split at h
  ·cases hx:E ts.tail with
   |none=>rw[hx]at h;cases h
   |some p=>
    obtain⟨x,r1⟩:=p
    rw[hx]at h
    dsimp only at h
    cases hm:mustW [93] r1 with
    |none=>rw[hm]at h;cases h
    |some t=>
     rw[hm]at h
     dsimp only at h
     obtain⟨k1,k2⟩:=hE _ _ _ hw.tail hx
     exact preds_ok hE f t _ ps r (k2.must hm) (ha.app (OkL.cons k1 OkL.nil)) h
  ·cases h
   exact⟨ha,hw⟩
theorem argsT_ok (hE:OkE B E):∀(f:Nat) (ts:List Wd) (acc ps:List Ex) (r:List Wd),WsR B ts→OkL B acc→argsT E f ts acc=some (ps,r)→OkL B ps∧WsR B r
 |0,_,_,_,_,_,_,h=>by rw[argsT]at h;cases h
 |f+1,ts,acc,ps,r,hw,ha,h=>by
  rw[argsT]at h
  split at h
  ·cases hx:E ts.tail with
   |none=>rw[hx]at h;cases h
   |some p=>
    obtain⟨x,r1⟩:=p
    rw[hx]at h
    dsimp only at h
    obtain⟨k1,k2⟩:=hE _ _ _ hw.tail hx
    exact argsT_ok hE f r1 _ ps r k2 (ha.app (OkL.cons k1 OkL.nil)) h
  ·cases hm:mustW [41] ts with
   |none=>rw[hm]at h;cases h
   |some t=>
    rw[hm]at h
    cases h
    exact⟨ha,hw.must hm⟩
theorem args_ok (hE:OkE B E){ts:List Wd}{ps:List Ex}{r:List Wd}(hw:WsR B ts)(h:argsL E ts=some (ps,r)):OkL B ps∧WsR B r:=by
 unfold argsL at h
 cases hm:mustW [40] ts with
 |none=>rw[hm]at h;cases h
 |some t=>
  rw[hm]at h
  dsimp only at h
  have h1:=hw.must hm
  split at h
  ·cases h
   exact⟨OkL.nil,h1.tail⟩
  ·cases hx:E t with
   |none=>rw[hx]at h;cases h
   |some p=>
    obtain⟨x,r1⟩:=p
    rw[hx]at h
    dsimp only at h
    obtain⟨k1,k2⟩:=hE _ _ _ h1 hx
    exact argsT_ok hE _ r1 _ ps r k2 (OkL.cons k1 OkL.nil) h
theorem ofF_in (s:List UInt8):∀n a:Nat,ofF s n a=0∨(a≤ofF s n a∧ofF s n a<a+n)
 |0,_=> .inl rfl
 |n+1,a=>by
  rw[ofF]
  split
  ·exact .inr ⟨Nat.le_refl _,by omega⟩
  ·rcases ofF_in s n (a+1) with h|h
   ·exact .inl h
   ·exact .inr ⟨by omega,by omega⟩
theorem axis_ok {ts t:List Wd}{a:Int}(hw:WsR B ts)(h:axisL ts=some (a,t)):(1≤a∧a≤12)∧WsR B t:=by
 unfold axisL at h
 split at h
 ·cases h
  exact⟨by decide,hw.tail⟩
 ·split at h
  ·cases ts with
   |nil=>cases h
   |cons x r=>
    dsimp only at h
    split at h
    ·cases h
    ·rename_i h0
     cases hm:mustW [58,58] r with
     |none=>rw[hm]at h;cases h
     |some u=>
      rw[hm]at h
      cases h
      have hr:WsR B r:=hw.tail
      have :=ofF_in x.s 12 1
      unfold ofX at h0 ⊢
      exact⟨by omega,hr.must hm⟩
  ·cases h
   exact⟨by decide,hw⟩
theorem tyK_in (s:List UInt8):tyK s=5∨tyK s=4∨tyK s=6∨tyK s=3:=by
 unfold tyK
 split
 ·exact .inl rfl
 ·split
  ·exact .inr (.inl rfl)
  ·split
   ·exact .inr (.inr (.inl rfl))
   ·exact .inr (.inr (.inr rfl))
theorem lit_nil:litD []=true:=by decide
theorem testD_plain {k:Int}(h:k=2∨k=3∨k=4∨k=5∨k=6):testD k [] false=true:=by
 have hl:=lit_nil
 unfold testD
 rcases h with rfl|rfl|rfl|rfl|rfl<;> · rw[if_neg (by decide),hl];decide
theorem test_ok {ts u:List Wd}{te:Te3}(hw:WsR B ts)(h:testL ts=some (te,u)):(okI te.1∧te.2.1.length≤1048576∧(B→testD te.1 te.2.1 te.2.2=true))∧WsR B u:=by
 cases ts with
 |nil=>cases h
 |cons x r=>
  have hx:=hw x (by simp)
  have hr:WsR B r:=hw.tail
  unfold testL at h
  dsimp only at h
  split at h
  ·rename_i c
   cases h
   refine⟨⟨by unfold okI;omega,hx.sl,fun b=> ?_⟩,hr⟩
   have hn:=hx.nm b (.inl c)
   have hp:=nm_pos hn
   unfold testD rightT
   rw[if_pos rfl,if_pos rfl,hn]
   cases hs:x.s with
   |nil=>rw[hs]at hp;cases hp
   |cons a l=>rfl
  ·split at h
   ·cases h
    exact⟨⟨by unfold okI;omega,by simp,fun _=>testD_plain (.inl rfl)⟩,hr⟩
   ·split at h
    ·unfold typL at h
     cases hm:mustW [40] r with
     |none=>rw[hm]at h;cases h
     |some t=>
      rw[hm]at h
      dsimp only at h
      have ht:=hr.must hm
      split at h
      ·rename_i c
       cases t with
       |nil=>cases h
       |cons y t2=>
        dsimp only at h
        cases hm2:mustW [41] t2 with
        |none=>rw[hm2]at h;cases h
        |some v=>
         rw[hm2]at h
         cases h
         have hy:=ht y (by simp)
         have ht2:WsR B t2:=ht.tail
         have hk:y.k=8:=by
          have c2:=c.2
          unfold atL at c2
          dsimp only at c2
          rw[beq_iff_eq]at c2
          omega
         refine⟨⟨by unfold okI;omega,hy.sl,fun b=> ?_⟩,ht2.must hm2⟩
         have hl:=hy.lt b hk
         dsimp only
         unfold testD rightT
         rw[if_neg (by decide),if_pos rfl,if_neg (by decide),hl]
         simp
      ·cases hm2:mustW [41] t with
       |none=>rw[hm2]at h;cases h
       |some v=>
        rw[hm2]at h
        cases h
        have hk:=tyK_in x.s
        exact⟨⟨by unfold okI;omega,by simp,fun _=>testD_plain (by omega)⟩,ht.must hm2⟩
    ·cases h
theorem any_ok {a:Int}(h:a=3∨a=10∨a=11):OkS B (anySt a):=by
 unfold anySt
 refine⟨by rw[atS];exact⟨⟨by unfold okI;omega,by unfold okI;omega,by simp⟩,by rw[atEs];trivial⟩,fun _=> ?_⟩
 rw[rightS,testD_plain (.inr (.inl rfl)),rightEs,Bool.and_true,Bool.and_true,decide_eq_true_eq]
 omega
theorem step_ok (hE:OkE B E){ts:List Wd}{s:St}{r:List Wd}(hw:WsR B ts)(h:stepL E ts=some (s,r)):OkS B s∧WsR B r:=by
 unfold stepL at h
 split at h
 ·cases h;exact⟨any_ok (.inr (.inl rfl)),hw.tail⟩
 ·split at h
  ·cases h;exact⟨any_ok (.inl rfl),hw.tail⟩
  ·cases ha:axisL ts with
   |none=>rw[ha]at h;cases h
   |some p=>
    obtain⟨a,t⟩:=p
    rw[ha]at h
    dsimp only at h
    cases hb:testL t with
    |none=>rw[hb]at h;cases h
    |some q=>
     obtain⟨te,u⟩:=q
     rw[hb]at h
     dsimp only at h
     cases hc:predsL E (u.length+1) u [] with
     |none=>rw[hc]at h;cases h
     |some q=>
      obtain⟨ps,v⟩:=q
      rw[hc]at h
      cases h
      obtain⟨a1,a2⟩:=axis_ok hw ha
      obtain⟨⟨b1,b2,b3⟩,b4⟩:=test_ok a2 hb
      obtain⟨c1,c2⟩:=preds_ok hE _ u [] ps _ b4 OkL.nil hc
      refine⟨⟨by rw[atS];exact⟨⟨by unfold okI;omega,b1,b2⟩,c1.1⟩,fun b=> ?_⟩,c2⟩
      rw[rightS,b3 b,c1.2 b,decide_eq_true a1]
      rfl
theorem onw_ok (hE:OkE B E):∀(f:Nat) (ts:List Wd) (acc ss:List St) (r:List Wd),WsR B ts→OkM B acc→onwL E f ts acc=some (ss,r)→OkM B ss∧WsR B r
 |0,_,_,_,_,_,_,h=>by rw[onwL]at h;cases h
 |f+1,ts,acc,ss,r,hw,ha,h=>by
  rw[onwL]at h
  split at h
  ·cases hx:stepL E ts.tail with
   |none=>rw[hx]at h;cases h
   |some p=>
    obtain⟨x,r1⟩:=p
    rw[hx]at h
    dsimp only at h
    obtain⟨k1,k2⟩:=step_ok hE hw.tail hx
    exact onw_ok hE f r1 _ ss r k2 (ha.app (OkM.cons k1 OkM.nil)) h
  ·split at h
   ·cases hx:stepL E ts.tail with
    |none=>rw[hx]at h;cases h
    |some p=>
     obtain⟨x,r1⟩:=p
     rw[hx]at h
     dsimp only at h
     obtain⟨k1,k2⟩:=step_ok hE hw.tail hx
     exact onw_ok hE f r1 _ ss r k2 ((ha.app (OkM.cons (any_ok (.inr (.inr rfl))) OkM.nil)).app (OkM.cons k1 OkM.nil)) h
   ·cases h
    exact⟨ha,hw⟩
theorem oki (k:Int)(h:0≤k∧k≤9223372036854775807):okI k:=by unfold okI;omega
theorem prim_ok (hE:OkE B E){ts:List Wd}{x:Ex}{r:List Wd}(hw:WsR B ts)(h:primL E ts=some (x,r)):OkX B x∧WsR B r:=by
 cases ts with
 |nil=>cases h
 |cons y t=>
  have hy:=hw y (by simp)
  have ht:WsR B t:=hw.tail
  have z:okI 0:=oki 0 (by omega)
  unfold primL at h
  dsimp only at h
  split at h
  ·rename_i c
   cases h
   refine⟨OkX.mk ⟨oki 21 (by omega),z,z,hy.sl⟩ (fun b=> ?_) OkL.nil OkM.nil,ht⟩
   unfold fieldsB
   rw[if_neg (by decide),if_neg (by decide),if_neg (by decide),if_neg (by decide),if_neg (by decide),if_neg (by decide),if_pos rfl,hy.nm b (.inr c)]
   rfl
  ·split at h
   ·rename_i c
    cases h
    refine⟨OkX.mk ⟨oki 18 (by omega),z,z,hy.sl⟩ (fun b=> ?_) OkL.nil OkM.nil,ht⟩
    unfold fieldsB
    rw[if_neg (by decide),if_neg (by decide),if_neg (by decide),if_pos rfl,hy.lt b c]
    rfl
   ·split at h
    ·cases h
     refine⟨OkX.mk ⟨oki 19 (by omega),by rw[hy.nt];exact z,oki _ hy.nv,by simp⟩ (fun b=> ?_) OkL.nil OkM.nil,ht⟩
     unfold fieldsB
     rw[if_neg (by decide),if_neg (by decide),if_neg (by decide),if_neg (by decide),if_pos rfl,hy.nt]
     have hn:numD 0 (outV y.n)=true:=by
      unfold numD rightB toD
      rw[if_pos ⟨rfl,by have :=hy.nv;omega⟩,decide_eq_true hy.nv.1]
      rfl
     rw[hn]
     rfl
    ·split at h
     ·rename_i c
      cases ha:argsL E t with
      |none=>rw[ha]at h;cases h
      |some p=>
       obtain⟨xs,u⟩:=p
       rw[ha]at h
       cases h
       obtain⟨k1,k2⟩:=args_ok hE ht ha
       refine⟨OkX.mk ⟨oki 20 (by omega),z,z,hy.sl⟩ (fun b=> ?_) k1 OkM.nil,k2⟩
       unfold fieldsB
       rw[if_neg (by decide),if_neg (by decide),if_neg (by decide),if_neg (by decide),if_neg (by decide),if_pos rfl,hy.fn b c]
       rfl
     ·cases hx:E t with
      |none=>rw[hx]at h;cases h
      |some p=>
       obtain⟨e,u⟩:=p
       rw[hx]at h
       dsimp only at h
       cases hm:mustW [41] u with
       |none=>rw[hm]at h;cases h
       |some v=>
        rw[hm]at h
        cases h
        obtain⟨k1,k2⟩:=hE _ _ _ ht hx
        exact⟨k1,k2.must hm⟩
theorem filt_ok (hE:OkE B E){ts:List Wd}{x:Ex}{r:List Wd}(hw:WsR B ts)(h:filtL E ts=some (x,r)):OkX B x∧WsR B r:=by
 unfold filtL at h
 cases hp:primL E ts with
 |none=>rw[hp]at h;cases h
 |some p=>
  obtain⟨y,t⟩:=p
  rw[hp]at h
  dsimp only at h
  cases hq:predsL E (t.length+1) t [] with
  |none=>rw[hq]at h;cases h
  |some q=>
   obtain⟨ps,u⟩:=q
   rw[hq]at h
   dsimp only at h
   obtain⟨a1,a2⟩:=prim_ok hE hw hp
   obtain⟨b1,b2⟩:=preds_ok hE _ t [] ps u a2 OkL.nil hq
   split at h
   ·cases h;exact⟨a1,b2⟩
   ·rename_i c
    cases h
    have z:okI 0:=oki 0 (by omega)
    refine⟨OkX.mk ⟨oki 17 (by omega),z,z,by simp⟩ (fun _=> ?_) (OkL.cons a1 b1) OkM.nil,b2⟩
    have :0<ps.length:=List.length_pos_iff.2 c
    unfold fieldsB
    rw[if_neg (by decide),if_neg (by decide),if_pos rfl,List.length_cons,decide_eq_true (show 2≤ps.length+1 by omega)]
    rfl
theorem loc16 {ab:Bool}{ss:List St}(h:OkM B ss)(hl:B→leadsB ab 0 ss.length=true):OkX B (.mk 16 [] 0 0 ab [] ss):=by
 have z:okI 0:=oki 0 (by omega)
 refine OkX.mk ⟨oki 16 (by omega),z,z,by simp⟩ (fun b=> ?_) OkL.nil h
 unfold fieldsB
 rw[if_neg (by decide),if_pos rfl]
 show(([]:List UInt8).isEmpty&&(decide ((0:Int)=0∧(0:Int)=0)&&(decide (0≤1)&&leadsB ab 0 ss.length)))=true
 rw[hl b]
 rfl
theorem leads_ne {ab:Bool}{n:Nat}(h:0<n):leadsB ab 0 n=true:=by
 unfold leadsB
 rw[if_neg (by omega)]
 simp
theorem rel_ok (hM:MsE E)(hE:OkE B E){ab:Bool}{ts:List Wd}{x:Ex}{r:List Wd}(hw:WsR B ts)(h:relL E ab ts=some (x,r)):OkX B x∧WsR B r:=by
 unfold relL at h
 cases hp:stepL E ts with
 |none=>rw[hp]at h;cases h
 |some p=>
  obtain⟨y,t⟩:=p
  rw[hp]at h
  dsimp only at h
  cases hq:onwL E (t.length+1) t [y] with
  |none=>rw[hq]at h;cases h
  |some q=>
   obtain⟨ss,u⟩:=q
   rw[hq]at h
   cases h
   obtain⟨a1,a2⟩:=step_ok hE hw hp
   obtain⟨b1,b2⟩:=onw_ok hE _ t [y] ss _ a2 (OkM.cons a1 OkM.nil) hq
   have :=(onw_m hM _ _ _ _ _ hq).2
   simp at this
   exact⟨loc16 b1 (fun _=>leads_ne (by omega)),b2⟩
theorem loc_ok (hM:MsE E)(hE:OkE B E){ts:List Wd}{x:Ex}{r:List Wd}(hw:WsR B ts)(h:locL E ts=some (x,r)):OkX B x∧WsR B r:=by
 unfold locL at h
 split at h
 ·split at h
  ·exact rel_ok hM hE hw.tail h
  ·cases h
   exact⟨loc16 OkM.nil (fun _=>rfl),hw.tail⟩
 ·split at h
  ·rename_i hb ha
   cases hq:onwL E (ts.length+1) ts [] with
   |none=>rw[hq]at h;cases h
   |some q=>
    obtain⟨ss,u⟩:=q
    rw[hq]at h
    cases h
    obtain⟨b1,b2⟩:=onw_ok hE _ ts [] ss _ hw OkM.nil hq
    rw[onwL,if_neg hb,if_pos ha]at hq
    cases hx:stepL E ts.tail with
    |none=>rw[hx]at hq;cases hq
    |some p=>
     obtain⟨y,r1⟩:=p
     rw[hx]at hq
     dsimp only at hq
     have :=(onw_m hM _ _ _ _ _ hq).2
     simp at this
     exact⟨loc16 b1 (fun _=>leads_ne (by omega)),b2⟩
  ·exact rel_ok hM hE hw h
theorem path_ok (hM:MsE E)(hE:OkE B E):OkE B (pathL E):=by
 intro ts x r hw h
 unfold pathL at h
 split at h
 ·cases hp:filtL E ts with
  |none=>rw[hp]at h;cases h
  |some p=>
   obtain⟨y,t⟩:=p
   rw[hp]at h
   dsimp only at h
   cases hq:onwL E (t.length+1) t [] with
   |none=>rw[hq]at h;cases h
   |some q=>
    obtain⟨ss,u⟩:=q
    rw[hq]at h
    dsimp only at h
    obtain⟨a1,a2⟩:=filt_ok hE hw hp
    obtain⟨b1,b2⟩:=onw_ok hE _ t [] ss u a2 OkM.nil hq
    split at h
    ·cases h;exact⟨a1,b2⟩
    ·rename_i hc
     cases h
     have h3:0<ss.length:=List.length_pos_iff.2 hc
     have z:okI 0:=oki 0 (by omega)
     refine⟨OkX.mk ⟨oki 16 (by omega),z,z,by simp⟩ (fun _=> ?_) (OkL.cons a1 OkL.nil) b1,b2⟩
     unfold fieldsB leadsB
     rw[if_neg (by decide),if_pos rfl,if_neg (by omega)]
     rfl
 ·exact loc_ok hM hE hw h
theorem op_ok {sg:List Sg}{ts t:List Wd}{o:Int}(h:opL sg ts=some (o,t)):(∃p∈sg,p.2=o)∧t=ts.tail:=by
 induction sg with
 |nil=>cases h
 |cons p r ih=>
  rw[opL]at h
  split at h
  ·cases h
   exact⟨⟨p,by simp,rfl⟩,rfl⟩
  ·obtain⟨⟨q,h1,h2⟩,h3⟩:=ih h
   exact⟨⟨q,by simp[h1],h2⟩,h3⟩
theorem two_ok {o:Int}{x y:Ex}(ho:1≤o∧o≤14)(hx:OkX B x)(hy:OkX B y):OkX B (.mk o [] 0 0 false [x,y] []):=by
 have z:okI 0:=oki 0 (by omega)
 refine OkX.mk ⟨oki o (by omega),z,z,by simp⟩ (fun _=> ?_) (OkL.cons hx (OkL.cons hy OkL.nil)) OkM.nil
 unfold fieldsB opB
 rw[if_neg (by omega),if_neg (by omega),if_neg (by omega),if_neg (by omega),if_neg (by omega),if_neg (by omega),if_neg (by omega),decide_eq_true ho]
 rfl
theorem joinT_ok {S:PE}{sg:List Sg}(hsg:∀p∈sg,1≤p.2∧p.2≤14)(hS:OkE B S):∀(f:Nat) (ts:List Wd) (x y:Ex) (r:List Wd),WsR B ts→OkX B x→joinT S sg f ts x=some (y,r)→OkX B y∧WsR B r
 |0,_,_,_,_,_,_,h=>by rw[joinT]at h;cases h
 |f+1,ts,x,y,r,hw,hx,h=>by
  rw[joinT]at h
  cases ho:opL sg ts with
  |none=>rw[ho]at h;cases h;exact⟨hx,hw⟩
  |some p=>
   obtain⟨o,t⟩:=p
   rw[ho]at h
   dsimp only at h
   cases hs:S t with
   |none=>rw[hs]at h;cases h
   |some q=>
    obtain⟨z,u⟩:=q
    rw[hs]at h
    dsimp only at h
    obtain⟨⟨p,hp,rfl⟩,rfl⟩:=op_ok ho
    obtain⟨k1,k2⟩:=hS _ _ _ hw.tail hs
    exact joinT_ok hsg hS f u _ y r k2 (two_ok (hsg p hp) hx k1) h
theorem joined_ok {S:PE}{sg:List Sg}(hsg:∀p∈sg,1≤p.2∧p.2≤14)(hS:OkE B S):OkE B (joinedL S sg):=by
 intro ts x r hw h
 unfold joinedL at h
 cases hs:S ts with
 |none=>rw[hs]at h;cases h
 |some q=>
  obtain⟨z,u⟩:=q
  rw[hs]at h
  dsimp only at h
  obtain⟨k1,k2⟩:=hS _ _ _ hw hs
  exact joinT_ok hsg hS _ u z x r k2 k1 h
theorem sign_ok (hM:MsE E)(hE:OkE B E):∀f,OkE B (signL E f)
 |0=>fun _ _ _ _ h=>by rw[signL]at h;cases h
 |f+1=>fun ts x r hw h=>by
  rw[signL]at h
  split at h
  ·cases hs:signL E f ts.tail with
   |none=>rw[hs]at h;cases h
   |some q=>
    obtain⟨z,u⟩:=q
    rw[hs]at h
    cases h
    obtain⟨k1,k2⟩:=sign_ok hM hE f _ _ _ hw.tail hs
    have z0:okI 0:=oki 0 (by omega)
    refine⟨OkX.mk ⟨oki 15 (by omega),z0,z0,by simp⟩ (fun _=> ?_) (OkL.cons k1 OkL.nil) OkM.nil,k2⟩
    rfl
  ·exact joined_ok (by decide) (path_ok hM hE) ts x r hw h
theorem sgs_in:∀r,∀p∈sgs r,1≤p.2∧p.2≤14
 |0=>by decide
 |1=>by decide
 |2=>by decide
 |3=>by decide
 |4=>by decide
 |5=>by decide
 |r+6=>by
  intro p hp
  have :sgs (r+6)=[]:=by
   unfold sgs
   rw[List.getD_eq_getElem?_getD,List.getElem?_eq_none (by show 6≤_;omega)]
   rfl
  rw[this]at hp
  cases hp
theorem rank_ok (hM:MsE E)(hE:OkE B E):∀n,OkE B (rankL E n)
 |0=>by
  rw[rankL]
  exact joined_ok (sgs_in 5) fun ts=>sign_ok hM hE _ ts
 |n+1=>by
  rw[rankL]
  exact joined_ok (sgs_in _) (rank_ok hM hE n)
end
theorem expr_ok {B:Prop}:∀d,OkE B (exprL d)
 |0=>fun _ _ _ _ h=>by rw[exprL]at h;cases h
 |d+1=>by
  rw[exprL]
  exact rank_ok (expr_m d) (expr_ok d) 5
theorem told_pos (w f:List UInt8)(v:Int)(h:toldD w f= .num v):0≤v∧v≤9223372036854775807:=by
 unfold toldD fitD at h
 split at h
 ·cases h
 ·split at h
  ·cases h
  ·cases h
   exact⟨Int.natCast_nonneg _,by omega⟩
theorem litL_pos {l:List UInt8}{v:Int}(h:litL l=some (.num v)):0≤v∧v≤9223372036854775807:=by
 unfold litL at h
 dsimp only at h
 split at h
 ·exact told_pos _ _ v (Option.some.inj h)
 ·cases h
theorem lexN_nums:∀(f:Nat) (l:List UInt8) (e:Bool) (n:Nat) (ws:List Wd),lexN f l e n= .inr ws→∀x∈ws,outT x.n=0∧0≤outV x.n∧outV x.n≤9223372036854775807
 |0,_,_,_,_,h=>by cases h
 |f+1,l,e,n,ws,h=>by
  unfold lexN at h
  split at h
  ·cases h
   intro x hx
   cases hx
  ·cases hw:wdL l e with
   |none=>rw[hw]at h;cases h
   |some p=>
    obtain⟨w,k⟩:=p
    rw[hw]at h
    dsimp only at h
    split at h
    ·cases h
    ·cases hr:lexN f (dropS (l.drop k)) (endW w) (n+1) with
     |inl y=>rw[hr]at h;cases h
     |inr us=>
      rw[hr]at h
      cases h
      intro x hx
      rcases List.mem_cons.1 hx with rfl|hx
      ·have z:outT (.num 0)=0∧0≤outV (.num 0)∧outV (.num 0)≤9223372036854775807:=by decide
       have hf:=wd_form hw
       generalize l.take k=u0 at hf
       generalize nxL (l.drop k)=x0 at hf
       cases hf with
       |lit=>exact z
       |num u v h=>exact⟨rfl,litL_pos h⟩
       |mark=>exact z
       |op=>exact z
       |star=>exact z
       |var=>exact z
       |name=>exact z
      ·exact lexN_nums f _ _ _ _ hr x hx
theorem lexL_nums {s:List UInt8}{ws:List Wd}(h:lexL s= .inr ws):∀x∈ws,outT x.n=0∧0≤outV x.n∧outV x.n≤9223372036854775807:=by
 unfold lexL at h
 split at h
 ·cases h
 ·split at h
  ·cases h
  ·exact lexN_nums _ _ _ _ _ h
theorem parse_wf {s:List UInt8}{a:Ex}(h:parseR s= .inr a):wfE 1048576 a:=by
 obtain⟨ws,h1,h2⟩:=parse_inv h
 have h3:WsR False ws:=fun x hx=>by
  obtain⟨n1,n2⟩:=lexL_nums h1 x hx
  have :=lexL_words h1 x hx
  exact⟨by omega,n1,n2,fun b=>b.elim,fun b=>b.elim,fun b=>b.elim⟩
 have hc:=parse_cnt h
 exact wf_of a (expr_ok (B:=False) _ _ _ _ h3 (whole_inv h2)).1.1 (by omega)
end Char
namespace Char
open Go.RowKit Go.Lib
def sumEx:Ex:= .mk 10 [] 0 0 false [.mk 10 [] 0 0 false [.mk 19 [] 0 1000000 false [] [],.mk 19 [] 0 2000000 false [] []] [],.mk 19 [] 0 3000000 false [] []] []
theorem sum_parse:parseR [49,32,45,32,50,32,45,32,51]= .inr sumEx:=by kernel_rfl
theorem par_out {w:World}{R:Nat ⊕ Ex}{e:Ending}{w':World}(h:ParP w R e w'):(∃y,R= .inl y∧e= .returned (.tuple #[exV ex0 (.slice none 0 0) (.slice none 0 0),.int .i64 (y:Int)])∧Below w.heap.size w w')∨∃x vk vs,R= .inr x∧e= .returned (.tuple #[exV x vk vs,.int .i64 0])∧ExOn w' (w.heap.size≤ ·) x vk vs∧Below w.heap.size w w':=by
 obtain⟨h1,h2⟩:=h
 cases R with
 |inl y=>exact .inl ⟨y,rfl,h2,h1⟩
 |inr x=>obtain⟨vk,vs,h3,h4⟩:=h2;exact .inr ⟨x,vk,vs,rfl,h3,h4,h1⟩
theorem sum_called (w:World)(hG:Gl w):Calls Tryz.prog 10 #[.string ⟨#[49,32,45,32,50,32,45,32,51]⟩] w fun e w'=>∃(g off j1 j2:Nat) (o2:Option Addr),e= .returned (.tuple #[.agg #[.int .i64 10,.string ⟨#[]⟩,.int .i64 0,.int .i64 0,.bool false,.slice (some ⟨g,off,none⟩) 2 j1,.slice o2 0 j2],.int .i64 0])∧Below w.heap.size w w'∧
 w'.cell? ⟨g,off,none⟩=some (.int .i64 10)∧w'.cell? ⟨g,off+7+2,none⟩=some (.int .i64 0)∧w'.cell? ⟨g,off+7+3,none⟩=some (.int .i64 3000000):=by
 have h:=parse_any [49,32,45,32,50,32,45,32,51] w (by decide) hG
 rw[sum_parse]at h
 refine h.mono ?_
 rintro e w1 ⟨hb1,vk,vs,rfl,q0⟩
 obtain⟨⟨o1,j1,rfl,k1⟩,⟨o2,j2,rfl,k2⟩⟩:=ExOn.iff.1 q0
 rcases k1 with k1|⟨g,off,rfl,hg,k1⟩
 ·cases k1
 obtain⟨uk,us,u1,_⟩:=k1.at 0 (by decide)
 obtain⟨tk,ts,t1,_⟩:=k1.at 1 (by decide)
 have c0:=u1 0 _ rfl
 have c1:=t1 2 _ rfl
 have c2:=t1 3 _ rfl
 simp only[Nat.zero_mul,Nat.one_mul,Nat.add_zero]at c0 c1 c2
 exact⟨g,off,j1,j2,o2,rfl,hb1,c0,c1,c2⟩
set_option maxRecDepth 100000 in
set_option maxHeartbeats 8000000 in
theorem works13_any (w:World)(hG:Gl w):Calls Tryz.prog 9 #[] w fun e w'=>e= .returned (.bool true)∧Below w.heap.size w w':=by
 have HP:=Lib.hid (sum_called w hG)
 clear hG
 go_enter Tryz.func9,Tryz.ntmps9
 go_wp2_with (first
  |(go_at_call 10
    refine HP.out.mono ?_
    rintro e w1 ⟨g,off,j1,j2,o2,rfl,hb1,c0,c1,c2⟩
    have HB1:=Lib.hid (fun o=>hb1.trans ((below_box (w:=w1) o).mono hb1.size))
    have e0:∀o,(w1.alloc o).cell? ⟨g,off,none⟩=some (.int .i64 10):=fun o=>((below_box (w:=w1) o).cell (p:=⟨g,off,none⟩) (cell_lt c0)).trans c0
    have e1:∀o,(w1.alloc o).cell? ⟨g,off+7+2,none⟩=some (.int .i64 0):=fun o=>((below_box (w:=w1) o).cell (p:=⟨g,off+7+2,none⟩) (cell_lt c1)).trans c1
    have e2:∀o,(w1.alloc o).cell? ⟨g,off+7+3,none⟩=some (.int .i64 3000000):=fun o=>((below_box (w:=w1) o).cell (p:=⟨g,off+7+3,none⟩) (cell_lt c2)).trans c2
    clear hb1 HP))
 go_ret
 exact⟨rfl,HB1.out _⟩
end Char
namespace Char
open Go.RowKit Go.Lib
theorem parse_err {s:List UInt8}{y:Nat}(h:parseR s= .inl y):y≠0:=by
 unfold parseR at h
 cases hl:lexL s with
 |inl e=>
  rw[hl]at h
  cases h
  have :=lexL_errs hl
  omega
 |inr ws=>
  rw[hl]at h
  dsimp only at h
  split at h
  ·cases h;omega
  ·cases hw:wholeL ws with
   |none=>rw[hw]at h;cases h;omega
   |some x=>rw[hw]at h;cases h
def comR (l:List UInt8):Ex×Int×Int:=match parseR l with
 | .inl y=>(ex0,0,(y:Int))
 | .inr x=>if (typD x).2=0 then (x,(typD x).1,0) else (ex0,0,(typD x).2)
def CoP (w:World)(r:Ex×Int×Int)(e:Ending)(w':World):Prop:=Below w.heap.size w w'∧∃vk vs,e= .returned (.tuple #[exV r.1 vk vs,.int .i64 r.2.1,.int .i64 r.2.2])∧ExOn w' (w.heap.size≤ ·) r.1 vk vs
theorem endEx3 {fn:Func}{p q r:Tmp}(h:fn.results= #[.cell p 28,.tmp q,.tmp r]){a:Act}{R:Ending→World→Prop}(w1:World)(g:Nat){x:Ex}{vk vs c d:Value}(hk:w1.heap[g]? =some (boxEx x vk vs))
 (hp:a.tmps.getD p undef= .pointer (some ⟨g,0,none⟩)) (hq:a.tmps.getD q undef=c) (hr:a.tmps.getD r undef=d) (hd:a.defers=[]) (hR:R (.returned (.tuple #[exV x vk vs,c,d])) w1):bodyPost Tryz.prog fn R .ret a w1:=by
 have hp':a.tmps[p]?.getD undef= .pointer (some ⟨g,0,none⟩):=by simpa using hp
 have hq':a.tmps[q]?.getD undef=c:=by simpa using hq
 have hr':a.tmps[r]?.getD undef=d:=by simpa using hr
 obtain⟨⟨a0,a1,a2,a3,a4,a5,a6⟩,_⟩:=boxEx_blk hk
 unfold exV at hR
 exact bodyPost_ret (by simp[results,h,hp',hq',hr',go_sem,a0,a1,a2,a3,a4,a5,a6]) hd hR
theorem ex0_on (w:World)(F:Nat→Prop):ExOn w F ex0 (.slice none 0 0) (.slice none 0 0):=ExOn.iff.2 ⟨KdOn.nil _ _,SdOn.nil _ _⟩
set_option maxRecDepth 100000 in
set_option maxHeartbeats 8000000 in
theorem compC_any (l:List UInt8)(w:World)(hl:l.length≤140737488351232)(hG:Gl w):
 Calls Tryz.prog 24 #[.string (bs l)] w (CoP w (comR l)):=by
 obtain⟨W1,hW1⟩:∃W1,W1=w.alloc (boxEx ex0 (.slice none 0 0) (.slice none 0 0)):=⟨_,rfl⟩
 have b1:Below w.heap.size w W1:=by rw[hW1];exact below_box _
 have s1:w.heap.size<W1.heap.size:=by rw[hW1];simp
 have hbx:∀W,Below W1.heap.size W1 W→W.heap[w.heap.size]? =some (boxEx ex0 (.slice none 0 0) (.slice none 0 0)):=fun W hW=>by
  refine(hW.block w.heap.size s1).trans ?_
  rw[hW1]
  exact World.alloc_heap_new w _
 have HBX:=Lib.hid hbx
 have HP:=Lib.hid (parse_any l W1 hl (hG.below b1))
 have herr:=fun y (h:parseR l= .inl y)=>parse_err h
 have hwf:=fun x (h:parseR l= .inr x)=>And.intro (parse_wf h) (parse_cnt h)
 have HB1:=Lib.hid b1
 have HS1:=Lib.hid s1
 have HG:=Lib.hid hG
 have hW1':W1=w.alloc (.cells #[.int .i64 0,.string ⟨#[]⟩,.int .i64 0,.int .i64 0,.bool false,.slice none 0 0,.slice none 0 0] 28):=hW1
 have HW1:=Lib.hid hW1'
 unfold comR
 clear hbx hW1 hW1' b1 s1 hG hl
 generalize bs l=S at *
 cases h1:parseR l with
 |inl y=>
  rw[h1]at HP
  have hy:=herr y h1
  have k0:((y:Int) != 0)=true:=by rw[bne_iff_ne];omega
  unfold ParP exV at HP
  dsimp only
  clear h1 herr hwf hy
  go_enter Tryz.func24,Tryz.ntmps24
  go_wp2_with fail
  rw[←HW1.out]
  refine HP.out.mono ?_
  rintro e w1 ⟨hb1,rfl⟩
  have hbk:=HBX.out w1 hb1
  obtain⟨_,gf⟩:=boxEx_blk hbk
  have ga:=(Array.getElem?_eq_some_iff.1 hbk).1
  have HBK:=Lib.hid hbk
  have HB2:=Lib.hid (HB1.out.trans (hb1.mono HB1.out.size))
  clear hb1 hbk
  go_wp2_with fail
  have hE:∀ob,((setEx w1 w.heap.size ex0 (.slice none 0 0) (.slice none 0 0)).alloc ob).heap[w.heap.size]? =some (boxEx ex0 (.slice none 0 0) (.slice none 0 0)):=fun ob=>(Below.heap_alloc _ _ _ (by rw[setEx_size];exact ga)).trans (setEx_at HBK.out)
  have fin:=fun aa ob=>@endEx3 _ _ _ _ Tryz.results24 aa (CoP w (ex0,0,(y:Int))) ((setEx w1 w.heap.size ex0 (.slice none 0 0) (.slice none 0 0)).alloc ob) w.heap.size ex0 (.slice none 0 0) (.slice none 0 0) (.int .i64 0) (.int .i64 (y:Int)) (hE ob)
  exact fin _ _ rfl rfl rfl rfl ⟨(setEx_below HB2.out (Nat.le_refl _)).alloc (by rw[setEx_size];omega) _,_,_,rfl,ex0_on _ _⟩
 |inr x=>
  rw[h1]at HP
  obtain⟨hw1,hc1⟩:=hwf x h1
  have hty:=fun vk vs W (hx:ExOn W (fun _=>True) x vk vs) (hg:Gl W)=>typeC_any x vk vs W _ (by omega) hw1 hx hg
  obtain⟨T,hT⟩:∃T,typD x=T:=⟨_,rfl⟩
  unfold ParP exV at HP
  dsimp only at HP ⊢
  rw[hT]at hty ⊢
  unfold TyP exV at hty
  have HTY:=Lib.hid hty
  clear h1 herr hwf hw1 hc1 hT hty
  obtain⟨T1,T2⟩:=T
  dsimp only at HTY ⊢
  by_cases h0:T2=0
  ·subst h0
   rw[if_pos rfl]
   go_enter Tryz.func24,Tryz.ntmps24
   go_wp2_with fail
   rw[←HW1.out]
   refine HP.out.mono ?_
   rintro e w1 ⟨hb1,vk,vs,rfl,q0⟩
   obtain⟨⟨o1,j1,rfl,_⟩,⟨o2,j2,rfl,_⟩⟩:=ExOn.iff.1 q0
   obtain⟨W2,hW2⟩:∃W2,W2=w1.alloc (boxEx x (.slice o1 x.ks.length j1) (.slice o2 x.ss.length j2)):=⟨_,rfl⟩
   have b2:Below w1.heap.size w1 W2:=by rw[hW2];exact below_box _
   have hB2:Below W1.heap.size W1 W2:=hb1.trans (b2.mono hb1.size)
   have hbx5:∀W,Below W2.heap.size W2 W→W.heap[w1.heap.size]? =some (boxEx x (.slice o1 x.ks.length j1) (.slice o2 x.ss.length j2)):=fun W hW=>by
    refine(hW.block w1.heap.size (by rw[hW2];simp)).trans ?_
    rw[hW2]
    exact World.alloc_heap_new w1 _
   have HBX5:=Lib.hid hbx5
   have HTC:=Lib.hid (HTY.out _ _ W2 (ExOn.move (fun b hb _=>⟨trivial,b2.block b hb⟩) _ _ _ q0) (HG.out.below (HB1.out.trans (hB2.mono HB1.out.size))))
   have HQ0:=Lib.hid (fun W (hW:Below W2.heap.size W2 W)=>ExOn.low (B':=w.heap.size+1) (ExOn.below (ExOn.below q0 b2) hW) HS1.out)
   have HBB:=Lib.hid hB2
   unfold boxEx at hW2
   have HW2:=Lib.hid hW2
   clear hb1 q0 b2 hB2 hbx5 hW2 HTY HP
   go_wp2_with fail
   rw[←HW2.out]
   refine HTC.out.mono ?_
   rintro e w3 ⟨hb3,rfl⟩
   obtain⟨⟨x0,x1,x2,x3,x4,x5,x6⟩,_⟩:=boxEx_blk (HBX5.out w3 hb3)
   have hbk:=HBX.out w3 (HBB.out.trans (hb3.mono HBB.out.size))
   obtain⟨_,gf⟩:=boxEx_blk hbk
   have ga:=(Array.getElem?_eq_some_iff.1 hbk).1
   have HBK:=Lib.hid hbk
   have HQ3:=Lib.hid (HQ0.out w3 hb3)
   have HB3:=Lib.hid (HB1.out.trans ((HBB.out.trans (hb3.mono HBB.out.size)).mono HB1.out.size))
   clear hb3 hbk
   go_wp2_with fail
   have hE:(setEx w3 w.heap.size x (.slice o1 x.ks.length j1) (.slice o2 x.ss.length j2)).heap[w.heap.size]? =_:=setEx_at HBK.out
   have fin:=fun aa=>@endEx3 _ _ _ _ Tryz.results24 aa (CoP w (x,T1,0)) (setEx w3 w.heap.size x (.slice o1 x.ks.length j1) (.slice o2 x.ss.length j2)) w.heap.size x (.slice o1 x.ks.length j1) (.slice o2 x.ss.length j2) (.int .i64 T1) (.int .i64 0) hE
   exact fin _ rfl rfl rfl rfl ⟨setEx_below HB3.out (Nat.le_refl _),_,_,rfl,ExOn.move (fun k _ hF=>⟨by omega,setEx_ne (by omega)⟩) _ _ _ HQ3.out⟩
  ·rw[if_neg h0]
   have k0:(T2 != 0)=true:=by rw[bne_iff_ne];exact h0
   clear h0
   go_enter Tryz.func24,Tryz.ntmps24
   go_wp2_with fail
   rw[←HW1.out]
   refine HP.out.mono ?_
   rintro e w1 ⟨hb1,vk,vs,rfl,q0⟩
   obtain⟨⟨o1,j1,rfl,_⟩,⟨o2,j2,rfl,_⟩⟩:=ExOn.iff.1 q0
   obtain⟨W2,hW2⟩:∃W2,W2=w1.alloc (boxEx x (.slice o1 x.ks.length j1) (.slice o2 x.ss.length j2)):=⟨_,rfl⟩
   have b2:Below w1.heap.size w1 W2:=by rw[hW2];exact below_box _
   have hB2:Below W1.heap.size W1 W2:=hb1.trans (b2.mono hb1.size)
   have hbx5:∀W,Below W2.heap.size W2 W→W.heap[w1.heap.size]? =some (boxEx x (.slice o1 x.ks.length j1) (.slice o2 x.ss.length j2)):=fun W hW=>by
    refine(hW.block w1.heap.size (by rw[hW2];simp)).trans ?_
    rw[hW2]
    exact World.alloc_heap_new w1 _
   have HBX5:=Lib.hid hbx5
   have HTC:=Lib.hid (HTY.out _ _ W2 (ExOn.move (fun b hb _=>⟨trivial,b2.block b hb⟩) _ _ _ q0) (HG.out.below (HB1.out.trans (hB2.mono HB1.out.size))))
   have HQ0:=Lib.hid (fun W (hW:Below W2.heap.size W2 W)=>ExOn.low (B':=w.heap.size+1) (ExOn.below (ExOn.below q0 b2) hW) HS1.out)
   have HBB:=Lib.hid hB2
   unfold boxEx at hW2
   have HW2:=Lib.hid hW2
   clear hb1 q0 b2 hB2 hbx5 hW2 HTY HP
   go_wp2_with fail
   rw[←HW2.out]
   refine HTC.out.mono ?_
   rintro e w3 ⟨hb3,rfl⟩
   obtain⟨⟨x0,x1,x2,x3,x4,x5,x6⟩,_⟩:=boxEx_blk (HBX5.out w3 hb3)
   have hbk:=HBX.out w3 (HBB.out.trans (hb3.mono HBB.out.size))
   obtain⟨_,gf⟩:=boxEx_blk hbk
   have ga:=(Array.getElem?_eq_some_iff.1 hbk).1
   have HBK:=Lib.hid hbk
   have HQ3:=Lib.hid (HQ0.out w3 hb3)
   have HB3:=Lib.hid (HB1.out.trans ((HBB.out.trans (hb3.mono HBB.out.size)).mono HB1.out.size))
   clear hb3 hbk
   go_wp2_with fail
   have hE:(setEx w3 w.heap.size ex0 (.slice none 0 0) (.slice none 0 0)).heap[w.heap.size]? =_:=setEx_at HBK.out
   have fin:=fun aa=>@endEx3 _ _ _ _ Tryz.results24 aa (CoP w (ex0,0,T2)) (setEx w3 w.heap.size ex0 (.slice none 0 0) (.slice none 0 0)) w.heap.size ex0 (.slice none 0 0) (.slice none 0 0) (.int .i64 0) (.int .i64 T2) hE
   exact fin _ rfl rfl rfl rfl ⟨setEx_below HB3.out (Nat.le_refl _),_,_,rfl,ex0_on _ _⟩
end Char
end Go.Proofs.YtlmpkpjjakallaaGreatDoor
