import Derived.Test.YtlmpkpjjakallaaGreatDoorPt29
namespace Go.Proofs.YtlmpkpjjakallaaGreatDoor
namespace Char
open Go.RowKit Go.Lib
set_option maxRecDepth 100000 in
set_option maxHeartbeats 4000000 in
theorem preds15_of (c:Nat)(hO:OfC c)(ks:List Ex)(v:Value)(n:Nat)(w:World)(F:Nat→Prop)(hc:cntEs ks≤c)(hcm:c≤1001)(hw:wfEs 1048576 ks)(hr:rightEs ks=true)(hn:n≤2)(h1:KdOn w F v ks):
 Calls Tryz.prog 95 #[v,.int .i64 (n:Int)] w fun e w'=>e= .returned (.int .i64 ((ckPs ks n).getD 0))∧Below w.heap.size w w':=by
 have HO:=Lib.hid hO
 clear hO
 have hcl:=cntEs_len ks
 obtain⟨o1,j1,rfl⟩:=h1.form
 have hm:ks.length≤1001:=by omega
 have HK:=Lib.hid h1
 have HW:=Lib.hid hw
 have HRR:=Lib.hid hr
 clear h1 hw hr
 go_enter Tryz.func95,Tryz.ntmps95
 go_wp2_with fail
 go_loopw [5] (fun v wr=>∃j:Nat,v= .int .i64 (j:Int)∧j≤ks.length∧Hid (Below w.heap.size w wr∧ckPs ks n=ckPs (ks.drop j) n∧rightEs (ks.drop j)=true)) (fun v _=>ks.length-(RowKit.intOf v).toNat)
 case atStart=>exact⟨0,rfl,Nat.zero_le _,Lib.hid ⟨Below.refl _ _,by simp,by simpa using HRR.out⟩⟩
 case round=>
  obtain⟨j,rfl,hj,HR⟩:=hrel
  by_cases hlt:j<ks.length
  ·by_cases h2:2≤n
   ·have h2':(2:Int)≤(n:Int):=by omega
    have HE:Hid (ckPs ks n=some 34):=Lib.hid (by rw[HR.out.2.1,List.drop_eq_getElem_cons hlt,ckPs,if_pos h2])
    have HB:=Lib.hid HR.out.1
    clear HR
    go_wp2_with fail
    go_ret
    exact⟨by rw[HE.out];rfl,HB.out⟩
   ·have h2':¬(2:Int)≤(n:Int):=by omega
    obtain⟨g,off,va,vk,rfl,hg,hat,hon⟩:=HK.out.read j hlt
    have heq:=HR.out.2.1
    have hrr:=HR.out.2.2
    rw[List.drop_eq_getElem_cons hlt,rightEs,Bool.and_eq_true]at hrr
    rw[List.drop_eq_getElem_cons hlt,ckPs,if_neg h2]at heq
    have hc3:=cntEs_at ks j hlt
    have hq1:∀W,Below w.heap.size w W→ExAt W g (off+j*7) ks[j] va vk:=fun W hW=>hat.move (hW.block g hat.lt)
    have hc2:=fun W (hW:Below w.heap.size w W)=>HO.out ks[j] va vk (n+1) W F (by omega) (wfEs_at HW.out j hlt) hrr.1 (by omega) (hon.below hW)
    have hne:=fun e=>ckE_ne ks[j] (n+1) e hrr.1
    generalize ks[j]=kid at *
    obtain⟨hn1,hn2⟩:=ExOn.iff.1 hon
    obtain⟨oa',ja',rfl⟩:=hn1.form
    obtain⟨ok',jk',rfl⟩:=hn2.form
    unfold exV at hc2
    rw[show((n+1:Nat):Int)=(n:Int)+1 by omega]at hc2
    have HE:=Lib.hid heq
    have HR2:=Lib.hid hrr.2
    have HBR:=Lib.hid HR.out.1
    obtain⟨a0,a1,a2,a3,a4,a5,a6⟩:=(hq1 wr HR.out.1).cells
    have hgl:g<wr.heap.size:=cell_lt a0
    clear hon hat heq hq1 hn1 hn2 HR hrr
    obtain⟨Q,hQ⟩:∃Q,ckE kid (n+1)=Q:=⟨_,rfl⟩
    rw[hQ]at HE hc2 hne
    clear hQ
    cases Q with
    |inl e0=>
     have h0:=hne e0 rfl
     have hb0:(e0 != 0)=true:=bne_iff_ne.2 h0
     simp only[ckR]at hc2
     have HC2:=Lib.hid hc2
     clear hc2 hne h0
     go_wp2_with fail
     refine(HC2.out wr HBR.out).mono ?_
     rintro e w2 ⟨rfl,hb3⟩
     have HB4:=Lib.hid (HBR.out.trans (hb3.mono HBR.out.size))
     clear hb3
     go_wp2_with fail
     go_ret
     exact⟨by rw[HE.out];rfl,HB4.out⟩
    |inr t=>
     simp only[ckR]at hc2
     have HC2:=Lib.hid hc2
     clear hc2 hne
     go_wp2_with fail
     refine(HC2.out wr HBR.out).mono ?_
     rintro e w2 ⟨rfl,hb3⟩
     have HB4:=Lib.hid (HBR.out.trans (hb3.mono HBR.out.size))
     clear hb3
     go_wp2_with fail
     go_roundw
     case rel=>exact⟨j+1,by go_num,by omega,Lib.hid ⟨HB4.out,HE.out,HR2.out⟩⟩
     case measure=>simp[RowKit.intOf];omega
  ·have HE:Hid (ckPs ks n=none):=Lib.hid (by rw[HR.out.2.1,List.drop_eq_nil_of_le (by omega),ckPs])
   have HB:=Lib.hid HR.out.1
   clear HR
   go_wp2_with fail
   go_ret
   exact⟨by rw[HE.out];rfl,HB.out⟩
def KdsP (w:World)(r:Int ⊕ Bool)(e:Ending)(w':World):Prop:=∃(v':Value) (zs:List Int) (b:Int),e= .returned (.tuple #[v',.int .i64 b])∧Below w.heap.size w w'∧OwnsI w.heap.size w' v' zs∧zs.length≤1001∧r=if b=0 then .inr (allNd zs) else .inl b
def joinK (zs:List Int):Int ⊕ Bool→Int ⊕ Bool
 | .inl e=> .inl e
 | .inr q=> .inr (allNd zs&&q)
theorem joinK_snoc (zs:List Int)(t:Int)(r:Int ⊕ Bool):joinK (zs++[t]) r=joinK zs (match r with | .inl e=> .inl e| .inr b=> .inr (decide (t=1)&&b)):=by
 cases r with
 |inl e=>rfl
 |inr b=>
  show Sum.inr (allNd (zs++[t])&&b)=Sum.inr (allNd zs&&(decide (t=1)&&b))
  unfold allNd
  rw[List.all_append,Bool.and_assoc]
  simp
set_option maxRecDepth 100000 in
set_option maxHeartbeats 4000000 in
theorem kids15_of (c:Nat)(hO:OfC c)(ks:List Ex)(v:Value)(n:Nat)(w:World)(F:Nat→Prop)(hc:cntEs ks≤c)(hcm:c≤1001)(hw:wfEs 1048576 ks)(hr:rightEs ks=true)(hn:n≤2)(h1:KdOn w F v ks):
 Calls Tryz.prog 93 #[v,.int .i64 (n:Int)] w (KdsP w (ckKs ks n)):=by
 have HO:=Lib.hid hO
 clear hO
 have hcl:=cntEs_len ks
 obtain⟨o1,j1,rfl⟩:=h1.form
 have hm:ks.length≤1001:=by omega
 have HK:=Lib.hid h1
 have HW:=Lib.hid hw
 have HRR:=Lib.hid hr
 clear h1 hw hr
 obtain⟨R,hR⟩:∃R,ckKs ks n=R:=⟨_,rfl⟩
 rw[hR]
 have HRK:=Lib.hid hR
 clear hR
 go_enter Tryz.func93,Tryz.ntmps93
 go_wp2_with fail
 go_loopw [6,7] (fun u v wr=>∃j:Nat,v= .int .i64 (j:Int)∧j≤ks.length∧(∃p q r,u= .slice p q r)∧Hid (∃zs:List Int,zs.length=j∧OwnsI w.heap.size wr u zs∧Below w.heap.size w wr∧R=joinK zs (ckKs (ks.drop j) n)∧rightEs (ks.drop j)=true)) (fun _ v _=>ks.length-(RowKit.intOf v).toNat)
 case atStart=>exact⟨0,rfl,Nat.zero_le _,⟨_,_,_,rfl⟩,Lib.hid ⟨[],rfl,OwnsI.nil _ _,Below.refl _ _,by rw[←HRK.out,List.drop_zero];cases ckKs ks n<;>rfl,by simpa using HRR.out⟩⟩
 case round=>
  obtain⟨j,rfl,hj,⟨p,q,r,rfl⟩,HZ⟩:=hrel
  obtain⟨zs,hzl,hown,hbr,heq,hrr⟩:=HZ.out
  clear HZ
  have HOW:=Lib.hid hown
  have HBR:=Lib.hid hbr
  by_cases hlt:j<ks.length
  ·obtain⟨g,off,va,vk,rfl,hg,hat,hon⟩:=HK.out.read j hlt
   rw[List.drop_eq_getElem_cons hlt,rightEs,Bool.and_eq_true]at hrr
   rw[List.drop_eq_getElem_cons hlt,ckKs]at heq
   have hc3:=cntEs_at ks j hlt
   have hq1:∀W,Below w.heap.size w W→ExAt W g (off+j*7) ks[j] va vk:=fun W hW=>hat.move (hW.block g hat.lt)
   have hc2:=fun W (hW:Below w.heap.size w W)=>HO.out ks[j] va vk n W F (by omega) (wfEs_at HW.out j hlt) hrr.1 hn (hon.below hW)
   have hne:=fun e=>ckE_ne ks[j] n e hrr.1
   generalize ks[j]=kid at *
   obtain⟨hn1,hn2⟩:=ExOn.iff.1 hon
   obtain⟨oa',ja',rfl⟩:=hn1.form
   obtain⟨ok',jk',rfl⟩:=hn2.form
   unfold exV at hc2
   have HR2:=Lib.hid hrr.2
   obtain⟨a0,a1,a2,a3,a4,a5,a6⟩:=(hq1 wr HBR.out).cells
   have hgl:g<wr.heap.size:=cell_lt a0
   clear hon hat hq1 hn1 hn2 hrr hown hbr
   obtain⟨Q,hQ⟩:∃Q,ckE kid n=Q:=⟨_,rfl⟩
   rw[hQ]at heq hc2 hne
   have HE:=Lib.hid heq
   have HZL:=Lib.hid hzl
   clear hQ heq hzl
   cases Q with
   |inl e0=>
    have h0:=hne e0 rfl
    have hb0:(e0 != 0)=true:=bne_iff_ne.2 h0
    have HN0:=Lib.hid h0
    simp only[ckR]at hc2
    have HC2:=Lib.hid hc2
    clear hc2 hne h0
    go_wp2_with fail
    refine(HC2.out wr HBR.out).mono ?_
    rintro e w2 ⟨rfl,hb3⟩
    have HB4:=Lib.hid (HBR.out.trans (hb3.mono HBR.out.size))
    clear hb3
    go_wp2_with fail
    exact bodyPost_ret (by simp[results,Tryz.results93]) rfl ⟨_,[],e0,rfl,HB4.out,OwnsI.nil _ _,by simp,by rw[HE.out,if_neg HN0.out];rfl⟩
   |inr t=>
    simp only[ckR]at hc2
    have HC2:=Lib.hid hc2
    clear hc2 hne
    go_wp2_with fail
    refine(HC2.out wr HBR.out).mono ?_
    rintro e w2 ⟨rfl,hb3⟩
    have HB4:=Lib.hid (HBR.out.trans (hb3.mono HBR.out.size))
    have HO4:=Lib.hid (HOW.out.below hb3)
    clear hb3
    go_wp2_with (first|(at_builtin;refine wpList_pushI rfl _ _ rfl t HO4.out rfl rfl HB4.out.size (by have :=HZL.out;omega) ?_;intro u' w3 hown3 hb4)|go_in)
    have hfm:∃p q r,u'= .slice p q r:=by
     obtain⟨p',q',e⟩:=hown3.form
     exact⟨_,_,_,e⟩
    go_roundw
    case rel=>exact⟨j+1,by go_num,by omega,hfm,Lib.hid ⟨zs++[t],by simp[HZL.out],hown3,HB4.out.trans hb4,by rw[HE.out,joinK_snoc];cases ckKs (ks.drop (j+1)) n<;>rfl,HR2.out⟩⟩
    case measure=>simp[RowKit.intOf];omega
  ·rw[List.drop_eq_nil_of_le (by omega),ckKs]at heq
   have HE:=Lib.hid heq
   have HZL:=Lib.hid hzl
   clear heq hzl hown hbr hrr
   go_wp2_with fail
   exact bodyPost_ret (by simp[results,Tryz.results93]) rfl ⟨_,zs,0,rfl,HBR.out,HOW.out,by have :=HZL.out;omega,by rw[HE.out,if_pos rfl];show Sum.inr (allNd zs&&true)=_;rw[Bool.and_true]⟩
theorem cells4 {W:World}{p:Nat}{a b c d:Value}{T:TypeId}(h:W.heap[p]? =some (.cells #[a,b,c,d] T (0,0))):W.cell? ⟨p,0,none⟩=some a∧W.cell? ⟨p,1,none⟩=some b∧W.cell? ⟨p,2,none⟩=some c∧W.cell? ⟨p,3,none⟩=some d:=by
 refine⟨?_,?_,?_,?_⟩<;>simp[World.cell?,h]
def fltR (r:Int ⊕ Bool)(p:Int):Int×Int:=match r with
 | .inl e=>(0,e)
 | .inr b=>if b=false then (0,35) else if p=0 then (1,0) else (0,p)
def pthS (s:Option Int):Int×Int:=match s with
 |some e=>(0,e)
 |none=>(1,0)
def pthR (r:Int ⊕ Bool)(s:Option Int):Int×Int:=match r with
 | .inl e=>(0,e)
 | .inr b=>if b=false then (0,35) else pthS s
def calR (f:Option Fn4)(nk:Nat)(r:Int ⊕ Bool):Int×Int:=match f with
 |none=>(0,32)
 |some f=>if (nk:Int)<f.least∨f.most<(nk:Int) then (0,33) else ckR (finT f.nodes f.ty r)
end Char
namespace Char
open Go.RowKit Go.Lib
set_option maxRecDepth 100000 in
set_option maxHeartbeats 4000000 in
theorem of_low (op tg vl:Int)(S:ByteArray)(ab:Bool)(ok os:Option Addr)(nk jk js n:Nat)(w:World)(r:Int ⊕ Bool)(HK:∀W,Below w.heap.size w W→Calls Tryz.prog 93 #[.slice ok nk jk,.int .i64 (n:Int)] W (KdsP W r))(f21:(op==21)=false)(f20:(op==20)=false)(f17:(op==17)=false)(f14:(op==14)=false)(f16:(op==16)=false)(f8:op≤8):
 Calls Tryz.prog 56 #[.agg #[.int .i64 op,.string S,.int .i64 tg,.int .i64 vl,.bool ab,.slice ok nk jk,.slice os 0 js],.int .i64 (n:Int)] w (fun e w'=>e= .returned (.tuple #[.int .i64 (ckR (finT false 2 r)).1,.int .i64 (ckR (finT false 2 r)).2])∧Below w.heap.size w w'):=by
 have hk:=World.alloc_heap_new w (.cells #[.int .i64 op,.string S,.int .i64 tg,.int .i64 vl,.bool ab,.slice ok nk jk,.slice os 0 js] 28)
 have HC:=Lib.hid fun(W:World) (hW:Below (w.alloc (.cells #[.int .i64 op,.string S,.int .i64 tg,.int .i64 vl,.bool ab,.slice ok nk jk,.slice os 0 js] 28)).heap.size (w.alloc (.cells #[.int .i64 op,.string S,.int .i64 tg,.int .i64 vl,.bool ab,.slice ok nk jk,.slice os 0 js] 28)) W)=>(cells7 ((hW.block w.heap.size (by simp)).trans hk)).1
 have HB:=Lib.hid (below_box (w:=w) (.cells #[.int .i64 op,.string S,.int .i64 tg,.int .i64 vl,.bool ab,.slice ok nk jk,.slice os 0 js] 28))
 clear hk
 go_enter Tryz.func56,Tryz.ntmps56
 go_wp2_with fail
 refine(HK _ HB.out).mono ?_
 rintro e w1 ⟨v',zs,b,rfl,hb,hown,hlen,hr⟩
 obtain⟨o',j',rfl⟩:=hown.form
 obtain⟨c0,c1,c2,c3,c4,c5,c6⟩:=HC.out w1 hb
 have H1:=Lib.hid (HB.out.trans (hb.mono HB.out.size))
 have HO:=Lib.hid hown
 clear hb hown
 by_cases h0:b=0
 ·rw[if_pos h0]at hr
  subst h0
  have HR:Hid (ckR (finT false 2 r)=(2,0)):=Lib.hid (by rw[hr];cases allNd zs<;>rfl)
  clear hr
  go_wp2_with fail
  go_loopw [13,14] (fun u v wr=>u= .int .i64 0∧v= .int .i64 0∧wr=w1) (fun _ _ _=>0)
  case atStart=>exact⟨rfl,rfl,rfl⟩
  case round=>
   obtain⟨rfl,rfl,hwr⟩:=hrel
   subst hwr
   go_wp2_with fail
   exact bodyPost_ret (v:= .tuple #[.int .i64 2,.int .i64 0]) (by simp[results,Tryz.results56]) rfl ⟨by rw[HR.out],H1.out⟩
 ·rw[if_neg h0]at hr
  have k0:(b==0)=false:=beq_eq_false_iff_ne.2 h0
  have k1:(b != 0)=true:=bne_iff_ne.2 h0
  have HR:Hid (ckR (finT false 2 r)=(0,b)):=Lib.hid (by rw[hr];rfl)
  clear hr h0
  go_wp2_with fail
  go_loopw [13,14] (fun u v wr=>u= .int .i64 b∧v= .int .i64 0∧wr=w1) (fun _ _ _=>0)
  case atStart=>exact⟨rfl,rfl,rfl⟩
  case round=>
   obtain⟨rfl,rfl,hwr⟩:=hrel
   subst hwr
   go_wp2_with fail
   exact bodyPost_ret (v:= .tuple #[.int .i64 0,.int .i64 b]) (by simp[results,Tryz.results56]) rfl ⟨by rw[HR.out],H1.out⟩
set_option maxRecDepth 100000 in
set_option maxHeartbeats 4000000 in
theorem of_num (op tg vl:Int)(S:ByteArray)(ab:Bool)(ok os:Option Addr)(nk jk js n:Nat)(w:World)(r:Int ⊕ Bool)(HK:∀W,Below w.heap.size w W→Calls Tryz.prog 93 #[.slice ok nk jk,.int .i64 (n:Int)] W (KdsP W r))(f21:(op==21)=false)(f20:(op==20)=false)(f17:(op==17)=false)(f14:(op==14)=false)(f16:(op==16)=false)(f8:¬op≤8)(f18:(op==18)=false):
 Calls Tryz.prog 56 #[.agg #[.int .i64 op,.string S,.int .i64 tg,.int .i64 vl,.bool ab,.slice ok nk jk,.slice os 0 js],.int .i64 (n:Int)] w (fun e w'=>e= .returned (.tuple #[.int .i64 (ckR (finT false 3 r)).1,.int .i64 (ckR (finT false 3 r)).2])∧Below w.heap.size w w'):=by
 have hk:=World.alloc_heap_new w (.cells #[.int .i64 op,.string S,.int .i64 tg,.int .i64 vl,.bool ab,.slice ok nk jk,.slice os 0 js] 28)
 have HC:=Lib.hid fun(W:World) (hW:Below (w.alloc (.cells #[.int .i64 op,.string S,.int .i64 tg,.int .i64 vl,.bool ab,.slice ok nk jk,.slice os 0 js] 28)).heap.size (w.alloc (.cells #[.int .i64 op,.string S,.int .i64 tg,.int .i64 vl,.bool ab,.slice ok nk jk,.slice os 0 js] 28)) W)=>(cells7 ((hW.block w.heap.size (by simp)).trans hk)).1
 have HB:=Lib.hid (below_box (w:=w) (.cells #[.int .i64 op,.string S,.int .i64 tg,.int .i64 vl,.bool ab,.slice ok nk jk,.slice os 0 js] 28))
 clear hk
 go_enter Tryz.func56,Tryz.ntmps56
 go_wp2_with fail
 refine(HK _ HB.out).mono ?_
 rintro e w1 ⟨v',zs,b,rfl,hb,hown,hlen,hr⟩
 obtain⟨o',j',rfl⟩:=hown.form
 obtain⟨c0,c1,c2,c3,c4,c5,c6⟩:=HC.out w1 hb
 have H1:=Lib.hid (HB.out.trans (hb.mono HB.out.size))
 have HO:=Lib.hid hown
 clear hb hown
 by_cases h0:b=0
 ·rw[if_pos h0]at hr
  subst h0
  have HR:Hid (ckR (finT false 3 r)=(3,0)):=Lib.hid (by rw[hr];cases allNd zs<;>rfl)
  clear hr
  go_wp2_with fail
  go_loopw [13,14] (fun u v wr=>u= .int .i64 0∧v= .int .i64 0∧wr=w1) (fun _ _ _=>0)
  case atStart=>exact⟨rfl,rfl,rfl⟩
  case round=>
   obtain⟨rfl,rfl,hwr⟩:=hrel
   subst hwr
   go_wp2_with fail
   exact bodyPost_ret (v:= .tuple #[.int .i64 3,.int .i64 0]) (by simp[results,Tryz.results56]) rfl ⟨by rw[HR.out],H1.out⟩
 ·rw[if_neg h0]at hr
  have k0:(b==0)=false:=beq_eq_false_iff_ne.2 h0
  have k1:(b != 0)=true:=bne_iff_ne.2 h0
  have HR:Hid (ckR (finT false 3 r)=(0,b)):=Lib.hid (by rw[hr];rfl)
  clear hr h0
  go_wp2_with fail
  go_loopw [13,14] (fun u v wr=>u= .int .i64 b∧v= .int .i64 0∧wr=w1) (fun _ _ _=>0)
  case atStart=>exact⟨rfl,rfl,rfl⟩
  case round=>
   obtain⟨rfl,rfl,hwr⟩:=hrel
   subst hwr
   go_wp2_with fail
   exact bodyPost_ret (v:= .tuple #[.int .i64 0,.int .i64 b]) (by simp[results,Tryz.results56]) rfl ⟨by rw[HR.out],H1.out⟩
set_option maxRecDepth 100000 in
set_option maxHeartbeats 4000000 in
theorem of_lit (tg vl:Int)(S:ByteArray)(ab:Bool)(ok os:Option Addr)(nk jk js n:Nat)(w:World)(r:Int ⊕ Bool)(HK:∀W,Below w.heap.size w W→Calls Tryz.prog 93 #[.slice ok nk jk,.int .i64 (n:Int)] W (KdsP W r)):
 Calls Tryz.prog 56 #[.agg #[.int .i64 18,.string S,.int .i64 tg,.int .i64 vl,.bool ab,.slice ok nk jk,.slice os 0 js],.int .i64 (n:Int)] w (fun e w'=>e= .returned (.tuple #[.int .i64 (ckR (finT false 4 r)).1,.int .i64 (ckR (finT false 4 r)).2])∧Below w.heap.size w w'):=by
 have hk:=World.alloc_heap_new w (.cells #[.int .i64 18,.string S,.int .i64 tg,.int .i64 vl,.bool ab,.slice ok nk jk,.slice os 0 js] 28)
 have HC:=Lib.hid fun(W:World) (hW:Below (w.alloc (.cells #[.int .i64 18,.string S,.int .i64 tg,.int .i64 vl,.bool ab,.slice ok nk jk,.slice os 0 js] 28)).heap.size (w.alloc (.cells #[.int .i64 18,.string S,.int .i64 tg,.int .i64 vl,.bool ab,.slice ok nk jk,.slice os 0 js] 28)) W)=>(cells7 ((hW.block w.heap.size (by simp)).trans hk)).1
 have HB:=Lib.hid (below_box (w:=w) (.cells #[.int .i64 18,.string S,.int .i64 tg,.int .i64 vl,.bool ab,.slice ok nk jk,.slice os 0 js] 28))
 clear hk
 go_enter Tryz.func56,Tryz.ntmps56
 go_wp2_with fail
 refine(HK _ HB.out).mono ?_
 rintro e w1 ⟨v',zs,b,rfl,hb,hown,hlen,hr⟩
 obtain⟨o',j',rfl⟩:=hown.form
 obtain⟨c0,c1,c2,c3,c4,c5,c6⟩:=HC.out w1 hb
 have H1:=Lib.hid (HB.out.trans (hb.mono HB.out.size))
 have HO:=Lib.hid hown
 clear hb hown
 by_cases h0:b=0
 ·rw[if_pos h0]at hr
  subst h0
  have HR:Hid (ckR (finT false 4 r)=(4,0)):=Lib.hid (by rw[hr];cases allNd zs<;>rfl)
  clear hr
  go_wp2_with fail
  go_loopw [13,14] (fun u v wr=>u= .int .i64 0∧v= .int .i64 0∧wr=w1) (fun _ _ _=>0)
  case atStart=>exact⟨rfl,rfl,rfl⟩
  case round=>
   obtain⟨rfl,rfl,hwr⟩:=hrel
   subst hwr
   go_wp2_with fail
   exact bodyPost_ret (v:= .tuple #[.int .i64 4,.int .i64 0]) (by simp[results,Tryz.results56]) rfl ⟨by rw[HR.out],H1.out⟩
 ·rw[if_neg h0]at hr
  have k0:(b==0)=false:=beq_eq_false_iff_ne.2 h0
  have k1:(b != 0)=true:=bne_iff_ne.2 h0
  have HR:Hid (ckR (finT false 4 r)=(0,b)):=Lib.hid (by rw[hr];rfl)
  clear hr h0
  go_wp2_with fail
  go_loopw [13,14] (fun u v wr=>u= .int .i64 b∧v= .int .i64 0∧wr=w1) (fun _ _ _=>0)
  case atStart=>exact⟨rfl,rfl,rfl⟩
  case round=>
   obtain⟨rfl,rfl,hwr⟩:=hrel
   subst hwr
   go_wp2_with fail
   exact bodyPost_ret (v:= .tuple #[.int .i64 0,.int .i64 b]) (by simp[results,Tryz.results56]) rfl ⟨by rw[HR.out],H1.out⟩
set_option maxRecDepth 100000 in
set_option maxHeartbeats 4000000 in
theorem of_uni (tg vl:Int)(S:ByteArray)(ab:Bool)(ok os:Option Addr)(nk jk js n:Nat)(w:World)(r:Int ⊕ Bool)(HK:∀W,Below w.heap.size w W→Calls Tryz.prog 93 #[.slice ok nk jk,.int .i64 (n:Int)] W (KdsP W r)):
 Calls Tryz.prog 56 #[.agg #[.int .i64 14,.string S,.int .i64 tg,.int .i64 vl,.bool ab,.slice ok nk jk,.slice os 0 js],.int .i64 (n:Int)] w (fun e w'=>e= .returned (.tuple #[.int .i64 (ckR (finT true 1 r)).1,.int .i64 (ckR (finT true 1 r)).2])∧Below w.heap.size w w'):=by
 have hk:=World.alloc_heap_new w (.cells #[.int .i64 14,.string S,.int .i64 tg,.int .i64 vl,.bool ab,.slice ok nk jk,.slice os 0 js] 28)
 have HC:=Lib.hid fun(W:World) (hW:Below (w.alloc (.cells #[.int .i64 14,.string S,.int .i64 tg,.int .i64 vl,.bool ab,.slice ok nk jk,.slice os 0 js] 28)).heap.size (w.alloc (.cells #[.int .i64 14,.string S,.int .i64 tg,.int .i64 vl,.bool ab,.slice ok nk jk,.slice os 0 js] 28)) W)=>(cells7 ((hW.block w.heap.size (by simp)).trans hk)).1
 have HB:=Lib.hid (below_box (w:=w) (.cells #[.int .i64 14,.string S,.int .i64 tg,.int .i64 vl,.bool ab,.slice ok nk jk,.slice os 0 js] 28))
 clear hk
 go_enter Tryz.func56,Tryz.ntmps56
 go_wp2_with fail
 refine(HK _ HB.out).mono ?_
 rintro e w1 ⟨v',zs,b,rfl,hb,hown,hlen,hr⟩
 obtain⟨o',j',rfl⟩:=hown.form
 obtain⟨c0,c1,c2,c3,c4,c5,c6⟩:=HC.out w1 hb
 have H1:=Lib.hid (HB.out.trans (hb.mono HB.out.size))
 have HO:=Lib.hid hown
 clear hb hown
 by_cases h0:b=0
 ·rw[if_pos h0]at hr
  subst h0
  cases ha:allNd zs with
  |true=>
   rw[ha]at hr
   have hot:=Lib.hid fun W (h:OwnsI (w.alloc (.cells #[.int .i64 14,.string S,.int .i64 tg,.int .i64 vl,.bool ab,.slice ok nk jk,.slice os 0 js] 28)).heap.size W (.slice o' zs.length j') zs)=>other_any _ _ zs W h hlen
   rw[ha]at hot
   have HR:Hid (ckR (finT true 1 r)=(1,0)):=Lib.hid (by rw[hr];rfl)
   clear hr ha
   go_wp2_with fail
   refine(hot.out w1 HO.out).mono ?_
   rintro e w2 ⟨rfl,hw2⟩
   have hw2:=hw2.symm
   subst hw2
   go_wp2_with fail
   go_loopw [13,14] (fun u v wr=>u= .int .i64 0∧v= .int .i64 0∧wr=w1) (fun _ _ _=>0)
   case atStart=>exact⟨rfl,rfl,rfl⟩
   case round=>
    obtain⟨rfl,rfl,hwr⟩:=hrel
    subst hwr
    go_wp2_with fail
    exact bodyPost_ret (v:= .tuple #[.int .i64 1,.int .i64 0]) (by simp[results,Tryz.results56]) rfl ⟨by rw[HR.out],H1.out⟩
  |false=>
   rw[ha]at hr
   have hot:=Lib.hid fun W (h:OwnsI (w.alloc (.cells #[.int .i64 14,.string S,.int .i64 tg,.int .i64 vl,.bool ab,.slice ok nk jk,.slice os 0 js] 28)).heap.size W (.slice o' zs.length j') zs)=>other_any _ _ zs W h hlen
   rw[ha]at hot
   have HR:Hid (ckR (finT true 1 r)=(0,35)):=Lib.hid (by rw[hr];rfl)
   clear hr ha
   go_wp2_with fail
   refine(hot.out w1 HO.out).mono ?_
   rintro e w2 ⟨rfl,hw2⟩
   have hw2:=hw2.symm
   subst hw2
   go_wp2_with fail
   go_loopw [13,14] (fun u v wr=>u= .int .i64 35∧v= .int .i64 0∧wr=w1) (fun _ _ _=>0)
   case atStart=>exact⟨rfl,rfl,rfl⟩
   case round=>
    obtain⟨rfl,rfl,hwr⟩:=hrel
    subst hwr
    go_wp2_with fail
    exact bodyPost_ret (v:= .tuple #[.int .i64 0,.int .i64 35]) (by simp[results,Tryz.results56]) rfl ⟨by rw[HR.out],H1.out⟩
 ·rw[if_neg h0]at hr
  have k0:(b==0)=false:=beq_eq_false_iff_ne.2 h0
  have k1:(b != 0)=true:=bne_iff_ne.2 h0
  have HR:Hid (ckR (finT true 1 r)=(0,b)):=Lib.hid (by rw[hr];rfl)
  clear hr h0
  go_wp2_with fail
  go_loopw [13,14] (fun u v wr=>u= .int .i64 b∧v= .int .i64 0∧wr=w1) (fun _ _ _=>0)
  case atStart=>exact⟨rfl,rfl,rfl⟩
  case round=>
   obtain⟨rfl,rfl,hwr⟩:=hrel
   subst hwr
   go_wp2_with fail
   exact bodyPost_ret (v:= .tuple #[.int .i64 0,.int .i64 b]) (by simp[results,Tryz.results56]) rfl ⟨by rw[HR.out],H1.out⟩
set_option maxRecDepth 100000 in
set_option maxHeartbeats 4000000 in
theorem of_var (tg vl:Int)(S:ByteArray)(ab:Bool)(ok os:Option Addr)(nk jk ns js n:Nat)(w:World):Calls Tryz.prog 56 #[.agg #[.int .i64 21,.string S,.int .i64 tg,.int .i64 vl,.bool ab,.slice ok nk jk,.slice os ns js],.int .i64 (n:Int)] w fun e w'=>e= .returned (.tuple #[.int .i64 0,.int .i64 32])∧Below w.heap.size w w':=by
 go_enter Tryz.func56,Tryz.ntmps56
 go_wp2_with fail
 exact bodyPost_ret (v:= .tuple #[.int .i64 0,.int .i64 32]) (by simp[results,Tryz.results56]) rfl ⟨rfl,below_box _⟩
set_option maxRecDepth 100000 in
set_option maxHeartbeats 4000000 in
theorem of_flt (tg vl:Int)(S:ByteArray)(ab:Bool)(os:Option Addr)(g off m j1 ns js n:Nat)(w:World)(r:Int ⊕ Bool)(p:Int)(hm:m+1≤j1)(h1m:1≤m)
 (HK:∀W,Below w.heap.size w W→Calls Tryz.prog 93 #[.slice (some ⟨g,off,none⟩) 1 j1,.int .i64 (n:Int)] W (KdsP W r))
 (HP:∀W,Below w.heap.size w W→Calls Tryz.prog 95 #[.slice (some ⟨g,off+7,none⟩) m (j1-1),.int .i64 (n:Int)] W fun e w'=>e= .returned (.int .i64 p)∧Below W.heap.size W w'):
 Calls Tryz.prog 56 #[.agg #[.int .i64 17,.string S,.int .i64 tg,.int .i64 vl,.bool ab,.slice (some ⟨g,off,none⟩) (m+1) j1,.slice os ns js],.int .i64 (n:Int)] w fun e w'=>e= .returned (.tuple #[.int .i64 (fltR r p).1,.int .i64 (fltR r p).2])∧Below w.heap.size w w':=by
 have hj1:¬((j1:Int)<1):=by omega
 have hj2:¬(j1=1):=by omega
 have hj3:¬(j1=0):=by omega
 have hj4:¬((m:Int)+1<1):=by omega
 clear hm h1m
 have hk:=World.alloc_heap_new w (.cells #[.int .i64 17,.string S,.int .i64 tg,.int .i64 vl,.bool ab,.slice (some ⟨g,off,none⟩) (m+1) j1,.slice os ns js] 28)
 have HC:=Lib.hid fun(W:World) (hW:Below (w.alloc (.cells #[.int .i64 17,.string S,.int .i64 tg,.int .i64 vl,.bool ab,.slice (some ⟨g,off,none⟩) (m+1) j1,.slice os ns js] 28)).heap.size (w.alloc (.cells #[.int .i64 17,.string S,.int .i64 tg,.int .i64 vl,.bool ab,.slice (some ⟨g,off,none⟩) (m+1) j1,.slice os ns js] 28)) W)=>(cells7 ((hW.block w.heap.size (by simp)).trans hk)).1
 have HB:=Lib.hid (below_box (w:=w) (.cells #[.int .i64 17,.string S,.int .i64 tg,.int .i64 vl,.bool ab,.slice (some ⟨g,off,none⟩) (m+1) j1,.slice os ns js] 28))
 clear hk
 go_enter Tryz.func56,Tryz.ntmps56
 go_wp2_with fail
 refine(HK _ HB.out).mono ?_
 rintro e w1 ⟨v',zs,b,rfl,hb,hown,hlen,hr⟩
 obtain⟨o',j',rfl⟩:=hown.form
 obtain⟨c0,c1,c2,c3,c4,c5,c6⟩:=HC.out w1 hb
 have H1:=Lib.hid (HB.out.trans (hb.mono HB.out.size))
 have HX1:=Lib.hid hb
 have HO:=Lib.hid hown
 clear hb hown
 by_cases h0:b=0
 ·rw[if_pos h0]at hr
  subst h0
  cases ha:allNd zs with
  |false=>
   rw[ha]at hr
   have hot:=Lib.hid fun W (h:OwnsI (w.alloc (.cells #[.int .i64 17,.string S,.int .i64 tg,.int .i64 vl,.bool ab,.slice (some ⟨g,off,none⟩) (m+1) j1,.slice os ns js] 28)).heap.size W (.slice o' zs.length j') zs)=>other_any _ _ zs W h hlen
   rw[ha]at hot
   have HR:Hid (fltR r p=(0,35)):=Lib.hid (by rw[hr];rfl)
   clear hr ha
   go_wp2_with fail
   refine(hot.out w1 HO.out).mono ?_
   rintro e w2 ⟨rfl,hw2⟩
   have hw2:=hw2.symm
   subst hw2
   go_wp2_with fail
   exact bodyPost_ret (v:= .tuple #[.int .i64 0,.int .i64 35]) (by simp[results,Tryz.results56]) rfl ⟨by rw[HR.out],H1.out⟩
  |true=>
   rw[ha]at hr
   have hot:=Lib.hid fun W (h:OwnsI (w.alloc (.cells #[.int .i64 17,.string S,.int .i64 tg,.int .i64 vl,.bool ab,.slice (some ⟨g,off,none⟩) (m+1) j1,.slice os ns js] 28)).heap.size W (.slice o' zs.length j') zs)=>other_any _ _ zs W h hlen
   rw[ha]at hot
   by_cases hp:p=0
   ·subst hp
    have HR:Hid (fltR r 0=(1,0)):=Lib.hid (by rw[hr];rfl)
    clear hr ha
    go_wp2_with fail
    refine(hot.out w1 HO.out).mono ?_
    rintro e w2 ⟨rfl,hw2⟩
    have hw2:=hw2.symm
    subst hw2
    go_wp2_with fail
    refine(HP _ H1.out).mono ?_
    rintro e w3 ⟨rfl,hb3⟩
    go_wp2_with fail
    exact bodyPost_ret (v:= .tuple #[.int .i64 1,.int .i64 0]) (by simp[results,Tryz.results56]) rfl ⟨by rw[HR.out],H1.out.trans (hb3.mono H1.out.size)⟩
   ·have HR:Hid (fltR r p=(0,p)):=Lib.hid (by rw[hr];simp[fltR,hp])
    have k1:(p != 0)=true:=bne_iff_ne.2 hp
    clear hr ha hp
    go_wp2_with fail
    refine(hot.out w1 HO.out).mono ?_
    rintro e w2 ⟨rfl,hw2⟩
    have hw2:=hw2.symm
    subst hw2
    go_wp2_with fail
    refine(HP _ H1.out).mono ?_
    rintro e w3 ⟨rfl,hb3⟩
    go_wp2_with fail
    exact bodyPost_ret (v:= .tuple #[.int .i64 0,.int .i64 p]) (by simp[results,Tryz.results56]) rfl ⟨by rw[HR.out],H1.out.trans (hb3.mono H1.out.size)⟩
 ·rw[if_neg h0]at hr
  have k0:(b==0)=false:=beq_eq_false_iff_ne.2 h0
  have k1:(b != 0)=true:=bne_iff_ne.2 h0
  have HR:Hid (fltR r p=(0,b)):=Lib.hid (by rw[hr];rfl)
  clear hr h0
  go_wp2_with fail
  exact bodyPost_ret (v:= .tuple #[.int .i64 0,.int .i64 b]) (by simp[results,Tryz.results56]) rfl ⟨by rw[HR.out],H1.out⟩
set_option maxRecDepth 100000 in
set_option maxHeartbeats 4000000 in
theorem of_cal (tg vl:Int)(S:ByteArray)(ab:Bool)(ok os:Option Addr)(nk jk ns js n:Nat)(w:World)(r:Int ⊕ Bool)(f:Option Fn4)(HF:∀W,Calls Tryz.prog 92 #[.string S] W (FnP W f))(HK:∀W,Below w.heap.size w W→Calls Tryz.prog 93 #[.slice ok nk jk,.int .i64 (n:Int)] W (KdsP W r)):
 Calls Tryz.prog 56 #[.agg #[.int .i64 20,.string S,.int .i64 tg,.int .i64 vl,.bool ab,.slice ok nk jk,.slice os ns js],.int .i64 (n:Int)] w fun e w'=>e= .returned (.tuple #[.int .i64 (calR f nk r).1,.int .i64 (calR f nk r).2])∧Below w.heap.size w w':=by
 have hk:=World.alloc_heap_new w (.cells #[.int .i64 20,.string S,.int .i64 tg,.int .i64 vl,.bool ab,.slice ok nk jk,.slice os ns js] 28)
 have HC:=Lib.hid fun(W:World) (hW:Below (w.alloc (.cells #[.int .i64 20,.string S,.int .i64 tg,.int .i64 vl,.bool ab,.slice ok nk jk,.slice os ns js] 28)).heap.size (w.alloc (.cells #[.int .i64 20,.string S,.int .i64 tg,.int .i64 vl,.bool ab,.slice ok nk jk,.slice os ns js] 28)) W)=>(cells7 ((hW.block w.heap.size (by simp)).trans hk)).1
 have HB:=Lib.hid (below_box (w:=w) (.cells #[.int .i64 20,.string S,.int .i64 tg,.int .i64 vl,.bool ab,.slice ok nk jk,.slice os ns js] 28))
 clear hk
 go_enter Tryz.func56,Tryz.ntmps56
 go_wp2_with fail
 refine(HF _).mono ?_
 cases f with
 |none=>
  rintro e w1 ⟨hb,rfl⟩
  unfold fncV
  have H1:=Lib.hid (HB.out.trans (hb.mono HB.out.size))
  clear hb
  go_wp2_with fail
  exact bodyPost_ret (v:= .tuple #[.int .i64 0,.int .i64 32]) (by simp[results,Tryz.results56]) rfl ⟨rfl,H1.out.alloc H1.out.size _⟩
 |some f=>
  rintro e w1 ⟨hb,rfl⟩
  obtain⟨fl,fm,fnn,ft⟩:=f
  unfold fncV
  obtain⟨W2,hW2⟩:∃W2,W2=w1.alloc (.cells #[.int .i64 fl,.int .i64 fm,.bool fnn,.int .i64 ft] 124):=⟨_,rfl⟩
  have hb2:Below (w.alloc (.cells #[.int .i64 20,.string S,.int .i64 tg,.int .i64 vl,.bool ab,.slice ok nk jk,.slice os ns js] 28)).heap.size (w.alloc (.cells #[.int .i64 20,.string S,.int .i64 tg,.int .i64 vl,.bool ab,.slice ok nk jk,.slice os ns js] 28)) W2:=by rw[hW2];exact hb.alloc hb.size _
  have kf:W2.heap[w1.heap.size]? =some (.cells #[.int .i64 fl,.int .i64 fm,.bool fnn,.int .i64 ft] 124 (0,0)):=by rw[hW2];exact World.alloc_heap_new w1 _
  have HFC:=Lib.hid fun(W:World) (hW:Below W2.heap.size W2 W)=>cells4 ((hW.block w1.heap.size (Array.getElem?_eq_some_iff.1 kf).1).trans kf)
  obtain⟨c0,c1,c2,c3,c4,c5,c6⟩:=HC.out W2 hb2
  obtain⟨d0,d1,d2,d3⟩:=HFC.out W2 (Below.refl _ _)
  have H2:=Lib.hid hb2
  have H3:=Lib.hid (HB.out.trans (hb2.mono HB.out.size))
  rw[hW2]at c0 c1 c2 c3 c4 c5 c6 d0 d1 d2 d3
  have HW2:=Lib.hid hW2
  clear hb hb2 kf hW2
  by_cases l1:(nk:Int)<fl
  ·have HR:Hid (calR (some ⟨fl,fm,fnn,ft⟩) nk r=(0,33)):=Lib.hid (if_pos (.inl l1))
   go_wp2_with fail
   rw[←HW2.out]
   exact bodyPost_ret (v:= .tuple #[.int .i64 0,.int .i64 33]) (by simp[results,Tryz.results56]) rfl ⟨by rw[HR.out],H3.out⟩
  by_cases l2:fm<(nk:Int)
  ·have HR:Hid (calR (some ⟨fl,fm,fnn,ft⟩) nk r=(0,33)):=Lib.hid (if_pos (.inr l2))
   go_wp2_with fail
   rw[←HW2.out]
   exact bodyPost_ret (v:= .tuple #[.int .i64 0,.int .i64 33]) (by simp[results,Tryz.results56]) rfl ⟨by rw[HR.out],H3.out⟩
  have HCR:Hid (calR (some ⟨fl,fm,fnn,ft⟩) nk r=ckR (finT fnn ft r)):=Lib.hid (if_neg (by show ¬((nk:Int)<fl∨fm<(nk:Int));omega))
  go_wp2_with fail
  rw[←HW2.out]
  refine(HK _ H3.out).mono ?_
  rintro e w3 ⟨v',zs,b,rfl,hb,hown,hlen,hr⟩
  obtain⟨o',j',rfl⟩:=hown.form
  clear c0 c1 c2 c3 c4 c5 c6 d0 d1 d2 d3
  obtain⟨c0,c1,c2,c3,c4,c5,c6⟩:=HC.out w3 (H2.out.trans (hb.mono H2.out.size))
  obtain⟨d0,d1,d2,d3⟩:=HFC.out w3 hb
  have H1:=Lib.hid (H3.out.trans (hb.mono H3.out.size))
  have HO:=Lib.hid hown
  clear hb hown
  by_cases h0:b=0
  ·rw[if_pos h0]at hr
   subst h0
   cases fnn with
   |false=>
    have HR:Hid (calR (some ⟨fl,fm,false,ft⟩) nk r=(ft,0)):=Lib.hid (by rw[HCR.out,hr];cases allNd zs<;>rfl)
    clear hr HCR
    go_wp2_with fail
    exact bodyPost_ret (v:= .tuple #[.int .i64 ft,.int .i64 0]) (by simp[results,Tryz.results56]) rfl ⟨by rw[HR.out],H1.out⟩
   |true=>
    cases ha:allNd zs with
    |true=>
     rw[ha]at hr
     have hot:=Lib.hid fun W (h:OwnsI W2.heap.size W (.slice o' zs.length j') zs)=>other_any _ _ zs W h hlen
     rw[ha]at hot
     have HR:Hid (calR (some ⟨fl,fm,true,ft⟩) nk r=(ft,0)):=Lib.hid (by rw[HCR.out,hr];rfl)
     clear hr ha HCR
     go_wp2_with fail
     refine(hot.out w3 HO.out).mono ?_
     rintro e w2 ⟨rfl,hw2⟩
     have hw2:=hw2.symm
     subst hw2
     go_wp2_with fail
     exact bodyPost_ret (v:= .tuple #[.int .i64 ft,.int .i64 0]) (by simp[results,Tryz.results56]) rfl ⟨by rw[HR.out],H1.out⟩
    |false=>
     rw[ha]at hr
     have hot:=Lib.hid fun W (h:OwnsI W2.heap.size W (.slice o' zs.length j') zs)=>other_any _ _ zs W h hlen
     rw[ha]at hot
     have HR:Hid (calR (some ⟨fl,fm,true,ft⟩) nk r=(0,35)):=Lib.hid (by rw[HCR.out,hr];rfl)
     clear hr ha HCR
     go_wp2_with fail
     refine(hot.out w3 HO.out).mono ?_
     rintro e w2 ⟨rfl,hw2⟩
     have hw2:=hw2.symm
     subst hw2
     go_wp2_with fail
     exact bodyPost_ret (v:= .tuple #[.int .i64 0,.int .i64 35]) (by simp[results,Tryz.results56]) rfl ⟨by rw[HR.out],H1.out⟩
  ·rw[if_neg h0]at hr
   have k0:(b==0)=false:=beq_eq_false_iff_ne.2 h0
   have k1:(b != 0)=true:=bne_iff_ne.2 h0
   have HR:Hid (calR (some ⟨fl,fm,fnn,ft⟩) nk r=(0,b)):=Lib.hid (by rw[HCR.out,hr];rfl)
   clear hr h0 HCR
   go_wp2_with fail
   exact bodyPost_ret (v:= .tuple #[.int .i64 0,.int .i64 b]) (by simp[results,Tryz.results56]) rfl ⟨by rw[HR.out],H1.out⟩
set_option maxRecDepth 100000 in
set_option maxHeartbeats 4000000 in
theorem of_pth (tg vl:Int)(S:ByteArray)(ab:Bool)(ok os:Option Addr)(nk jk js n:Nat)(ss:List St)(w:World)(F:Nat→Prop)(r:Int ⊕ Bool)(hm:ss.length≤1001)(hrs:rightSs ss=true)(HSD:Hid (SdOn w F (.slice os ss.length js) ss))
 (HK:∀W,Below w.heap.size w W→Calls Tryz.prog 93 #[.slice ok nk jk,.int .i64 (n:Int)] W (KdsP W r))
 (HP:Hid (∀k (hk:k<ss.length) (vp:Value),StOn w F ss[k] vp→rightS ss[k]=true→∀W,Below w.heap.size w W→Calls Tryz.prog 95 #[vp,.int .i64 (n:Int)] W fun e w'=>e= .returned (.int .i64 ((ckS ss[k] n).getD 0))∧Below W.heap.size W w')):
 Calls Tryz.prog 56 #[.agg #[.int .i64 16,.string S,.int .i64 tg,.int .i64 vl,.bool ab,.slice ok nk jk,.slice os ss.length js],.int .i64 (n:Int)] w fun e w'=>e= .returned (.tuple #[.int .i64 (pthR r (ckSs ss n)).1,.int .i64 (pthR r (ckSs ss n)).2])∧Below w.heap.size w w':=by
 obtain⟨RR,hRR⟩:∃RR,RR=pthR r (ckSs ss n):=⟨_,rfl⟩
 rw[←hRR]
 have HRR:=Lib.hid hRR
 have HRS:=Lib.hid hrs
 clear hRR hrs
 have hk:=World.alloc_heap_new w (.cells #[.int .i64 16,.string S,.int .i64 tg,.int .i64 vl,.bool ab,.slice ok nk jk,.slice os ss.length js] 28)
 have HC:=Lib.hid fun(W:World) (hW:Below (w.alloc (.cells #[.int .i64 16,.string S,.int .i64 tg,.int .i64 vl,.bool ab,.slice ok nk jk,.slice os ss.length js] 28)).heap.size (w.alloc (.cells #[.int .i64 16,.string S,.int .i64 tg,.int .i64 vl,.bool ab,.slice ok nk jk,.slice os ss.length js] 28)) W)=>(cells7 ((hW.block w.heap.size (by simp)).trans hk)).1
 have HB:=Lib.hid (below_box (w:=w) (.cells #[.int .i64 16,.string S,.int .i64 tg,.int .i64 vl,.bool ab,.slice ok nk jk,.slice os ss.length js] 28))
 clear hk
 go_enter Tryz.func56,Tryz.ntmps56
 go_wp2_with fail
 refine(HK _ HB.out).mono ?_
 rintro e w1 ⟨v',zs,b,rfl,hb,hown,hlen,hr⟩
 obtain⟨o',j',rfl⟩:=hown.form
 obtain⟨c0,c1,c2,c3,c4,c5,c6⟩:=HC.out w1 hb
 have HX1:=Lib.hid hb
 have HO:=Lib.hid hown
 clear hb hown
 by_cases h0:b=0
 ·rw[if_pos h0]at hr
  subst h0
  cases ha:allNd zs with
  |true=>
   rw[ha]at hr
   have hot:=Lib.hid fun W (h:OwnsI (w.alloc (.cells #[.int .i64 16,.string S,.int .i64 tg,.int .i64 vl,.bool ab,.slice ok nk jk,.slice os ss.length js] 28)).heap.size W (.slice o' zs.length j') zs)=>other_any _ _ zs W h hlen
   rw[ha]at hot
   have HR0:Hid (RR=pthS (ckSs ss n)):=Lib.hid (by rw[HRR.out,hr];rfl)
   clear hr ha
   go_wp2_with fail
   refine(hot.out w1 HO.out).mono ?_
   rintro e w2 ⟨rfl,hw2⟩
   have hw2:=hw2.symm
   subst hw2
   go_wp2_with fail
   go_loopw [13,14] (fun u v wr=>∃(b:Int) (k:Nat),u= .int .i64 b∧v= .int .i64 (k:Int)∧k≤ss.length∧Hid (Below (w.alloc (.cells #[.int .i64 16,.string S,.int .i64 tg,.int .i64 vl,.bool ab,.slice ok nk jk,.slice os ss.length js] 28)).heap.size (w.alloc (.cells #[.int .i64 16,.string S,.int .i64 tg,.int .i64 vl,.bool ab,.slice ok nk jk,.slice os ss.length js] 28)) wr∧((b≠0∧RR=(0,b))∨(b=0∧RR=pthS (ckSs (ss.drop k) n)∧rightSs (ss.drop k)=true)))) (fun _ v _=>ss.length-(RowKit.intOf v).toNat)
   case atStart=>exact⟨0,0,rfl,rfl,Nat.zero_le _,Lib.hid ⟨HX1.out,.inr ⟨rfl,by rw[List.drop_zero];exact HR0.out,by rw[List.drop_zero];exact HRS.out⟩⟩⟩
   case round=>
    obtain⟨b,k,rfl,rfl,hk,HI⟩:=hrel
    obtain⟨hbr,hI⟩:=HI.out
    clear HI
    have HBR:=Lib.hid hbr
    have HW:=Lib.hid (HB.out.trans (hbr.mono HB.out.size))
    obtain⟨c0,c1,c2,c3,c4,c5,c6⟩:=HC.out wr hbr
    clear hbr
    rcases hI with⟨hb0,hRR⟩|⟨rfl,hRR,hrs⟩
    ·have k0:(b==0)=false:=beq_eq_false_iff_ne.2 hb0
     have k1:(b != 0)=true:=bne_iff_ne.2 hb0
     have HR:=Lib.hid hRR
     clear hb0 hRR
     by_cases hlt:k<ss.length
     ·go_wp2_with fail
      exact bodyPost_ret (v:= .tuple #[.int .i64 0,.int .i64 b]) (by simp[results,Tryz.results56]) rfl ⟨by rw[HR.out],HW.out⟩
     ·go_wp2_with fail
      exact bodyPost_ret (v:= .tuple #[.int .i64 0,.int .i64 b]) (by simp[results,Tryz.results56]) rfl ⟨by rw[HR.out],HW.out⟩
    ·by_cases hlt:k<ss.length
     ·obtain⟨g,off,vp,rfl,hg,hat,hon⟩:=HSD.out.read k hlt
      rw[List.drop_eq_getElem_cons hlt,rightSs,Bool.and_eq_true]at hrs
      rw[List.drop_eq_getElem_cons hlt,ckSs]at hRR
      have hp:=HP.out k hlt vp hon hrs.1 wr HW.out
      have hne:=fun e=>ckS_ne ss[k] n e hrs.1
      obtain⟨a0,a1,a2,a3,a4⟩:=(hat.move (HW.out.block g hat.lt)).cells
      have hgl:g<wr.heap.size:=cell_lt a0
      generalize ss[k]=x at *
      have HRS:=Lib.hid hrs.2
      clear hrs hat hon a0 a1 a2 a3
      cases hc:ckS x n with
      |none=>
       rw[hc]at hRR hp
       have HR:=Lib.hid hRR
       have HPP:=Lib.hid hp
       clear hRR hp hne hc
       go_wp2_with fail
       refine HPP.out.mono ?_
       rintro e w3 ⟨rfl,hb3⟩
       have HB3:=Lib.hid (HBR.out.trans (hb3.mono HBR.out.size))
       clear hb3
       go_wp2_with fail
       go_roundw
       case rel=>exact⟨0,k+1,rfl,by go_num,by omega,Lib.hid ⟨HB3.out,.inr ⟨rfl,HR.out,HRS.out⟩⟩⟩
       case measure=>simp[RowKit.intOf];omega
      |some e0=>
       rw[hc]at hRR hp
       have h0:=hne e0 hc
       have HR:=Lib.hid hRR
       have HPP:=Lib.hid hp
       have HN0:=Lib.hid h0
       clear hRR hp hne hc h0
       go_wp2_with fail
       refine HPP.out.mono ?_
       rintro e w3 ⟨rfl,hb3⟩
       have HB3:=Lib.hid (HBR.out.trans (hb3.mono HBR.out.size))
       clear hb3
       go_wp2_with fail
       go_roundw
       case rel=>exact⟨e0,k+1,rfl,by go_num,by omega,Lib.hid ⟨HB3.out,.inl ⟨HN0.out,HR.out⟩⟩⟩
       case measure=>simp[RowKit.intOf];omega
     ·have HR:Hid (RR=(1,0)):=Lib.hid (by rw[hRR,List.drop_eq_nil_of_le (by omega),ckSs];rfl)
      clear hRR hrs
      go_wp2_with fail
      exact bodyPost_ret (v:= .tuple #[.int .i64 1,.int .i64 0]) (by simp[results,Tryz.results56]) rfl ⟨by rw[HR.out],HW.out⟩
  |false=>
   rw[ha]at hr
   have hot:=Lib.hid fun W (h:OwnsI (w.alloc (.cells #[.int .i64 16,.string S,.int .i64 tg,.int .i64 vl,.bool ab,.slice ok nk jk,.slice os ss.length js] 28)).heap.size W (.slice o' zs.length j') zs)=>other_any _ _ zs W h hlen
   rw[ha]at hot
   have HR0:Hid (RR=(0,35)):=Lib.hid (by rw[HRR.out,hr];rfl)
   clear hr ha
   go_wp2_with fail
   refine(hot.out w1 HO.out).mono ?_
   rintro e w2 ⟨rfl,hw2⟩
   have hw2:=hw2.symm
   subst hw2
   go_wp2_with fail
   go_loopw [13,14] (fun u v wr=>∃(b:Int) (k:Nat),u= .int .i64 b∧v= .int .i64 (k:Int)∧k≤ss.length∧Hid (Below (w.alloc (.cells #[.int .i64 16,.string S,.int .i64 tg,.int .i64 vl,.bool ab,.slice ok nk jk,.slice os ss.length js] 28)).heap.size (w.alloc (.cells #[.int .i64 16,.string S,.int .i64 tg,.int .i64 vl,.bool ab,.slice ok nk jk,.slice os ss.length js] 28)) wr∧((b≠0∧RR=(0,b))∨(b=0∧RR=pthS (ckSs (ss.drop k) n)∧rightSs (ss.drop k)=true)))) (fun _ v _=>ss.length-(RowKit.intOf v).toNat)
   case atStart=>exact⟨35,0,rfl,rfl,Nat.zero_le _,Lib.hid ⟨HX1.out,.inl ⟨by decide,HR0.out⟩⟩⟩
   case round=>
    obtain⟨b,k,rfl,rfl,hk,HI⟩:=hrel
    obtain⟨hbr,hI⟩:=HI.out
    clear HI
    have HBR:=Lib.hid hbr
    have HW:=Lib.hid (HB.out.trans (hbr.mono HB.out.size))
    obtain⟨c0,c1,c2,c3,c4,c5,c6⟩:=HC.out wr hbr
    clear hbr
    rcases hI with⟨hb0,hRR⟩|⟨rfl,hRR,hrs⟩
    ·have k0:(b==0)=false:=beq_eq_false_iff_ne.2 hb0
     have k1:(b != 0)=true:=bne_iff_ne.2 hb0
     have HR:=Lib.hid hRR
     clear hb0 hRR
     by_cases hlt:k<ss.length
     ·go_wp2_with fail
      exact bodyPost_ret (v:= .tuple #[.int .i64 0,.int .i64 b]) (by simp[results,Tryz.results56]) rfl ⟨by rw[HR.out],HW.out⟩
     ·go_wp2_with fail
      exact bodyPost_ret (v:= .tuple #[.int .i64 0,.int .i64 b]) (by simp[results,Tryz.results56]) rfl ⟨by rw[HR.out],HW.out⟩
    ·by_cases hlt:k<ss.length
     ·obtain⟨g,off,vp,rfl,hg,hat,hon⟩:=HSD.out.read k hlt
      rw[List.drop_eq_getElem_cons hlt,rightSs,Bool.and_eq_true]at hrs
      rw[List.drop_eq_getElem_cons hlt,ckSs]at hRR
      have hp:=HP.out k hlt vp hon hrs.1 wr HW.out
      have hne:=fun e=>ckS_ne ss[k] n e hrs.1
      obtain⟨a0,a1,a2,a3,a4⟩:=(hat.move (HW.out.block g hat.lt)).cells
      have hgl:g<wr.heap.size:=cell_lt a0
      generalize ss[k]=x at *
      have HRS:=Lib.hid hrs.2
      clear hrs hat hon a0 a1 a2 a3
      cases hc:ckS x n with
      |none=>
       rw[hc]at hRR hp
       have HR:=Lib.hid hRR
       have HPP:=Lib.hid hp
       clear hRR hp hne hc
       go_wp2_with fail
       refine HPP.out.mono ?_
       rintro e w3 ⟨rfl,hb3⟩
       have HB3:=Lib.hid (HBR.out.trans (hb3.mono HBR.out.size))
       clear hb3
       go_wp2_with fail
       go_roundw
       case rel=>exact⟨0,k+1,rfl,by go_num,by omega,Lib.hid ⟨HB3.out,.inr ⟨rfl,HR.out,HRS.out⟩⟩⟩
       case measure=>simp[RowKit.intOf];omega
      |some e0=>
       rw[hc]at hRR hp
       have h0:=hne e0 hc
       have HR:=Lib.hid hRR
       have HPP:=Lib.hid hp
       have HN0:=Lib.hid h0
       clear hRR hp hne hc h0
       go_wp2_with fail
       refine HPP.out.mono ?_
       rintro e w3 ⟨rfl,hb3⟩
       have HB3:=Lib.hid (HBR.out.trans (hb3.mono HBR.out.size))
       clear hb3
       go_wp2_with fail
       go_roundw
       case rel=>exact⟨e0,k+1,rfl,by go_num,by omega,Lib.hid ⟨HB3.out,.inl ⟨HN0.out,HR.out⟩⟩⟩
       case measure=>simp[RowKit.intOf];omega
     ·have HR:Hid (RR=(1,0)):=Lib.hid (by rw[hRR,List.drop_eq_nil_of_le (by omega),ckSs];rfl)
      clear hRR hrs
      go_wp2_with fail
      exact bodyPost_ret (v:= .tuple #[.int .i64 1,.int .i64 0]) (by simp[results,Tryz.results56]) rfl ⟨by rw[HR.out],HW.out⟩
 ·rw[if_neg h0]at hr
  have k0:(b==0)=false:=beq_eq_false_iff_ne.2 h0
  have HN0:=Lib.hid h0
  have HR0:Hid (RR=(0,b)):=Lib.hid (by rw[HRR.out,hr];rfl)
  clear hr h0
  go_wp2_with fail
  go_loopw [13,14] (fun u v wr=>∃(b:Int) (k:Nat),u= .int .i64 b∧v= .int .i64 (k:Int)∧k≤ss.length∧Hid (Below (w.alloc (.cells #[.int .i64 16,.string S,.int .i64 tg,.int .i64 vl,.bool ab,.slice ok nk jk,.slice os ss.length js] 28)).heap.size (w.alloc (.cells #[.int .i64 16,.string S,.int .i64 tg,.int .i64 vl,.bool ab,.slice ok nk jk,.slice os ss.length js] 28)) wr∧((b≠0∧RR=(0,b))∨(b=0∧RR=pthS (ckSs (ss.drop k) n)∧rightSs (ss.drop k)=true)))) (fun _ v _=>ss.length-(RowKit.intOf v).toNat)
  case atStart=>exact⟨b,0,rfl,rfl,Nat.zero_le _,Lib.hid ⟨HX1.out,.inl ⟨HN0.out,HR0.out⟩⟩⟩
  case round=>
   obtain⟨b,k,rfl,rfl,hk,HI⟩:=hrel
   obtain⟨hbr,hI⟩:=HI.out
   clear HI
   have HBR:=Lib.hid hbr
   have HW:=Lib.hid (HB.out.trans (hbr.mono HB.out.size))
   obtain⟨c0,c1,c2,c3,c4,c5,c6⟩:=HC.out wr hbr
   clear hbr
   rcases hI with⟨hb0,hRR⟩|⟨rfl,hRR,hrs⟩
   ·have k0:(b==0)=false:=beq_eq_false_iff_ne.2 hb0
    have k1:(b != 0)=true:=bne_iff_ne.2 hb0
    have HR:=Lib.hid hRR
    clear hb0 hRR
    by_cases hlt:k<ss.length
    ·go_wp2_with fail
     exact bodyPost_ret (v:= .tuple #[.int .i64 0,.int .i64 b]) (by simp[results,Tryz.results56]) rfl ⟨by rw[HR.out],HW.out⟩
    ·go_wp2_with fail
     exact bodyPost_ret (v:= .tuple #[.int .i64 0,.int .i64 b]) (by simp[results,Tryz.results56]) rfl ⟨by rw[HR.out],HW.out⟩
   ·by_cases hlt:k<ss.length
    ·obtain⟨g,off,vp,rfl,hg,hat,hon⟩:=HSD.out.read k hlt
     rw[List.drop_eq_getElem_cons hlt,rightSs,Bool.and_eq_true]at hrs
     rw[List.drop_eq_getElem_cons hlt,ckSs]at hRR
     have hp:=HP.out k hlt vp hon hrs.1 wr HW.out
     have hne:=fun e=>ckS_ne ss[k] n e hrs.1
     obtain⟨a0,a1,a2,a3,a4⟩:=(hat.move (HW.out.block g hat.lt)).cells
     have hgl:g<wr.heap.size:=cell_lt a0
     generalize ss[k]=x at *
     have HRS:=Lib.hid hrs.2
     clear hrs hat hon a0 a1 a2 a3
     cases hc:ckS x n with
     |none=>
      rw[hc]at hRR hp
      have HR:=Lib.hid hRR
      have HPP:=Lib.hid hp
      clear hRR hp hne hc
      go_wp2_with fail
      refine HPP.out.mono ?_
      rintro e w3 ⟨rfl,hb3⟩
      have HB3:=Lib.hid (HBR.out.trans (hb3.mono HBR.out.size))
      clear hb3
      go_wp2_with fail
      go_roundw
      case rel=>exact⟨0,k+1,rfl,by go_num,by omega,Lib.hid ⟨HB3.out,.inr ⟨rfl,HR.out,HRS.out⟩⟩⟩
      case measure=>simp[RowKit.intOf];omega
     |some e0=>
      rw[hc]at hRR hp
      have h0:=hne e0 hc
      have HR:=Lib.hid hRR
      have HPP:=Lib.hid hp
      have HN0:=Lib.hid h0
      clear hRR hp hne hc h0
      go_wp2_with fail
      refine HPP.out.mono ?_
      rintro e w3 ⟨rfl,hb3⟩
      have HB3:=Lib.hid (HBR.out.trans (hb3.mono HBR.out.size))
      clear hb3
      go_wp2_with fail
      go_roundw
      case rel=>exact⟨e0,k+1,rfl,by go_num,by omega,Lib.hid ⟨HB3.out,.inl ⟨HN0.out,HR.out⟩⟩⟩
      case measure=>simp[RowKit.intOf];omega
    ·have HR:Hid (RR=(1,0)):=Lib.hid (by rw[hRR,List.drop_eq_nil_of_le (by omega),ckSs];rfl)
     clear hRR hrs
     go_wp2_with fail
     exact bodyPost_ret (v:= .tuple #[.int .i64 1,.int .i64 0]) (by simp[results,Tryz.results56]) rfl ⟨by rw[HR.out],HW.out⟩
end Char
end Go.Proofs.YtlmpkpjjakallaaGreatDoor
