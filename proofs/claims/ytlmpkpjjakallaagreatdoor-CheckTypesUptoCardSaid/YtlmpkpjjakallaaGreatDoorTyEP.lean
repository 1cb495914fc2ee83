import Derived.Test.YtlmpkpjjakallaaGreatDoorPt30
namespace Go.Proofs.YtlmpkpjjakallaaGreatDoor
namespace Char
open Go.RowKit Go.Lib
theorem of_to {f:Nat}{args:Array Value}{w:World}{a b:Int×Int}(h:Calls Tryz.prog f args w fun e w'=>e= .returned (.tuple #[.int .i64 a.1,.int .i64 a.2])∧Below w.heap.size w w')(hab:a=b):Calls Tryz.prog f args w fun e w'=>e= .returned (.tuple #[.int .i64 b.1,.int .i64 b.2])∧Below w.heap.size w w':=by rw[←hab];exact h
theorem fB_ns {op tg vl:Int}{s:List UInt8}{ab:Bool}{nk ns:Nat}(h:op≠16)(hf:fieldsB op tg vl s ab nk ns=true):ns=0:=by
 by_cases h0:ns=0
 ·exact h0
 ·rw[fB_way h (by unfold way0;rw[decide_eq_false h0,Bool.and_false])]at hf
  cases hf
theorem fB_in {op tg vl:Int}{s:List UInt8}{ab:Bool}{nk ns:Nat}(hf:fieldsB op tg vl s ab nk ns=true):1≤op∧op≤21:=by
 by_cases h:op<1∨21<op
 ·rw[fB_out h]at hf;cases hf
 ·omega
theorem fB_17 {tg vl:Int}{s:List UInt8}{ab:Bool}{nk ns:Nat}(hf:fieldsB 17 tg vl s ab nk ns=true):2≤nk:=by
 simp[fieldsB]at hf
 exact hf.2.2.1
theorem fB_18 {tg vl:Int}{s:List UInt8}{ab:Bool}{nk ns:Nat}(hf:fieldsB 18 tg vl s ab nk ns=true):nk=0:=by
 simp[fieldsB]at hf
 exact hf.2.2.1
theorem fB_19 {tg vl:Int}{s:List UInt8}{ab:Bool}{nk ns:Nat}(hf:fieldsB 19 tg vl s ab nk ns=true):nk=0:=by
 simp[fieldsB]at hf
 exact hf.2.2.1
set_option maxRecDepth 100000 in
set_option maxHeartbeats 2000000 in
theorem of_of (c:Nat)(hO:OfC c)(hcm:c≤1001):OfC (c+1):=by
 intro x vk vs n w F hc hw hr hn hx
 obtain⟨op,s,tg,vl,ab,ks,ss⟩:=x
 obtain⟨hx1,hx2⟩:=ExOn.iff.1 hx
 change KdOn w F vk ks at hx1
 change SdOn w F vs ss at hx2
 obtain⟨ok,jk,rfl⟩:=hx1.form
 obtain⟨os,js,rfl⟩:=hx2.form
 have hcd:=cntE_def (.mk op s tg vl ab ks ss)
 rw[hcd]at hc
 change 1+cntEs ks+cntSs ss≤c+1 at hc
 obtain⟨⟨_,_,_,hsl,_⟩,hwk,hws⟩:=(wfE_def _ _).1 hw
 change wfEs 1048576 ks at hwk
 change wfSs 1048576 ss at hws
 rw[rightE,Bool.and_eq_true,Bool.and_eq_true]at hr
 obtain⟨hf,hrk,hrs⟩:=hr
 have hop:=fB_in hf
 have KK:∀W,Below w.heap.size w W→Calls Tryz.prog 93 #[.slice ok ks.length jk,.int .i64 (n:Int)] W (KdsP W (ckKs ks n)):=fun W hW=>kids15_of c hO ks _ n W F (by omega) hcm hwk hrk hn (hx1.below hW)
 have hsl2:=cntSs_len ss
 show Calls Tryz.prog 56 #[.agg #[.int .i64 op,.string (bs s),.int .i64 tg,.int .i64 vl,.bool ab,.slice ok ks.length jk,.slice os ss.length js],.int .i64 (n:Int)] w _
 by_cases h21:op=21
 ·subst h21
  exact of_to (a:=(0,32)) (of_var tg vl (bs s) ab ok os ks.length jk ss.length js n w) (by rw[ckE];rfl)
 by_cases h20:op=20
 ·subst h20
  refine of_to (of_cal tg vl (bs s) ab ok os ks.length jk ss.length js n w (ckKs ks n) (fnF s) (fun W=>refFn_any s W) KK) ?_
  rw[ckE,if_neg (by decide),if_neg (by decide),if_neg (by decide),if_neg (by decide),if_neg (by decide),if_neg (by decide),if_neg (by decide),if_pos rfl]
  cases fnF s with
  |none=>rfl
  |some f=>
   show(if (ks.length:Int)<f.least∨f.most<(ks.length:Int) then ((0,33):Int×Int) else ckR (finT f.nodes f.ty (ckKs ks n)))=ckR (if (ks.length:Int)<f.least∨f.most<(ks.length:Int) then .inl 33 else finT f.nodes f.ty (ckKs ks n))
   split<;>rfl
 by_cases h16:op=16
 ·subst h16
  refine of_to (of_pth tg vl (bs s) ab ok os ks.length jk js n ss w F (ckKs ks n) (by omega) hrs (Lib.hid hx2) KK (Lib.hid fun k hk vp hon hrr W hW=> ?_)) ?_
  ·have hcs:=cntSs_at ss k hk
   have hcd2:=cntS_def ss[k]
   have hw2:=(wfS_def _ _).1 (wfSs_at hws k hk)
   have hr2:=rightS_def ss[k]
   rw[hrr]at hr2
   have hr3:=(Bool.and_eq_true _ _▸hr2.symm:_∧_)
   rw[ckS_def]
   exact preds15_of c hO ss[k].ps vp n W F (by omega) hcm hw2.2 hr3.2 hn ((StOn.iff.1 hon).below hW)
  ·rw[ckE,if_neg (by decide),if_neg (by decide),if_neg (by decide),if_pos rfl]
   cases ckKs ks n with
   |inl e=>rfl
   |inr b=>
    cases b
    ·rfl
    ·cases ckSs ss n<;>rfl
 have hns:=fB_ns h16 hf
 by_cases h17:op=17
 ·subst h17
  have hl:=fB_17 hf
  cases ks with
  |nil=>simp at hl
  |cons k0 kr=>
   rw[List.length_cons]at *
   obtain⟨g,off,va,ua,rfl,hg,hat,hko⟩:=hx1.read 0 (by simp)
   have hcap:=hx1.cap (by simp)
   rw[List.length_cons]at hcap
   have htl:=hx1.tail
   simp only[List.getElem_cons_zero,Nat.zero_mul,Nat.add_zero]at hat hko
   have hone:KdOn w F (.slice (some ⟨g,off,none⟩) 1 jk) [k0]:=⟨_,_,rfl,.inr ⟨g,off,rfl,⟨hg,by simp;omega⟩,KsOn.of fun k hk=>by
    have :k=0:=by simp at hk;omega
    subst this
    simp only[List.getElem_cons_zero,Nat.zero_mul,Nat.add_zero]
    exact⟨va,ua,hat,hko⟩⟩⟩
   rw[rightEs,Bool.and_eq_true]at hrk
   rw[cntEs]at hc
   rw[wfEs]at hwk
   refine of_to (of_flt tg vl (bs s) ab os g off kr.length jk ss.length js n w (ckKs [k0] n) ((ckPs kr n).getD 0) hcap (by omega)
    (fun W hW=>kids15_of c hO [k0] _ n W F (by rw[cntEs,cntEs];omega) hcm (by rw[wfEs,wfEs];exact⟨hwk.1,trivial⟩) (by rw[rightEs,hrk.1,rightEs];rfl) hn (hone.below hW))
    (fun W hW=>preds15_of c hO kr _ n W F (by omega) hcm hwk.2 hrk.2 hn (htl.below hW))) ?_
   have hpn:=fun e=>ckPs_ne kr n e hrk.2
   rw[ckE,if_neg (by decide),if_neg (by decide),if_neg (by decide),if_neg (by decide),if_pos (by decide),ckF,ckKs,ckKs]
   cases ckE k0 n with
   |inl e=>rfl
   |inr t=>
    dsimp only
    by_cases h:t=1
    ·rw[if_pos h,decide_eq_true h]
     cases hp:ckPs kr n with
     |none=>rfl
     |some e=>
      have :=hpn e hp
      simp[fltR,ckR,this]
    ·rw[if_neg h,decide_eq_false h]
     rfl
 rw[hns]
 have f21:(op==21)=false:=beq_eq_false_iff_ne.2 h21
 have f20:(op==20)=false:=beq_eq_false_iff_ne.2 h20
 have f17:(op==17)=false:=beq_eq_false_iff_ne.2 h17
 have f16:(op==16)=false:=beq_eq_false_iff_ne.2 h16
 by_cases h14:op=14
 ·subst h14
  exact of_to (of_uni tg vl (bs s) ab ok os ks.length jk js n w (ckKs ks n) KK) (by rw[ckE,if_neg (by decide),if_neg (by decide),if_pos rfl])
 have f14:(op==14)=false:=beq_eq_false_iff_ne.2 h14
 by_cases h18:op=18
 ·subst h18
  have hk0:=List.eq_nil_of_length_eq_zero (fB_18 hf)
  exact of_to (of_lit tg vl (bs s) ab ok os ks.length jk js n w (ckKs ks n) KK) (by rw[hk0,ckE,ckKs];rfl)
 have f18:(op==18)=false:=beq_eq_false_iff_ne.2 h18
 by_cases h8:op≤8
 ·exact of_to (of_low op tg vl (bs s) ab ok os ks.length jk js n w (ckKs ks n) KK f21 f20 f17 f14 f16 h8) (by rw[ckE,if_pos (by omega)])
 ·refine of_to (of_num op tg vl (bs s) ab ok os ks.length jk js n w (ckKs ks n) KK f21 f20 f17 f14 f16 h8 f18) ?_
  by_cases h19:op=19
  ·subst h19
   have hk0:=List.eq_nil_of_length_eq_zero (fB_19 hf)
   rw[hk0,ckE,ckKs]
   rfl
  ·rw[ckE,if_neg (by omega),if_pos (by omega)]
theorem of_any:∀c,c≤1002→OfC c
 |0,_=>fun x _ _ _ _ _ hc=>by have :=cntE_pos x;omega
 |c+1,h=>of_of c (of_any c (by omega)) (by omega)
end Char
end Go.Proofs.YtlmpkpjjakallaaGreatDoor
