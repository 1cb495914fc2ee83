import Derived.Test.YtlmpkpjjakallaaGreatDoorPk17
import Derived.Test.YtlmpkpjjakallaaGreatDoorPk06
import Derived.Test.YtlmpkpjjakallaaGreatDoorPk05
import Derived.Test.YtlmpkpjjakallaaGreatDoorPk07
namespace Go.Proofs.YtlmpkpjjakallaaGreatDoor
namespace Char
open Go.RowKit Go.Lib
open Go.Proofs.YtlmpkpjjakallaaGreatDoor.Fig (outT outV)
def OrP (w:World)(r:Option Ex)(e:Ending)(w':World):Prop:=
 Below w.heap.size w w'∧∃x vk vs b,e= .returned (.tuple #[exV x vk vs,.bool b])∧ExOn w' (w.heap.size≤ ·) x vk vs∧r=if b=true then some x else none
def OrC (N:Nat)(O:List Wd→Option Ex):Prop:=∀(l:List Wd) (o:Option Addr) (c:Nat) (W:World),WSl W o c l→l.length<N→l.length≤800→Calls Tryz.prog 29 #[.slice o l.length c,.int .i64 0] W (OrP W (O l))
def PdP (w:World)(l:List Wd)(q:Option (List Ex×List Wd))(e:Ending)(w':World):Prop:=
 Below w.heap.size w w'∧((q=none∧e= .returned (.tuple #[.slice none 0 0,.int .i64 (-1)]))∨∃xs r v,q=some (xs.map (·.1),r)∧RowEx w.heap.size w' v xs∧xs.length≤l.length∧e= .returned (.tuple #[v,.int .i64 ((l.length:Int)-(r.length:Int))]))
theorem predsD_no {O:List Wd→Option Ex}{f:Nat}{l:List Wd}{acc:List Ex}(h:aheadL 1 [91] l=false):predsD O (f+1) l acc=some (acc,l):=by
 rw[predsD,if_neg (by rw[h];simp)]
theorem predsD_np {O:List Wd→Option Ex}{f:Nat}{x:Wd}{l:List Wd}{acc:List Ex}(h:mkW [91] x=true)(hp:partR [[91]] l=none):predsD O (f+1) (x::l) acc=none:=by
 rw[predsD,if_pos (show aheadL 1 [91] (x::l)=true from h),List.tail_cons,hp]
theorem predsD_gn {O:List Wd→Option Ex}{f:Nat}{x:Wd}{l u r:List Wd}{acc:List Ex}(h:mkW [91] x=true)(hp:partR [[91]] l=some (u,r))(ho:O u=none):predsD O (f+1) (x::l) acc=none:=by
 rw[predsD,if_pos (show aheadL 1 [91] (x::l)=true from h),List.tail_cons,hp]
 dsimp only
 rw[ho]
theorem predsD_gs {O:List Wd→Option Ex}{f:Nat}{x:Wd}{l u r:List Wd}{acc:List Ex}{y:Ex}(h:mkW [91] x=true)(hp:partR [[91]] l=some (u,r))(ho:O u=some y):predsD O (f+1) (x::l) acc=predsD O f r (acc++[y]):=by
 rw[predsD,if_pos (show aheadL 1 [91] (x::l)=true from h),List.tail_cons,hp]
 dsimp only
 rw[ho]
theorem PdP.of {w w':World}{ts:List Wd}{k:Nat}{xs:List (Ex×Value×Value)}{v:Value}{R:Option (List Ex×List Wd)}(hb:Below w.heap.size w w')(hR:some (xs.map (·.1),ts.drop k)=R)(hr:RowEx w.heap.size w' v xs)(hx:xs.length≤ts.length)(hk:k≤ts.length):PdP w ts R (.returned (.tuple #[v,.int .i64 (k:Int)])) w':=by
 refine⟨hb,.inr ⟨xs,ts.drop k,v,hR.symm,hr,hx,?_⟩⟩
 rw[List.length_drop,show(ts.length:Int)-((ts.length-k:Nat):Int)=(k:Int) by omega]
theorem mkW_opn91 {x:Wd}(h:mkW [91] x=true):opnW x=true∧x.s=[91]:=⟨by unfold opnW;rw[h];simp,(mkW_iff.1 h).2⟩
theorem par_at {ts:List Wd}{k:Nat}(hk:k<ts.length)(h:mkW [91] ts[k]=true):parI k (partR [] (ts.drop k))=parI (k+1) (partR [[91]] (ts.drop (k+1))):=by
 rw[List.drop_eq_getElem_cons hk,parI_opn k (mkW_opn91 h).1,(mkW_opn91 h).2]
theorem par_split {t:List UInt8}{l u r:List Wd}(h:partR [t] l=some (u,r)):∃c,l=u++c::r:=by
 obtain⟨c,h1,_⟩:=partR_out l [] t u r h
 exact⟨c,h1⟩
theorem endS2 {fn:Func}{p q:Tmp}(h:fn.results= #[.tmp p,.tmp q]){a:Act}{R:Ending→World→Prop}{w1:World}{u v:Value}(hp:a.tmps.getD p undef=u)(hq:a.tmps.getD q undef=v)(hd:a.defers=[])(hR:R (.returned (.tuple #[u,v])) w1):bodyPost Tryz.prog fn R .ret a w1:=by
 have hp':a.tmps[p]?.getD undef=u:=by simpa using hp
 have hq':a.tmps[q]?.getD undef=v:=by simpa using hq
 exact bodyPost_ret (by simp[results,h,hp',hq',go_sem]) hd hR
theorem WSl.sub {w:World}{g off c:Nat}{ts:List Wd}(h:WSl w (some ⟨g,off,none⟩) c ts)(a b:Nat)(hab:a≤b)(hb:b≤ts.length):WSl w (some ⟨g,off+a*4,none⟩) (c-a) ((ts.take b).drop a):=by
 have h1:=h.1
 refine⟨by rw[List.length_drop,List.length_take];omega,?_⟩
 rcases h.2 with h2|⟨g',off',e,h2⟩
 ·subst h2;left;simp
 ·cases e
  refine .inr ⟨g,off+a*4,rfl,fun j hj i u hu=> ?_⟩
  rw[List.length_drop,List.length_take]at hj
  rw[List.getElem_drop,List.getElem_take]at hu
  have :=h2 (a+j) (by omega) i u hu
  rwa [show off+(a+j)*4+i=off+a*4+j*4+i by omega]at this
theorem OrP.no {w w':World}{e:Ending}(h:OrP w none e w'):∃x vk vs,e= .returned (.tuple #[exV x vk vs,.bool false])∧Below w.heap.size w w'∧ExOn w' (w.heap.size≤ ·) x vk vs:=by
 obtain⟨hb,x,vk,vs,b,rfl,ho,hr⟩:=h
 cases b with
 |true=>cases hr
 |false=>exact⟨x,vk,vs,rfl,hb,ho⟩
theorem OrP.yes {w w':World}{e:Ending}{y:Ex}(h:OrP w (some y) e w'):∃vk vs,e= .returned (.tuple #[exV y vk vs,.bool true])∧Below w.heap.size w w'∧ExOn w' (w.heap.size≤ ·) y vk vs:=by
 obtain⟨hb,x,vk,vs,b,rfl,ho,hr⟩:=h
 cases b with
 |false=>cases hr
 |true=>
  cases hr
  exact⟨vk,vs,rfl,hb,ho⟩
set_option maxRecDepth 100000 in
set_option maxHeartbeats 8000000 in
theorem refPreds_any (N:Nat)(O:List Wd→Option Ex)(hO:OrC N O)(ts:List Wd)(o:Option Addr)(c:Nat)(w:World)(h:WSl w o c ts)(hn:ts.length≤N)(hl:ts.length≤800):
 Calls Tryz.prog 185 #[.slice o ts.length c] w (PdP w ts (predsD O (ts.length+1) ts [])):=by
 obtain⟨R,hR⟩:∃R,predsD O (ts.length+1) ts []=R:=⟨_,rfl⟩
 rw[hR]
 have HR0:=Lib.hid hR
 have H:=Lib.hid h
 have HO:=Lib.hid hO
 have HNL:=Lib.hid hn
 have HM:=Lib.hid fun(x:Wd) (W:World)=>mark13_any x [91] W
 unfold BoP wdV at HM
 clear hR h hO hn
 go_enter Tryz.func185,Tryz.ntmps185
 go_wp2_with fail
 go_loopw [4,5] (fun v4 v wr=>∃(k f:Nat) (xs:List (Ex×Value×Value)) (o4:Option Addr) (j4:Nat),v= .int .i64 (k:Int)∧v4= .slice o4 xs.length j4∧k≤ts.length∧xs.length≤k∧Hid (RowEx w.heap.size wr v4 xs∧Below w.heap.size w wr∧ts.length<f+k∧predsD O f (ts.drop k) (xs.map (·.1))=R)) (fun _ v _=>ts.length-(RowKit.intOf v).toNat)
 case atStart=>exact⟨0,ts.length+1,[],none,0,rfl,rfl,by omega,by simp,Lib.hid ⟨RowEx.nil _ _,Below.refl _ _,by omega,HR0.out⟩⟩
 case round=>
  obtain⟨k,f,xs,o4,j4,rfl,rfl,hk,hx,HI⟩:=hrel
  obtain⟨hrow,hbw,hf,hg⟩:=HI.out
  obtain⟨f,rfl⟩:∃m,f=m+1:=⟨f-1,by omega⟩
  by_cases hlt:k<ts.length
  ·have l1:(k:Int)<(ts.length:Int):=by omega
   have l0:decide ((k:Int)<(ts.length:Int))=true:=decide_eq_true l1
   obtain⟨g,off,rfl,hgl,x0,x1,x2,x3⟩:=(H.out.below hbw).word k hlt
   have hdr:=List.drop_eq_getElem_cons hlt
   rw[hdr]at hg
   cases hm:mkW [91] ts[k] with
   |false=>
    rw[predsD_no (show aheadL 1 [91] (ts[k]::ts.drop (k+1))=false from hm),←hdr]at hg
    have HMX:=Lib.hid fun W=>HM.out ts[k] W
    rw[hm]at HMX
    have HGE:=Lib.hid hg
    have HRW:=Lib.hid hrow
    have HBW:=Lib.hid hbw
    generalize ts[k]=x at *
    clear hg hrow hbw hm hdr HI HR0 hf
    go_wp2_with (first
     |(go_at_call 89
       refine(HMX.out _).mono ?_
       rintro e w1 ⟨rfl,hb1⟩
       have HB1:=Lib.hid hb1
       clear hb1))
    refine endS2 Tryz.results185 rfl rfl rfl ?_
    exact PdP.of (HBW.out.trans (HB1.out.mono HBW.out.size)) HGE.out (HRW.out.below HB1.out) (by omega) hk
   |true=>
    have hpa:=par_at hlt hm
    have HMX:=Lib.hid fun W=>HM.out ts[k] W
    rw[hm]at HMX
    have HPX:Hid (∀W,Below w.heap.size w W→Calls Tryz.prog 201 #[.slice (some ⟨g,off,none⟩) ts.length c,.int .i64 (k:Int)] W fun e w'=>e= .returned (.int .i64 (parI (k+1) (partR [[91]] (ts.drop (k+1)))))∧Below W.heap.size W w'):=Lib.hid fun W hW=>by
     have :=partner_any ts _ c k W (H.out.below hW) hlt hl (mkW_opn91 hm).1
     rwa [hpa]at this
    cases hp:partR [[91]] (ts.drop (k+1)) with
    |none=>
     rw[predsD_np hm hp]at hg
     rw[hp]at HPX
     have HPX:Hid (∀W,Below w.heap.size w W→Calls Tryz.prog 201 #[.slice (some ⟨g,off,none⟩) ts.length c,.int .i64 (k:Int)] W fun e w'=>e= .returned (.int .i64 (-1))∧Below W.heap.size W w'):=HPX
     have HGE:=Lib.hid hg
     have HBW:=Lib.hid hbw
     generalize ts[k]=x at *
     clear hg hrow hbw hm hdr HI HR0 hf hpa hp
     go_wp2_with (first
      |(go_at_call 89
        refine(HMX.out _).mono ?_
        rintro e w1 ⟨rfl,hb1⟩
        have HB1:=Lib.hid (HBW.out.trans (hb1.mono HBW.out.size))
        clear hb1)
      |(go_at_call 201
        refine(HPX.out _ HB1.out).mono ?_
        rintro e w2 ⟨rfl,hb2⟩
        have HB2:=Lib.hid (HB1.out.trans (hb2.mono HB1.out.size))
        clear hb2))
     refine endS2 Tryz.results185 rfl rfl rfl ?_
     exact⟨HB2.out,.inl ⟨HGE.out.symm,rfl⟩⟩
    |some ur=>
     obtain⟨u,r⟩:=ur
     obtain⟨cl,hsp⟩:=par_split hp
     have hle:u.length+1+r.length+(k+1)=ts.length:=by
      have :=congrArg List.length hsp
      rw[List.length_drop,List.length_append,List.length_cons]at this
      omega
     rw[hp]at HPX
     obtain⟨q,hq⟩:∃q,k+1+u.length=q:=⟨_,rfl⟩
     have HPX:Hid (∀W,Below w.heap.size w W→Calls Tryz.prog 201 #[.slice (some ⟨g,off,none⟩) ts.length c,.int .i64 (k:Int)] W fun e w'=>e= .returned (.int .i64 (q:Int))∧Below W.heap.size W w'):=Lib.hid fun W hW=>by
      have :=HPX.out W hW
      rw[←hq]
      exact this
     have hcl:=H.out.1
     have hmid:=(H.out.mid (k+1) q (by omega) (by omega))
     have hu:(ts.take q).drop (k+1)=u:=by
      rw[←hq,List.drop_take,hsp,show k+1+u.length-(k+1)=u.length by omega,List.take_left]
     have hr:ts.drop (q+1)=r:=by
      rw[←hq,show k+1+u.length+1=(k+1)+(u.length+1) by omega,←List.drop_drop,hsp,List.drop_append,List.drop_eq_nil_of_le (by omega),List.nil_append,show u.length+1-u.length=1 by omega]
      rfl
     have q1:decide ((q:Int)<0)=false:=decide_eq_false (by omega)
     have q2:(k:Int)+1≤(q:Int):=by omega
     have q3:(q:Int)≤(c:Int):=by omega
     have q4:¬c=k+1:=by omega
     have q5:k+1≤q:=by omega
     have q6:q≤c:=by omega
     have q7:q<ts.length:=by omega
     have HOX:Hid (∀W,Below w.heap.size w W→Calls Tryz.prog 29 #[.slice (some ⟨g,off+(k+1)*4,none⟩) (q-(k+1)) (c-(k+1)),.int .i64 0] W (OrP W (O u))):=Lib.hid fun W hW=>by
      have hws:=(H.out.below hW).sub (k+1) q (by omega) (by omega)
      rw[hu]at hws
      have :=HO.out u _ _ W hws (by have :=HNL.out;omega) (by omega)
      rwa [show u.length=q-(k+1) by omega]at this
     have HBW:=Lib.hid hbw
     cases ho:O u with
     |none=>
      rw[predsD_gn hm hp ho]at hg
      rw[ho]at HOX
      have HGE:=Lib.hid hg
      generalize ts[k]=x at *
      clear hg hrow hbw hm hdr HI HR0 hf hpa hp hmid hsp hq hu hr hle hcl
      go_wp2_with (first
      |(go_at_call 89
        refine(HMX.out _).mono ?_
        rintro e w1 ⟨rfl,hb1⟩
        have HB1:=Lib.hid (HBW.out.trans (hb1.mono HBW.out.size))
        have HS1:=Lib.hid hb1
        clear hb1)
      |(go_at_call 201
        refine(HPX.out _ HB1.out).mono ?_
        rintro e w2 ⟨rfl,hb2⟩
        have HB2:=Lib.hid (HB1.out.trans (hb2.mono HB1.out.size))
        have HS2:=Lib.hid (HS1.out.trans (hb2.mono HS1.out.size))
        clear hb2)
      |(go_at_call 29
        refine(HOX.out _ HB2.out).mono ?_
        intro e w3 h3
        obtain⟨y,vk,vs,rfl,hb3,ho3⟩:=OrP.no h3
        unfold exV
        obtain⟨⟨o1,j1,rfl,_⟩,⟨o2,j2,rfl,_⟩⟩:=ExOn.iff.1 ho3
        have HB3:=Lib.hid (HB2.out.trans (hb3.mono HB2.out.size))
        clear h3 hb3 ho3))
      refine endS2 Tryz.results185 rfl rfl rfl ?_
      exact⟨HB3.out.alloc HB3.out.size _,.inl ⟨HGE.out.symm,rfl⟩⟩
     |some y=>
      rw[predsD_gs hm hp ho]at hg
      rw[ho]at HOX
      have HGE:=Lib.hid hg
      have HRW:=Lib.hid hrow
      have HRR:=Lib.hid hr
      have HF:=Lib.hid hf
      generalize ts[k]=x at *
      clear hg hrow hbw hm hdr HI HR0 hf hpa hp hmid hsp hq hu hr hle hcl
      go_wp2_with (first
      |(go_at_call 89
        refine(HMX.out _).mono ?_
        rintro e w1 ⟨rfl,hb1⟩
        have HB1:=Lib.hid (HBW.out.trans (hb1.mono HBW.out.size))
        have HS1:=Lib.hid hb1
        clear hb1)
      |(go_at_call 201
        refine(HPX.out _ HB1.out).mono ?_
        rintro e w2 ⟨rfl,hb2⟩
        have HB2:=Lib.hid (HB1.out.trans (hb2.mono HB1.out.size))
        have HS2:=Lib.hid (HS1.out.trans (hb2.mono HS1.out.size))
        clear hb2)
      |(go_at_call 29
        refine(HOX.out _ HB2.out).mono ?_
        intro e w3 h3
        obtain⟨vk,vs,rfl,hb3,ho3⟩:=OrP.yes h3
        unfold exV
        have HB3:=Lib.hid ((HB2.out.trans (hb3.mono HB2.out.size)).alloc (Nat.le_trans HB2.out.size hb3.size) (boxEx y vk vs))
        have HS3:=Lib.hid ((HS2.out.trans (hb3.mono HS2.out.size)).trans ((below_box (boxEx y vk vs)).mono (Nat.le_trans HS2.out.size hb3.size)))
        have Q5:=Lib.hid (HRW.out.below HS3.out)
        have Q6:=Lib.hid (row_apart HRW.out HS2.out.size HB2.out.size (ExOn.move (fun b hb hF=>⟨hF,(below_box (w:=w3) (boxEx y vk vs)).block b hb⟩) _ _ _ ho3))
        have HY:=Lib.hid ho3
        obtain⟨⟨o1,j1,rfl,_⟩,⟨o2,j2,rfl,_⟩⟩:=ExOn.iff.1 ho3
        clear h3 hb3 ho3)
      |(at_builtin
        refine wpList_pushEx (W:=w3.alloc (boxEx y _ _)) rfl (.tmp 36) (.tmp 38) rfl y _ _ Q5.out Q6.out rfl (by simp[Act.eval]) HB3.out.size (by omega) ?_
        intro v' w4 hr4 hb4
        obtain⟨o',j',hv⟩:=hr4.form
        have hv2:v'= .slice o' (xs.length+1) j':=by rw[hv];simp
        subst hv2
        clear hv
        have P1:=Lib.hid hr4
        have P2:=Lib.hid (HB3.out.trans hb4)
        clear hr4 hb4))
      go_roundw
      case rel=>exact⟨q+1,f,xs++[(y,_,_)],o',j',by go_num,by simp,by omega,by simp;omega,Lib.hid ⟨P1.out,P2.out,by have :=HF.out;omega,by rw[HRR.out,List.map_append];exact HGE.out⟩⟩
      case measure=>simp[RowKit.intOf];omega
  ·have e:k=ts.length:=by omega
   subst e
   rw[List.drop_length,predsD_no rfl]at hg
   have l0:decide ((ts.length:Int)<(ts.length:Int))=false:=decide_eq_false (by omega)
   have HGE:=Lib.hid hg
   have HRW:=Lib.hid hrow
   have HBW:=Lib.hid hbw
   clear hg hrow hbw HI HR0 hf
   go_wp2_with fail
   refine endS2 Tryz.results185 rfl rfl rfl ?_
   exact PdP.of HBW.out (by rw[List.drop_length];exact HGE.out) HRW.out (by omega) (Nat.le_refl _)
end Char
namespace Char
open Go.RowKit Go.Lib
open Go.Proofs.YtlmpkpjjakallaaGreatDoor.Fig (outT outV)
theorem endOr {fn:Func}(h:fn.results= #[.cell 2 28,.tmp 3]){a:Act}{w:World}(w3:World)(x:Ex)(vk vs:Value)(b:Bool){o:Ex}{ok os:Value}{r:Option Ex}(hk:w3.heap[w.heap.size]? =some (boxEx o ok os))(hb:Below w.heap.size w w3)(ho:ExOn w3 (w.heap.size+1≤ ·) x vk vs)(hr:r=if b=true then some x else none)
 (hp:a.tmps.getD 2 undef= .pointer (some ⟨w.heap.size,0,none⟩)) (hq:a.tmps.getD 3 undef= .bool b) (hd:a.defers=[]):bodyPost Tryz.prog fn (OrP w r) .ret a (setEx w3 w.heap.size x vk vs):=by
 have hp':a.tmps[2]?.getD undef= .pointer (some ⟨w.heap.size,0,none⟩):=by simpa using hp
 have hq':a.tmps[3]?.getD undef= .bool b:=by simpa using hq
 obtain⟨⟨a0,a1,a2,a3,a4,a5,a6⟩,_⟩:=boxEx_blk (setEx_at (x:=x) (vk:=vk) (vs:=vs) hk)
 exact bodyPost_ret (by simp[results,h,hp',hq',go_sem,a0,a1,a2,a3,a4,a5,a6,exV]) hd ⟨setEx_below hb (Nat.le_refl _),x,vk,vs,b,rfl,ExOn.move (fun k _ hF=>⟨Nat.le_of_succ_le hF,setEx_ne (by omega)⟩) _ _ _ ho,hr⟩
theorem box_ex {w w1:World}(hb:Below (w.alloc (boxEx ex0 (.slice none 0 0) (.slice none 0 0))).heap.size (w.alloc (boxEx ex0 (.slice none 0 0) (.slice none 0 0))) w1):
 w1.heap[w.heap.size]? =some (boxEx ex0 (.slice none 0 0) (.slice none 0 0))∧(∀i,w1.frozen? ⟨w.heap.size,i,none⟩=false)∧w.heap.size<w1.heap.size∧Below w.heap.size w w1:=by
 have h:=(hb.block w.heap.size (by simp)).trans (World.alloc_heap_new w _)
 refine⟨h,(boxEx_blk h).2,?_,((below_box _).trans (hb.mono (by simp)))⟩
 have :=hb.size
 simp at this
 omega
def WdC (f:Nat)(N:Nat)(U:List Wd→Option Ex):Prop:=∀(l:List Wd) (o:Option Addr) (c:Nat) (W:World),WSl W o c l→l.length≤N→Calls Tryz.prog f #[.slice o l.length c] W (OrP W (U l))
theorem sgn_up {O:List Wd→Option Ex}{f:Nat}{x:Wd}{l:List Wd}{y:Ex}{b:Bool}(h:aheadL 5 [45] (x::l)=true)(hr:signD O f l=if b=true then some y else none):signD O (f+1) (x::l)=if b=true then some (.mk 15 [] 0 0 false [y] []) else none:=by
 rw[signD,if_pos h,List.tail_cons,hr]
 cases b<;>rfl
theorem endOrB {fn:Func}(h:fn.results= #[.cell 2 28,.tmp 3]){a:Act}{w:World}(w3:World)(x:Ex)(vk vs:Value)(b:Bool){r:Option Ex}(hk:w3.heap[w.heap.size]? =some (boxEx x vk vs))(hb:Below w.heap.size w w3)(ho:ExOn w3 (w.heap.size+1≤ ·) x vk vs)(hr:r=if b=true then some x else none)
 (hp:a.tmps.getD 2 undef= .pointer (some ⟨w.heap.size,0,none⟩)) (hq:a.tmps.getD 3 undef= .bool b) (hd:a.defers=[]):bodyPost Tryz.prog fn (OrP w r) .ret a w3:=by
 have hp':a.tmps[2]?.getD undef= .pointer (some ⟨w.heap.size,0,none⟩):=by simpa using hp
 have hq':a.tmps[3]?.getD undef= .bool b:=by simpa using hq
 obtain⟨⟨a0,a1,a2,a3,a4,a5,a6⟩,_⟩:=boxEx_blk hk
 exact bodyPost_ret (by simp[results,h,hp',hq',go_sem,a0,a1,a2,a3,a4,a5,a6,exV]) hd ⟨hb,x,vk,vs,b,rfl,ExOn.move (fun k _ hF=>⟨Nat.le_of_succ_le hF,rfl⟩) _ _ _ ho,hr⟩
def kidW (w w1:World)(y:Ex)(vk vs:Value):World:=((setEx w1 w.heap.size (.mk 15 [] 0 0 false [y] []) (.slice (some ⟨w1.heap.size+1,0,none⟩) 1 1) (.slice none 0 0)).alloc (boxEx y vk vs)).alloc (boxEx y vk vs)
theorem one_kid {w w1:World}{y:Ex}{vk vs:Value}(hk:w1.heap[w.heap.size]? =some (boxEx ex0 (.slice none 0 0) (.slice none 0 0)))(hb:Below w.heap.size w w1)(ho:ExOn w1 ((w.alloc (boxEx ex0 (.slice none 0 0) (.slice none 0 0))).heap.size≤ ·) y vk vs):
 (kidW w w1 y vk vs).heap[w.heap.size]? =some (boxEx (.mk 15 [] 0 0 false [y] []) (.slice (some ⟨w1.heap.size+1,0,none⟩) 1 1) (.slice none 0 0))∧Below w.heap.size w (kidW w w1 y vk vs)∧
 ExOn (kidW w w1 y vk vs) (w.heap.size+1≤ ·) (.mk 15 [] 0 0 false [y] []) (.slice (some ⟨w1.heap.size+1,0,none⟩) 1 1) (.slice none 0 0):=by
 have hl:=(Array.getElem?_eq_some_iff.1 hk).1
 have hs:=setEx_at (x:= .mk 15 [] 0 0 false [y] []) (vk:= .slice (some ⟨w1.heap.size+1,0,none⟩) 1 1) (vs:= .slice none 0 0) hk
 have hb2:=setEx_below (x:= .mk 15 [] 0 0 false [y] []) (vk:= .slice (some ⟨w1.heap.size+1,0,none⟩) 1 1) (vs:= .slice none 0 0) hb (Nat.le_refl _)
 have hz:(setEx w1 w.heap.size (.mk 15 [] 0 0 false [y] []) (.slice (some ⟨w1.heap.size+1,0,none⟩) 1 1) (.slice none 0 0)).heap.size=w1.heap.size:=setEx_size
 have hne:∀b,w.heap.size+1≤b→(setEx w1 w.heap.size (.mk 15 [] 0 0 false [y] []) (.slice (some ⟨w1.heap.size+1,0,none⟩) 1 1) (.slice none 0 0)).heap[b]? =w1.heap[b]? :=fun b h=>setEx_ne (by omega)
 unfold kidW
 generalize setEx w1 w.heap.size (.mk 15 [] 0 0 false [y] []) (.slice (some ⟨w1.heap.size+1,0,none⟩) 1 1) (.slice none 0 0)=W at *
 have hB1:Below W.heap.size W (W.alloc (boxEx y vk vs)):=below_box _
 have ho2:ExOn (W.alloc (boxEx y vk vs)) (w.heap.size+1≤ ·) y vk vs:=ExOn.move (fun b hb' hF=>by
  have hF':w.heap.size+1≤b:=by simpa using hF
  exact⟨hF',(hB1.block b (by omega)).trans (hne b hF')⟩) _ _ _ ho
 have hrow:=RowEx.one (B:=w.heap.size+1) y vk vs ho2 (by simp;omega)
 refine⟨?_,(hb2.alloc (by omega) _).alloc (by simp;omega) _,ExOn.iff.2 ⟨?_,SdOn.nil _ _⟩⟩
 ·exact(Below.heap_alloc _ _ _ (by simp;omega)).trans ((hB1.block _ (by omega)).trans hs)
 ·have :=hrow.on
  rw[show(W.alloc (boxEx y vk vs)).heap.size=w1.heap.size+1 by simp;omega]at this
  exact this
set_option maxRecDepth 100000 in
set_option maxHeartbeats 1000000 in
theorem refSign_any (O:List Wd→Option Ex)(N:Nat)(hU:WdC 116 N (fun l=>cutD (pathD O) barS (l.length+1) l)):∀(f:Nat),∀(l:List Wd) (o:Option Addr) (c:Nat) (w:World),WSl w o c l→l.length≤N→l.length<f→Calls Tryz.prog 61 #[.slice o l.length c] w (OrP w (signD O f l)):=by
 intro f
 induction f with
 |zero=>intro l o c w _ _ h;omega
 |succ f ih=>
 intro l o c w h hn hf
 cases ha:aheadL 5 [45] l with
 |false=>
  have hs:signD O (f+1) l=cutD (pathD O) barS (l.length+1) l:=by rw[signD,if_neg (by rw[ha];simp)]
  rw[hs]
  obtain⟨R,hR⟩:∃R,cutD (pathD O) barS (l.length+1) l=R:=⟨_,rfl⟩
  have HUX:Hid (∀W,Below w.heap.size w W→Calls Tryz.prog 116 #[.slice o l.length c] W (OrP W R)):=Lib.hid fun W hW=>by
   have :=hU l o c W (h.below hW) hn
   rw[←hR]
   exact this
  rw[hR]
  clear hR
  cases l with
  |nil=>
   clear ha hs ih hU hf
   rw[List.length_nil]at *
   go_enter Tryz.func61,Tryz.ntmps61
   go_wp2_with (first
    |(go_at_call 116
      refine(HUX.out _ (below_box (boxEx ex0 (.slice none 0 0) (.slice none 0 0)))).mono ?_
      intro e w1 h1
      obtain⟨hb1,y,vk,vs,b,rfl,ho1,hr1⟩:=h1
      obtain⟨k1,kf,kl,hb2⟩:=box_ex hb1
      obtain⟨⟨ka0,ka1,ka2,ka3,ka4,ka5,ka6⟩,_⟩:=boxEx_blk k1
      have HY:=Lib.hid ho1
      have HK:=Lib.hid k1
      have HB:=Lib.hid hb2
      have HR:=Lib.hid hr1
      obtain⟨⟨o1,j1,rfl,_⟩,⟨o2,j2,rfl,_⟩⟩:=ExOn.iff.1 ho1
      unfold exV
      clear hb1 ho1 k1 hb2 hr1 HUX))
   exact endOr Tryz.results61 w1 y _ _ b HK.out HB.out (ExOn.move (fun k _ hF=>⟨by simpa using hF,rfl⟩) _ _ _ HY.out) HR.out rfl rfl rfl
  |cons x r=>
   obtain⟨g,off,rfl,hgl,x0,x1,x2,x3⟩:=h.word 0 (by simp)
   simp only[Nat.zero_mul,Nat.add_zero,List.getElem_cons_zero]at x0 x1 x2 x3
   have ha':(if (x.k:Int)==5 then x.s==[45] else false)=false:=ha
   obtain⟨n,hnn⟩:∃n,(x::r).length=n:=⟨_,rfl⟩
   rw[hnn]at HUX ⊢
   have n0:0<n:=by rw[←hnn];simp
   have n1:decide ((0:Int)<(n:Int))=true:=decide_eq_true (by omega)
   have n2:(0:Int)<(n:Int):=by omega
   clear ha hs ih hU hf hnn hn h
   cases h5:((x.k:Int)==5) with
   |false=>
    clear ha'
    go_enter Tryz.func61,Tryz.ntmps61
    go_wp2_with (first
     |(go_at_call 116
       refine(HUX.out _ (below_box (boxEx ex0 (.slice none 0 0) (.slice none 0 0)))).mono ?_
       intro e w1 h1
       obtain⟨hb1,y,vk,vs,b,rfl,ho1,hr1⟩:=h1
       obtain⟨k1,kf,kl,hb2⟩:=box_ex hb1
       obtain⟨⟨ka0,ka1,ka2,ka3,ka4,ka5,ka6⟩,_⟩:=boxEx_blk k1
       have HY:=Lib.hid ho1
       have HK:=Lib.hid k1
       have HB:=Lib.hid hb2
       have HR:=Lib.hid hr1
       obtain⟨⟨o1,j1,rfl,_⟩,⟨o2,j2,rfl,_⟩⟩:=ExOn.iff.1 ho1
       unfold exV
       clear hb1 ho1 k1 hb2 hr1 HUX))
    exact endOr Tryz.results61 w1 y _ _ b HK.out HB.out (ExOn.move (fun k _ hF=>⟨by simpa using hF,rfl⟩) _ _ _ HY.out) HR.out rfl rfl rfl
   |true=>
    rw[h5,if_pos rfl]at ha'
    have k6:((bs x.s).toList==[45])=false:=by rw[bs_tl];exact ha'
    clear ha'
    go_enter Tryz.func61,Tryz.ntmps61
    go_wp2_with (first
     |(go_at_call 116
       refine(HUX.out _ (below_box (boxEx ex0 (.slice none 0 0) (.slice none 0 0)))).mono ?_
       intro e w1 h1
       obtain⟨hb1,y,vk,vs,b,rfl,ho1,hr1⟩:=h1
       obtain⟨k1,kf,kl,hb2⟩:=box_ex hb1
       obtain⟨⟨ka0,ka1,ka2,ka3,ka4,ka5,ka6⟩,_⟩:=boxEx_blk k1
       have HY:=Lib.hid ho1
       have HK:=Lib.hid k1
       have HB:=Lib.hid hb2
       have HR:=Lib.hid hr1
       obtain⟨⟨o1,j1,rfl,_⟩,⟨o2,j2,rfl,_⟩⟩:=ExOn.iff.1 ho1
       unfold exV
       clear hb1 ho1 k1 hb2 hr1 HUX))
    exact endOr Tryz.results61 w1 y _ _ b HK.out HB.out (ExOn.move (fun k _ hF=>⟨by simpa using hF,rfl⟩) _ _ _ HY.out) HR.out rfl rfl rfl
 |true=>
  cases l with
  |nil=>cases ha
  |cons x r=>
   obtain⟨g,off,rfl,hgl,x0,x1,x2,x3⟩:=h.word 0 (by simp)
   simp only[Nat.zero_mul,Nat.add_zero,List.getElem_cons_zero]at x0 x1 x2 x3
   have ha':(if (x.k:Int)==5 then x.s==[45] else false)=true:=ha
   have h5:((x.k:Int)==5)=true:=by
    cases h5:((x.k:Int)==5) with
    |true=>rfl
    |false=>rw[h5]at ha';cases ha'
   rw[h5,if_pos rfl]at ha'
   have k6:((bs x.s).toList==[45])=true:=by rw[bs_tl];exact ha'
   have hc1:=h.1
   rw[List.length_cons]at hn hf hc1
   have HUP:=Lib.hid fun y b=>sgn_up (O:=O) (f:=f) (x:=x) (l:=r) (y:=y) (b:=b) ha
   by_cases hc:c=1
   ·subst hc
    have hr0:r=[]:=List.length_eq_zero_iff.1 (by omega)
    subst hr0
    have HIX:=Lib.hid fun W (hW:Below w.heap.size w W)=>ih [] (some ⟨g,off,none⟩) 0 W ⟨Nat.le_refl _,.inl rfl⟩ (by simp) (by simpa using hf)
    rw[List.length_nil]at HIX
    clear ha ih hU hf hn h ha' hc1
    rw[List.length_singleton]at *
    go_enter Tryz.func61,Tryz.ntmps61
    go_wp2_with (first
     |(go_at_call 61
       refine(HIX.out _ (below_box (boxEx ex0 (.slice none 0 0) (.slice none 0 0)))).mono ?_
       intro e w1 h1
       obtain⟨hb1,y,vk,vs,b,rfl,ho1,hr1⟩:=h1
       obtain⟨k1,kf,kl,hb2⟩:=box_ex hb1
       obtain⟨⟨ka0,ka1,ka2,ka3,ka4,ka5,ka6⟩,_⟩:=boxEx_blk k1
       have HY:=Lib.hid ho1
       have HK:=Lib.hid k1
       have HB:=Lib.hid hb2
       have HR:=Lib.hid hr1
       obtain⟨⟨o1,j1,rfl,_⟩,⟨o2,j2,rfl,_⟩⟩:=ExOn.iff.1 ho1
       unfold exV
       clear hb1 ho1 k1 hb2 hr1 HIX))
    obtain⟨q1,q2,q3⟩:=one_kid HK.out HB.out HY.out
    exact endOrB Tryz.results61 (kidW w w1 y (.slice o1 y.ks.length j1) (.slice o2 y.ss.length j2)) (.mk 15 [] 0 0 false [y] []) _ _ b q1 q2 q3 (HUP.out y b HR.out) rfl rfl rfl
   ·have hws:=h.sub 1 (r.length+1) (by omega) (by simp)
    have hu:((x::r).take (r.length+1)).drop 1=r:=by rw[List.take_of_length_le (by simp)];rfl
    rw[hu]at hws
    have HIX:=Lib.hid fun W (hW:Below w.heap.size w W)=>ih r (some ⟨g,off+4,none⟩) (c-1) W (by have :=hws.below hW;simpa using this) (by omega) (by omega)
    obtain⟨n,hnn⟩:∃n,(x::r).length=n:=⟨_,rfl⟩
    have hrn:r.length=n-1:=by rw[←hnn];simp
    rw[hrn]at HIX
    rw[hnn]
    have n0:0<n:=by rw[←hnn];simp
    have n1:decide ((0:Int)<(n:Int))=true:=decide_eq_true (by omega)
    have n2:(0:Int)<(n:Int):=by omega
    have n3:1≤n:=by omega
    have n4:n≤c:=by omega
    clear ha ih hU hf hn h ha' hc1 hws hu hnn hrn
    go_enter Tryz.func61,Tryz.ntmps61
    go_wp2_with (first
     |(go_at_call 61
       refine(HIX.out _ (below_box (boxEx ex0 (.slice none 0 0) (.slice none 0 0)))).mono ?_
       intro e w1 h1
       obtain⟨hb1,y,vk,vs,b,rfl,ho1,hr1⟩:=h1
       obtain⟨k1,kf,kl,hb2⟩:=box_ex hb1
       obtain⟨⟨ka0,ka1,ka2,ka3,ka4,ka5,ka6⟩,_⟩:=boxEx_blk k1
       have HY:=Lib.hid ho1
       have HK:=Lib.hid k1
       have HB:=Lib.hid hb2
       have HR:=Lib.hid hr1
       obtain⟨⟨o1,j1,rfl,_⟩,⟨o2,j2,rfl,_⟩⟩:=ExOn.iff.1 ho1
       unfold exV
       clear hb1 ho1 k1 hb2 hr1 HIX))
    obtain⟨q1,q2,q3⟩:=one_kid HK.out HB.out HY.out
    exact endOrB Tryz.results61 (kidW w w1 y (.slice o1 y.ks.length j1) (.slice o2 y.ss.length j2)) (.mk 15 [] 0 0 false [y] []) _ _ b q1 q2 q3 (HUP.out y b HR.out) rfl rfl rfl
end Char
namespace Char
open Go.RowKit Go.Lib
set_option maxRecDepth 100000 in
set_option maxHeartbeats 4000000 in
theorem nameR_any (a:Int)(w:World):
 Calls Tryz.prog 48 #[.int .i64 a] w fun e w'=>e= .returned (.string (bs (nmX a)))∧Below w.heap.size w w':=by
 have HB0:=Lib.hid (Below.refl w.heap.size w)
 by_cases h0:a<1
 ·have k0:decide (a<1)=true:=decide_eq_true h0
  have HX:Hid (nmX a=[]):=Lib.hid (by
   by_cases h:a<0
   ·exact nmX_no (.inl h)
   ·obtain rfl:a=0:=by omega
    rfl)
  go_enter Tryz.func48,Tryz.ntmps48
  go_wp2_with fail
  go_ret
  exact⟨by rw[HX.out];rfl,HB0.out⟩
 ·have k0:decide (a<1)=false:=decide_eq_false h0
  by_cases h1:12<a
  ·have k1:decide (12<a)=true:=decide_eq_true h1
   have HX:=Lib.hid (nmX_no (a:=a) (.inr (by omega)))
   go_enter Tryz.func48,Tryz.ntmps48
   go_wp2_with fail
   go_ret
   exact⟨by rw[HX.out];rfl,HB0.out⟩
  ·have k1:decide (12<a)=false:=decide_eq_false h1
   have HB:=Lib.hid fun o=>(Below.refl w.heap.size w).alloc (Nat.le_refl _) o
   have hc:(w.alloc (.cells #[Value.string {data:= #[99,104,105,108,100]},Value.string {data:= #[100,101,115,99,101,110,100,97,110,116]},Value.string {data:= #[112,97,114,101,110,116]},Value.string {data:= #[97,110,99,101,115,116,111,114]},Value.string {data:= #[102,111,108,108,111,119,105,110,103,45,115,105,98,108,105,110,103]},Value.string {data:= #[112,114,101,99,101,100,105,110,103,45,115,105,98,108,105,110,103]},Value.string {data:= #[102,111,108,108,111,119,105,110,103]},Value.string {data:= #[112,114,101,99,101,100,105,110,103]},Value.string {data:= #[97,116,116,114,105,98,117,116,101]},Value.string {data:= #[115,101,108,102]},Value.string {data:= #[100,101,115,99,101,110,100,97,110,116,45,111,114,45,115,101,108,102]},Value.string {data:= #[97,110,99,101,115,116,111,114,45,111,114,45,115,101,108,102]}] 9)).cell? ⟨w.heap.size,a.toNat-1,none⟩=some (.string (bs (nmX a))):=by
    rw[World.cell?_alloc_new]
    have :=nmDx_at (a:=a) (by omega) (by omega)
    rw[show(a-1).toNat=a.toNat-1 by omega]at this
    exact this
   have hz:0≤a-1:=by omega
   have hz1:a-1<12:=by omega
   generalize nmX a=X at *
   go_enter Tryz.func48,Tryz.ntmps48
   go_wp2_with fail
   go_ret
   exact⟨rfl,HB.out _⟩
end Char
namespace Char
open Go.RowKit Go.Lib
open Go.Proofs.YtlmpkpjjakallaaGreatDoor.Fig (outT outV)
theorem ofF_spec (s:List UInt8):∀(n a:Nat),ofF s n a=0∨(a≤ofF s n a∧ofF s n a<a+n∧nmX (ofF s n a:Int)=s)
 |0,_=> .inl rfl
 |n+1,a=>by
  rw[ofF]
  by_cases h:nmX (a:Int)=s
  ·rw[if_pos h]
   exact .inr ⟨Nat.le_refl _,by omega,h⟩
  ·rw[if_neg h]
   rcases ofF_spec s n (a+1) with h1|⟨h1,h2,h3⟩
   ·exact .inl h1
   ·exact .inr ⟨by omega,by omega,h3⟩
theorem ofX_spec (s:List UInt8):ofX s=0∨(1≤ofX s∧ofX s≤12∧nmX (ofX s:Int)=s):=by
 rcases ofF_spec s 12 1 with h|⟨h1,h2,h3⟩
 ·exact .inl h
 ·exact .inr ⟨by unfold ofX;exact h1,by unfold ofX;omega,h3⟩
theorem ofX_nm:∀a:Nat,1≤a→a≤12→ofX (nmX (a:Int))=a:=by
 intro a h1 h2
 have :a=1∨a=2∨a=3∨a=4∨a=5∨a=6∨a=7∨a=8∨a=9∨a=10∨a=11∨a=12:=by omega
 rcases this with rfl|rfl|rfl|rfl|rfl|rfl|rfl|rfl|rfl|rfl|rfl|rfl<;>decide+kernel
def axU (s:List UInt8)(a:Nat):Nat:=if 1≤ofX s∧ofX s<a then ofX s else 0
theorem axU_hit {s:List UInt8}{a:Nat}(h1:1≤a)(h2:a≤12)(h:nmX (a:Int)=s):axU s (a+1)=a:=by
 have e:ofX s=a:=by rw[←h];exact ofX_nm a h1 h2
 unfold axU
 rw[e,if_pos ⟨h1,by omega⟩]
theorem axU_miss {s:List UInt8}{a:Nat}(h:nmX (a:Int)≠s):axU s (a+1)=axU s a:=by
 unfold axU
 rcases ofX_spec s with e|⟨h1,h2,h3⟩
 ·rw[e,if_neg (by omega),if_neg (by omega)]
 ·have :ofX s≠a:=fun e=>h (by rw[←e];exact h3)
  by_cases c:ofX s<a
  ·rw[if_pos ⟨h1,by omega⟩,if_pos ⟨h1,c⟩]
  ·rw[if_neg (by omega),if_neg (by omega)]
theorem axU_end (s:List UInt8):axU s 13=ofX s:=by
 unfold axU
 rcases ofX_spec s with e|⟨h1,h2,h3⟩
 ·rw[e,if_neg (by omega)]
 ·rw[if_pos ⟨h1,by omega⟩]
theorem axU_one (s:List UInt8):axU s 1=0:=by unfold axU;rw[if_neg (by omega)]
theorem predsD_suf {O:List Wd→Option Ex}:∀(f:Nat) (l:List Wd) (acc ps:List Ex) (r:List Wd),predsD O f l acc=some (ps,r)→∃m,m≤l.length∧r=l.drop m
 |0,_,_,_,_,h=>by rw[predsD]at h;cases h
 |f+1,l,acc,ps,r,h=>by
  rw[predsD]at h
  split at h
  ·rename_i ha
   obtain⟨x,t,rfl,hm⟩:=ahead1_inv ha
   rw[List.tail_cons]at h
   cases hp:partR [[91]] t with
   |none=>rw[hp]at h;cases h
   |some q=>
    obtain⟨u,v⟩:=q
    rw[hp]at h
    dsimp only at h
    cases ho:O u with
    |none=>rw[ho]at h;cases h
    |some y=>
     rw[ho]at h
     dsimp only at h
     obtain⟨m,hm1,hm2⟩:=predsD_suf f v _ ps r h
     obtain⟨c,hsp⟩:=par_split hp
     refine⟨1+u.length+1+m,?_,?_⟩
     ·rw[hsp];simp;omega
     ·rw[hm2,hsp]
      rw[show x::(u++c::v)=(x::u++[c])++v by simp,show 1+u.length+1+m=(x::u++[c]).length+m by simp;omega,List.drop_append]
      simp
  ·cases h
   exact⟨0,Nat.zero_le _,rfl⟩
theorem testL_suf {l r:List Wd}{t:Te3}(h:testL l=some (t,r)):∃m,1≤m∧m≤l.length∧r=l.drop m:=by
 obtain⟨u,rfl,hn,_⟩:=test_loc h
 have :u.length≠0:=fun e=>hn (List.length_eq_zero_iff.1 e)
 exact⟨u.length,by omega,by simp,by simp⟩
def st0:St:= .mk 0 0 [] false []
def StpP (w:World)(l:List Wd)(q:Option (St×List Wd))(e:Ending)(w':World):Prop:=
 Below w.heap.size w w'∧((q=none∧e= .returned (.tuple #[stpV st0 (.slice none 0 0),.int .i64 0]))∨
  ∃(s:St) (vp:Value) (m:Nat),q=some (s,l.drop m)∧1≤m∧m≤l.length∧StOn w' (w.heap.size≤ ·) s vp∧e= .returned (.tuple #[stpV s vp,.int .i64 (m:Int)]))
def S1 (w W:World):Prop:=W.heap[w.heap.size]? =some (boxSt st0 (.slice none 0 0))∧Below w.heap.size w W
theorem S1.new (w:World):S1 w (w.alloc (boxSt st0 (.slice none 0 0))):=⟨World.alloc_heap_new w _,below_box _⟩
theorem S1.lt {w W:World}(h:S1 w W):w.heap.size<W.heap.size:=(Array.getElem?_eq_some_iff.1 h.1).1
theorem S1.call {w W W':World}(h:S1 w W)(hb:Below W.heap.size W W'):S1 w W':=⟨(hb.block _ h.lt).trans h.1,h.2.trans (hb.mono h.2.size)⟩
theorem S1.alloc {w W:World}(h:S1 w W)(o:Obj):S1 w (W.alloc o):=h.call (below_box o)
theorem S1.set {w W:World}(h:S1 w W){b i:Nat}(hb:w.heap.size<b)(u:Value):S1 w (W.setCell ⟨b,i,none⟩ u):=⟨(heap_set_ne (a:=⟨b,i,none⟩) (show w.heap.size≠b by omega)).trans h.1,h.2.setCell (p:=⟨b,i,none⟩) (Nat.le_of_lt hb) _⟩
def S2 (w W:World)(b:Nat)(s:St)(vp:Value):Prop:=S1 w W∧w.heap.size<b∧W.heap[b]? =some (boxSt s vp)
theorem S2.new {w W:World}(h:S1 w W)(s:St)(vp:Value):S2 w (W.alloc (boxSt s vp)) W.heap.size s vp:=⟨h.alloc _,h.lt,World.alloc_heap_new W _⟩
theorem S2.lt {w W:World}{b:Nat}{s:St}{vp:Value}(h:S2 w W b s vp):b<W.heap.size:=(Array.getElem?_eq_some_iff.1 h.2.2).1
theorem S2.call {w W W':World}{b:Nat}{s:St}{vp:Value}(h:S2 w W b s vp)(hb:Below W.heap.size W W'):S2 w W' b s vp:=⟨h.1.call hb,h.2.1,(hb.block _ h.lt).trans h.2.2⟩
theorem S2.alloc {w W:World}{b:Nat}{s:St}{vp:Value}(h:S2 w W b s vp)(o:Obj):S2 w (W.alloc o) b s vp:=h.call (below_box o)
theorem S2.ax {w W:World}{b:Nat}{a' k:Int}{n:List UInt8}{hs:Bool}{ps:List Ex}{vp:Value}(h:S2 w W b (.mk a' k n hs ps) vp)(a:Int):S2 w (W.setCell ⟨b,0,none⟩ (.int .i64 a)) b (.mk a k n hs ps) vp:=
 ⟨h.1.set h.2.1 _,h.2.1,by
  have :=h.2.2
  unfold boxSt at this ⊢
  exact(heap_set_at (i:=0) (u:= .int .i64 a) this).trans (by simp[St.ax,St.tk,St.nm,St.has])⟩
theorem S2.te {w W:World}{b:Nat}{a k' k:Int}{n' n:List UInt8}{hs' hs:Bool}{ps:List Ex}{vp:Value}(h:S2 w W b (.mk a k' n' hs' ps) vp):S2 w (((W.setCell ⟨b,1,none⟩ (.int .i64 k)).setCell ⟨b,2,none⟩ (.string (bs n))).setCell ⟨b,3,none⟩ (.bool hs)) b (.mk a k n hs ps) vp:=
 ⟨((h.1.set h.2.1 _).set h.2.1 _).set h.2.1 _,h.2.1,by
  have :=h.2.2
  unfold boxSt at this ⊢
  exact(heap_set_at (i:=3) (u:= .bool hs) (heap_set_at (i:=2) (u:= .string (bs n)) (heap_set_at (i:=1) (u:= .int .i64 k) this))).trans (by simp[St.ax,St.tk,St.nm,St.has])⟩
theorem S1.facts {w W:World}(h:S1 w W):
 (W.cell? ⟨w.heap.size,0,none⟩=some (.int .i64 0)∧W.cell? ⟨w.heap.size,1,none⟩=some (.int .i64 0)∧W.cell? ⟨w.heap.size,2,none⟩=some (.string (bs []))∧W.cell? ⟨w.heap.size,3,none⟩=some (.bool false)∧W.cell? ⟨w.heap.size,4,none⟩=some (.slice none 0 0))∧(∀i,W.frozen? ⟨w.heap.size,i,none⟩=false)∧w.heap.size<W.heap.size:=
 ⟨(boxSt_blk h.1).1,(boxSt_blk h.1).2,h.lt⟩
theorem S2.facts {w W:World}{b:Nat}{s:St}{vp:Value}(h:S2 w W b s vp):
 (W.cell? ⟨b,0,none⟩=some (.int .i64 s.ax)∧W.cell? ⟨b,1,none⟩=some (.int .i64 s.tk)∧W.cell? ⟨b,2,none⟩=some (.string (bs s.nm))∧W.cell? ⟨b,3,none⟩=some (.bool s.has)∧W.cell? ⟨b,4,none⟩=some vp)∧(∀i,W.frozen? ⟨b,i,none⟩=false)∧b<W.heap.size∧
 (W.cell? ⟨w.heap.size,0,none⟩=some (.int .i64 0)∧W.cell? ⟨w.heap.size,1,none⟩=some (.int .i64 0)∧W.cell? ⟨w.heap.size,2,none⟩=some (.string (bs []))∧W.cell? ⟨w.heap.size,3,none⟩=some (.bool false)∧W.cell? ⟨w.heap.size,4,none⟩=some (.slice none 0 0))∧(∀i,W.frozen? ⟨w.heap.size,i,none⟩=false)∧w.heap.size<W.heap.size:=
 ⟨(boxSt_blk h.2.2).1,(boxSt_blk h.2.2).2,h.lt,h.1.facts⟩
theorem endSt2 {fn:Func}(h:fn.results= #[.cell 2 62,.tmp 3]){a:Act}{R:Ending→World→Prop}(w1:World)(g:Nat){x:St}{vp:Value}{n:Value}(hk:w1.heap[g]? =some (boxSt x vp))
 (hp:a.tmps.getD 2 undef= .pointer (some ⟨g,0,none⟩)) (hq:a.tmps.getD 3 undef=n) (hd:a.defers=[]) (hR:R (.returned (.tuple #[stpV x vp,n])) w1):bodyPost Tryz.prog fn R .ret a w1:=by
 have hp':a.tmps[2]?.getD undef= .pointer (some ⟨g,0,none⟩):=by simpa using hp
 have hq':a.tmps[3]?.getD undef=n:=by simpa using hq
 obtain⟨⟨a0,a1,a2,a3,a4⟩,_⟩:=boxSt_blk hk
 exact bodyPost_ret (by simp[results,h,hp',hq',go_sem,a0,a1,a2,a3,a4,stpV]) hd hR
theorem step_no {fn:Func}(h:fn.results= #[.cell 2 62,.tmp 3]){a:Act}{w:World}(W:World){l:List Wd}{q:Option (St×List Wd)}(hs:S1 w W)(hq:q=none)
 (hp:a.tmps.getD 2 undef= .pointer (some ⟨w.heap.size,0,none⟩)) (hr:a.tmps.getD 3 undef= .int .i64 0) (hd:a.defers=[]):bodyPost Tryz.prog fn (StpP w l q) .ret a (setSt W w.heap.size st0 (.slice none 0 0)):=
 endSt2 h _ w.heap.size (setSt_at hs.1) hp hr hd ⟨setSt_below hs.2 (Nat.le_refl _),.inl ⟨hq,rfl⟩⟩
theorem step_noA {fn:Func}(h:fn.results= #[.cell 2 62,.tmp 3]){a:Act}{w:World}(W:World)(o:Obj){l:List Wd}{q:Option (St×List Wd)}(hs:S1 w W)(hq:q=none)
 (hp:a.tmps.getD 2 undef= .pointer (some ⟨w.heap.size,0,none⟩)) (hr:a.tmps.getD 3 undef= .int .i64 0) (hd:a.defers=[]):bodyPost Tryz.prog fn (StpP w l q) .ret a ((setSt W w.heap.size st0 (.slice none 0 0)).alloc o):=
 have hb:=setSt_below (x:=st0) (vp:= .slice none 0 0) hs.2 (Nat.le_refl _)
 endSt2 h _ w.heap.size (((below_box o).block _ (by rw[setSt_size];exact hs.lt)).trans (setSt_at hs.1)) hp hr hd ⟨hb.alloc (by rw[setSt_size];exact hs.2.size) o,.inl ⟨hq,rfl⟩⟩
theorem step_ok {fn:Func}(h:fn.results= #[.cell 2 62,.tmp 3]){a:Act}{w:World}(W:World){l:List Wd}{q:Option (St×List Wd)}(s:St)(vp:Value)(m:Nat)(hs:S1 w W)(hq:q=some (s,l.drop m))(h1:1≤m)(h2:m≤l.length)(ho:StOn W (w.heap.size+1≤ ·) s vp)
 (hp:a.tmps.getD 2 undef= .pointer (some ⟨w.heap.size,0,none⟩)) (hr:a.tmps.getD 3 undef= .int .i64 (m:Int)) (hd:a.defers=[]):bodyPost Tryz.prog fn (StpP w l q) .ret a (setSt W w.heap.size s vp):=
 endSt2 h _ w.heap.size (setSt_at hs.1) hp hr hd ⟨setSt_below hs.2 (Nat.le_refl _),.inr ⟨s,vp,m,hq,h1,h2,StOn.move (fun k _ hF=>⟨Nat.le_of_succ_le hF,setSt_ne (by omega)⟩) _ _ ho,rfl⟩⟩
theorem below_drew (W:World):Below W.heap.size W W.drew:=⟨rfl,rfl,rfl,Nat.le_refl _,fun _ _=>rfl⟩
abbrev Wc (w:World)(g off:Nat)(x:Wd):Prop:=g<w.heap.size∧w.cell? ⟨g,off,none⟩=some (.int .i64 (x.k:Int))∧w.cell? ⟨g,off+1,none⟩=some (.string (bs x.s))∧w.cell? ⟨g,off+2,none⟩=some (.int .i64 (outT x.n))∧w.cell? ⟨g,off+3,none⟩=some (.int .i64 (outV x.n))
abbrev MkC (x:Wd)(m:ByteArray)(b:Bool):Prop:=∀W,Calls Tryz.prog 89 #[.agg #[.int .i64 (x.k:Int),.string (bs x.s),.int .i64 (outT x.n),.int .i64 (outV x.n)],.string m] W fun e w'=>e= .returned (.bool b)∧Below W.heap.size W w'
set_option maxHeartbeats 2000000 in
theorem refStep_nil (w:World)(o:Option Addr)(c:Nat)(O:List Wd→Option Ex):Calls Tryz.prog 203 #[.slice o 0 c] w (StpP w [] (stpDc O [])):=by
 go_enter Tryz.func203,Tryz.ntmps203
 go_wp2_with fail
 exact endSt2 Tryz.results203 (x:=st0) (vp:= .slice none 0 0) _ w.heap.size (World.alloc_heap_new w _) rfl rfl rfl ⟨below_box _,.inl ⟨rfl,rfl⟩⟩
set_option maxRecDepth 100000 in
set_option maxHeartbeats 2000000 in
theorem refStep_dot (w:World)(g off n c:Nat)(ts:List Wd)(x:Wd)(hcx:∀W,Below w.heap.size w W→Wc W g off x)(n0:0<n)(hB:n≤800)(hd:MkC x ⟨#[46]⟩ true)(q:Option (St×List Wd))(hq:q=some (anySt 10,ts.drop 1))(hl:1≤ts.length):
 Calls Tryz.prog 203 #[.slice (some ⟨g,off,none⟩) n c] w (StpP w ts q):=by
 have HCX:=Lib.hid hcx
 obtain⟨hgl,x0,x1,x2,x3⟩:=hcx w (Below.refl _ _)
 have n1:((n:Int)==0)=false:=by rw[beq_eq_false_iff_ne];omega
 have n2:(0:Int)<(n:Int):=by omega
 clear hcx
 have HD1:=Lib.hid hd
 have HQ:=Lib.hid hq
 clear hd hq
 go_enter Tryz.func203,Tryz.ntmps203
 go_wp2_with (first
  |(go_at_call 89
    refine(HD1.out _).mono ?_
    rintro e w1 ⟨rfl,hbw1⟩
    have Aw1:=Lib.hid ((S1.new w).call hbw1)
    clear x0 x1 x2 x3 hgl
    obtain⟨hgl,x0,x1,x2,x3⟩:=HCX.out w1 Aw1.out.2
    obtain⟨⟨r0,r1,r2,r3,r4⟩,rf,rl⟩:=Aw1.out.facts
    clear HD1 hbw1))
 exact step_ok Tryz.results203 w1 (anySt 10) (.slice none 0 0) 1 Aw1.out HQ.out (Nat.le_refl _) hl (StOn.iff.2 (KdOn.nil _ _)) rfl rfl rfl
set_option maxRecDepth 100000 in
set_option maxHeartbeats 2000000 in
theorem refStep_two (w:World)(g off n c:Nat)(ts:List Wd)(x:Wd)(hcx:∀W,Below w.heap.size w W→Wc W g off x)(n0:0<n)(hB:n≤800)(hd:MkC x ⟨#[46]⟩ false)(h2:MkC x ⟨#[46,46]⟩ true)(q:Option (St×List Wd))(hq:q=some (anySt 3,ts.drop 1))(hl:1≤ts.length):
 Calls Tryz.prog 203 #[.slice (some ⟨g,off,none⟩) n c] w (StpP w ts q):=by
 have HCX:=Lib.hid hcx
 obtain⟨hgl,x0,x1,x2,x3⟩:=hcx w (Below.refl _ _)
 have n1:((n:Int)==0)=false:=by rw[beq_eq_false_iff_ne];omega
 have n2:(0:Int)<(n:Int):=by omega
 clear hcx
 have HD1:=Lib.hid hd
 have HD2:=Lib.hid h2
 have HQ:=Lib.hid hq
 clear hd h2 hq
 go_enter Tryz.func203,Tryz.ntmps203
 go_wp2_with (first
  |(go_at_call 89
    refine(HD1.out _).mono ?_
    rintro e w1 ⟨rfl,hbw1⟩
    have Aw1:=Lib.hid ((S1.new w).call hbw1)
    clear x0 x1 x2 x3 hgl
    obtain⟨hgl,x0,x1,x2,x3⟩:=HCX.out w1 Aw1.out.2
    obtain⟨⟨r0,r1,r2,r3,r4⟩,rf,rl⟩:=Aw1.out.facts
    clear HD1 hbw1)
  |(go_at_call 89
    refine(HD2.out _).mono ?_
    rintro e w2 ⟨rfl,hbw2⟩
    have Aw2:=Lib.hid (Aw1.out.call hbw2)
    clear x0 x1 x2 x3 hgl
    obtain⟨hgl,x0,x1,x2,x3⟩:=HCX.out w2 Aw2.out.2
    clear r0 r1 r2 r3 r4 rf rl
    obtain⟨⟨r0,r1,r2,r3,r4⟩,rf,rl⟩:=Aw2.out.facts
    clear HD2 hbw2))
 exact step_ok Tryz.results203 w2 (anySt 3) (.slice none 0 0) 1 Aw2.out HQ.out (Nat.le_refl _) hl (StOn.iff.2 (KdOn.nil _ _)) rfl rfl rfl
end Char
end Go.Proofs.YtlmpkpjjakallaaGreatDoor
