import Derived.Test.YtlmpkpjjakallaaGreatDoorPk18
namespace Go.Proofs.YtlmpkpjjakallaaGreatDoor
namespace Char
open Go.RowKit Go.Lib
open Go.Proofs.YtlmpkpjjakallaaGreatDoor.Fig (outT outV)
def SsP2 (w:World)(q:Option (List St))(e:Ending)(w':World):Prop:=
 Below w.heap.size w w'∧((q=none∧e= .returned (.tuple #[.slice none 0 0,.bool false]))∨∃(xs:List (St×Value)) (v:Value),q=some (xs.map (·.1))∧RowSt w.heap.size w' v xs∧e= .returned (.tuple #[v,.bool true]))
def StC (N:Nat)(O:List Wd→Option Ex):Prop:=∀(l:List Wd) (o:Option Addr) (c:Nat) (W:World),WSl W o c l→l.length≤N→Calls Tryz.prog 203 #[.slice o l.length c] W (StpP W l (stpDc O l))
theorem stpDc_suf {O:List Wd→Option Ex}{l r:List Wd}{s:St}(h:stpDc O l=some (s,r)):∃m,1≤m∧m≤l.length∧r=l.drop m:=by
 unfold stpDc at h
 split at h
 ·rename_i ha
  obtain⟨x,t,rfl,hm⟩:=ahead1_inv ha
  cases h
  exact⟨1,Nat.le_refl _,by simp,rfl⟩
 ·split at h
  ·rename_i ha
   obtain⟨x,t,rfl,hm⟩:=ahead1_inv ha
   cases h
   exact⟨1,Nat.le_refl _,by simp,rfl⟩
  ·cases hx:axisL l with
   |none=>rw[hx]at h;cases h
   |some q=>
    obtain⟨a,t⟩:=q
    rw[hx]at h
    dsimp only at h
    cases hy:testL t with
    |none=>rw[hy]at h;cases h
    |some q=>
     obtain⟨te,u⟩:=q
     rw[hy]at h
     dsimp only at h
     cases hz:predsD O (u.length+1) u [] with
     |none=>rw[hz]at h;cases h
     |some q=>
      obtain⟨ps,v⟩:=q
      rw[hz]at h
      cases h
      obtain⟨ua,e1,_⟩:=axis_loc hx
      obtain⟨m1,a1,b1,e2⟩:=testL_suf hy
      obtain⟨m2,a2,e3⟩:=predsD_suf _ _ _ _ _ hz
      have hl:=congrArg List.length e1
      have hl2:=congrArg List.length e2
      rw[List.length_append]at hl
      rw[List.length_drop]at hl2
      refine⟨ua.length+(m1+m2),by omega,by omega,?_⟩
      rw[e3,e2,List.drop_drop,e1,List.drop_append]
      simp
theorem StpP.no {w w':World}{l:List Wd}{e:Ending}(h:StpP w l none e w'):e= .returned (.tuple #[stpV st0 (.slice none 0 0),.int .i64 0])∧Below w.heap.size w w':=by
 obtain⟨hb,⟨_,he⟩|⟨s,vp,m,hq,_⟩⟩:=h
 ·exact⟨he,hb⟩
 ·cases hq
theorem StpP.yes {w w':World}{l:List Wd}{s:St}{m:Nat}{e:Ending}(h:StpP w l (some (s,l.drop m)) e w')(hm:m≤l.length):∃o j,e= .returned (.tuple #[stpV s (.slice o s.ps.length j),.int .i64 (m:Int)])∧StOn w' (w.heap.size≤ ·) s (.slice o s.ps.length j)∧Below w.heap.size w w':=by
 obtain⟨hb,⟨hq,_⟩|⟨s',vp,k,hq,h1,h2,ho,he⟩⟩:=h
 ·cases hq
 ·rw[Option.some.injEq,Prod.mk.injEq]at hq
  obtain⟨rfl,hq⟩:=hq
  have hl:=congrArg List.length hq
  rw[List.length_drop,List.length_drop]at hl
  have :k=m:=by omega
  subst this
  obtain⟨o,j,rfl⟩:=(StOn.iff.1 ho).form
  exact⟨o,j,he,ho,hb⟩
theorem row_apartS {B:Nat}{w W0 W1:World}{v:Value}{xs:List (St×Value)}{x:St}{vp:Value}(h:RowSt B w v xs)(hs:w.heap.size≤W0.heap.size)(hB:B≤W0.heap.size)(ho:StOn W1 (W0.heap.size≤ ·) x vp):StOn W1 (fun b=>B≤b∧v.ownBlock≠some b) x vp:=
 StOn.move (fun b _ hF=>⟨⟨Nat.le_trans hB hF,fun hv=>by have :=(h.blk hv).2;omega⟩,rfl⟩) _ _ ho
theorem stepsD_nil {O:List Wd→Option Ex}{f:Nat}{acc:List St}:stepsD O (f+1) [] acc=some acc:=by rw[stepsD,if_pos rfl]
theorem stepsD_bad {O:List Wd→Option Ex}{f:Nat}{x:Wd}{l:List Wd}{acc:List St}(h1:opMk [47] x=false)(h2:opMk [47,47] x=false):stepsD O (f+1) (x::l) acc=none:=by
 rw[stepsD,if_neg (by simp),ahead_op,if_neg (by rw[h1];simp),ahead_op,if_neg (by rw[h2];simp)]
theorem stepsD_one {O:List Wd→Option Ex}{f:Nat}{x:Wd}{l:List Wd}{acc:List St}(h1:opMk [47] x=true):stepsD O (f+1) (x::l) acc=stepsS O f acc l:=by
 rw[stepsD,if_neg (by simp),ahead_op,if_pos h1]
 rfl
theorem stepsD_two {O:List Wd→Option Ex}{f:Nat}{x:Wd}{l:List Wd}{acc:List St}(h1:opMk [47] x=false)(h2:opMk [47,47] x=true):stepsD O (f+1) (x::l) acc=stepsS O f (acc++[anySt 11]) l:=by
 rw[stepsD,if_neg (by simp),ahead_op,if_neg (by rw[h1];simp),ahead_op,if_pos h2]
 rfl
theorem stepsS_no {O:List Wd→Option Ex}{f:Nat}{l:List Wd}{acc:List St}(h:stpDc O l=none):stepsS O f acc l=none:=by unfold stepsS;rw[h]
theorem stepsS_yes {O:List Wd→Option Ex}{f:Nat}{l r:List Wd}{s:St}{acc:List St}(h:stpDc O l=some (s,r)):stepsS O f acc l=stepsD O f r (acc++[s]):=by unfold stepsS;rw[h]
def lenV:Value→Nat
 | .slice _ n _=>n
 |_=>0
set_option maxRecDepth 100000 in
set_option maxHeartbeats 8000000 in
theorem refSteps_any (N:Nat)(O:List Wd→Option Ex)(hS:StC N O)(ts:List Wd)(o:Option Addr)(c:Nat)(w:World)(h:WSl w o c ts)(hn:ts.length≤N+1)(hl:ts.length≤400):
 Calls Tryz.prog 186 #[.slice o ts.length c] w (SsP2 w (stepsD O (ts.length+1) ts [])):=by
 obtain⟨R,hR⟩:∃R,stepsD O (ts.length+1) ts []=R:=⟨_,rfl⟩
 rw[hR]
 have HR0:=Lib.hid hR
 have H:=Lib.hid h
 have HS:=Lib.hid hS
 have HNL:=Lib.hid hn
 clear hR h hS hn
 go_enter Tryz.func186,Tryz.ntmps186
 go_wp2_with fail
 go_loopw [0,4] (fun v0 v4 wr=>∃(l:List Wd) (f:Nat) (xs:List (St×Value)) (o0:Option Addr) (c0:Nat) (o4:Option Addr) (j4:Nat),v0= .slice o0 l.length c0∧v4= .slice o4 xs.length j4∧Hid (WSl w o0 c0 l∧RowSt w.heap.size wr v4 xs∧Below w.heap.size w wr∧l.length<f∧xs.length+2*l.length≤2*ts.length∧stepsD O f l (xs.map (·.1))=R)) (fun v _ _=>lenV v)
 case atStart=>exact⟨ts,ts.length+1,[],o,c,none,0,rfl,rfl,Lib.hid ⟨H.out,RowSt.nil _ _,Below.refl _ _,by omega,by simp,HR0.out⟩⟩
 case round=>
  obtain⟨l,f,xs,o0,c0,o4,j4,rfl,rfl,HI⟩:=hrel
  obtain⟨hws,hrow,hbw,hf,hxl,hg⟩:=HI.out
  obtain⟨f,rfl⟩:∃m,f=m+1:=⟨f-1,by omega⟩
  cases l with
  |nil=>
   rw[stepsD_nil]at hg
   have HGE:=Lib.hid hg
   have HRW:=Lib.hid hrow
   have HBW:=Lib.hid hbw
   rw[List.length_nil]at *
   clear HI HR0 hf hg hrow hbw hws hxl
   go_wp2_with fail
   refine endS2 Tryz.results186 rfl rfl rfl ?_
   exact⟨HBW.out,.inr ⟨xs,_,HGE.out.symm,HRW.out,rfl⟩⟩
  |cons x r=>
   obtain⟨g,off,rfl,hgl,x0,x1,x2,x3⟩:=(hws.below hbw).word 0 (by simp)
   simp only[Nat.zero_mul,Nat.add_zero,List.getElem_cons_zero]at x0 x1 x2 x3
   have hc1:=hws.1
   have HWS:=Lib.hid hws
   have HRW:=Lib.hid hrow
   have HBW:=Lib.hid hbw
   have hlr:(x::r).length=r.length+1:=List.length_cons
   obtain⟨n,hnn⟩:∃n,(x::r).length=n:=⟨_,rfl⟩
   rw[hnn]at hlr hc1 hf hxl ⊢
   have n0:0<n:=by omega
   have n1:decide ((0:Int)<(n:Int))=true:=decide_eq_true (by omega)
   have n2:(0:Int)<(n:Int):=by omega
   have HXL:=Lib.hid hxl
   have kB:n≤400:=by omega
   have HF:=Lib.hid hf
   have HLR:=Lib.hid hlr
   have HHL:=Lib.hid hl
   cases h5:((x.k:Int)==5) with
   |false=>
    have k5:((x.k:Int) != 5)=true:=by rw[bne,h5];rfl
    rw[stepsD_bad (by show(if (x.k:Int)==5 then x.s==[47] else false)=false;rw[h5];rfl) (by show(if (x.k:Int)==5 then x.s==[47,47] else false)=false;rw[h5];rfl)]at hg
    have HGE:=Lib.hid hg
    clear HI HR0 hf hg hrow hbw hws hxl hnn hlr hl
    go_wp2_with fail
    refine endS2 Tryz.results186 rfl rfl rfl ?_
    exact⟨HBW.out,.inl ⟨HGE.out.symm,rfl⟩⟩
   |true=>
    have k5:((x.k:Int) != 5)=false:=by rw[bne,h5];rfl
    have e1:opMk [47] x=(x.s==[47]):=by show(if (x.k:Int)==5 then x.s==[47] else false)=_;rw[h5];rfl
    have e2:opMk [47,47] x=(x.s==[47,47]):=by show(if (x.k:Int)==5 then x.s==[47,47] else false)=_;rw[h5];rfl
    cases h1:(x.s==[47]) with
    |true=>
     have s1:((bs x.s).toList==[47])=true:=by rw[bs_tl];exact h1
     have s2:((bs x.s).toList==[47,47])=false:=by rw[bs_tl,eq_of_beq h1];rfl
     rw[stepsD_one (by rw[e1,h1])]at hg
     by_cases hc:c0=1
     ·subst hc
      have hr0:r=[]:=List.length_eq_zero_iff.1 (by omega)
      subst hr0
      have hn1:n=1:=by simpa using hlr
      subst hn1
      rw[stepsS_no (show stpDc O []=none from rfl)]at hg
      have HGE:=Lib.hid hg
      have HX:=Lib.hid fun W (hW:Below w.heap.size w W)=>HS.out [] (some ⟨g,off,none⟩) 0 W ⟨Nat.le_refl _,.inl rfl⟩ (by simp)
      rw[List.length_nil,show stpDc O []=none from rfl]at HX
      generalize bs x.s=S at *
      clear HI HR0 hf hg hrow hbw hws hxl hnn hlr hl e1 e2 h1
      go_wp2_with (first
                  |(go_at_call 203
                    refine(HX.out _ HBW.out).mono ?_
                    intro e w4 hw4
                    obtain⟨rfl,hb⟩:=StpP.no hw4
                    unfold stpV
                    have B4:=Lib.hid ((HBW.out.trans (hb.mono HBW.out.size)).alloc (Nat.le_trans HBW.out.size hb.size) (boxSt st0 (.slice none 0 0)))
                    clear hw4 hb HX))
      refine endS2 Tryz.results186 rfl rfl rfl ?_
      exact⟨B4.out,.inl ⟨HGE.out.symm,rfl⟩⟩
     ·have hws1:=HWS.out.sub 1 (r.length+1) (by omega) (by simp)
      have hu:((x::r).take (r.length+1)).drop 1=r:=by rw[List.take_of_length_le (by simp)];rfl
      rw[hu]at hws1
      have hrn:r.length=n-1:=by omega
      have hX0:∀W,Below w.heap.size w W→Calls Tryz.prog 203 #[.slice (some ⟨g,off+4,none⟩) r.length (c0-1)] W (StpP W r (stpDc O r)):=fun W hW=>HS.out r (some ⟨g,off+4,none⟩) (c0-1) W (by have :=hws1.below hW;simpa using this) (by have :=HNL.out;have :=HXL.out;omega)
      rw[hrn]at hX0
      have n3:1≤n:=by omega
      have n4:n≤c0:=by omega
      cases hq:stpDc O r with
      |none=>
       rw[stepsS_no hq]at hg
       rw[hq]at hX0
       have HX:=Lib.hid hX0
       have HGE:=Lib.hid hg
       generalize bs x.s=S at *
       clear HI HR0 hf hg hrow hbw hws hxl hnn hlr hl e1 e2 h1 hq hX0 hws1 hu hrn
       go_wp2_with (first
                   |(go_at_call 203
                     refine(HX.out _ HBW.out).mono ?_
                     intro e w4 hw4
                     obtain⟨rfl,hb⟩:=StpP.no hw4
                     unfold stpV
                     have B4:=Lib.hid ((HBW.out.trans (hb.mono HBW.out.size)).alloc (Nat.le_trans HBW.out.size hb.size) (boxSt st0 (.slice none 0 0)))
                     clear hw4 hb HX))
       refine endS2 Tryz.results186 rfl rfl rfl ?_
       exact⟨B4.out,.inl ⟨HGE.out.symm,rfl⟩⟩
      |some q=>
       obtain⟨s,t⟩:=q
       obtain⟨m,m1,m2,rfl⟩:=stpDc_suf hq
       rw[stepsS_yes hq]at hg
       rw[hq]at hX0
       have HX:=Lib.hid hX0
       have HM:=Lib.hid (And.intro m1 m2)
       have HGE:=Lib.hid hg
       have hlm:(r.drop m).length=n-(1+m):=by rw[List.length_drop];omega
       have HLM:=Lib.hid hlm
       have k0:decide ((m:Int)≤0)=false:=decide_eq_false (by omega)
       have k1:1+m≤n:=by omega
       have k2:(1:Int)+(m:Int)≤(n:Int):=by omega
       obtain⟨o9,hsl,hwm⟩:=HWS.out.drop (1+m) (by rw[hnn];omega)
       rw[hnn]at hsl
       have hu2:(x::r).drop (1+m)=r.drop m:=by rw[show 1+m=m+1 by omega];rfl
       rw[hu2]at hwm
       have HWM:=Lib.hid hwm
       rw[show((1+m:Nat):Int)=(1:Int)+(m:Int) by omega]at hsl
       generalize bs x.s=S at *
       clear HI HR0 hf hg hrow hbw hws hxl hnn hlr hl e1 e2 h1 hq hX0 hws1 hu hrn hlm hwm hu2
       go_wp2_with (first
                   |(go_at_call 203
                     refine(HX.out _ HBW.out).mono ?_
                     intro e w4 hw4
                     obtain⟨o4,j4,rfl,hs4,hb⟩:=StpP.yes hw4 HM.out.2
                     unfold stpV
                     have B4:=Lib.hid ((HBW.out.trans (hb.mono HBW.out.size)).alloc (Nat.le_trans HBW.out.size hb.size) (boxSt s (.slice o4 s.ps.length j4)))
                     have R4:=Lib.hid ((HRW.out.below hb).below (below_box (boxSt s (.slice o4 s.ps.length j4))))
                     have Y4:=Lib.hid (row_apartS HRW.out (Nat.le_refl _) HBW.out.size (StOn.move (fun b hb hF=>⟨hF,(below_box (w:=w4) (boxSt s (.slice o4 s.ps.length j4))).block b hb⟩) _ _ hs4))
                     clear hw4 hb hs4 HX)
                   |(at_builtin
                     refine wpList_pushSt (W:=w4.alloc (boxSt s _)) rfl (.tmp 47) (.tmp 49) rfl s (.slice o4 s.ps.length j4) R4.out Y4.out rfl (by simp[Act.eval]) B4.out.size (by have :=HXL.out;have :=HHL.out;first|omega|(simp only[List.length_append,List.length_cons,List.length_nil];omega)) ?_
                     intro v' w5 hr hb
                     obtain⟨o5,j5,hv⟩:=hr.form
                     have hv2:v'= .slice o5 (xs.length+1) j5:=by rw[hv];simp
                     subst hv2
                     clear hv
                     have R5:=Lib.hid hr
                     have B5:=Lib.hid (B4.out.trans hb)
                     clear hr hb))
       go_roundw
       case rel=>exact⟨r.drop m,f,(xs++[(s,.slice o4 s.ps.length j4)]),o9,c0-(1+m),o5,j5,by rw[HLM.out],by simp,Lib.hid ⟨HWM.out,R5.out,B5.out,by have :=HF.out;have :=HLM.out;omega,by have :=HXL.out;have :=HLM.out;simp only[List.length_append,List.length_cons,List.length_nil];omega,by rw[←HGE.out];simp⟩⟩
       case measure=>simp[lenV];omega
    |false=>
     have s1:((bs x.s).toList==[47])=false:=by rw[bs_tl];exact h1
     cases h2:(x.s==[47,47]) with
     |false=>
      have s2:((bs x.s).toList==[47,47])=false:=by rw[bs_tl];exact h2
      rw[stepsD_bad (by rw[e1,h1]) (by rw[e2,h2])]at hg
      have HGE:=Lib.hid hg
      generalize bs x.s=S at *
      clear HI HR0 hf hg hrow hbw hws hxl hnn hlr hl e1 e2 h1 h2
      go_wp2_with fail
      refine endS2 Tryz.results186 rfl rfl rfl ?_
      exact⟨HBW.out,.inl ⟨HGE.out.symm,rfl⟩⟩
     |true=>
      have s2:((bs x.s).toList==[47,47])=true:=by rw[bs_tl];exact h2
      rw[stepsD_two (by rw[e1,h1]) (by rw[e2,h2])]at hg
      by_cases hc:c0=1
      ·subst hc
       have hr0:r=[]:=List.length_eq_zero_iff.1 (by omega)
       subst hr0
       have hn1:n=1:=by simpa using hlr
       subst hn1
       rw[stepsS_no (show stpDc O []=none from rfl)]at hg
       have HGE:=Lib.hid hg
       have HX:=Lib.hid fun W (hW:Below w.heap.size w W)=>HS.out [] (some ⟨g,off,none⟩) 0 W ⟨Nat.le_refl _,.inl rfl⟩ (by simp)
       rw[List.length_nil,show stpDc O []=none from rfl]at HX
       generalize bs x.s=S at *
       clear HI HR0 hf hg hrow hbw hws hxl hnn hlr hl e1 e2 h1 h2
       go_wp2_with (first
                   |(at_builtin
                     refine wpList_pushSt rfl (.tmp 34) (.tmp 37) rfl (anySt 11) (.slice none 0 0) HRW.out (StOn.iff.2 (KdOn.nil _ _)) rfl (by simp[Act.eval]) HBW.out.size (by have :=HXL.out;have :=HHL.out;first|omega|(simp only[List.length_append,List.length_cons,List.length_nil];omega)) ?_
                     intro v' w3 hr hb
                     obtain⟨o3,j3,hv⟩:=hr.form
                     have hv2:v'= .slice o3 (xs.length+1) j3:=by rw[hv];simp
                     subst hv2
                     clear hv
                     have R3:=Lib.hid hr
                     have B3:=Lib.hid (HBW.out.trans hb)
                     clear hr hb)
                   |(go_at_call 203
                     refine(HX.out _ B3.out).mono ?_
                     intro e w4 hw4
                     obtain⟨rfl,hb⟩:=StpP.no hw4
                     unfold stpV
                     have B4:=Lib.hid ((B3.out.trans (hb.mono B3.out.size)).alloc (Nat.le_trans B3.out.size hb.size) (boxSt st0 (.slice none 0 0)))
                     clear hw4 hb HX))
       refine endS2 Tryz.results186 rfl rfl rfl ?_
       exact⟨B4.out,.inl ⟨HGE.out.symm,rfl⟩⟩
      ·have hws1:=HWS.out.sub 1 (r.length+1) (by omega) (by simp)
       have hu:((x::r).take (r.length+1)).drop 1=r:=by rw[List.take_of_length_le (by simp)];rfl
       rw[hu]at hws1
       have hrn:r.length=n-1:=by omega
       have hX0:∀W,Below w.heap.size w W→Calls Tryz.prog 203 #[.slice (some ⟨g,off+4,none⟩) r.length (c0-1)] W (StpP W r (stpDc O r)):=fun W hW=>HS.out r (some ⟨g,off+4,none⟩) (c0-1) W (by have :=hws1.below hW;simpa using this) (by have :=HNL.out;have :=HXL.out;omega)
       rw[hrn]at hX0
       have n3:1≤n:=by omega
       have n4:n≤c0:=by omega
       cases hq:stpDc O r with
       |none=>
        rw[stepsS_no hq]at hg
        rw[hq]at hX0
        have HX:=Lib.hid hX0
        have HGE:=Lib.hid hg
        generalize bs x.s=S at *
        clear HI HR0 hf hg hrow hbw hws hxl hnn hlr hl e1 e2 h1 h2 hq hX0 hws1 hu hrn
        go_wp2_with (first
                    |(at_builtin
                      refine wpList_pushSt rfl (.tmp 34) (.tmp 37) rfl (anySt 11) (.slice none 0 0) HRW.out (StOn.iff.2 (KdOn.nil _ _)) rfl (by simp[Act.eval]) HBW.out.size (by have :=HXL.out;have :=HHL.out;first|omega|(simp only[List.length_append,List.length_cons,List.length_nil];omega)) ?_
                      intro v' w3 hr hb
                      obtain⟨o3,j3,hv⟩:=hr.form
                      have hv2:v'= .slice o3 (xs.length+1) j3:=by rw[hv];simp
                      subst hv2
                      clear hv
                      have R3:=Lib.hid hr
                      have B3:=Lib.hid (HBW.out.trans hb)
                      clear hr hb)
                    |(go_at_call 203
                      refine(HX.out _ B3.out).mono ?_
                      intro e w4 hw4
                      obtain⟨rfl,hb⟩:=StpP.no hw4
                      unfold stpV
                      have B4:=Lib.hid ((B3.out.trans (hb.mono B3.out.size)).alloc (Nat.le_trans B3.out.size hb.size) (boxSt st0 (.slice none 0 0)))
                      clear hw4 hb HX))
        refine endS2 Tryz.results186 rfl rfl rfl ?_
        exact⟨B4.out,.inl ⟨HGE.out.symm,rfl⟩⟩
       |some q=>
        obtain⟨s,t⟩:=q
        obtain⟨m,m1,m2,rfl⟩:=stpDc_suf hq
        rw[stepsS_yes hq]at hg
        rw[hq]at hX0
        have HX:=Lib.hid hX0
        have HM:=Lib.hid (And.intro m1 m2)
        have HGE:=Lib.hid hg
        have hlm:(r.drop m).length=n-(1+m):=by rw[List.length_drop];omega
        have HLM:=Lib.hid hlm
        have k0:decide ((m:Int)≤0)=false:=decide_eq_false (by omega)
        have k1:1+m≤n:=by omega
        have k2:(1:Int)+(m:Int)≤(n:Int):=by omega
        obtain⟨o9,hsl,hwm⟩:=HWS.out.drop (1+m) (by rw[hnn];omega)
        rw[hnn]at hsl
        have hu2:(x::r).drop (1+m)=r.drop m:=by rw[show 1+m=m+1 by omega];rfl
        rw[hu2]at hwm
        have HWM:=Lib.hid hwm
        rw[show((1+m:Nat):Int)=(1:Int)+(m:Int) by omega]at hsl
        generalize bs x.s=S at *
        clear HI HR0 hf hg hrow hbw hws hxl hnn hlr hl e1 e2 h1 h2 hq hX0 hws1 hu hrn hlm hwm hu2
        go_wp2_with (first
                    |(at_builtin
                      refine wpList_pushSt rfl (.tmp 34) (.tmp 37) rfl (anySt 11) (.slice none 0 0) HRW.out (StOn.iff.2 (KdOn.nil _ _)) rfl (by simp[Act.eval]) HBW.out.size (by have :=HXL.out;have :=HHL.out;first|omega|(simp only[List.length_append,List.length_cons,List.length_nil];omega)) ?_
                      intro v' w3 hr hb
                      obtain⟨o3,j3,hv⟩:=hr.form
                      have hv2:v'= .slice o3 (xs.length+1) j3:=by rw[hv];simp
                      subst hv2
                      clear hv
                      have R3:=Lib.hid hr
                      have B3:=Lib.hid (HBW.out.trans hb)
                      clear hr hb)
                    |(go_at_call 203
                      refine(HX.out _ B3.out).mono ?_
                      intro e w4 hw4
                      obtain⟨o4,j4,rfl,hs4,hb⟩:=StpP.yes hw4 HM.out.2
                      unfold stpV
                      have B4:=Lib.hid ((B3.out.trans (hb.mono B3.out.size)).alloc (Nat.le_trans B3.out.size hb.size) (boxSt s (.slice o4 s.ps.length j4)))
                      have R4:=Lib.hid ((R3.out.below hb).below (below_box (boxSt s (.slice o4 s.ps.length j4))))
                      have Y4:=Lib.hid (row_apartS R3.out (Nat.le_refl _) B3.out.size (StOn.move (fun b hb hF=>⟨hF,(below_box (w:=w4) (boxSt s (.slice o4 s.ps.length j4))).block b hb⟩) _ _ hs4))
                      clear hw4 hb hs4 HX)
                    |(at_builtin
                      refine wpList_pushSt (W:=w4.alloc (boxSt s _)) rfl (.tmp 47) (.tmp 49) rfl s (.slice o4 s.ps.length j4) R4.out Y4.out rfl (by simp[Act.eval]) B4.out.size (by have :=HXL.out;have :=HHL.out;first|omega|(simp only[List.length_append,List.length_cons,List.length_nil];omega)) ?_
                      intro v' w5 hr hb
                      obtain⟨o5,j5,hv⟩:=hr.form
                      have hv2:v'= .slice o5 (xs.length+1+1) j5:=by rw[hv];simp
                      subst hv2
                      clear hv
                      have R5:=Lib.hid hr
                      have B5:=Lib.hid (B4.out.trans hb)
                      clear hr hb))
        go_roundw
        case rel=>exact⟨r.drop m,f,((xs++[(anySt 11,.slice none 0 0)])++[(s,.slice o4 s.ps.length j4)]),o9,c0-(1+m),o5,j5,by rw[HLM.out],by simp,Lib.hid ⟨HWM.out,R5.out,B5.out,by have :=HF.out;have :=HLM.out;omega,by have :=HXL.out;have :=HLM.out;simp only[List.length_append,List.length_cons,List.length_nil];omega,by rw[←HGE.out];simp⟩⟩
        case measure=>simp[lenV];omega
end Char
namespace Char
open Go.RowKit Go.Lib
open Go.Proofs.YtlmpkpjjakallaaGreatDoor.Fig (outT outV)
theorem info_wl:(Tryz.prog.info? 38).map (fun i=>(i.zero,i.size,i.bytes))=some (some (.slice none 0 0),1,24):=by kernel_rfl
def slV (z:List Wd×Option Addr×Nat):Value:= .slice z.2.1 z.1.length z.2.2
def RowL (B:Nat)(w:World)(v:Value)(zs:List (List Wd×Option Addr×Nat)):Prop:=w.ownsRow B 38 1 v zs.length (zs.map slV)
theorem RowL.nil (B:Nat)(w:World):RowL B w (.slice none 0 0) []:=World.ownsRow_nil _ _ _ _
theorem RowL.form {B:Nat}{w:World}{v:Value}{zs:List (List Wd×Option Addr×Nat)}(h:RowL B w v zs):∃o j,v= .slice o zs.length j:=by
 rcases h.2 with⟨h0,h1⟩|⟨g,cap,cur,e1,_⟩
 ·exact⟨none,0,by rw[h0,←h1]⟩
 ·exact⟨_,_,e1⟩
theorem RowL.below {B:Nat}{w w':World}{v:Value}{zs:List (List Wd×Option Addr×Nat)}(h:RowL B w v zs)(hb:Below w.heap.size w w'):RowL B w' v zs:=by
 have hlt:=World.ownsRow.lt h
 refine⟨h.1,?_⟩
 rcases h.2 with h0|⟨g,cap,cur,e1,e2,hg,e3⟩
 ·exact .inl h0
 ·exact .inr ⟨g,cap,cur,e1,e2,(hb.block g (hlt g (by rw[e1];rfl)).2).trans hg,e3⟩
theorem RowL.at {B:Nat}{w:World}{v:Value}{zs:List (List Wd×Option Addr×Nat)}(h:RowL B w v zs)(k:Nat)(hk:k<zs.length):∃g j,v= .slice (some ⟨g,0,none⟩) zs.length j∧B≤g∧g<w.heap.size∧w.cell? ⟨g,k,none⟩=some (.slice zs[k].2.1 zs[k].1.length zs[k].2.2):=by
 have hlt:=World.ownsRow.lt h
 rcases h.2 with⟨h0,h1⟩|⟨g,cap,cur,e1,e2,hg,e3⟩
 ·have hz:=h1.symm
  omega
 ·have hc:=World.ownsRow.cells h (g:=g) (by rw[e1];rfl)
  have h2:=hc k (slV zs[k]) (by rw[List.getElem?_map,List.getElem?_eq_getElem hk];rfl)
  rw[Addr.add_lit,Nat.zero_add]at h2
  exact⟨g,cap,e1,e2,(hlt g (by rw[e1];rfl)).2,h2⟩
theorem wpList_pushL {ops:Array Oper}{rest:List Oper}{o:Oper}{a:Act}{Q:Exit→Act→World→Prop}{B:Nat}{W:World}{v:Value}{zs:List (List Wd×Option Addr×Nat)}
 (hgd:o.guard=none) (s x:Operand) (ho:o.op= .call {callee:= .builtin .append,args:= #[s,x],argTypes:= #[205,205]})
 (l:List Wd) (p:Option Addr) (n c:Nat) (hn:l.length=n) (hown:RowL B W v zs) (hs:a.eval s=v) (hx:a.eval x= .slice (some ⟨W.heap.size,0,none⟩) 1 1) (hB:B≤W.heap.size) (hlen:zs.length≤1000)
 (h:∀v' w1,RowL B w1 v' (zs++[(l,p,c)])→Below B W w1→wpList Tryz.prog ops Q rest (a.put o.dst v') w1):
 wpList Tryz.prog ops Q (o::rest) a (W.alloc (.cells #[.slice p n c] 38)):=by
 subst hn
 refine wpList_push info_wl Tryz.underlying205 rfl (by decide) (by decide) hgd s x ho [slV (l,p,c)] rfl ?_ hown hs hx hB (by omega) fun v' w1 h1 h2 _ _=> ?_
 ·intro u hu
  rw[List.mem_singleton]at hu
  subst hu
  rfl
 ·refine h v' w1 ?_ h2
  unfold RowL
  rw[List.length_append,List.map_append]
  exact h1
def ArP (w0 w:World)(ls:List (List Wd))(e:Ending)(w':World):Prop:=Below w.heap.size w w'∧∃(zs:List (List Wd×Option Addr×Nat)) (o:Option Addr) (j:Nat),zs.map (·.1)=ls∧RowL w.heap.size w' (.slice o zs.length j) zs∧(∀z∈zs,WSl w0 z.2.1 z.2.2 z.1)∧e= .returned (.slice o zs.length j)
theorem cutA_nil (n:Int)(cur:List Wd):cutA n cur []=[cur]:=by rw[cutA]
theorem cutA_com {n m:Int}{x:Wd}{cur r:List Wd}(hd:dpt n x=m)(h0:m=0)(hc:mkW [44] x=true):cutA n cur (x::r)=cur::cutA m [] r:=by rw[cutA,hd,if_pos ⟨h0,hc⟩]
theorem cutA_not {n m:Int}{x:Wd}{cur r:List Wd}(hd:dpt n x=m)(h:¬(m=0∧mkW [44] x=true)):cutA n cur (x::r)=cutA m (cur++[x]) r:=by rw[cutA,hd,if_neg h]
theorem take_snoc {ts:List Wd}{k from':Nat}(hk:k<ts.length)(hf:from'≤k):(ts.take (k+1)).drop from'=(ts.take k).drop from'++[ts[k]]:=by
 rw[List.take_add_one,List.getElem?_eq_getElem hk,Option.toList_some,List.drop_append_of_le_length (by rw[List.length_take];omega)]
set_option maxRecDepth 100000 in
set_option maxHeartbeats 8000000 in
theorem refArgs_any (ts:List Wd)(o:Option Addr)(c:Nat)(w0 w:World)(h:WSl w0 o c ts)(hw0:Below w0.heap.size w0 w)(hl:ts.length≤800):
 Calls Tryz.prog 202 #[.slice o ts.length c] w (ArP w0 w (cutA 0 [] ts)):=by
 obtain⟨R,hR⟩:∃R,cutA 0 [] ts=R:=⟨_,rfl⟩
 rw[hR]
 have HR0:=Lib.hid hR
 have H:=Lib.hid h
 have HW0:=Lib.hid hw0
 have HP:=Lib.hid fun(x:Wd) (W:World)=>opens_any x W
 have HC:=Lib.hid fun(x:Wd) (W:World)=>closes_any x W
 have HMM:=Lib.hid fun(x:Wd) (W:World)=>mark13_any x [44] W
 unfold BoP wdV at HP HC HMM
 clear hR h hw0
 go_enter Tryz.func202,Tryz.ntmps202
 go_wp2_with fail
 go_loopw [3,4,5,6] (fun v3 v4 v5 v wr=>∃(k fr:Nat) (n:Int) (zs:List (List Wd×Option Addr×Nat)) (o3:Option Addr) (j3:Nat),v= .int .i64 (k:Int)∧v5= .int .i64 n∧v4= .int .i64 (fr:Int)∧v3= .slice o3 zs.length j3∧k≤ts.length∧fr≤k∧ -(k:Int)≤n∧n≤(k:Int)∧zs.length≤k∧Hid (RowL w.heap.size wr v3 zs∧(∀z∈zs,WSl w0 z.2.1 z.2.2 z.1)∧Below w.heap.size w wr∧zs.map (·.1)++cutA n ((ts.take k).drop fr) (ts.drop k)=R)) (fun _ _ _ v _=>ts.length-(RowKit.intOf v).toNat)
 case atStart=>exact⟨0,0,0,[],none,0,rfl,rfl,rfl,rfl,by omega,by omega,by omega,by omega,by simp,Lib.hid ⟨RowL.nil _ _,fun _ h=>by(cases h),Below.refl _ _,HR0.out⟩⟩
 case round=>
  obtain⟨k,fr,n,zs,o3,j3,rfl,rfl,rfl,rfl,hk,hfr,hn1,hn2,hz,HI⟩:=hrel
  obtain⟨hrow,hzs,hbw,hg⟩:=HI.out
  have HRW:=Lib.hid hrow
  have HZS:=Lib.hid hzs
  have HBW:=Lib.hid hbw
  have HFR:=Lib.hid hfr
  have hkf:((ts.take k).drop fr).length=k-fr:=by rw[List.length_drop,List.length_take];omega
  have HKF:=Lib.hid hkf
  have hcap:=H.out.1
  by_cases hlt:k<ts.length
  ·obtain⟨o9,hsl,hw9⟩:=H.out.mid fr k hfr (by omega)
   have HW9:=Lib.hid hw9
   obtain⟨g,off,rfl,hgl,x0,x1,x2,x3⟩:=(H.out.below HW0.out).word k hlt
   have hcl:∀W,Below w.heap.size w W→g<W.heap.size∧W.cell? ⟨g,off+k*4,none⟩=some (.int .i64 (ts[k].k:Int))∧W.cell? ⟨g,off+k*4+1,none⟩=some (.string (bs ts[k].s))∧W.cell? ⟨g,off+k*4+2,none⟩=some (.int .i64 (outT ts[k].n))∧W.cell? ⟨g,off+k*4+3,none⟩=some (.int .i64 (outV ts[k].n)):=fun W hW=>⟨Nat.lt_of_lt_of_le hgl hW.size,(hW.cell (p:=⟨g,_,none⟩) hgl).trans x0,(hW.cell (p:=⟨g,_,none⟩) hgl).trans x1,(hW.cell (p:=⟨g,_,none⟩) hgl).trans x2,(hW.cell (p:=⟨g,_,none⟩) hgl).trans x3⟩
   clear x0 x1 x2 x3 hgl
   have hdr:=List.drop_eq_getElem_cons hlt
   rw[hdr]at hg
   generalize hx:ts[k]=x at *
   have HXX:=Lib.hid hx
   have HPX:=Lib.hid fun W=>HP.out x W
   have HCX:=Lib.hid fun W=>HC.out x W
   have HMX:=Lib.hid fun W=>HMM.out x W
   have HCL:=Lib.hid hcl
   obtain⟨hg0,y0,y1,y2,y3⟩:=hcl wr hbw
   clear hcl hbw hrow hzs HI HR0 hx hdr hfr hkf hw9
   have hk8:(k:Int)≤800:=by omega
   have l0:decide ((k:Int)<(ts.length:Int))=true:=decide_eq_true (by omega)
   cases hb1:opnW x with
   |true=>
    have hcc:clsW x=false:=by
     cases hz:clsW x with
     |false=>rfl
     |true=>rw[cls_opn hz]at hb1;cases hb1
    have hd:dpt n x=n+1:=by unfold dpt;rw[if_pos hb1]
    rw[hb1]at HPX
    rw[hcc]at HCX
    clear hb1 hcc
    by_cases hn0:n+1=0
    ·have kn:((n+1)==0)=true:=by rw[beq_iff_eq];exact hn0
     cases hm:mkW [44] x with
     |true=>
      rw[cutA_com hd hn0 hm]at hg
      rw[hm]at HMX
      have HGE:=Lib.hid hg
      clear hg hd hm
      have HN0:=Lib.hid hn0
      clear hn0
      go_wp2_with (first
       |(go_at_call 53
         refine(HPX.out _).mono ?_
         rintro e w1 ⟨rfl,hb1⟩
         have hb2:=HBW.out.trans (hb1.mono HBW.out.size)
         clear hg0 y0 y1 y2 y3
         obtain⟨hg0,y0,y1,y2,y3⟩:=HCL.out w1 hb2
         have HB1:=Lib.hid hb2
         have HS1:=Lib.hid hb1
         clear hb1 hb2)
       |(go_at_call 54
         refine(HCX.out _).mono ?_
         rintro e w4 ⟨rfl,hb4⟩
         have hb6:=HB1.out.trans (hb4.mono HB1.out.size)
         clear hg0 y0 y1 y2 y3
         obtain⟨hg0,y0,y1,y2,y3⟩:=HCL.out w4 hb6
         have HB4:=Lib.hid hb6
         have HS4:=Lib.hid (HS1.out.trans (hb4.mono HS1.out.size))
         clear hb4 hb6)
       |(go_at_call 89
         refine(HMX.out _).mono ?_
         rintro e w5 ⟨rfl,hb5⟩
         have HB5:=Lib.hid (HB4.out.trans (hb5.mono HB4.out.size))
         have HS5:=Lib.hid (HS4.out.trans (hb5.mono HS4.out.size))
         have R5:=Lib.hid (HRW.out.below HS5.out)
         clear hb5)
       |(at_builtin
         refine wpList_pushL (W:=w5) rfl (.tmp 36) (.tmp 41) rfl ((ts.take k).drop fr) o9 (k-fr) (c-fr) HKF.out R5.out rfl (by simp[Act.eval]) HB5.out.size (by omega) ?_
         intro v' w6 hr hb
         obtain⟨o6,j6,hv⟩:=hr.form
         have hv2:v'= .slice o6 (zs.length+1) j6:=by rw[hv];simp
         subst hv2
         clear hv
         have R6:=Lib.hid hr
         have B6:=Lib.hid (HB5.out.trans hb)
         clear hr hb))
      go_roundw
      case rel=>exact⟨k+1,k+1,n+1,zs++[((ts.take k).drop fr,o9,c-fr)],o6,j6,by go_num,rfl,by go_num,by simp,by omega,by omega,by omega,by omega,by simp;omega,Lib.hid ⟨R6.out,fun z hz=>by
       rw[List.mem_append,List.mem_singleton]at hz
       rcases hz with hz|rfl
       ·exact HZS.out z hz
       ·exact HW9.out,B6.out,by rw[List.map_append,List.append_assoc,show(ts.take (k+1)).drop (k+1)=[] from List.drop_eq_nil_of_le (by rw[List.length_take];omega)];exact HGE.out⟩⟩
      case measure=>simp[RowKit.intOf];omega
     |false=>
      rw[cutA_not hd (by rintro⟨_,h⟩;rw[hm]at h;cases h)]at hg
      rw[hm]at HMX
      have HGE:=Lib.hid hg
      clear hg hd hm hsl
      have HN0:=Lib.hid hn0
      clear hn0
      go_wp2_with (first
       |(go_at_call 53
         refine(HPX.out _).mono ?_
         rintro e w1 ⟨rfl,hb1⟩
         have hb2:=HBW.out.trans (hb1.mono HBW.out.size)
         clear hg0 y0 y1 y2 y3
         obtain⟨hg0,y0,y1,y2,y3⟩:=HCL.out w1 hb2
         have HB1:=Lib.hid hb2
         have HS1:=Lib.hid hb1
         clear hb1 hb2)
       |(go_at_call 54
         refine(HCX.out _).mono ?_
         rintro e w4 ⟨rfl,hb4⟩
         have hb6:=HB1.out.trans (hb4.mono HB1.out.size)
         clear hg0 y0 y1 y2 y3
         obtain⟨hg0,y0,y1,y2,y3⟩:=HCL.out w4 hb6
         have HB4:=Lib.hid hb6
         have HS4:=Lib.hid (HS1.out.trans (hb4.mono HS1.out.size))
         clear hb4 hb6)
       |(go_at_call 89
         refine(HMX.out _).mono ?_
         rintro e w5 ⟨rfl,hb5⟩
         have HB5:=Lib.hid (HB4.out.trans (hb5.mono HB4.out.size))
         have HS5:=Lib.hid (HS4.out.trans (hb5.mono HS4.out.size))
         have R5:=Lib.hid (HRW.out.below HS5.out)
         clear hb5))
      go_roundw
      case rel=>exact⟨k+1,fr,n+1,zs,o3,j3,by go_num,rfl,rfl,rfl,by omega,Nat.le_succ_of_le HFR.out,by omega,by omega,by omega,Lib.hid ⟨R5.out,HZS.out,HB5.out,by rw[take_snoc hlt HFR.out,HXX.out];exact HGE.out⟩⟩
      case measure=>simp[RowKit.intOf];omega
    ·have kn:((n+1)==0)=false:=by rw[beq_eq_false_iff_ne];exact hn0
     rw[cutA_not hd (fun h=>hn0 h.1)]at hg
     have HGE:=Lib.hid hg
     clear hg hd hn0 hsl
     go_wp2_with (first
      |(go_at_call 53
        refine(HPX.out _).mono ?_
        rintro e w1 ⟨rfl,hb1⟩
        have hb2:=HBW.out.trans (hb1.mono HBW.out.size)
        clear hg0 y0 y1 y2 y3
        obtain⟨hg0,y0,y1,y2,y3⟩:=HCL.out w1 hb2
        have HB1:=Lib.hid hb2
        have HS1:=Lib.hid hb1
        clear hb1 hb2)
      |(go_at_call 54
        refine(HCX.out _).mono ?_
        rintro e w4 ⟨rfl,hb4⟩
        have hb6:=HB1.out.trans (hb4.mono HB1.out.size)
        clear hg0 y0 y1 y2 y3
        obtain⟨hg0,y0,y1,y2,y3⟩:=HCL.out w4 hb6
        have HB4:=Lib.hid hb6
        have HS4:=Lib.hid (HS1.out.trans (hb4.mono HS1.out.size))
        clear hb4 hb6))
     go_roundw
     case rel=>exact⟨k+1,fr,n+1,zs,o3,j3,by go_num,rfl,rfl,rfl,by omega,Nat.le_succ_of_le HFR.out,by omega,by omega,by omega,Lib.hid ⟨HRW.out.below HS4.out,HZS.out,HB4.out,by rw[take_snoc hlt HFR.out,HXX.out];exact HGE.out⟩⟩
     case measure=>simp[RowKit.intOf];omega
   |false=>
    cases hcc:clsW x with
    |true=>
     have hd:dpt n x=n-1:=by unfold dpt;rw[if_neg (by rw[hb1];simp),if_pos hcc]
     rw[hb1]at HPX
     rw[hcc]at HCX
     clear hb1 hcc
     by_cases hn0:n-1=0
     ·have kn:((n-1)==0)=true:=by rw[beq_iff_eq];exact hn0
      cases hm:mkW [44] x with
      |true=>
       rw[cutA_com hd hn0 hm]at hg
       rw[hm]at HMX
       have HGE:=Lib.hid hg
       clear hg hd hm
       have HN0:=Lib.hid hn0
       clear hn0
       go_wp2_with (first
        |(go_at_call 53
          refine(HPX.out _).mono ?_
          rintro e w1 ⟨rfl,hb1⟩
          have hb2:=HBW.out.trans (hb1.mono HBW.out.size)
          clear hg0 y0 y1 y2 y3
          obtain⟨hg0,y0,y1,y2,y3⟩:=HCL.out w1 hb2
          have HB1:=Lib.hid hb2
          have HS1:=Lib.hid hb1
          clear hb1 hb2)
        |(go_at_call 54
          refine(HCX.out _).mono ?_
          rintro e w4 ⟨rfl,hb4⟩
          have hb6:=HB1.out.trans (hb4.mono HB1.out.size)
          clear hg0 y0 y1 y2 y3
          obtain⟨hg0,y0,y1,y2,y3⟩:=HCL.out w4 hb6
          have HB4:=Lib.hid hb6
          have HS4:=Lib.hid (HS1.out.trans (hb4.mono HS1.out.size))
          clear hb4 hb6)
        |(go_at_call 89
          refine(HMX.out _).mono ?_
          rintro e w5 ⟨rfl,hb5⟩
          have HB5:=Lib.hid (HB4.out.trans (hb5.mono HB4.out.size))
          have HS5:=Lib.hid (HS4.out.trans (hb5.mono HS4.out.size))
          have R5:=Lib.hid (HRW.out.below HS5.out)
          clear hb5)
        |(at_builtin
          refine wpList_pushL (W:=w5) rfl (.tmp 36) (.tmp 41) rfl ((ts.take k).drop fr) o9 (k-fr) (c-fr) HKF.out R5.out rfl (by simp[Act.eval]) HB5.out.size (by omega) ?_
          intro v' w6 hr hb
          obtain⟨o6,j6,hv⟩:=hr.form
          have hv2:v'= .slice o6 (zs.length+1) j6:=by rw[hv];simp
          subst hv2
          clear hv
          have R6:=Lib.hid hr
          have B6:=Lib.hid (HB5.out.trans hb)
          clear hr hb))
       go_roundw
       case rel=>exact⟨k+1,k+1,n-1,zs++[((ts.take k).drop fr,o9,c-fr)],o6,j6,by go_num,rfl,by go_num,by simp,by omega,by omega,by omega,by omega,by simp;omega,Lib.hid ⟨R6.out,fun z hz=>by
        rw[List.mem_append,List.mem_singleton]at hz
        rcases hz with hz|rfl
        ·exact HZS.out z hz
        ·exact HW9.out,B6.out,by rw[List.map_append,List.append_assoc,show(ts.take (k+1)).drop (k+1)=[] from List.drop_eq_nil_of_le (by rw[List.length_take];omega)];exact HGE.out⟩⟩
       case measure=>simp[RowKit.intOf];omega
      |false=>
       rw[cutA_not hd (by rintro⟨_,h⟩;rw[hm]at h;cases h)]at hg
       rw[hm]at HMX
       have HGE:=Lib.hid hg
       clear hg hd hm hsl
       have HN0:=Lib.hid hn0
       clear hn0
       go_wp2_with (first
        |(go_at_call 53
          refine(HPX.out _).mono ?_
          rintro e w1 ⟨rfl,hb1⟩
          have hb2:=HBW.out.trans (hb1.mono HBW.out.size)
          clear hg0 y0 y1 y2 y3
          obtain⟨hg0,y0,y1,y2,y3⟩:=HCL.out w1 hb2
          have HB1:=Lib.hid hb2
          have HS1:=Lib.hid hb1
          clear hb1 hb2)
        |(go_at_call 54
          refine(HCX.out _).mono ?_
          rintro e w4 ⟨rfl,hb4⟩
          have hb6:=HB1.out.trans (hb4.mono HB1.out.size)
          clear hg0 y0 y1 y2 y3
          obtain⟨hg0,y0,y1,y2,y3⟩:=HCL.out w4 hb6
          have HB4:=Lib.hid hb6
          have HS4:=Lib.hid (HS1.out.trans (hb4.mono HS1.out.size))
          clear hb4 hb6)
        |(go_at_call 89
          refine(HMX.out _).mono ?_
          rintro e w5 ⟨rfl,hb5⟩
          have HB5:=Lib.hid (HB4.out.trans (hb5.mono HB4.out.size))
          have HS5:=Lib.hid (HS4.out.trans (hb5.mono HS4.out.size))
          have R5:=Lib.hid (HRW.out.below HS5.out)
          clear hb5))
       go_roundw
       case rel=>exact⟨k+1,fr,n-1,zs,o3,j3,by go_num,rfl,rfl,rfl,by omega,Nat.le_succ_of_le HFR.out,by omega,by omega,by omega,Lib.hid ⟨R5.out,HZS.out,HB5.out,by rw[take_snoc hlt HFR.out,HXX.out];exact HGE.out⟩⟩
       case measure=>simp[RowKit.intOf];omega
     ·have kn:((n-1)==0)=false:=by rw[beq_eq_false_iff_ne];exact hn0
      rw[cutA_not hd (fun h=>hn0 h.1)]at hg
      have HGE:=Lib.hid hg
      clear hg hd hn0 hsl
      go_wp2_with (first
       |(go_at_call 53
         refine(HPX.out _).mono ?_
         rintro e w1 ⟨rfl,hb1⟩
         have hb2:=HBW.out.trans (hb1.mono HBW.out.size)
         clear hg0 y0 y1 y2 y3
         obtain⟨hg0,y0,y1,y2,y3⟩:=HCL.out w1 hb2
         have HB1:=Lib.hid hb2
         have HS1:=Lib.hid hb1
         clear hb1 hb2)
       |(go_at_call 54
         refine(HCX.out _).mono ?_
         rintro e w4 ⟨rfl,hb4⟩
         have hb6:=HB1.out.trans (hb4.mono HB1.out.size)
         clear hg0 y0 y1 y2 y3
         obtain⟨hg0,y0,y1,y2,y3⟩:=HCL.out w4 hb6
         have HB4:=Lib.hid hb6
         have HS4:=Lib.hid (HS1.out.trans (hb4.mono HS1.out.size))
         clear hb4 hb6))
      go_roundw
      case rel=>exact⟨k+1,fr,n-1,zs,o3,j3,by go_num,rfl,rfl,rfl,by omega,Nat.le_succ_of_le HFR.out,by omega,by omega,by omega,Lib.hid ⟨HRW.out.below HS4.out,HZS.out,HB4.out,by rw[take_snoc hlt HFR.out,HXX.out];exact HGE.out⟩⟩
      case measure=>simp[RowKit.intOf];omega
    |false=>
     have hd:dpt n x=n:=by unfold dpt;rw[if_neg (by rw[hb1];simp),if_neg (by rw[hcc];simp)]
     rw[hb1]at HPX
     rw[hcc]at HCX
     clear hb1 hcc
     by_cases hn0:n=0
     ·have kn:(n==0)=true:=by rw[beq_iff_eq];exact hn0
      cases hm:mkW [44] x with
      |true=>
       rw[cutA_com hd hn0 hm]at hg
       rw[hm]at HMX
       have HGE:=Lib.hid hg
       clear hg hd hm
       have HN0:=Lib.hid hn0
       clear hn0
       go_wp2_with (first
        |(go_at_call 53
          refine(HPX.out _).mono ?_
          rintro e w1 ⟨rfl,hb1⟩
          have hb2:=HBW.out.trans (hb1.mono HBW.out.size)
          clear hg0 y0 y1 y2 y3
          obtain⟨hg0,y0,y1,y2,y3⟩:=HCL.out w1 hb2
          have HB1:=Lib.hid hb2
          have HS1:=Lib.hid hb1
          clear hb1 hb2)
        |(go_at_call 54
          refine(HCX.out _).mono ?_
          rintro e w4 ⟨rfl,hb4⟩
          have hb6:=HB1.out.trans (hb4.mono HB1.out.size)
          clear hg0 y0 y1 y2 y3
          obtain⟨hg0,y0,y1,y2,y3⟩:=HCL.out w4 hb6
          have HB4:=Lib.hid hb6
          have HS4:=Lib.hid (HS1.out.trans (hb4.mono HS1.out.size))
          clear hb4 hb6)
        |(go_at_call 89
          refine(HMX.out _).mono ?_
          rintro e w5 ⟨rfl,hb5⟩
          have HB5:=Lib.hid (HB4.out.trans (hb5.mono HB4.out.size))
          have HS5:=Lib.hid (HS4.out.trans (hb5.mono HS4.out.size))
          have R5:=Lib.hid (HRW.out.below HS5.out)
          clear hb5)
        |(at_builtin
          refine wpList_pushL (W:=w5) rfl (.tmp 36) (.tmp 41) rfl ((ts.take k).drop fr) o9 (k-fr) (c-fr) HKF.out R5.out rfl (by simp[Act.eval]) HB5.out.size (by omega) ?_
          intro v' w6 hr hb
          obtain⟨o6,j6,hv⟩:=hr.form
          have hv2:v'= .slice o6 (zs.length+1) j6:=by rw[hv];simp
          subst hv2
          clear hv
          have R6:=Lib.hid hr
          have B6:=Lib.hid (HB5.out.trans hb)
          clear hr hb))
       go_roundw
       case rel=>exact⟨k+1,k+1,n,zs++[((ts.take k).drop fr,o9,c-fr)],o6,j6,by go_num,rfl,by go_num,by simp,by omega,by omega,by omega,by omega,by simp;omega,Lib.hid ⟨R6.out,fun z hz=>by
        rw[List.mem_append,List.mem_singleton]at hz
        rcases hz with hz|rfl
        ·exact HZS.out z hz
        ·exact HW9.out,B6.out,by rw[List.map_append,List.append_assoc,show(ts.take (k+1)).drop (k+1)=[] from List.drop_eq_nil_of_le (by rw[List.length_take];omega)];exact HGE.out⟩⟩
       case measure=>simp[RowKit.intOf];omega
      |false=>
       rw[cutA_not hd (by rintro⟨_,h⟩;rw[hm]at h;cases h)]at hg
       rw[hm]at HMX
       have HGE:=Lib.hid hg
       clear hg hd hm hsl
       have HN0:=Lib.hid hn0
       clear hn0
       go_wp2_with (first
        |(go_at_call 53
          refine(HPX.out _).mono ?_
          rintro e w1 ⟨rfl,hb1⟩
          have hb2:=HBW.out.trans (hb1.mono HBW.out.size)
          clear hg0 y0 y1 y2 y3
          obtain⟨hg0,y0,y1,y2,y3⟩:=HCL.out w1 hb2
          have HB1:=Lib.hid hb2
          have HS1:=Lib.hid hb1
          clear hb1 hb2)
        |(go_at_call 54
          refine(HCX.out _).mono ?_
          rintro e w4 ⟨rfl,hb4⟩
          have hb6:=HB1.out.trans (hb4.mono HB1.out.size)
          clear hg0 y0 y1 y2 y3
          obtain⟨hg0,y0,y1,y2,y3⟩:=HCL.out w4 hb6
          have HB4:=Lib.hid hb6
          have HS4:=Lib.hid (HS1.out.trans (hb4.mono HS1.out.size))
          clear hb4 hb6)
        |(go_at_call 89
          refine(HMX.out _).mono ?_
          rintro e w5 ⟨rfl,hb5⟩
          have HB5:=Lib.hid (HB4.out.trans (hb5.mono HB4.out.size))
          have HS5:=Lib.hid (HS4.out.trans (hb5.mono HS4.out.size))
          have R5:=Lib.hid (HRW.out.below HS5.out)
          clear hb5))
       go_roundw
       case rel=>exact⟨k+1,fr,n,zs,o3,j3,by go_num,rfl,rfl,rfl,by omega,Nat.le_succ_of_le HFR.out,by omega,by omega,by omega,Lib.hid ⟨R5.out,HZS.out,HB5.out,by rw[take_snoc hlt HFR.out,HXX.out];exact HGE.out⟩⟩
       case measure=>simp[RowKit.intOf];omega
     ·have kn:(n==0)=false:=by rw[beq_eq_false_iff_ne];exact hn0
      rw[cutA_not hd (fun h=>hn0 h.1)]at hg
      have HGE:=Lib.hid hg
      clear hg hd hn0 hsl
      go_wp2_with (first
       |(go_at_call 53
         refine(HPX.out _).mono ?_
         rintro e w1 ⟨rfl,hb1⟩
         have hb2:=HBW.out.trans (hb1.mono HBW.out.size)
         clear hg0 y0 y1 y2 y3
         obtain⟨hg0,y0,y1,y2,y3⟩:=HCL.out w1 hb2
         have HB1:=Lib.hid hb2
         have HS1:=Lib.hid hb1
         clear hb1 hb2)
       |(go_at_call 54
         refine(HCX.out _).mono ?_
         rintro e w4 ⟨rfl,hb4⟩
         have hb6:=HB1.out.trans (hb4.mono HB1.out.size)
         clear hg0 y0 y1 y2 y3
         obtain⟨hg0,y0,y1,y2,y3⟩:=HCL.out w4 hb6
         have HB4:=Lib.hid hb6
         have HS4:=Lib.hid (HS1.out.trans (hb4.mono HS1.out.size))
         clear hb4 hb6))
      go_roundw
      case rel=>exact⟨k+1,fr,n,zs,o3,j3,by go_num,rfl,rfl,rfl,by omega,Nat.le_succ_of_le HFR.out,by omega,by omega,by omega,Lib.hid ⟨HRW.out.below HS4.out,HZS.out,HB4.out,by rw[take_snoc hlt HFR.out,HXX.out];exact HGE.out⟩⟩
      case measure=>simp[RowKit.intOf];omega
  ·have e:k=ts.length:=by omega
   subst e
   rw[List.drop_length,List.take_length,cutA_nil]at hg
   obtain⟨o9,hsl,hw9⟩:=H.out.drop fr hfr
   rw[List.take_length]at hkf HKF
   have l0:decide ((ts.length:Int)<(ts.length:Int))=false:=decide_eq_false (by omega)
   have HGE:=Lib.hid hg
   have HW9:=Lib.hid hw9
   clear hg hrow hbw HI HR0 hzs hw9 hkf hfr
   go_wp2_with (first
    |(at_builtin
      refine wpList_pushL (W:=wr) rfl (.tmp 45) (.tmp 49) rfl (ts.drop fr) o9 (ts.length-fr) (c-fr) HKF.out HRW.out rfl (by simp[Act.eval]) HBW.out.size (by omega) ?_
      intro v' w6 hr hb
      obtain⟨o6,j6,hv⟩:=hr.form
      have hv2:v'= .slice o6 (zs.length+1) j6:=by rw[hv];simp
      subst hv2
      clear hv
      have R6:=Lib.hid hr
      have B6:=Lib.hid (HBW.out.trans hb)
      clear hr hb))
   go_ret
   refine⟨B6.out,zs++[(ts.drop fr,o9,c-fr)],o6,j6,by rw[List.map_append];exact HGE.out,?_,fun z hz=> ?_,by simp⟩
   ·have :=R6.out
    rw[List.length_append]at *
    exact this
   ·rw[List.mem_append,List.mem_singleton]at hz
    rcases hz with hz|rfl
    ·exact HZS.out z hz
    ·exact HW9.out
end Char
end Go.Proofs.YtlmpkpjjakallaaGreatDoor
