import Derived.Test.YtlmpkpjjakallaaGreatDoorPk15
import Derived.BigQuiet
import Derived.Test.YtlmpkpjjakallaaGreatDoorPk11
namespace Go.Proofs.YtlmpkpjjakallaaGreatDoor
namespace Char
open Go.RowKit Go.Lib
open Go.Proofs.YtlmpkpjjakallaaGreatDoor.Fig (outT outV)
def StSl (w:World)(g:Nat)(os:List (List UInt8)):Prop:=g<w.heap.size∧∀j (h:j<os.length),w.cell? ⟨g,j,none⟩=some (.string (bs os[j]))
theorem StSl.below {w w':World}{g:Nat}{os:List (List UInt8)}(h:StSl w g os)(hb:Below w.heap.size w w'):StSl w' g os:=
 ⟨Nat.lt_of_lt_of_le h.1 hb.size,fun j hj=>(hb.cell (p:=⟨g,j,none⟩) h.1).trans (h.2 j hj)⟩
theorem below_drewN (W:World)(n:Nat):Below W.heap.size W (W.drewN n):=⟨rfl,rfl,rfl,Nat.le_refl _,fun _ _=>rfl⟩
def atI:Option Nat→Int
 |none=> -1
 |some k=>(k:Int)
def pAt (ts:List Wd)(k:Nat):Bool:=if k=0 then false else match ts[k-1]? with
 |some x=>barW x
 |none=>false
theorem pAt_succ {ts:List Wd}{k:Nat}(h:k<ts.length):pAt ts (k+1)=barW ts[k]:=by
 unfold pAt
 rw[if_neg (by omega),Nat.add_sub_cancel,List.getElem?_eq_getElem h]
def hitB (os:List (List UInt8))(n:Int)(p:Bool)(x:Wd):Bool:=decide (dpt n x=0)&&(decide ((x.k:Int)=5)&&(p&&decide (x.s∈os)))
theorem lastG_drop (os:List (List UInt8))(ts:List Wd)(n:Int)(k:Nat)(acc:Option Nat)(h:k<ts.length):lastG os n (pAt ts k) k acc (ts.drop k)=lastG os (dpt n ts[k]) (pAt ts (k+1)) (k+1) (if hitB os n (pAt ts k) ts[k]=true then some k else acc) (ts.drop (k+1)):=by
 rw[List.drop_eq_getElem_cons h,lastG,pAt_succ h]
 have :(dpt n ts[k]=0∧(ts[k].k:Int)=5∧pAt ts k=true∧ts[k].s∈os)↔hitB os n (pAt ts k) ts[k]=true:=by
  unfold hitB
  simp only[Bool.and_eq_true,decide_eq_true_eq]
 simp only[this]
theorem mem_take (os:List (List UInt8))(s:List UInt8)(j:Nat)(h:j<os.length):s∈os.take (j+1)↔s∈os.take j∨os[j]=s:=by
 rw[List.take_succ_eq_append_getElem h,List.mem_append,List.mem_singleton]
 exact⟨fun h=>h.imp_right Eq.symm,fun h=>h.imp_right Eq.symm⟩
set_option maxRecDepth 100000 in
set_option maxHeartbeats 16000000 in
theorem last_any (ts:List Wd)(o:Option Addr)(c g2:Nat)(os:List (List UInt8))(w:World)(h:WSl w o c ts)(h2:StSl w g2 os)(hl:ts.length≤800)(hol:os.length≤100):
 Calls Tryz.prog 62 #[.slice o ts.length c,.slice (some ⟨g2,0,none⟩) os.length os.length] w fun e w'=>e= .returned (.int .i64 (atI (lastD os ts)))∧Below w.heap.size w w':=by
 obtain⟨R,hR⟩:∃R,lastD os ts=R:=⟨_,rfl⟩
 rw[hR]
 have hR0:lastG os 0 (pAt ts 0) 0 none (ts.drop 0)=R:=hR
 have HR0:=Lib.hid hR0
 have H:=Lib.hid h
 have H2:=Lib.hid h2
 have HP:=Lib.hid fun(x:Wd) (W:World)=>opens_any x W
 have HC:=Lib.hid fun(x:Wd) (W:World)=>closes_any x W
 have HEn:=Lib.hid fun(x:Wd) (W:World)=>ends13_any x W
 unfold BoP wdV at HP HC HEn
 clear hR hR0 h h2
 go_enter Tryz.func62,Tryz.ntmps62
 go_wp2_with fail
 go_loopw [5,6,7] (fun v5 v6 v wr=>∃(k:Nat) (n:Int) (acc:Option Nat),v= .int .i64 (k:Int)∧v6= .int .i64 n∧v5= .int .i64 (atI acc)∧k≤ts.length∧ -(k:Int)≤n∧n≤(k:Int)∧Hid (Below w.heap.size w wr∧lastG os n (pAt ts k) k acc (ts.drop k)=R)) (fun _ _ v _=>ts.length-(RowKit.intOf v).toNat)
 case atStart=>exact⟨0,0,none,rfl,rfl,rfl,by omega,by omega,by omega,Lib.hid ⟨Below.refl _ _,HR0.out⟩⟩
 case round=>
  obtain⟨k,n,acc,rfl,rfl,rfl,hk,hn1,hn2,HI⟩:=hrel
  by_cases hlt:k<ts.length
  ·obtain⟨g,off,rfl,hgl,x0,x1,x2,x3⟩:=H.out.word k hlt
   have hcl:∀W,Below w.heap.size w W→g<W.heap.size∧W.cell? ⟨g,off+k*4,none⟩=some (.int .i64 (ts[k].k:Int))∧W.cell? ⟨g,off+k*4+1,none⟩=some (.string (bs ts[k].s))∧W.cell? ⟨g,off+k*4+2,none⟩=some (.int .i64 (outT ts[k].n))∧W.cell? ⟨g,off+k*4+3,none⟩=some (.int .i64 (outV ts[k].n)):=fun W hW=>⟨Nat.lt_of_lt_of_le hgl hW.size,(hW.cell (p:=⟨g,_,none⟩) hgl).trans x0,(hW.cell (p:=⟨g,_,none⟩) hgl).trans x1,(hW.cell (p:=⟨g,_,none⟩) hgl).trans x2,(hW.cell (p:=⟨g,_,none⟩) hgl).trans x3⟩
   clear x0 x1 x2 x3 hgl
   obtain⟨hbw,hpr⟩:=HI.out
   rw[lastG_drop os ts n k acc hlt]at hpr
   have HZ:Hid (∀m,k=m+1→∃y:Wd,pAt ts k=barW y∧∀W,Below w.heap.size w W→W.cell? ⟨g,off+m*4,none⟩=some (.int .i64 (y.k:Int))∧W.cell? ⟨g,off+m*4+1,none⟩=some (.string (bs y.s))∧W.cell? ⟨g,off+m*4+2,none⟩=some (.int .i64 (outT y.n))∧W.cell? ⟨g,off+m*4+3,none⟩=some (.int .i64 (outV y.n))):=Lib.hid fun m hm=>by
    subst hm
    obtain⟨g',off',e,hgl,x0,x1,x2,x3⟩:=H.out.word m (by omega)
    cases e
    exact⟨ts[m],pAt_succ (by omega),fun W hW=>⟨(hW.cell (p:=⟨g,_,none⟩) hgl).trans x0,(hW.cell (p:=⟨g,_,none⟩) hgl).trans x1,(hW.cell (p:=⟨g,_,none⟩) hgl).trans x2,(hW.cell (p:=⟨g,_,none⟩) hgl).trans x3⟩⟩
   generalize hx:ts[k]=x at *
   generalize hpp:pAt ts (k+1)=P1 at *
   have HP1:=Lib.hid hpp
   generalize hpk:pAt ts k=P0 at *
   have hp0:k=0→P0=false:=fun e=>by rw[←hpk,e];rfl
   have HPX:=Lib.hid fun W=>HP.out x W
   have HCX:=Lib.hid fun W=>HC.out x W
   have HCL:=Lib.hid hcl
   have HBW:=Lib.hid hbw
   obtain⟨hg0,y0,y1,y2,y3⟩:=hcl wr hbw
   have hk5:∀b,((x.k:Int)==5)=b→((x.k:Int) != 5)= !b:=fun b h=>by rw[bne,h]
   have hko:opnW x=true→(x.k:Int)≠5:=fun h=>by
    unfold opnW at h
    rw[Bool.or_eq_true]at h
    rcases h with h|h<;> · have :=(mkW_iff.1 h).1;omega
   have hkc:clsW x=true→(x.k:Int)≠5:=fun h=>by
    unfold clsW at h
    rw[Bool.or_eq_true]at h
    rcases h with h|h<;> · have :=(mkW_iff.1 h).1;omega
   unfold hitB at hpr
   clear hcl hbw HI HR0 hx hpp hpk
   have hcap:(k:Int)≤800:=by omega
   cases hb1:opnW x with
   |true=>
    have hcc:clsW x=false:=by
     cases hz:clsW x with
     |false=>rfl
     |true=>rw[cls_opn hz]at hb1;cases hb1
    have hd:dpt n x=n+1:=by unfold dpt;rw[if_pos hb1]
    have h5:=hko hb1
    have k5:((x.k:Int) != 5)=true:=by rw[bne_iff_ne];exact h5
    rw[hd,decide_eq_false h5,Bool.false_and,Bool.and_false,if_neg (by simp)]at hpr
    rw[hb1]at HPX
    rw[hcc]at HCX
    have HPR:=Lib.hid hpr
    clear hpr hb1 hcc hd h5 hko hkc hk5 hp0 HZ
    by_cases hn0:n+1=0
    ·have kn:((n+1) != 0)=false:=by rw[hn0];rfl
     have HN0:=Lib.hid hn0
     clear hn0
     go_wp2_with (first
      |(go_at_call 53
        refine(HPX.out _).mono ?_
        rintro e w1 ⟨rfl,hb1⟩
        have hb2:=HBW.out.trans (hb1.mono HBW.out.size)
        clear hg0 y0 y1 y2 y3
        obtain⟨hg0,y0,y1,y2,y3⟩:=HCL.out w1 hb2
        have HB1:=Lib.hid hb2
        clear hb1 hb2)
      |(go_at_call 54
        refine(HCX.out _).mono ?_
        rintro e w4 ⟨rfl,hb4⟩
        have hb6:=HB1.out.trans (hb4.mono HB1.out.size)
        clear hg0 y0 y1 y2 y3
        obtain⟨hg0,y0,y1,y2,y3⟩:=HCL.out w4 hb6
        have HB4:=Lib.hid hb6
        clear hb4 hb6))
     go_roundw
     case rel=>exact⟨k+1,n+1,acc,by go_num,rfl,rfl,by omega,by omega,by omega,Lib.hid ⟨HB4.out,by rw[HP1.out];exact HPR.out⟩⟩
     case measure=>simp[RowKit.intOf];omega
    ·have kn:((n+1) != 0)=true:=by rw[bne_iff_ne];exact hn0
     clear hn0
     go_wp2_with (first
      |(go_at_call 53
        refine(HPX.out _).mono ?_
        rintro e w1 ⟨rfl,hb1⟩
        have hb2:=HBW.out.trans (hb1.mono HBW.out.size)
        clear hg0 y0 y1 y2 y3
        obtain⟨hg0,y0,y1,y2,y3⟩:=HCL.out w1 hb2
        have HB1:=Lib.hid hb2
        clear hb1 hb2)
      |(go_at_call 54
        refine(HCX.out _).mono ?_
        rintro e w4 ⟨rfl,hb4⟩
        have hb6:=HB1.out.trans (hb4.mono HB1.out.size)
        clear hg0 y0 y1 y2 y3
        obtain⟨hg0,y0,y1,y2,y3⟩:=HCL.out w4 hb6
        have HB4:=Lib.hid hb6
        clear hb4 hb6))
     go_roundw
     case rel=>exact⟨k+1,n+1,acc,by go_num,rfl,rfl,by omega,by omega,by omega,Lib.hid ⟨HB4.out,by rw[HP1.out];exact HPR.out⟩⟩
     case measure=>simp[RowKit.intOf];omega
   |false=>
    rw[hb1]at HPX
    cases hcc:clsW x with
    |true=>
     have hd:dpt n x=n-1:=by unfold dpt;rw[if_neg (by rw[hb1];simp),if_pos hcc]
     have h5:=hkc hcc
     have k5:((x.k:Int) != 5)=true:=by rw[bne_iff_ne];exact h5
     rw[hd,decide_eq_false h5,Bool.false_and,Bool.and_false,if_neg (by simp)]at hpr
     rw[hcc]at HCX
     have HPR:=Lib.hid hpr
     clear hpr hb1 hcc hd h5 hko hkc hk5 hp0 HZ
     by_cases hn0:n-1=0
     ·have kn:((n-1) != 0)=false:=by rw[hn0];rfl
      have HN0:=Lib.hid hn0
      clear hn0
      go_wp2_with (first
       |(go_at_call 53
         refine(HPX.out _).mono ?_
         rintro e w1 ⟨rfl,hb1⟩
         have hb2:=HBW.out.trans (hb1.mono HBW.out.size)
         clear hg0 y0 y1 y2 y3
         obtain⟨hg0,y0,y1,y2,y3⟩:=HCL.out w1 hb2
         have HB1:=Lib.hid hb2
         clear hb1 hb2)
       |(go_at_call 54
         refine(HCX.out _).mono ?_
         rintro e w4 ⟨rfl,hb4⟩
         have hb6:=HB1.out.trans (hb4.mono HB1.out.size)
         clear hg0 y0 y1 y2 y3
         obtain⟨hg0,y0,y1,y2,y3⟩:=HCL.out w4 hb6
         have HB4:=Lib.hid hb6
         clear hb4 hb6))
      go_roundw
      case rel=>exact⟨k+1,n-1,acc,by go_num,rfl,rfl,by omega,by omega,by omega,Lib.hid ⟨HB4.out,by rw[HP1.out];exact HPR.out⟩⟩
      case measure=>simp[RowKit.intOf];omega
     ·have kn:((n-1) != 0)=true:=by rw[bne_iff_ne];exact hn0
      clear hn0
      go_wp2_with (first
       |(go_at_call 53
         refine(HPX.out _).mono ?_
         rintro e w1 ⟨rfl,hb1⟩
         have hb2:=HBW.out.trans (hb1.mono HBW.out.size)
         clear hg0 y0 y1 y2 y3
         obtain⟨hg0,y0,y1,y2,y3⟩:=HCL.out w1 hb2
         have HB1:=Lib.hid hb2
         clear hb1 hb2)
       |(go_at_call 54
         refine(HCX.out _).mono ?_
         rintro e w4 ⟨rfl,hb4⟩
         have hb6:=HB1.out.trans (hb4.mono HB1.out.size)
         clear hg0 y0 y1 y2 y3
         obtain⟨hg0,y0,y1,y2,y3⟩:=HCL.out w4 hb6
         have HB4:=Lib.hid hb6
         clear hb4 hb6))
      go_roundw
      case rel=>exact⟨k+1,n-1,acc,by go_num,rfl,rfl,by omega,by omega,by omega,Lib.hid ⟨HB4.out,by rw[HP1.out];exact HPR.out⟩⟩
      case measure=>simp[RowKit.intOf];omega
    |false=>
     have hd:dpt n x=n:=by unfold dpt;rw[if_neg (by rw[hb1];simp),if_neg (by rw[hcc];simp)]
     rw[hd]at hpr
     rw[hcc]at HCX
     clear hb1 hcc hd hko hkc
     by_cases hn0:n=0
     ·have kn:(n != 0)=false:=by rw[hn0];rfl
      have HN0:=Lib.hid hn0
      rw[decide_eq_true hn0,Bool.true_and]at hpr
      clear hn0
      by_cases h5:(x.k:Int)=5
      ·have k5:((x.k:Int) != 5)=false:=by rw[h5];rfl
       rw[decide_eq_true h5,Bool.true_and]at hpr
       clear hk5 h5
       by_cases hk0:k=0
       ·have q0:((k:Int)==0)=true:=by rw[hk0];rfl
        rw[hp0 hk0,Bool.false_and,if_neg (by simp)]at hpr
        have HPR:=Lib.hid hpr
        clear hpr hp0 hk0 HZ
        go_wp2_with (first
         |(go_at_call 53
           refine(HPX.out _).mono ?_
           rintro e w1 ⟨rfl,hb1⟩
           have hb2:=HBW.out.trans (hb1.mono HBW.out.size)
           clear hg0 y0 y1 y2 y3
           obtain⟨hg0,y0,y1,y2,y3⟩:=HCL.out w1 hb2
           have HB1:=Lib.hid hb2
           clear hb1 hb2)
         |(go_at_call 54
           refine(HCX.out _).mono ?_
           rintro e w4 ⟨rfl,hb4⟩
           have hb6:=HB1.out.trans (hb4.mono HB1.out.size)
           clear hg0 y0 y1 y2 y3
           obtain⟨hg0,y0,y1,y2,y3⟩:=HCL.out w4 hb6
           have HB4:=Lib.hid hb6
           clear hb4 hb6))
        go_roundw
        case rel=>exact⟨k+1,n,acc,by go_num,rfl,rfl,by omega,by omega,by omega,Lib.hid ⟨HB4.out,by rw[HP1.out];exact HPR.out⟩⟩
        case measure=>simp[RowKit.intOf];omega
       ·have q0:((k:Int)==0)=false:=by rw[beq_eq_false_iff_ne];omega
        obtain⟨m,hm⟩:∃m,k=m+1:=⟨k-1,by omega⟩
        obtain⟨y,hy,hyc⟩:=HZ.out m hm
        rw[hy]at hpr
        have HYC:=Lib.hid hyc
        have HEY:=Lib.hid fun W=>HEn.out y W
        have hqm:(k:Int)-1=(m:Int):=by omega
        have hqm0:(0:Int)≤(m:Int):=by omega
        have hqm1:(m:Int)<(ts.length:Int):=by omega
        have hqt:(m:Int).toNat=m:=by omega
        unfold barW at hpr
        clear hyc HZ hp0 hk0 hm hy
        cases hen:endD y with
        |true=>
         rw[hen]at HEY
         rw[hen,Bool.true_or,Bool.true_and]at hpr
         simp only[decide_eq_true_eq]at hpr
         have HPR:=Lib.hid hpr
         clear hen hpr
         go_wp2_with (first
          |(go_at_call 53
            refine(HPX.out _).mono ?_
            rintro e w1 ⟨rfl,hb1⟩
            have hb2:=HBW.out.trans (hb1.mono HBW.out.size)
            clear hg0 y0 y1 y2 y3
            obtain⟨hg0,y0,y1,y2,y3⟩:=HCL.out w1 hb2
            have HB1:=Lib.hid hb2
            clear hb1 hb2)
          |(go_at_call 54
            refine(HCX.out _).mono ?_
            rintro e w4 ⟨rfl,hb4⟩
            have hb6:=HB1.out.trans (hb4.mono HB1.out.size)
            clear hg0 y0 y1 y2 y3
            obtain⟨hg0,y0,y1,y2,y3⟩:=HCL.out w4 hb6
            obtain⟨z0,z1,z2,z3⟩:=HYC.out w4 hb6
            have HB4:=Lib.hid hb6
            clear hb4 hb6)
          |(go_at_call 117
            refine(HEY.out _).mono ?_
            rintro e w5 ⟨rfl,hb5⟩
            have hb7:=HB4.out.trans (hb5.mono HB4.out.size)
            clear hg0 y0 y1 y2 y3 z0 z1 z2 z3
            obtain⟨hg0,y0,y1,y2,y3⟩:=HCL.out w5 hb7
            obtain⟨z0,z1,z2,z3⟩:=HYC.out w5 hb7
            have HB5:=Lib.hid hb7
            clear hb5 hb7))
         go_loopw [5,8] (fun v5 v wx=>∃j:Nat,v= .int .i64 (j:Int)∧v5= .int .i64 (atI (if x.s∈os.take j then some k else acc))∧j≤os.length∧Hid (Below w.heap.size w wx)) (fun _ v _=>os.length-(RowKit.intOf v).toNat)
         case atStart=>exact⟨0,rfl,(by simp),by omega,HB5⟩
         case round=>
          obtain⟨j,rfl,rfl,hj,HX⟩:=hrel
          clear hg0 y0 y1 y2 y3 z0 z1 z2 z3
          obtain⟨hg0,y0,y1,y2,y3⟩:=HCL.out _ HX.out
          by_cases hjl:j<os.length
          ·have hs2:=(H2.out.below (HX.out.mono (Nat.le_refl _))).2 j hjl
           have hmt:=mem_take os x.s j hjl
           by_cases he:os[j]=x.s
           ·have q1:((bs os[j]).toList==(bs x.s).toList)=true:=by rw[he,beq_iff_eq]
            have HMT:=Lib.hid (hmt.2 (.inr he))
            generalize bs os[j]=OJ at *
            clear hmt he
            go_upto_region 13 with fail
            go_quiet (fail)
            go_wp2_with fail
            go_roundw
            case rel=>exact⟨j+1,by go_num,by rw[if_pos HMT.out];rfl,by omega,Lib.hid (HX.out.trans ((below_drewN _ _).mono HX.out.size))⟩
            case measure=>simp[RowKit.intOf];omega
           ·have q1:((bs os[j]).toList==(bs x.s).toList)=false:=by rw[bs_tl,bs_tl,beq_eq_false_iff_ne];exact he
            have hmq:(if x.s∈os.take (j+1) then some k else acc)=(if x.s∈os.take j then some k else acc):=by
             by_cases hz:x.s∈os.take j
             ·rw[if_pos hz,if_pos (hmt.2 (.inl hz))]
             ·rw[if_neg hz,if_neg (fun h=>(hmt.1 h).elim hz he)]
            have HMQ:=Lib.hid hmq
            generalize bs os[j]=OJ at *
            clear hmt he hmq
            go_upto_region 13 with fail
            go_quiet (fail)
            go_wp2_with fail
            go_roundw
            case rel=>exact⟨j+1,by go_num,by rw[HMQ.out],by omega,Lib.hid (HX.out.trans ((below_drewN _ _).mono HX.out.size))⟩
            case measure=>simp[RowKit.intOf];omega
          ·have e:j=os.length:=by omega
           subst e
           go_wp2_with fail
           go_roundw
           case rel=>exact⟨k+1,n,(if x.s∈os.take os.length then some k else acc),by go_num,rfl,rfl,by omega,by omega,by omega,Lib.hid ⟨HX.out,by rw[HP1.out,List.take_length];exact HPR.out⟩⟩
           case measure=>simp[RowKit.intOf];omega
        |false=>
         rw[hen]at HEY
         rw[hen,Bool.false_or]at hpr
         clear hen
         by_cases hy5:(y.k:Int)=5
         ·have j5:((y.k:Int) != 5)=false:=by rw[hy5];rfl
          by_cases hys:y.s=[47]
          ·have js:((bs y.s).toList==[47])=true:=by rw[bs_tl,hys];rfl
           rw[show opMk [47] y=true from opMk_iff.2 ⟨by omega,hys⟩,Bool.true_and]at hpr
           simp only[decide_eq_true_eq]at hpr
           have HPR:=Lib.hid hpr
           clear hy5 hys hpr
           go_wp2_with (first
            |(go_at_call 53
              refine(HPX.out _).mono ?_
              rintro e w1 ⟨rfl,hb1⟩
              have hb2:=HBW.out.trans (hb1.mono HBW.out.size)
              clear hg0 y0 y1 y2 y3
              obtain⟨hg0,y0,y1,y2,y3⟩:=HCL.out w1 hb2
              have HB1:=Lib.hid hb2
              clear hb1 hb2)
            |(go_at_call 54
              refine(HCX.out _).mono ?_
              rintro e w4 ⟨rfl,hb4⟩
              have hb6:=HB1.out.trans (hb4.mono HB1.out.size)
              clear hg0 y0 y1 y2 y3
              obtain⟨hg0,y0,y1,y2,y3⟩:=HCL.out w4 hb6
              obtain⟨z0,z1,z2,z3⟩:=HYC.out w4 hb6
              have HB4:=Lib.hid hb6
              clear hb4 hb6)
            |(go_at_call 117
              refine(HEY.out _).mono ?_
              rintro e w5 ⟨rfl,hb5⟩
              have hb7:=HB4.out.trans (hb5.mono HB4.out.size)
              clear hg0 y0 y1 y2 y3 z0 z1 z2 z3
              obtain⟨hg0,y0,y1,y2,y3⟩:=HCL.out w5 hb7
              obtain⟨z0,z1,z2,z3⟩:=HYC.out w5 hb7
              have HB5:=Lib.hid hb7
              clear hb5 hb7))
           go_loopw [5,8] (fun v5 v wx=>∃j:Nat,v= .int .i64 (j:Int)∧v5= .int .i64 (atI (if x.s∈os.take j then some k else acc))∧j≤os.length∧Hid (Below w.heap.size w wx)) (fun _ v _=>os.length-(RowKit.intOf v).toNat)
           case atStart=>exact⟨0,rfl,(by simp),by omega,HB5⟩
           case round=>
            obtain⟨j,rfl,rfl,hj,HX⟩:=hrel
            clear hg0 y0 y1 y2 y3 z0 z1 z2 z3
            obtain⟨hg0,y0,y1,y2,y3⟩:=HCL.out _ HX.out
            by_cases hjl:j<os.length
            ·have hs2:=(H2.out.below (HX.out.mono (Nat.le_refl _))).2 j hjl
             have hmt:=mem_take os x.s j hjl
             by_cases he:os[j]=x.s
             ·have q1:((bs os[j]).toList==(bs x.s).toList)=true:=by rw[he,beq_iff_eq]
              have HMT:=Lib.hid (hmt.2 (.inr he))
              generalize bs os[j]=OJ at *
              clear hmt he
              go_upto_region 13 with fail
              go_quiet (fail)
              go_wp2_with fail
              go_roundw
              case rel=>exact⟨j+1,by go_num,by rw[if_pos HMT.out];rfl,by omega,Lib.hid (HX.out.trans ((below_drewN _ _).mono HX.out.size))⟩
              case measure=>simp[RowKit.intOf];omega
             ·have q1:((bs os[j]).toList==(bs x.s).toList)=false:=by rw[bs_tl,bs_tl,beq_eq_false_iff_ne];exact he
              have hmq:(if x.s∈os.take (j+1) then some k else acc)=(if x.s∈os.take j then some k else acc):=by
               by_cases hz:x.s∈os.take j
               ·rw[if_pos hz,if_pos (hmt.2 (.inl hz))]
               ·rw[if_neg hz,if_neg (fun h=>(hmt.1 h).elim hz he)]
              have HMQ:=Lib.hid hmq
              generalize bs os[j]=OJ at *
              clear hmt he hmq
              go_upto_region 13 with fail
              go_quiet (fail)
              go_wp2_with fail
              go_roundw
              case rel=>exact⟨j+1,by go_num,by rw[HMQ.out],by omega,Lib.hid (HX.out.trans ((below_drewN _ _).mono HX.out.size))⟩
              case measure=>simp[RowKit.intOf];omega
            ·have e:j=os.length:=by omega
             subst e
             go_wp2_with fail
             go_roundw
             case rel=>exact⟨k+1,n,(if x.s∈os.take os.length then some k else acc),by go_num,rfl,rfl,by omega,by omega,by omega,Lib.hid ⟨HX.out,by rw[HP1.out,List.take_length];exact HPR.out⟩⟩
             case measure=>simp[RowKit.intOf];omega
          ·have js:((bs y.s).toList==[47])=false:=by rw[bs_tl,beq_eq_false_iff_ne];exact hys
           rw[show opMk [47] y=false from opMk_no (.inr hys),Bool.false_and,if_neg (by simp)]at hpr
           have HPR:=Lib.hid hpr
           clear hy5 hys hpr
           go_wp2_with (first
            |(go_at_call 53
              refine(HPX.out _).mono ?_
              rintro e w1 ⟨rfl,hb1⟩
              have hb2:=HBW.out.trans (hb1.mono HBW.out.size)
              clear hg0 y0 y1 y2 y3
              obtain⟨hg0,y0,y1,y2,y3⟩:=HCL.out w1 hb2
              have HB1:=Lib.hid hb2
              clear hb1 hb2)
            |(go_at_call 54
              refine(HCX.out _).mono ?_
              rintro e w4 ⟨rfl,hb4⟩
              have hb6:=HB1.out.trans (hb4.mono HB1.out.size)
              clear hg0 y0 y1 y2 y3
              obtain⟨hg0,y0,y1,y2,y3⟩:=HCL.out w4 hb6
              obtain⟨z0,z1,z2,z3⟩:=HYC.out w4 hb6
              have HB4:=Lib.hid hb6
              clear hb4 hb6)
            |(go_at_call 117
              refine(HEY.out _).mono ?_
              rintro e w5 ⟨rfl,hb5⟩
              have hb7:=HB4.out.trans (hb5.mono HB4.out.size)
              clear hg0 y0 y1 y2 y3 z0 z1 z2 z3
              obtain⟨hg0,y0,y1,y2,y3⟩:=HCL.out w5 hb7
              obtain⟨z0,z1,z2,z3⟩:=HYC.out w5 hb7
              have HB5:=Lib.hid hb7
              clear hb5 hb7))
           go_roundw
           case rel=>exact⟨k+1,n,acc,by go_num,rfl,rfl,by omega,by omega,by omega,Lib.hid ⟨HB5.out,by rw[HP1.out];exact HPR.out⟩⟩
           case measure=>simp[RowKit.intOf];omega
         ·have j5:((y.k:Int) != 5)=true:=by rw[bne_iff_ne];exact hy5
          rw[show opMk [47] y=false from opMk_no (.inl (by omega)),Bool.false_and,if_neg (by simp)]at hpr
          have HPR:=Lib.hid hpr
          clear hy5 hpr
          go_wp2_with (first
           |(go_at_call 53
             refine(HPX.out _).mono ?_
             rintro e w1 ⟨rfl,hb1⟩
             have hb2:=HBW.out.trans (hb1.mono HBW.out.size)
             clear hg0 y0 y1 y2 y3
             obtain⟨hg0,y0,y1,y2,y3⟩:=HCL.out w1 hb2
             have HB1:=Lib.hid hb2
             clear hb1 hb2)
           |(go_at_call 54
             refine(HCX.out _).mono ?_
             rintro e w4 ⟨rfl,hb4⟩
             have hb6:=HB1.out.trans (hb4.mono HB1.out.size)
             clear hg0 y0 y1 y2 y3
             obtain⟨hg0,y0,y1,y2,y3⟩:=HCL.out w4 hb6
             obtain⟨z0,z1,z2,z3⟩:=HYC.out w4 hb6
             have HB4:=Lib.hid hb6
             clear hb4 hb6)
           |(go_at_call 117
             refine(HEY.out _).mono ?_
             rintro e w5 ⟨rfl,hb5⟩
             have hb7:=HB4.out.trans (hb5.mono HB4.out.size)
             clear hg0 y0 y1 y2 y3 z0 z1 z2 z3
             obtain⟨hg0,y0,y1,y2,y3⟩:=HCL.out w5 hb7
             obtain⟨z0,z1,z2,z3⟩:=HYC.out w5 hb7
             have HB5:=Lib.hid hb7
             clear hb5 hb7))
          go_roundw
          case rel=>exact⟨k+1,n,acc,by go_num,rfl,rfl,by omega,by omega,by omega,Lib.hid ⟨HB5.out,by rw[HP1.out];exact HPR.out⟩⟩
          case measure=>simp[RowKit.intOf];omega
      ·have k5:((x.k:Int) != 5)=true:=by rw[bne_iff_ne];exact h5
       rw[decide_eq_false h5,Bool.false_and,if_neg (by simp)]at hpr
       have HPR:=Lib.hid hpr
       clear hpr hk5 h5 hp0 HZ
       go_wp2_with (first
        |(go_at_call 53
          refine(HPX.out _).mono ?_
          rintro e w1 ⟨rfl,hb1⟩
          have hb2:=HBW.out.trans (hb1.mono HBW.out.size)
          clear hg0 y0 y1 y2 y3
          obtain⟨hg0,y0,y1,y2,y3⟩:=HCL.out w1 hb2
          have HB1:=Lib.hid hb2
          clear hb1 hb2)
        |(go_at_call 54
          refine(HCX.out _).mono ?_
          rintro e w4 ⟨rfl,hb4⟩
          have hb6:=HB1.out.trans (hb4.mono HB1.out.size)
          clear hg0 y0 y1 y2 y3
          obtain⟨hg0,y0,y1,y2,y3⟩:=HCL.out w4 hb6
          have HB4:=Lib.hid hb6
          clear hb4 hb6))
       go_roundw
       case rel=>exact⟨k+1,n,acc,by go_num,rfl,rfl,by omega,by omega,by omega,Lib.hid ⟨HB4.out,by rw[HP1.out];exact HPR.out⟩⟩
       case measure=>simp[RowKit.intOf];omega
     ·have kn:(n != 0)=true:=by rw[bne_iff_ne];exact hn0
      rw[decide_eq_false hn0,Bool.false_and,if_neg (by simp)]at hpr
      have HPR:=Lib.hid hpr
      clear hpr hn0 hk5 hp0 HZ
      go_wp2_with (first
       |(go_at_call 53
         refine(HPX.out _).mono ?_
         rintro e w1 ⟨rfl,hb1⟩
         have hb2:=HBW.out.trans (hb1.mono HBW.out.size)
         clear hg0 y0 y1 y2 y3
         obtain⟨hg0,y0,y1,y2,y3⟩:=HCL.out w1 hb2
         have HB1:=Lib.hid hb2
         clear hb1 hb2)
       |(go_at_call 54
         refine(HCX.out _).mono ?_
         rintro e w4 ⟨rfl,hb4⟩
         have hb6:=HB1.out.trans (hb4.mono HB1.out.size)
         clear hg0 y0 y1 y2 y3
         obtain⟨hg0,y0,y1,y2,y3⟩:=HCL.out w4 hb6
         have HB4:=Lib.hid hb6
         clear hb4 hb6))
      go_roundw
      case rel=>exact⟨k+1,n,acc,by go_num,rfl,rfl,by omega,by omega,by omega,Lib.hid ⟨HB4.out,by rw[HP1.out];exact HPR.out⟩⟩
      case measure=>simp[RowKit.intOf];omega
  ·have e:k=ts.length:=by omega
   subst e
   have hpr:=HI.out.2
   rw[List.drop_length,lastG]at hpr
   have HPR:=Lib.hid hpr
   have HBW:=Lib.hid HI.out.1
   clear hpr HI
   go_wp2_with fail
   go_ret
   exact⟨by rw[←HPR.out];rfl,HBW.out⟩
end Char
namespace Char
open Go.RowKit Go.Lib
def deepS (n:Nat)(x:Wd):Nat:=if x.k=1 then (if x.s=[40]∨x.s=[91] then n+1 else if x.s=[41]∨x.s=[93] then n-1 else n) else n
def deepF:Nat→List Wd→Bool
 |_,[]=>false
 |n,x::r=>if 12<deepS n x then true else deepF (deepS n x) r
def deepL (ts:List Wd):Bool:=deepF 0 ts
theorem deepF_cons (n:Nat)(x:Wd)(r:List Wd):deepF n (x::r)=if 12<deepS n x then true else deepF (deepS n x) r:=rfl
set_option maxRecDepth 100000 in
set_option maxHeartbeats 8000000 in
theorem deep_any (B:Nat)(v:Value)(ts:List Wd)(w:World)(ho:OwnsWd B w v ts)(hl:ts.length≤1000):
 Calls Tryz.prog 27 #[v] w fun e w'=>e= .returned (.bool (deepL ts))∧Below w.heap.size w w':=by
 obtain⟨o,j,rfl⟩:=ho.form
 obtain⟨G,hG⟩:∃G,deepL ts=G:=⟨_,rfl⟩
 rw[hG]
 have HG:=Lib.hid hG
 have HO:=Lib.hid ho
 clear hG ho
 go_enter Tryz.func27,Tryz.ntmps27
 go_wp2_with fail
 go_loopw [3,8] (fun v3 v8 wr=>∃(n k:Nat),v3= .int .i64 (n:Int)∧v8= .int .i64 (k:Int)∧n≤12∧k≤ts.length∧Hid (deepF n (ts.drop k)=G∧Below w.heap.size w wr)) (fun _ v8 _=>ts.length-(RowKit.intOf v8).toNat)
 case atStart=>exact⟨0,0,rfl,rfl,by omega,Nat.zero_le _,Lib.hid ⟨HG.out,Below.refl _ _⟩⟩
 case round=>
  clear HG
  obtain⟨n,k,rfl,rfl,hn,hk,HI⟩:=hrel
  by_cases hlt:k<ts.length
  ·obtain⟨g,rfl,hg,x0,x1,x2,x3⟩:=(HO.out.below HI.out.2).reads k hlt
   have k0:decide ((k:Int)<(ts.length:Int))=true:=decide_eq_true (by omega)
   have hz0:(0:Int)≤(k:Int):=by omega
   have hz1:(k:Int)<(ts.length:Int):=by omega
   have hg2:=HI.out.1
   rw[List.drop_eq_getElem_cons hlt,deepF_cons]at hg2
   have HLT:=Lib.hid hlt
   generalize ts[k]=x at *
   have HB:=Lib.hid fun(o:Obj)=>HI.out.2.trans ((below_box (w:=wr) o).mono HI.out.2.size)
   clear hlt
   by_cases h1:x.k=1
   ·have k1:((x.k:Int) != 1)=false:=by rw[h1];rfl
    have hms:x.s=[40]∨x.s=[91]∨x.s=[41]∨x.s=[93]∨¬(x.s=[40]∨x.s=[91]∨x.s=[41]∨x.s=[93]):=by by_cases x.s=[40]∨x.s=[91]∨x.s=[41]∨x.s=[93]<;>simp_all
    rcases hms with e|e|e|e|e
    ·have s0:((bs x.s).toList==[40])=true:=by rw[bs_tl,e];rfl
     have hs:deepS n x=n+1:=by unfold deepS;rw[if_pos h1,if_pos (by rw[e];simp)]
     rw[hs]at hg2
     by_cases h12:n=12
     ·rw[if_pos (by omega)]at hg2
      have HGE:=Lib.hid hg2
      subst h12
      clear hs hg2 h1 e
      generalize (x.k:Int)=c0 at *
      generalize bs x.s=S at *
      go_wp2_with fail
      go_ret
      exact⟨by rw[←HGE.out];rfl,HB.out _⟩
     rw[if_neg (by omega)]at hg2
     have k12:decide ((12:Int)<(n:Int)+1)=false:=decide_eq_false (by omega)
     have HGE:=Lib.hid hg2
     clear hs hg2 h1 e
     generalize (x.k:Int)=c0 at *
     generalize bs x.s=S at *
     go_wp2_with fail
     go_roundw
     case rel=>exact⟨n+1,k+1,by go_num,by go_num,by omega,HLT.out,Lib.hid ⟨HGE.out,HB.out _⟩⟩
     case measure=>
      have :=HLT.out
      simp[RowKit.intOf]
      omega
    ·have s0:((bs x.s).toList==[40])=false:=by rw[bs_tl,beq_eq_false_iff_ne];rw[e];decide
     have s1:((bs x.s).toList==[91])=true:=by rw[bs_tl,e];rfl
     have hs:deepS n x=n+1:=by unfold deepS;rw[if_pos h1,if_pos (by rw[e];simp)]
     rw[hs]at hg2
     by_cases h12:n=12
     ·rw[if_pos (by omega)]at hg2
      have HGE:=Lib.hid hg2
      subst h12
      clear hs hg2 h1 e
      generalize (x.k:Int)=c0 at *
      generalize bs x.s=S at *
      go_wp2_with fail
      go_ret
      exact⟨by rw[←HGE.out];rfl,HB.out _⟩
     rw[if_neg (by omega)]at hg2
     have k12:decide ((12:Int)<(n:Int)+1)=false:=decide_eq_false (by omega)
     have HGE:=Lib.hid hg2
     clear hs hg2 h1 e
     generalize (x.k:Int)=c0 at *
     generalize bs x.s=S at *
     go_wp2_with fail
     go_roundw
     case rel=>exact⟨n+1,k+1,by go_num,by go_num,by omega,HLT.out,Lib.hid ⟨HGE.out,HB.out _⟩⟩
     case measure=>
      have :=HLT.out
      simp[RowKit.intOf]
      omega
    ·have s0:((bs x.s).toList==[40])=false:=by rw[bs_tl,beq_eq_false_iff_ne];rw[e];decide
     have s1:((bs x.s).toList==[91])=false:=by rw[bs_tl,beq_eq_false_iff_ne];rw[e];decide
     have s2:((bs x.s).toList==[41])=true:=by rw[bs_tl,e];rfl
     have hs:deepS n x=n-1:=by unfold deepS;rw[if_pos h1,if_neg (by rw[e];decide),if_pos (by rw[e];simp)]
     rw[hs,if_neg (by omega)]at hg2
     cases n with
     |zero=>
      have HGE:=Lib.hid hg2
      clear hs hg2 h1 e
      generalize (x.k:Int)=c0 at *
      generalize bs x.s=S at *
      go_wp2_with fail
      go_roundw
      case rel=>exact⟨0,k+1,by go_num,by go_num,by omega,HLT.out,Lib.hid ⟨HGE.out,HB.out _⟩⟩
      case measure=>
       have :=HLT.out
       simp[RowKit.intOf]
       omega
     |succ n=>
      have k13:max (((n+1:Nat):Int)-1) 0=(n:Int):=by omega
      have k14:decide ((12:Int)<(n:Int))=false:=decide_eq_false (by omega)
      have HGE:=Lib.hid hg2
      clear hs hg2 h1 e
      generalize (x.k:Int)=c0 at *
      generalize bs x.s=S at *
      go_wp2_with fail
      go_roundw
      case rel=>exact⟨n,k+1,by go_num,by go_num,by omega,HLT.out,Lib.hid ⟨HGE.out,HB.out _⟩⟩
      case measure=>
       have :=HLT.out
       simp[RowKit.intOf]
       omega
    ·have s0:((bs x.s).toList==[40])=false:=by rw[bs_tl,beq_eq_false_iff_ne];rw[e];decide
     have s1:((bs x.s).toList==[91])=false:=by rw[bs_tl,beq_eq_false_iff_ne];rw[e];decide
     have s2:((bs x.s).toList==[41])=false:=by rw[bs_tl,beq_eq_false_iff_ne];rw[e];decide
     have s3:((bs x.s).toList==[93])=true:=by rw[bs_tl,e];rfl
     have hs:deepS n x=n-1:=by unfold deepS;rw[if_pos h1,if_neg (by rw[e];decide),if_pos (by rw[e];simp)]
     rw[hs,if_neg (by omega)]at hg2
     cases n with
     |zero=>
      have HGE:=Lib.hid hg2
      clear hs hg2 h1 e
      generalize (x.k:Int)=c0 at *
      generalize bs x.s=S at *
      go_wp2_with fail
      go_roundw
      case rel=>exact⟨0,k+1,by go_num,by go_num,by omega,HLT.out,Lib.hid ⟨HGE.out,HB.out _⟩⟩
      case measure=>
       have :=HLT.out
       simp[RowKit.intOf]
       omega
     |succ n=>
      have k13:max (((n+1:Nat):Int)-1) 0=(n:Int):=by omega
      have k14:decide ((12:Int)<(n:Int))=false:=decide_eq_false (by omega)
      have HGE:=Lib.hid hg2
      clear hs hg2 h1 e
      generalize (x.k:Int)=c0 at *
      generalize bs x.s=S at *
      go_wp2_with fail
      go_roundw
      case rel=>exact⟨n,k+1,by go_num,by go_num,by omega,HLT.out,Lib.hid ⟨HGE.out,HB.out _⟩⟩
      case measure=>
       have :=HLT.out
       simp[RowKit.intOf]
       omega
    ·have s0:((bs x.s).toList==[40])=false:=by rw[bs_tl,beq_eq_false_iff_ne];exact fun hh=>e (by rw[hh];simp)
     have s1:((bs x.s).toList==[91])=false:=by rw[bs_tl,beq_eq_false_iff_ne];exact fun hh=>e (by rw[hh];simp)
     have s2:((bs x.s).toList==[41])=false:=by rw[bs_tl,beq_eq_false_iff_ne];exact fun hh=>e (by rw[hh];simp)
     have s3:((bs x.s).toList==[93])=false:=by rw[bs_tl,beq_eq_false_iff_ne];exact fun hh=>e (by rw[hh];simp)
     have hs:deepS n x=n:=by unfold deepS;rw[if_pos h1,if_neg (fun hh=>e (by rcases hh with hh|hh<;>simp[hh])),if_neg (fun hh=>e (by rcases hh with hh|hh<;>simp[hh]))]
     rw[hs,if_neg (by omega)]at hg2
     have k14:decide ((12:Int)<(n:Int))=false:=decide_eq_false (by omega)
     have HGE:=Lib.hid hg2
     clear hs hg2 h1 e
     generalize (x.k:Int)=c0 at *
     generalize bs x.s=S at *
     go_wp2_with fail
     go_roundw
     case rel=>exact⟨n,k+1,by go_num,by go_num,by omega,HLT.out,Lib.hid ⟨HGE.out,HB.out _⟩⟩
     case measure=>
      have :=HLT.out
      simp[RowKit.intOf]
      omega
   ·have k1:((x.k:Int) != 1)=true:=by rw[bne_iff_ne];omega
    have hs:deepS n x=n:=by unfold deepS;rw[if_neg h1]
    rw[hs,if_neg (by omega)]at hg2
    have HGE:=Lib.hid hg2
    clear hs hg2 h1
    generalize (x.k:Int)=c0 at *
    go_wp2_with fail
    go_roundw
    case rel=>exact⟨n,k+1,rfl,by go_num,hn,HLT.out,Lib.hid ⟨HGE.out,HB.out _⟩⟩
    case measure=>
     have :=HLT.out
     simp[RowKit.intOf]
     omega
  ·have e:k=ts.length:=by omega
   subst e
   have hg2:=HI.out.1
   rw[List.drop_length]at hg2
   have HGE:=Lib.hid hg2
   have k0:decide ((ts.length:Int)<(ts.length:Int))=false:=decide_eq_false (by omega)
   clear hg2 hlt
   go_wp2_with fail
   go_ret
   exact⟨by rw[←HGE.out];rfl,HI.out.2⟩
end Char
namespace Char
open Go.RowKit Go.Lib
open Go.Proofs.YtlmpkpjjakallaaGreatDoor.Fig (outT outV)
theorem stSl_of {w:World}{g:Nat}{os:List (List UInt8)}(h:w.heap[g]? =some (.cells (os.map fun s=>Value.string (bs s)).toArray 9 (0,0))):StSl w g os:=by
 refine⟨(Array.getElem?_eq_some_iff.1 h).1,fun j hj=> ?_⟩
 rw[Lib.cell_of_heap h,List.getElem?_toArray,List.getElem?_map,List.getElem?_eq_getElem hj]
 rfl
def kdL:List (List UInt8):=[[111,114],[97,110,100],[61],[33,61],[60],[60,61],[62],[62,61],[43],[45],[42],[100,105,118],[109,111,100]]
def kdF:List (List UInt8)→Int→List UInt8→Int
 |[],_,_=>0
 |p::r,k,s=>if s=p then k+1 else kdF r (k+1) s
def kdD (s:List UInt8):Int:=kdF kdL 0 s
theorem kdF_drop {k:Nat}(h:k<kdL.length)(s:List UInt8):kdF (kdL.drop k) (k:Int) s=if s=kdL[k] then (k:Int)+1 else kdF (kdL.drop (k+1)) ((k+1:Nat):Int) s:=by
 rw[List.drop_eq_getElem_cons h,kdF]
 rfl
set_option maxRecDepth 100000 in
set_option maxHeartbeats 4000000 in
theorem kind_any (s:List UInt8)(w:World):Calls Tryz.prog 64 #[.string (bs s)] w fun e w'=>e= .returned (.int .i64 (kdD s))∧Below w.heap.size w w':=by
 obtain⟨R,hR⟩:∃R,kdD s=R:=⟨_,rfl⟩
 have hR0:kdF (kdL.drop 0) ((0:Nat):Int) s=R:=hR
 rw[hR]
 have HR0:=Lib.hid hR0
 obtain⟨W4,hW4⟩:∃W4,W4=w.alloc (.cells (kdL.map fun s=>Value.string (bs s)).toArray 9):=⟨_,rfl⟩
 have hs:StSl W4 w.heap.size kdL:=by rw[hW4];exact stSl_of (World.alloc_heap_new w _)
 have hb:Below w.heap.size w W4:=by rw[hW4];exact below_box _
 have HS:=Lib.hid hs
 have HB:=Lib.hid hb
 have HW:=Lib.hid hW4
 clear hR hR0 hs hb hW4
 go_enter Tryz.func64,Tryz.ntmps64
 go_wp2_with fail
 change Code.wp _ _ _ _ (w.alloc (.cells (kdL.map fun s=>Value.string (bs s)).toArray 9))
 rw[←HW.out]
 go_loop [4] (fun v=>∃k:Nat,v= .int .i64 (k:Int)∧k≤13∧Hid (kdF (kdL.drop k) (k:Int) s=R)) (fun v=>13-(RowKit.intOf v).toNat)
 case atStart=>exact⟨0,rfl,by omega,HR0⟩
 case round=>
  obtain⟨k,rfl,hk,HK⟩:=hrel
  by_cases hlt:k<13
  ·have l0:decide ((k:Int)<13)=true:=decide_eq_true (by omega)
   have l1:(k:Int)<13:=by omega
   have hkl:k<kdL.length:=hlt
   have c1:=HS.out.2 k hkl
   have hk2:=HK.out
   rw[kdF_drop hkl]at hk2
   by_cases he:s=kdL[k]
   ·rw[if_pos he]at hk2
    have hq:((bs kdL[k]).toList==(bs s).toList)=true:=by rw[he,beq_iff_eq]
    have HK2:=Lib.hid hk2
    generalize bs kdL[k]=N at *
    generalize bs s=S at *
    clear hk2 he HK
    go_wp2_with fail
    go_ret
    exact⟨by rw[←HK2.out];rfl,HB.out⟩
   ·rw[if_neg he]at hk2
    have hq:((bs kdL[k]).toList==(bs s).toList)=false:=by rw[bs_tl,bs_tl,beq_eq_false_iff_ne];exact fun e=>he e.symm
    have HK2:=Lib.hid hk2
    generalize bs kdL[k]=N at *
    generalize bs s=S at *
    clear hk2 he HK
    go_wp2_with fail
    go_round
    case rel=>exact⟨k+1,by go_num,by omega,HK2⟩
    case measure=>simp[RowKit.intOf];omega
  ·have e:k=13:=by omega
   subst e
   have hk2:=HK.out
   have hk3:kdF (kdL.drop 13) ((13:Nat):Int) s=0:=rfl
   rw[hk3]at hk2
   have HK2:=Lib.hid hk2
   clear hk2 hk3 HK
   go_wp2_with fail
   go_ret
   exact⟨by rw[←HK2.out];rfl,HB.out⟩
theorem deepS_eq (n:Nat)(x:Wd):deepS n x=if opnW x=true then n+1 else if clsW x=true then n-1 else n:=by
 unfold deepS
 have e:∀m,mkW m x=true↔x.k=1∧x.s=m:=fun m=>mkW_iff
 have ho:opnW x=true↔x.k=1∧(x.s=[40]∨x.s=[91]):=by
  unfold opnW
  rw[Bool.or_eq_true,e,e]
  exact⟨fun h=>h.elim (fun h=>⟨h.1,.inl h.2⟩) (fun h=>⟨h.1,.inr h.2⟩),fun h=>h.2.imp (fun k=>⟨h.1,k⟩) (fun k=>⟨h.1,k⟩)⟩
 have hc:clsW x=true↔x.k=1∧(x.s=[41]∨x.s=[93]):=by
  unfold clsW
  rw[Bool.or_eq_true,e,e]
  exact⟨fun h=>h.elim (fun h=>⟨h.1,.inl h.2⟩) (fun h=>⟨h.1,.inr h.2⟩),fun h=>h.2.imp (fun k=>⟨h.1,k⟩) (fun k=>⟨h.1,k⟩)⟩
 simp only[ho,hc]
 by_cases h1:x.k=1
 ·simp only[h1,if_true,true_and]
 ·simp only[h1,if_false,false_and]
set_option maxRecDepth 100000 in
set_option maxHeartbeats 8000000 in
theorem refDeep_any (ts:List Wd)(o:Option Addr)(c:Nat)(w:World)(h:WSl w o c ts)(hl:ts.length≤800):
 Calls Tryz.prog 20 #[.slice o ts.length c] w (BoP w (deepL ts)):=by
 obtain⟨R,hR⟩:∃R,deepL ts=R:=⟨_,rfl⟩
 rw[hR]
 have hR0:deepF 0 (ts.drop 0)=R:=hR
 have HR0:=Lib.hid hR0
 have H:=Lib.hid h
 have HP:=Lib.hid fun(x:Wd) (W:World)=>opens_any x W
 have HC:=Lib.hid fun(x:Wd) (W:World)=>closes_any x W
 unfold BoP wdV at HP HC
 clear hR hR0 h
 go_enter Tryz.func20,Tryz.ntmps20
 go_wp2_with fail
 go_loopw [3,4] (fun v3 v wr=>∃(k n:Nat),v= .int .i64 (k:Int)∧v3= .int .i64 (n:Int)∧k≤ts.length∧n≤12∧Hid (Below w.heap.size w wr∧deepF n (ts.drop k)=R)) (fun _ v _=>ts.length-(RowKit.intOf v).toNat)
 case atStart=>exact⟨0,0,rfl,rfl,by omega,by omega,Lib.hid ⟨Below.refl _ _,HR0.out⟩⟩
 case round=>
  obtain⟨k,n,rfl,rfl,hk,hn,HI⟩:=hrel
  by_cases hlt:k<ts.length
  ·obtain⟨g,off,rfl,hgl,x0,x1,x2,x3⟩:=H.out.word k hlt
   have hcl:∀W,Below w.heap.size w W→g<W.heap.size∧W.cell? ⟨g,off+k*4,none⟩=some (.int .i64 (ts[k].k:Int))∧W.cell? ⟨g,off+k*4+1,none⟩=some (.string (bs ts[k].s))∧W.cell? ⟨g,off+k*4+2,none⟩=some (.int .i64 (outT ts[k].n))∧W.cell? ⟨g,off+k*4+3,none⟩=some (.int .i64 (outV ts[k].n)):=fun W hW=>⟨Nat.lt_of_lt_of_le hgl hW.size,(hW.cell (p:=⟨g,_,none⟩) hgl).trans x0,(hW.cell (p:=⟨g,_,none⟩) hgl).trans x1,(hW.cell (p:=⟨g,_,none⟩) hgl).trans x2,(hW.cell (p:=⟨g,_,none⟩) hgl).trans x3⟩
   clear x0 x1 x2 x3 hgl
   obtain⟨hbw,hpr⟩:=HI.out
   rw[List.drop_eq_getElem_cons hlt,deepF,deepS_eq]at hpr
   generalize ts[k]=x at *
   have HPX:=Lib.hid fun W=>HP.out x W
   have HCX:=Lib.hid fun W=>HC.out x W
   have HCL:=Lib.hid hcl
   have HBW:=Lib.hid hbw
   obtain⟨hg0,y0,y1,y2,y3⟩:=hcl wr hbw
   have hcc0:opnW x=true→clsW x=false:=fun h=>by
    cases hz:clsW x with
    |false=>rfl
    |true=>rw[cls_opn hz]at h;cases h
   clear hcl hbw HI HR0
   obtain⟨b1,hb1⟩:∃b,opnW x=b:=⟨_,rfl⟩
   obtain⟨b2,hb2⟩:∃b,clsW x=b:=⟨_,rfl⟩
   rw[hb1,hb2]at hcc0
   rw[hb1,hb2]at hpr
   rw[hb1]at HPX
   rw[hb2]at HCX
   clear hb1 hb2
   cases b1
   ·simp only[Bool.false_eq_true,if_false]at hpr
    cases b2
    ·simp only[Bool.false_eq_true,if_false]at hpr
     rw[if_neg (by omega)]at hpr
     have HPR:=Lib.hid hpr
     have t2:decide ((12:Int)<(n:Int))=false:=decide_eq_false (by omega)
     clear hpr hcc0
     go_wp2_with (first
      |(go_at_call 53
        refine(HPX.out _).mono ?_
        rintro e w1 ⟨rfl,hb1⟩
        have hb2:=HBW.out.trans (hb1.mono HBW.out.size)
        clear hg0 y0 y1 y2 y3
        obtain⟨hg0,y0,y1,y2,y3⟩:=HCL.out w1 hb2
        have HB1:=Lib.hid hb2
        clear hb1 hb2)
      |(go_at_call 54
        refine(HCX.out _).mono ?_
        rintro e w4 ⟨rfl,hb4⟩
        have HB4:=Lib.hid (HB1.out.trans (hb4.mono HB1.out.size))
        clear hb4))
     go_roundw
     case rel=>exact⟨k+1,n,by go_num,rfl,by omega,by omega,Lib.hid ⟨HB4.out,HPR.out⟩⟩
     case measure=>simp[RowKit.intOf];omega
    ·simp only[if_true]at hpr
     rw[if_neg (by omega)]at hpr
     have HPR:=Lib.hid hpr
     by_cases hn0:n=0
     ·subst hn0
      have t1:decide ((0:Int)<0)=false:=rfl
      have t2:decide ((12:Int)<0)=false:=rfl
      clear hpr hcc0
      go_wp2_with (first
       |(go_at_call 53
         refine(HPX.out _).mono ?_
         rintro e w1 ⟨rfl,hb1⟩
         have hb2:=HBW.out.trans (hb1.mono HBW.out.size)
         clear hg0 y0 y1 y2 y3
         obtain⟨hg0,y0,y1,y2,y3⟩:=HCL.out w1 hb2
         have HB1:=Lib.hid hb2
         clear hb1 hb2)
       |(go_at_call 54
         refine(HCX.out _).mono ?_
         rintro e w4 ⟨rfl,hb4⟩
         have HB4:=Lib.hid (HB1.out.trans (hb4.mono HB1.out.size))
         clear hb4))
      go_roundw
      case rel=>exact⟨k+1,0,by go_num,rfl,by omega,by omega,Lib.hid ⟨HB4.out,HPR.out⟩⟩
      case measure=>simp[RowKit.intOf];omega
     ·obtain⟨m,rfl⟩:∃m,n=m+1:=⟨n-1,by omega⟩
      have t1:decide ((0:Int)<(m:Int)+1)=true:=decide_eq_true (by omega)
      have t1':(0:Int)<(m:Int)+1:=by omega
      have t2:decide ((12:Int)<(m:Int))=false:=decide_eq_false (by omega)
      have t3:(m:Int)≤12:=by omega
      have t4:(0:Int)≤(m:Int):=by omega
      clear hpr hcc0 hn0
      go_wp2_with (first
       |(go_at_call 53
         refine(HPX.out _).mono ?_
         rintro e w1 ⟨rfl,hb1⟩
         have hb2:=HBW.out.trans (hb1.mono HBW.out.size)
         clear hg0 y0 y1 y2 y3
         obtain⟨hg0,y0,y1,y2,y3⟩:=HCL.out w1 hb2
         have HB1:=Lib.hid hb2
         clear hb1 hb2)
       |(go_at_call 54
         refine(HCX.out _).mono ?_
         rintro e w4 ⟨rfl,hb4⟩
         have HB4:=Lib.hid (HB1.out.trans (hb4.mono HB1.out.size))
         clear hb4))
      go_roundw
      case rel=>exact⟨k+1,m,by go_num,rfl,by omega,by omega,Lib.hid ⟨HB4.out,HPR.out⟩⟩
      case measure=>simp[RowKit.intOf];omega
   ·simp only[if_true]at hpr
    have hb2f:=hcc0 rfl
    subst hb2f
    by_cases h12:12<n+1
    ·rw[if_pos h12]at hpr
     have t2:decide ((12:Int)<(n:Int)+1)=true:=decide_eq_true (by omega)
     have HPR:=Lib.hid hpr
     clear hpr hcc0 h12
     go_wp2_with (first
      |(go_at_call 53
        refine(HPX.out _).mono ?_
        rintro e w1 ⟨rfl,hb1⟩
        have hb2:=HBW.out.trans (hb1.mono HBW.out.size)
        clear hg0 y0 y1 y2 y3
        obtain⟨hg0,y0,y1,y2,y3⟩:=HCL.out w1 hb2
        have HB1:=Lib.hid hb2
        clear hb1 hb2)
      |(go_at_call 54
        refine(HCX.out _).mono ?_
        rintro e w4 ⟨rfl,hb4⟩
        have HB4:=Lib.hid (HB1.out.trans (hb4.mono HB1.out.size))
        clear hb4))
     go_ret
     exact⟨by rw[←HPR.out];rfl,HB4.out⟩
    ·rw[if_neg h12]at hpr
     have t2:decide ((12:Int)<(n:Int)+1)=false:=decide_eq_false (by omega)
     have HPR:=Lib.hid hpr
     have HN:=Lib.hid h12
     clear hpr hcc0 h12
     go_wp2_with (first
      |(go_at_call 53
        refine(HPX.out _).mono ?_
        rintro e w1 ⟨rfl,hb1⟩
        have hb2:=HBW.out.trans (hb1.mono HBW.out.size)
        clear hg0 y0 y1 y2 y3
        obtain⟨hg0,y0,y1,y2,y3⟩:=HCL.out w1 hb2
        have HB1:=Lib.hid hb2
        clear hb1 hb2)
      |(go_at_call 54
        refine(HCX.out _).mono ?_
        rintro e w4 ⟨rfl,hb4⟩
        have HB4:=Lib.hid (HB1.out.trans (hb4.mono HB1.out.size))
        clear hb4))
     go_roundw
     case rel=>exact⟨k+1,n+1,by go_num,by go_num,by omega,by have :=HN.out;omega,Lib.hid ⟨HB4.out,HPR.out⟩⟩
     case measure=>simp[RowKit.intOf];omega
  ·have e:k=ts.length:=by omega
   subst e
   have hpr:=HI.out.2
   rw[List.drop_length,deepF]at hpr
   have HPR:=Lib.hid hpr
   have HBW:=Lib.hid HI.out.1
   clear hpr HI
   go_wp2_with fail
   go_ret
   exact⟨by rw[←HPR.out];rfl,HBW.out⟩
end Char
end Go.Proofs.YtlmpkpjjakallaaGreatDoor
