import Derived.Test.YtlmpkpjjakallaaGreatDoorPk34
import Derived.Test.YtlmpkpjjakallaaGreatDoorPk28
import Derived.Deep.LoopGhost
import Derived.Test.YtlmpkpjjakallaaGreatDoorPk27
import Derived.Test.YtlmpkpjjakallaaGreatDoorPk16
import Derived.Test.YtlmpkpjjakallaaGreatDoorPk29
import Derived.Test.YtlmpkpjjakallaaGreatDoorPk12
namespace Go.Proofs.YtlmpkpjjakallaaGreatDoor
namespace Char
open Go.RowKit Go.Lib
open Go.Proofs.YtlmpkpjjakallaaGreatDoor.Fig (outT outV)
theorem env_new (w w1:World)(l:List UInt8)(hb:Below w.heap.size w w1):Env w.heap.size w1.heap.size w (((w1.alloc (.cells #[.string (bs l)] 9)).alloc (.cells #[.bool false] 4)).alloc (fnB w1.heap.size)) l false:=by
 obtain⟨A,hA⟩:∃A,A=w1.alloc (.cells #[.string (bs l)] 9):=⟨_,rfl⟩
 have a1:A.heap[w1.heap.size]? =some (.cells #[.string (bs l)] 9 (0,0)):=by rw[hA];exact World.alloc_heap_new w1 _
 have a2:A.heap.size=w1.heap.size+1:=by rw[hA];exact World.size_alloc _ _
 have a3:Below w1.heap.size w1 A:=by rw[hA];exact below_box _
 rw[←hA]
 clear hA
 obtain⟨B,hB⟩:∃B,B=A.alloc (.cells #[.bool false] 4):=⟨_,rfl⟩
 have b1:B.heap[A.heap.size]? =some (.cells #[.bool false] 4 (0,0)):=by rw[hB];exact World.alloc_heap_new A _
 have b2:B.heap.size=A.heap.size+1:=by rw[hB];exact World.size_alloc _ _
 have b3:Below A.heap.size A B:=by rw[hB];exact below_box _
 rw[←hB]
 clear hB
 obtain⟨C,hC⟩:∃C,C=B.alloc (fnB w1.heap.size):=⟨_,rfl⟩
 have c1:C.heap[B.heap.size]? =some (fnB w1.heap.size):=by rw[hC];exact World.alloc_heap_new B _
 have c3:Below B.heap.size B C:=by rw[hC];exact below_box _
 rw[←hC]
 clear hC
 have d1:C.heap[w1.heap.size]? =some (.cells #[.string (bs l)] 9 (0,0)):=(c3.block _ (by omega)).trans ((b3.block _ (by omega)).trans a1)
 have d2:C.heap[w1.heap.size+1]? =some (.cells #[.bool false] 4 (0,0)):=(c3.block _ (by omega)).trans (by rw[←a2];exact b1)
 refine⟨hb.trans ((a3.trans ((b3.mono (by omega)).trans (c3.mono (by omega)))).mono hb.size),hb.size,?_,?_,?_,?_,?_⟩
 ·simp only[World.cell?,d1];rfl
 ·simp only[World.frozen?,d1];rfl
 ·simp only[World.cell?,d2];rfl
 ·simp only[World.frozen?,d2];rfl
 ·rw[show w1.heap.size+1+1=B.heap.size by omega];exact c1
theorem ownsWd_low {B B':Nat}{w:World}{v:Value}{xs:List Wd}(h:OwnsWd B w v xs)(hb:B'≤B):OwnsWd B' w v xs:=by
 obtain⟨h1,h2⟩:=h
 refine⟨h1,?_⟩
 rcases h2 with h0|⟨g,cap,cur,e1,e2,hg,e3⟩
 ·exact .inl h0
 ·exact .inr ⟨g,cap,cur,e1,Nat.le_trans hb e2,hg,e3⟩
theorem owns_set {L:Nat}{w:World}{v:Value}{xs:List Wd}(h:OwnsWd (L+3) w v xs)(a b:Value):OwnsWd (L+3) ((w.setCell ⟨L,0,none⟩ a).setCell ⟨L+1,0,none⟩ b) v xs:=
 h.keep fun g hg=>by
  have :=(h.blk hg).1
  rw[heap_set_ne (a:=⟨L+1,0,none⟩) (by show g≠L+1;omega),heap_set_ne (a:=⟨L,0,none⟩) (by show g≠L;omega)]
theorem words_step {l:List UInt8}{e:Bool}{x:Wd}{n:Nat}{xs:List Wd}{R:Nat ⊕ List Wd}(hl:l≠[])(h:wdL l e=some (x,n))(h1:¬xs.length=120)(hr:appW xs (lexG l e xs.length)=R):appW (xs++[x]) (lexG (dropS (l.drop n)) (endW x) (xs++[x]).length)=R:=by
 rw[lexG_some hl h h1,appW_app]at hr
 rw[List.length_append]
 exact hr
theorem words_tx {l:List UInt8}{e:Bool}{x:Wd}{n:Nat}(h:wdL l e=some (x,n))(ht:txD l=true):txD (dropS (l.drop n))=true:=by
 rw[←take_app (l:=l) n]at ht
 exact tx_dropS (form_rest (wd_form h) ht)
set_option maxHeartbeats 8000000 in
theorem words_any (s:List UInt8)(w:World)(hl:s.length≤400)(ht:txD (dropS s)=true)(hG:Gl w):Calls Tryz.prog 58 #[.string (bs s)] w (WordsPost w (lexG (dropS s) false 0)):=by
 have HS:=Lib.hid (behindS_any s w)
 obtain⟨R,hR⟩:∃R,lexG (dropS s) false 0=R:=⟨_,rfl⟩
 rw[hR]
 have HR:=Lib.hid hR
 have HG:=Lib.hid hG
 have HD:=Lib.hid (Nat.le_trans (dropS_le s) hl)
 have HT:=Lib.hid ht
 clear hR hG hl ht
 generalize dropS s=l0 at *
 go_enter Tryz.func58,Tryz.ntmps58
 go_wp2
 go_step3
 go_wp2_with (first
  |(go_at_call 98
    refine HS.out.mono ?_
    rintro e w1 ⟨rfl,hb1⟩
    have HE1:=Lib.hid (env_new w w1 l0 hb1)
    clear hb1 HS))
 obtain⟨W4,hW4⟩:∃W4,W4=(((w1.alloc (.cells #[.string (bs l0)] 9)).alloc (.cells #[.bool false] 4)).alloc (fnB w1.heap.size)):=⟨_,rfl⟩
 have HE4:=HE1
 rw[←hW4]at HE4
 simp only[fnB,fnK]at hW4
 rw[←hW4]
 clear hW4 HE1
 generalize w1.heap.size=L at *
 clear w1
 go_step3
 go_wp2
 go_loopg [7] l0.length (fun g s7 wr=>∃xs l e,l.length=g∧Hid (Env w.heap.size L w wr l e∧OwnsWd (L+3) wr s7 xs∧appW xs (lexG l e xs.length)=R∧l.length≤400∧txD l=true∧xs.length≤120))
 case atStart=>exact⟨[],l0,false,rfl,Lib.hid ⟨HE4.out,OwnsWd.nil _ _,by rw[appW_nil];exact HR.out,HD.out,HT.out,Nat.zero_le _⟩⟩
 case round=>
  obtain⟨xs,l,e,hg,HQ⟩:=hrel
  have hll:=HQ.out.1.ll
  have hlf:=HQ.out.1.lf
  have hel:=HQ.out.1.el
  have hef:=HQ.out.1.ef
  clear HE4 HR HD HT
  cases l with
  |nil=>
   have hne:((bs []).toList==[])=true:=by rw[bs_tl];rfl
   go_wp2_with fail
   try rw[Exit.noGoto_ret]
   go_ret2
   refine⟨HQ.out.1.hb,?_⟩
   have hr:=HQ.out.2.2.1
   rw[lexG_nil]at hr
   rw[←hr]
   exact⟨_,rfl,by rw[List.append_nil];exact ownsWd_low HQ.out.2.1 (Nat.le_trans HQ.out.1.hL (by omega))⟩
  |cons c t=>
   have hne:((bs (c::t)).toList==[])=false:=by rw[bs_tl];rfl
   obtain⟨f0,f1,f2,f3,f4,f5,f6⟩:=HQ.out.1.fns
   go_wp2_with fail
   clear hll hlf hel hef f0 f1 f2 f3 f4 f5 f6 hne
   have HRR:=Lib.hid HQ.out.2.2
   have HGK:=Lib.hid hg
   have HW0:=Lib.hid (And.intro HQ.out.1 HQ.out.2.1)
   clear HQ hg
   go_loopg [7,25] 7 (fun g s7 s25 wi=>∃k:Nat,s25= .int .i64 (k:Int)∧k+g=7∧Hid (Env w.heap.size L w wi (c::t) e∧OwnsWd (L+3) wi s7 xs∧orAt k (c::t) e=wdL (c::t) e))
   case atStart=>exact⟨0,rfl,rfl,Lib.hid ⟨HW0.out.1,HW0.out.2,rfl⟩⟩
   case round=>
    obtain⟨k,rfl,hkg,HI⟩:=hrel
    clear HW0
    by_cases hk:k<7
    ·have hlt:decide ((k:Int)<7)=true:=decide_eq_true (by omega)
     obtain⟨g2,rfl⟩:∃g2,gk=g2+1:=⟨gk-1,by omega⟩
     obtain⟨fg,cs,hfn,hent,hcall⟩:=kd_call k hk L (c::t) e wr HRR.out.2.1 (by simp) HRR.out.2.2.1 (HG.out.below HI.out.1.hb) HI.out.1.ll HI.out.1.el
     have hidx:=index_fn L k hk
     rw[hfn]at hidx
     have hst:=orAt_step k hk (c::t) e
     rw[HI.out.2.2]at hst
     obtain⟨o,j,hu⟩:=HI.out.2.1.form
     subst hu
     cases hkd:kdW k (c::t) e with
     |none=>
      rw[hkd]at hcall hst
      rw[orW_none]at hst
      have HC:=Lib.hid hcall
      have HST:=Lib.hid hst
      have HKG:=Lib.hid hkg
      have HK:=Lib.hid hk
      have hz0:(0:Int)≤(k:Int):=by omega
      have hz1:(k:Int)<7:=by omega
      clear hcall hst hkg hkd hfn hk
      go_wp2_with (first
       |(go_at_fn fg
         refine HC.out.mono ?_
         intro e' w5 hz
         obtain⟨x,n,hx,rfl,hb5⟩:=wdPost_out hz
         cases hx
         have HB5:=Lib.hid hb5
         clear hb5 hz HC))
      go_roundg g2
      case measure=>omega
      case rel=>exact⟨k+1,by have :=HK.out;go_num,by have :=HKG.out;omega,Lib.hid ⟨HI.out.1.below (HB5.out.trans ((below_box _).mono HB5.out.size)),HI.out.2.1.below (HB5.out.trans ((below_box _).mono HB5.out.size)),HST.out.symm⟩⟩
     |some q=>
      obtain⟨x,n⟩:=q
      rw[hkd]at hcall hst
      rw[orW_some]at hst
      have hnl:=wdL_len hst
      have hn0:((n:Int)==0)=false:=by rw[beq_eq_false_iff_ne];omega
      have HC:=Lib.hid hcall
      have HST:=Lib.hid hst
      have HNL:=Lib.hid hnl
      clear hcall hst hkg hkd hfn hk hnl
      by_cases h120:xs.length=120
      ·have hx120:((xs.length:Int)==120)=true:=by rw[h120];rfl
       have HXL:=Lib.hid h120
       clear h120
       go_wp2_with (first
        |(go_at_fn fg
          refine HC.out.mono ?_
          intro e' w5 hz
          obtain⟨x',n',hx,rfl,hb5⟩:=wdPost_out hz
          cases hx
          have HB5:=Lib.hid hb5
          clear hb5 hz HC))
       try rw[Exit.noGoto_ret]
       go_ret2
       refine⟨(HI.out.1.below (HB5.out.trans ((below_box _).mono HB5.out.size))).hb,?_⟩
       have hr:=HRR.out.1
       rw[HXL.out,lexG_full (by simp) HST.out]at hr
       rw[←hr]
       rfl
      ·have hx120:((xs.length:Int)==120)=false:=by rw[beq_eq_false_iff_ne];omega
       have HXL:=Lib.hid h120
       have hxl:xs.length≤1000:=by have :=HRR.out.2.2.2;omega
       have hsl:=slice_from (c::t) n HNL.out.2
       clear h120
       go_upto_region 13 with(first
        |(go_at_fn fg
          refine HC.out.mono ?_
          intro e' w5 hz
          obtain⟨x',n',hx,rfl,hb5⟩:=wdPost_out hz
          cases hx
          have HO6:=Lib.hid ((HI.out.2.1.below hb5).below (below_box (.cells #[.int .i64 (x.k:Int),.string (bs x.s),.int .i64 (outT x.n),.int .i64 (outV x.n)] 89)))
          have HE6:=Lib.hid ((HI.out.1.below hb5).below (below_box (.cells #[.int .i64 (x.k:Int),.string (bs x.s),.int .i64 (outT x.n),.int .i64 (outV x.n)] 89)))
          have hkx:(w5.alloc (.cells #[.int .i64 (x.k:Int),.string (bs x.s),.int .i64 (outT x.n),.int .i64 (outV x.n)] 89)).heap[w5.heap.size]? =some (wdB x):=World.alloc_heap_new w5 _
          have HKX:=Lib.hid hkx
          have HB5:=Lib.hid hb5
          have hs5:=World.size_alloc w5 (.cells #[.int .i64 (x.k:Int),.string (bs x.s),.int .i64 (outT x.n),.int .i64 (outV x.n)] 89)
          obtain⟨⟨x0,x1,x2,x3⟩,_⟩:=wd_blk hkx
          have HS5:=Lib.hid hs5
          clear hb5 hz HC hkx hs5)
        |(at_builtin
          refine wpList_pushWd rfl (.tmp 38) (.tmp 40) rfl x HO6.out rfl (by simp[Act.eval]) (HE6.out.lt) (by omega) ?_
          intro u7' w7 q1 q2 q3 q4
          have hdr:Below w7.heap.size w7 w7.drew:=(Below.refl _ _).drew
          have HE7:=Lib.hid ((HE6.out.low q2).below hdr)
          have HO7:=Lib.hid (q1.below hdr)
          have hkx:w7.drew.heap[w5.heap.size]? =some (wdB x):=(q3 _ (by have :=HS5.out;omega) (fun h=>by have :=(HI.out.2.1.below HB5.out).blk h.symm;omega)).trans HKX.out
          have HKX:=Lib.hid hkx
          have HLX:=Lib.hid (Array.getElem?_eq_some_iff.1 hkx).1
          clear x0 x1 x2 x3
          obtain⟨⟨x0,x1,x2,x3⟩,_⟩:=wd_blk hkx
          have l0:=HE7.out.ll
          clear hdr hkx q1 q2 q3 q4))
       have hs7:w7.drew.heap.size=w7.heap.size:=rfl
       have HS7:=Lib.hid hs7
       clear hs7
       go_region_with (first
        |(go_at_call 98
          refine(behindS_any ((c::t).drop n) _).mono ?_
          rintro e' w8 ⟨rfl,hb8⟩
          have HE8:=Lib.hid (HE7.out.below hb8)
          have HO8:=Lib.hid (HO7.out.below hb8)
          have hkx:=(hb8.block _ HLX.out).trans HKX.out
          obtain⟨⟨z0,z1,z2,z3⟩,_⟩:=wd_blk hkx
          clear hb8 hkx)
        |(go_at_call 114
          refine(ends_any x _).mono ?_
          rintro e' w9 ⟨rfl,hb9⟩
          have HE9:=Lib.hid (HE8.out.below hb9)
          have HO9:=Lib.hid (HO8.out.below hb9)
          have s0:=HE9.out.ll
          have s1:=HE9.out.lf
          have s2:=HE9.out.el
          have s3:=HE9.out.ef
          clear hb9))
       all_goals
        go_wp2_with fail
        go_roundg (dropS ((c::t).drop n)).length
        case measure=>
         have h1:=dropS_le ((c::t).drop n)
         have h2:=HNL.out
         have h3:=HGK.out
         rw[List.length_drop]at h1
         omega
        case rel=>exact⟨xs++[x],dropS ((c::t).drop n),endW x,rfl,Lib.hid ⟨HE9.out.set _ _,owns_set HO9.out _ _,words_step (by simp) HST.out HXL.out HRR.out.1,Nat.le_trans (dropS_le _) (by rw[List.length_drop];have :=HRR.out.2.1;omega),words_tx HST.out HRR.out.2.2.1,by rw[List.length_append];have :=HRR.out.2.2.2;have :=HXL.out;simp;omega⟩⟩
    ·have hlt:decide ((k:Int)<7)=false:=decide_eq_false (by omega)
     obtain rfl:k=7:=by omega
     clear hkg hk
     go_wp2_with fail
     try rw[Exit.noGoto_ret]
     go_ret2
     refine⟨HI.out.1.hb,?_⟩
     have hr:=HRR.out.1
     have hw:wdL (c::t) e=none:=HI.out.2.2.symm
     rw[lexG_none _ (by simp) hw]at hr
     rw[←hr]
     rfl
end Char
namespace Char
open Go.RowKit Go.Lib
def WordsAt (w:World)(R:Nat ⊕ List Wd)(v:Value)(x:Int)(w':World):Prop:=Below w.heap.size w w'∧match R with
 | .inl y=>v= .slice none 0 0∧x=(y:Int)
 | .inr ws=>x=0∧OwnsWd w.heap.size w' v ws
theorem words_out {w:World}{R:Nat ⊕ List Wd}{e:Ending}{w':World}(h:WordsPost w R e w'):∃v x,e= .returned (.tuple #[v,.int .i64 x])∧WordsAt w R v x w':=by
 obtain⟨h1,h2⟩:=h
 cases R with
 |inl y=>exact⟨_,_,h2,h1,rfl,rfl⟩
 |inr ws=>obtain⟨v,h3,h4⟩:=h2;exact⟨v,_,h3,h1,rfl,h4⟩
theorem words_in {w w1 w2:World}{R:Nat ⊕ List Wd}{v:Value}{x:Int}(hb:Below w.heap.size w w1)(h:WordsAt w1 R v x w2):WordsPost w R (.returned (.tuple #[v,.int .i64 x])) w2:=by
 obtain⟨h1,h2⟩:=h
 refine⟨hb.trans (h1.mono hb.size),?_⟩
 cases R with
 |inl y=>obtain⟨rfl,rfl⟩:=h2;rfl
 |inr ws=>obtain⟨rfl,h4⟩:=h2;exact⟨v,rfl,ownsWd_low h4 hb.size⟩
set_option maxHeartbeats 2000000 in
theorem lex_any (s:List UInt8)(w:World)(hl:s.length≤140737488351232)(hG:Gl w):Calls Tryz.prog 26 #[.string (bs s)] w (WordsPost w (lexL s)):=by
 have hsz:=bs_size s
 have hTx:=text_any (bs s) w (by omega) hG.1
 rw[bs_list]at hTx
 have HT:=Lib.hid hTx
 have hv:lexL s=if 400<s.length then .inl 3 else if txD s=false then .inl 10 else lexG (dropS s) false 0:=rfl
 clear hTx hl
 by_cases h1:400<s.length
 ·have k1:decide ((400:Int)<(s.length:Int))=true:=decide_eq_true (by omega)
  have hr:lexL s= .inl 3:=by rw[hv,if_pos h1]
  rw[hr]
  clear hv h1 hr
  go_enter Tryz.func26,Tryz.ntmps26
  go_wp2_with fail
  go_ret2
  exact⟨Below.refl _ _,rfl⟩
 ·have k1:decide ((400:Int)<(s.length:Int))=false:=decide_eq_false (by omega)
  cases ht:txD s with
  |false=>
   have hr:lexL s= .inl 10:=by rw[hv,if_neg h1,if_pos ht]
   rw[hr]
   rw[ht]at HT
   clear hv h1 hr ht
   go_enter Tryz.func26,Tryz.ntmps26
   go_wp2_with (first
    |(go_at_call 57
      refine HT.out.mono ?_
      rintro e w1 ⟨rfl,hb1⟩
      have HB1:=Lib.hid hb1
      clear hb1 HT))
   go_ret2
   exact⟨HB1.out,rfl⟩
  |true=>
   have hr:lexL s=lexG (dropS s) false 0:=by rw[hv,if_neg h1,if_neg (by rw[ht];decide)]
   rw[hr]
   rw[ht]at HT
   have HW:=Lib.hid fun(W:World) (hb:Below w.heap.size w W)=>words_any s W (by omega) (tx_dropS ht) (hG.below hb)
   clear hv h1 hr ht
   generalize lexG (dropS s) false 0=R at *
   go_enter Tryz.func26,Tryz.ntmps26
   go_wp2_with (first
    |(go_at_call 57
      refine HT.out.mono ?_
      rintro e w1 ⟨rfl,hb1⟩
      have HB1:=Lib.hid hb1
      have HW1:=Lib.hid (HW.out w1 hb1)
      clear hb1 HT)
    |(go_at_call 58
      refine HW1.out.mono ?_
      intro e w2 hz
      obtain⟨v,x,rfl,hz2⟩:=words_out hz
      have HZ:=Lib.hid hz2
      clear hz hz2))
   go_ret2
   exact words_in HB1.out HZ.out
end Char
namespace Char
open Go.RowKit Go.Lib
theorem lexG_len:∀(f:Nat) (l:List UInt8) (e:Bool) (n:Nat) (ws:List Wd),n≤120→lexN f l e n= .inr ws→n+ws.length≤120
 |0,_,_,_,_,_,h=>by cases h
 |f+1,l,e,n,ws,hn,h=>by
  unfold lexN at h
  by_cases hl:l=[]
  ·rw[if_pos hl]at h
   cases h
   exact hn
  ·rw[if_neg hl]at h
   cases hw:wdL l e with
   |none=>rw[hw]at h;cases h
   |some q=>
    obtain⟨w,k⟩:=q
    rw[hw]at h
    dsimp only at h
    by_cases h1:n=120
    ·rw[if_pos h1]at h;cases h
    ·rw[if_neg h1]at h
     cases hr:lexN f (dropS (l.drop k)) (endW w) (n+1) with
     |inl x=>rw[hr]at h;cases h
     |inr vs=>
      rw[hr]at h
      cases h
      have :=lexG_len f _ _ _ _ (by omega) hr
      rw[List.length_cons]
      omega
theorem lexL_len {s:List UInt8}{ws:List Wd}(h:lexL s= .inr ws):ws.length≤120:=by
 unfold lexL at h
 split at h
 ·cases h
 ·split at h
  ·cases h
  ·have :=lexG_len _ _ _ _ _ (Nat.zero_le _) h
   omega
end Char
namespace Char
open Go.RowKit Go.Lib
open Go.Proofs.YtlmpkpjjakallaaGreatDoor.Fig (outT outV digB)
theorem one12_any (l:List UInt8)(p B:Nat)(v:Value)(xs:List Wd)(w:World)(hl:l.length≤450)(hp:p<l.length)(ho:OwnsWd B w v xs)(hxl:xs.length≤1000):
 Calls Tryz.prog 52 #[.string (bs l),.int .i64 (p:Int),v] w (OneP w p (wdL (l.drop p) (lastE false xs))):=by
 have hd:=drop_cons l p hp
 obtain⟨hlt',hg⟩:=byte_at l p hp
 by_cases hq:l.getD p 0=34∨l.getD p 0=39
 ·exact oneX_quote l p v w _ _ _ hl hp hd rfl hlt' hg hq
 ·by_cases hdg:digB (l.getD p 0)=true
  ·exact oneX_digit l p v w _ _ _ hl hp hd hlt' hg hdg
  ·have hdg:digB (l.getD p 0)=false:=by simpa using hdg
   by_cases hdot:l.getD p 0=46∧0<dgs (l.drop (p+1))
   ·obtain⟨h46,hpos⟩:=hdot
    rw[h46]at hd hg
    have D1:∀W:World,_:=fun(W:World)=>digits_any l p W (by omega) (by omega)
    have hz:dgs (l.drop p)=0:=by rw[hd];exact dgs_none _ (by decide)
    rw[hz,Nat.add_zero]at D1
    have D2:∀W:World,_:=fun(W:World)=>digits_any l (p+1) W (by omega) (by omega)
    obtain⟨t1,ht1⟩:∃t1,p+1+dgs (l.drop (p+1))=t1:=⟨_,rfl⟩
    rw[ht1]at D2
    have hsz:sizN (l.drop p)=1+dgs (l.drop (p+1)):=by
     unfold sizN
     rw[hz,Nat.zero_add,Nat.zero_add,List.drop_zero,List.drop_drop]
     rw[if_pos (show([46]:List UInt8).isPrefixOf (l.drop p)=true by rw[hd];rfl)]
    have hle:=dgs_le (l.drop (p+1))
    rw[List.length_drop]at hle
    have hs:=slice_mid6 l p t1 (by omega) (by omega)
    rw[show t1-p=sizN (l.drop p) by omega]at hs
    rw[show wdL (l.drop p) (lastE false xs)=numW (l.drop p) by rw[hd];exact dot_wd _ _ hpos]
    exact oneN_dot l p 46 v w _ _ _ (bs_size l) hl hlt' hg (by omega) rfl rfl t1 (by omega) (Lib.hid D1) (Lib.hid D2) rfl rfl rfl (by rw[List.length_take,List.length_drop];omega) (by omega) (by omega) hs
   ·exact oneX_rest l p B v xs w _ _ hl hp hd rfl hlt' hg ho hxl ⟨fun h=>hq (.inl h),fun h=>hq (.inr h)⟩ hdg fun h=>Nat.eq_zero_of_not_pos fun h2=>hdot ⟨h,h2⟩
set_option maxHeartbeats 8000000 in
theorem refLex_any (l:List UInt8)(w:World)(hl:l.length≤1000):Calls Tryz.prog 19 #[.string (bs l)] w (WordsPost w (lexL l)):=by
 have hsz:=bs_size l
 have hTx:=refText_any (bs l) w (by omega)
 rw[bs_list]at hTx
 have HT:=Lib.hid hTx
 have hv:lexL l=if 400<l.length then .inl 3 else if txD l=false then .inl 10 else lexG (dropS l) false 0:=rfl
 clear hTx
 by_cases h1:400<l.length
 ·have k1:decide ((400:Int)<(l.length:Int))=true:=decide_eq_true (by omega)
  have hr:lexL l= .inl 3:=by rw[hv,if_pos h1]
  rw[hr]
  clear hv h1 hr
  go_enter Tryz.func19,Tryz.ntmps19
  go_wp2_with fail
  go_ret2
  exact⟨Below.refl _ _,rfl⟩
 ·have k1:decide ((400:Int)<(l.length:Int))=false:=decide_eq_false (by omega)
  cases ht:txD l with
  |false=>
   have hr:lexL l= .inl 10:=by rw[hv,if_neg h1,if_pos ht]
   rw[hr]
   rw[ht]at HT
   clear hv h1 hr ht
   go_enter Tryz.func19,Tryz.ntmps19
   go_wp2_with (first
    |(go_at_call 50
      refine HT.out.mono ?_
      rintro e w1 ⟨rfl,hb1⟩
      have HB1:=Lib.hid hb1
      clear hb1 HT))
   go_ret2
   exact⟨HB1.out,rfl⟩
  |true=>
   have hr:lexL l=lexG (dropS l) false 0:=by rw[hv,if_neg h1,if_neg (by rw[ht];decide)]
   rw[hr]
   rw[ht]at HT
   obtain⟨R,hR⟩:∃R,lexG (dropS l) false 0=R:=⟨_,rfl⟩
   rw[hR]
   have HR:=Lib.hid hR
   have hl4:l.length≤400:=by omega
   have HS:=Lib.hid fun(W:World)=>spaces_any l 0 W (by omega) (by omega)
   rw[Nat.zero_add,List.drop_zero]at HS
   have HSP:=Lib.hid (spc_le l)
   clear hv h1 hr ht hR
   go_enter Tryz.func19,Tryz.ntmps19
   go_wp2_with (first
    |(go_at_call 50
      refine HT.out.mono ?_
      rintro e w1 ⟨rfl,hb1⟩
      have HB1:=Lib.hid hb1
      clear hb1 HT)
    |(go_at_call 51
      refine(HS.out _).mono ?_
      rintro e w2 ⟨rfl,rfl⟩))
   go_loopg [4,5] (l.length-spcL l) (fun g s4 s5 wr=>∃(xs:List Wd) (k:Nat),s5= .int .i64 (k:Int)∧k+g=l.length∧Hid (Below w.heap.size w wr∧OwnsWd w.heap.size wr s4 xs∧appW xs (lexG (l.drop k) (lastE false xs) xs.length)=R∧xs.length≤120))
   case atStart=>exact⟨[],spcL l,rfl,by have :=HSP.out;omega,Lib.hid ⟨HB1.out,OwnsWd.nil _ _,by rw[appW_nil];exact HR.out,Nat.zero_le _⟩⟩
   case round=>
    obtain⟨xs,k,rfl,hk,HQ⟩:=hrel
    by_cases hend:k=l.length
    ·have k2:decide ((k:Int)<(l.length:Int))=false:=decide_eq_false (by omega)
     have k3:decide (k<l.length)=false:=decide_eq_false (by omega)
     have hr:R= .inr xs:=by
      have h:=HQ.out.2.2.1
      rw[hend,List.drop_length,lexG_nil]at h
      rw[←h]
      show Sum.inr (xs++[])=_
      rw[List.append_nil]
     have HRR:=Lib.hid hr
     have HX:=Lib.hid (And.intro HQ.out.1 HQ.out.2.1)
     clear hr HQ hend hk
     go_wp2_with fail
     go_ret2
     refine⟨HX.out.1,?_⟩
     rw[HRR.out]
     exact⟨_,rfl,HX.out.2⟩
    ·have hlt:k<l.length:=by omega
     have k2:decide ((k:Int)<(l.length:Int))=true:=decide_eq_true (by omega)
     have k3:decide (k<l.length)=true:=decide_eq_true hlt
     have hne:l.drop k≠[]:=by
      intro h
      have :=congrArg List.length h
      rw[List.length_drop]at this
      simp at this
      omega
     have hO:=one12_any l k w.heap.size u4 xs wr (by omega) hlt HQ.out.2.1 (by have :=HQ.out.2.2.2;omega)
     obtain⟨o,j,hu⟩:=HQ.out.2.1.form
     subst hu
     have hxl:=HQ.out.2.2.2
     cases hw:wdL (l.drop k) (lastE false xs) with
     |none=>
      rw[hw]at hO
      have HO:=Lib.hid hO
      have hr:R= .inl 30:=by rw[←HQ.out.2.2.1,lexG_none _ hne hw];rfl
      have HRR:=Lib.hid hr
      clear hr hO hw hne hend hlt
      go_wp2_with (first
       |(go_at_call 52
         refine HO.out.mono ?_
         rintro e w5 ⟨x,m,⟨rfl,hb5⟩,rfl⟩
         unfold wdV
         have HB5:=Lib.hid (HQ.out.1.trans (hb5.mono HQ.out.1.size))
         clear hb5 HO))
      go_ret2
      refine⟨HB5.out.alloc HB5.out.size _,?_⟩
      rw[HRR.out]
      rfl
     |some q=>
      obtain⟨x0,n⟩:=q
      rw[hw]at hO
      have HO:=Lib.hid hO
      have hnl:=wdL_len hw
      rw[List.length_drop]at hnl
      have hpn:((((k+n:Nat):Int))==0)=false:=by rw[beq_eq_false_iff_ne];omega
      have HW:=Lib.hid hw
      have HNE:=Lib.hid hne
      have HK:=Lib.hid hk
      by_cases h120:xs.length=120
      ·have hr:R= .inl 3:=by
        have h:=HQ.out.2.2.1
        rw[h120,lexG_full hne hw]at h
        rw[←h]
        rfl
       have HRR:=Lib.hid hr
       have c120:decide ((120:Int)<(xs.length:Int)+1)=true:=decide_eq_true (by omega)
       have c120n:decide (120<xs.length+1)=true:=decide_eq_true (by omega)
       clear hr hO hw hne hk h120
       go_wp2_with (first
        |(go_at_call 52
          refine HO.out.mono ?_
          rintro e w5 ⟨x,m,⟨rfl,hb5⟩,rfl,rfl⟩
          unfold wdV
          have HO6:=Lib.hid ((HQ.out.2.1.below hb5).below (below_box (.cells #[.int .i64 (x.k:Int),.string (bs x.s),.int .i64 (outT x.n),.int .i64 (outV x.n)] 89)))
          have HB6:=Lib.hid ((HQ.out.1.trans (hb5.mono HQ.out.1.size)).alloc (HQ.out.1.trans (hb5.mono HQ.out.1.size)).size (.cells #[.int .i64 (x.k:Int),.string (bs x.s),.int .i64 (outT x.n),.int .i64 (outV x.n)] 89))
          clear hb5 HO)
        |(at_builtin
          refine wpList_pushWd rfl (.tmp 29) (.tmp 31) rfl x HO6.out rfl (by simp[Act.eval]) HB6.out.size (by omega) ?_
          intro u7 w7 q1 q2 q3 q4
          obtain⟨o7,j7,hv7⟩:=q1.form
          have hl7:(xs++[x]).length=xs.length+1:=by simp
          rw[hl7]at hv7
          subst hv7
          have HB7:=Lib.hid (HB6.out.trans q2)
          clear q1 q2 q3 q4 hl7))
       go_ret2
       refine⟨HB7.out,?_⟩
       rw[HRR.out]
       rfl
      ·have c120:decide ((120:Int)<(xs.length:Int)+1)=false:=decide_eq_false (by omega)
       have c120n:decide (120<xs.length+1)=false:=decide_eq_false (by omega)
       have H120:=Lib.hid h120
       have HSQ:=Lib.hid fun(W:World)=>spaces_any l (k+n) W (by omega) (by omega)
       obtain⟨k9,hk9⟩:∃k9,k+n+spcL (l.drop (k+n))=k9:=⟨_,rfl⟩
       rw[hk9]at HSQ
       have HK9:=Lib.hid hk9
       have hs9:=spc_le (l.drop (k+n))
       rw[List.length_drop]at hs9
       have HLE:=Lib.hid (show k9≤l.length∧k<k9 by omega)
       clear hO hw hne hk h120 hk9 hs9
       go_wp2_with (first
        |(go_at_call 52
          refine HO.out.mono ?_
          rintro e w5 ⟨x,m,⟨rfl,hb5⟩,rfl,rfl⟩
          unfold wdV
          have HO6:=Lib.hid ((HQ.out.2.1.below hb5).below (below_box (.cells #[.int .i64 (x.k:Int),.string (bs x.s),.int .i64 (outT x.n),.int .i64 (outV x.n)] 89)))
          have HB6:=Lib.hid ((HQ.out.1.trans (hb5.mono HQ.out.1.size)).alloc (HQ.out.1.trans (hb5.mono HQ.out.1.size)).size (.cells #[.int .i64 (x.k:Int),.string (bs x.s),.int .i64 (outT x.n),.int .i64 (outV x.n)] 89))
          clear hb5 HO)
        |(at_builtin
          refine wpList_pushWd rfl (.tmp 29) (.tmp 31) rfl x HO6.out rfl (by simp[Act.eval]) HB6.out.size (by omega) ?_
          intro u7 w7 q1 q2 q3 q4
          have HO7:=Lib.hid q1
          obtain⟨o7,j7,hv7⟩:=q1.form
          have hl7:(xs++[x]).length=xs.length+1:=by simp
          rw[hl7]at hv7
          subst hv7
          have HB7:=Lib.hid (HB6.out.trans q2)
          clear q1 q2 q3 q4 hl7)
        |(go_at_call 51
          refine(HSQ.out _).mono ?_
          rintro e w8 ⟨rfl,rfl⟩))
       go_roundg (l.length-k9)
       case measure=>have :=HLE.out;have :=HK.out;omega
       case rel=>exact⟨xs++[x],k9,rfl,by have :=HLE.out;omega,Lib.hid ⟨HB7.out,HO7.out,by
        have h:=words_step HNE.out HW.out H120.out HQ.out.2.2.1
        rw[lastE_snoc,←HK9.out,←List.drop_drop]
        have e:dropS ((l.drop k).drop n)=(l.drop (k+n)).drop (spcL (l.drop (k+n))):=by rw[List.drop_drop];rfl
        rw[←e]
        exact h,by have :=HQ.out.2.2.2;have :=H120.out;simp;omega⟩⟩
end Char
namespace Char
open Go.RowKit Go.Lib
def parseR (l:List UInt8):Nat ⊕ Ex:=match lexL l with
 | .inl e=> .inl e
 | .inr ws=>if deepL ws then .inl 34 else match wholeL ws with
  |none=> .inl 31
  |some x=> .inr x
def ParP (w:World)(x:Nat ⊕ Ex)(e:Ending)(w':World):Prop:=Below w.heap.size w w'∧match x with
 | .inl y=>e= .returned (.tuple #[exV ex0 (.slice none 0 0) (.slice none 0 0),.int .i64 (y:Int)])
 | .inr x=>∃vk vs,e= .returned (.tuple #[exV x vk vs,.int .i64 0])∧ExOn w' (w.heap.size≤ ·) x vk vs
theorem lf_of {B R:Nat}{w:World}{o:Option Addr}{j:Nat}{ts:List Wd}(ho:OwnsWd B w (.slice o ts.length j) ts)(hR:R=w.heap.size):
 LfB R ts (w.alloc (.cells #[.slice o ts.length j] 54)):=by
 subst hR
 have hn:=World.alloc_heap_new w (.cells #[.slice o ts.length j] 54)
 have hc:ts.length≤j:=by
  rcases ho.2 with⟨h1,h2⟩|⟨g,cap,cur,e1,e2,hg,e3,_⟩
  ·omega
  ·cases e1;exact e3
 refine⟨o,j,by simp only[World.cell?,hn];rfl,by simp only[World.frozen?,hn];rfl,by simp,hc,?_⟩
 by_cases h0:ts=[]
 ·exact .inl h0
 ·have hpos:0<ts.length:=List.length_pos_iff.2 h0
  obtain⟨g,rfl,hg,_⟩:=ho.reads 0 hpos
  refine .inr ⟨g,0,rfl,hg,fun k hk i u hu=> ?_⟩
  obtain⟨g',hg',_,x0,x1,x2,x3⟩:=ho.reads k hk
  cases hg'
  have hb:(w.alloc (.cells #[.slice (some ⟨g,0,none⟩) ts.length j] 54)).heap[g]? =w.heap[g]? :=Below.heap_alloc _ _ _ hg
  refine(World.cell?_of_block (w:=w) (a:=⟨g,0+k*4+i,none⟩) hb).trans ?_
  rw[Nat.zero_add]
  match i,hu with
  |0,hu=>simp[wdC]at hu;subst hu;exact x0
  |1,hu=>simp[wdC]at hu;subst hu;exact x1
  |2,hu=>simp[wdC]at hu;subst hu;exact x2
  |3,hu=>simp[wdC]at hu;subst hu;exact x3
  |i+4,hu=>simp[wdC]at hu
theorem endEx2 {fn:Func}{p q:Tmp}(h:fn.results= #[.cell p 28,.tmp q]){a:Act}{R:Ending→World→Prop}(w1:World)(g:Nat){x:Ex}{vk vs c:Value}(hk:w1.heap[g]? =some (boxEx x vk vs))
 (hp:a.tmps.getD p undef= .pointer (some ⟨g,0,none⟩)) (hq:a.tmps.getD q undef=c) (hd:a.defers=[]) (hR:R (.returned (.tuple #[exV x vk vs,c])) w1):bodyPost Tryz.prog fn R .ret a w1:=by
 have hp':a.tmps[p]?.getD undef= .pointer (some ⟨g,0,none⟩):=by simpa using hp
 have hq':a.tmps[q]?.getD undef=c:=by simpa using hq
 obtain⟨⟨a0,a1,a2,a3,a4,a5,a6⟩,_⟩:=boxEx_blk hk
 unfold exV at hR
 exact bodyPost_ret (by simp[results,h,hp',hq',go_sem,a0,a1,a2,a3,a4,a5,a6]) hd hR
set_option maxRecDepth 100000 in
set_option maxHeartbeats 8000000 in
theorem parse_any (l:List UInt8)(w:World)(hl:l.length≤140737488351232)(hG:Gl w):
 Calls Tryz.prog 10 #[.string (bs l)] w (ParP w (parseR l)):=by
 have hx0:(w.alloc (boxEx ex0 (.slice none 0 0) (.slice none 0 0))).heap[w.heap.size]? =some (boxEx ex0 (.slice none 0 0) (.slice none 0 0)):=World.alloc_heap_new w _
 have hb0:Below w.heap.size w (w.alloc (boxEx ex0 (.slice none 0 0) (.slice none 0 0))):=below_box _
 have hX:=lex_any l (w.alloc (boxEx ex0 (.slice none 0 0) (.slice none 0 0))) hl (hG.below hb0)
 have HX0:=Lib.hid hx0
 have HB0:=Lib.hid hb0
 have HL:=Lib.hid hX
 have hlen:=fun ws (h:lexL l= .inr ws)=>lexL_len h
 have herr:=fun y (h:lexL l= .inl y)=>lexL_errs h
 unfold parseR
 clear hx0 hb0 hX hG hl
 generalize bs l=S at *
 cases h1:lexL l with
 |inl y=>
  rw[h1]at HL
  have hy:=herr y h1
  have k0:((y:Int) != 0)=true:=by rw[bne_iff_ne];omega
  clear h1 hlen herr hy
  go_enter Tryz.func10,Tryz.ntmps10
  go_wp2_with (first
   |(go_at_call 26
     refine HL.out.mono ?_
     intro e w1 hz
     obtain⟨v,x,rfl,hb1,rfl,rfl⟩:=words_out hz
     have HB1:=Lib.hid (HB0.out.trans (hb1.mono (by simp)))
     have HX1:=Lib.hid ((hb1.block w.heap.size (by simp)).trans HX0.out)
     obtain⟨_,gf⟩:=boxEx_blk ((hb1.block w.heap.size (by simp)).trans HX0.out)
     have ga:=(Array.getElem?_eq_some_iff.1 ((hb1.block w.heap.size (by simp)).trans HX0.out)).1
     clear hz hb1 HL))
  have hE:(setEx w1 w.heap.size ex0 (.slice none 0 0) (.slice none 0 0)).heap[w.heap.size]? =_:=setEx_at HX1.out
  have fin:=fun aa=>@endEx2 _ _ _ Tryz.results10 aa (ParP w (.inl y)) (setEx w1 w.heap.size ex0 (.slice none 0 0) (.slice none 0 0)) w.heap.size ex0 (.slice none 0 0) (.slice none 0 0) (.int .i64 (y:Int)) hE
  exact fin _ rfl rfl rfl ⟨setEx_below HB1.out (Nat.le_refl _),rfl⟩
 |inr ws=>
  rw[h1]at HL
  have hwl:=hlen ws h1
  clear h1 hlen herr
  have hd:=fun(W:World) (o:Option Addr) (j:Nat) (ho:OwnsWd (w.alloc (boxEx ex0 (.slice none 0 0) (.slice none 0 0))).heap.size W (.slice o ws.length j) ws)=>deep_any _ (.slice o ws.length j) ws W ho (by omega)
  dsimp only
  cases h2:deepL ws with
  |true=>
   rw[h2]at hd
   have HD:=Lib.hid hd
   clear h2 hd
   simp only[if_true]
   go_enter Tryz.func10,Tryz.ntmps10
   go_wp2_with (first
    |(go_at_call 26
      refine HL.out.mono ?_
      intro e w1 hz
      obtain⟨v,x,rfl,hb1,rfl,ho⟩:=words_out hz
      obtain⟨o,j,rfl⟩:=ho.form
      have HB1:=Lib.hid (HB0.out.trans (hb1.mono (by simp)))
      have HX1:=Lib.hid ((hb1.block w.heap.size (by simp)).trans HX0.out)
      have HO1:=Lib.hid ho
      obtain⟨_,gf⟩:=boxEx_blk ((hb1.block w.heap.size (by simp)).trans HX0.out)
      have ga:=(Array.getElem?_eq_some_iff.1 ((hb1.block w.heap.size (by simp)).trans HX0.out)).1
      clear hz hb1 ho HL)
    |(go_at_call 27
      refine(HD.out _ _ _ HO1.out).mono ?_
      rintro e w2 ⟨rfl,hb2⟩
      have HB2:=Lib.hid (HB1.out.trans (hb2.mono HB1.out.size))
      have HX2:=Lib.hid ((hb2.block _ ga).trans HX1.out)
      have HO2:=Lib.hid (HO1.out.below hb2)
      obtain⟨_,gf2⟩:=boxEx_blk ((hb2.block _ ga).trans HX1.out)
      have ga2:=(Array.getElem?_eq_some_iff.1 ((hb2.block _ ga).trans HX1.out)).1
      clear hb2 HD))
   have hE:(setEx w2 w.heap.size ex0 (.slice none 0 0) (.slice none 0 0)).heap[w.heap.size]? =_:=setEx_at HX2.out
   have fin:=fun aa=>@endEx2 _ _ _ Tryz.results10 aa (ParP w (.inl 34)) (setEx w2 w.heap.size ex0 (.slice none 0 0) (.slice none 0 0)) w.heap.size ex0 (.slice none 0 0) (.slice none 0 0) (.int .i64 34) hE
   exact fin _ rfl rfl rfl ⟨setEx_below HB2.out (Nat.le_refl _),rfl⟩
  |false=>
   rw[h2]at hd
   have HD:=Lib.hid hd
   clear h2 hd
   simp only[Bool.false_eq_true,if_false]
   have hw:=fun(W:World) (o:Option Addr) (j:Nat) (B:Nat) (ho:OwnsWd B W (.slice o ws.length j) ws)=>whole_any W.heap.size ws (W.alloc (.cells #[.slice o ws.length j] 54)) (lf_of ho rfl) (by omega)
   cases h3:wholeL ws with
   |none=>
    rw[h3]at hw
    have HW:=Lib.hid hw
    unfold WhP exV at HW
    dsimp only at HW ⊢
    clear h3 hw
    go_enter Tryz.func10,Tryz.ntmps10
    go_wp2_with (first
     |(go_at_call 26
       refine HL.out.mono ?_
       intro e w1 hz
       obtain⟨v,x,rfl,hb1,rfl,ho⟩:=words_out hz
       obtain⟨o,j,rfl⟩:=ho.form
       have HB1:=Lib.hid (HB0.out.trans (hb1.mono (by simp)))
       have HX1:=Lib.hid ((hb1.block w.heap.size (by simp)).trans HX0.out)
       have HO1:=Lib.hid ho
       obtain⟨_,gf⟩:=boxEx_blk ((hb1.block w.heap.size (by simp)).trans HX0.out)
       have ga:=(Array.getElem?_eq_some_iff.1 ((hb1.block w.heap.size (by simp)).trans HX0.out)).1
       clear hz hb1 ho HL)
     |(go_at_call 27
       refine(HD.out _ _ _ HO1.out).mono ?_
       rintro e w2 ⟨rfl,hb2⟩
       have HB2:=Lib.hid (HB1.out.trans (hb2.mono HB1.out.size))
       have HX2:=Lib.hid ((hb2.block _ ga).trans HX1.out)
       have HO2:=Lib.hid (HO1.out.below hb2)
       obtain⟨_,gf2⟩:=boxEx_blk ((hb2.block _ ga).trans HX1.out)
       have ga2:=(Array.getElem?_eq_some_iff.1 ((hb2.block _ ga).trans HX1.out)).1
       clear hb2 HD)
     |(go_at_call 28
       refine(HW.out _ _ _ _ HO2.out).mono ?_
       rintro e w3 ⟨rfl,hb3⟩
       have hb4:=(below_box (w:=w2) (.cells #[.slice o ws.length j] 54)).trans hb3.1
       have HB3:=Lib.hid (HB2.out.trans (hb4.mono HB2.out.size))
       have HX3:=Lib.hid ((hb4.block _ ga2).trans HX2.out)
       obtain⟨_,gf3⟩:=boxEx_blk ((hb4.block _ ga2).trans HX2.out)
       clear hb3 hb4 HW))
    have hE:(setEx w3 w.heap.size ex0 (.slice none 0 0) (.slice none 0 0)).heap[w.heap.size]? =_:=setEx_at HX3.out
    have fin:=fun aa=>@endEx2 _ _ _ Tryz.results10 aa (ParP w (.inl 31)) (setEx w3 w.heap.size ex0 (.slice none 0 0) (.slice none 0 0)) w.heap.size ex0 (.slice none 0 0) (.slice none 0 0) (.int .i64 31) hE
    exact fin _ rfl rfl rfl ⟨setEx_below HB3.out (Nat.le_refl _),rfl⟩
   |some x=>
    rw[h3]at hw
    have HW:=Lib.hid hw
    unfold WhP exV at HW
    dsimp only at HW ⊢
    clear h3 hw
    go_enter Tryz.func10,Tryz.ntmps10
    go_wp2_with (first
     |(go_at_call 26
       refine HL.out.mono ?_
       intro e w1 hz
       obtain⟨v,x,rfl,hb1,rfl,ho⟩:=words_out hz
       obtain⟨o,j,rfl⟩:=ho.form
       have HB1:=Lib.hid (HB0.out.trans (hb1.mono (by simp)))
       have HX1:=Lib.hid ((hb1.block w.heap.size (by simp)).trans HX0.out)
       have HO1:=Lib.hid ho
       obtain⟨_,gf⟩:=boxEx_blk ((hb1.block w.heap.size (by simp)).trans HX0.out)
       have ga:=(Array.getElem?_eq_some_iff.1 ((hb1.block w.heap.size (by simp)).trans HX0.out)).1
       clear hz hb1 ho HL)
     |(go_at_call 27
       refine(HD.out _ _ _ HO1.out).mono ?_
       rintro e w2 ⟨rfl,hb2⟩
       have HB2:=Lib.hid (HB1.out.trans (hb2.mono HB1.out.size))
       have HX2:=Lib.hid ((hb2.block _ ga).trans HX1.out)
       have HO2:=Lib.hid (HO1.out.below hb2)
       obtain⟨_,gf2⟩:=boxEx_blk ((hb2.block _ ga).trans HX1.out)
       have ga2:=(Array.getElem?_eq_some_iff.1 ((hb2.block _ ga).trans HX1.out)).1
       clear hb2 HD)
     |(go_at_call 28
       refine(HW.out _ _ _ _ HO2.out).mono ?_
       rintro e w3 ⟨⟨vk,vs,rfl,q0⟩,hb3⟩
       have hb4:=(below_box (w:=w2) (.cells #[.slice o ws.length j] 54)).trans hb3.1
       have HB3:=Lib.hid (HB2.out.trans (hb4.mono HB2.out.size))
       have HX3:=Lib.hid ((hb4.block _ ga2).trans HX2.out)
       have HY3:=Lib.hid (ExOn.low (B':=w.heap.size+1) q0 (by simp;omega))
       obtain⟨⟨o1,j1,rfl,_⟩,⟨o2,j2,rfl,_⟩⟩:=ExOn.iff.1 q0
       obtain⟨_,gf3⟩:=boxEx_blk ((hb4.block _ ga2).trans HX2.out)
       clear q0 hb3 hb4 HW))
    have hE:(setEx w3 w.heap.size x (.slice o1 x.ks.length j1) (.slice o2 x.ss.length j2)).heap[w.heap.size]? =_:=setEx_at HX3.out
    have fin:=fun aa=>@endEx2 _ _ _ Tryz.results10 aa (ParP w (.inr x)) (setEx w3 w.heap.size x (.slice o1 x.ks.length j1) (.slice o2 x.ss.length j2)) w.heap.size x (.slice o1 x.ks.length j1) (.slice o2 x.ss.length j2) (.int .i64 0) hE
    exact fin _ rfl rfl rfl ⟨setEx_below HB3.out (Nat.le_refl _),⟨_,_,rfl,ExOn.move (fun k _ hF=>⟨by omega,setEx_ne (by omega)⟩) _ _ _ HY3.out⟩⟩
end Char
namespace Char
open Go.RowKit Go.Lib
open Go.Proofs.YtlmpkpjjakallaaGreatDoor.Fig (outT outV)
theorem whole_invD {ws:List Wd}{a:Ex}(h:wholeL ws=some a):exprL (ws.length+1) ws=some (a,[]):=by
 unfold wholeL at h
 cases hx:exprL (ws.length+1) ws with
 |none=>rw[hx]at h;cases h
 |some p=>
  obtain⟨x,r⟩:=p
  rw[hx]at h
  cases r with
  |nil=>cases h;rfl
  |cons y r=>cases h
theorem parse_invD {s:List UInt8}{a:Ex}(h:parseR s= .inr a):∃ws,lexL s= .inr ws∧wholeL ws=some a:=by
 unfold parseR at h
 cases hl:lexL s with
 |inl e=>rw[hl]at h;cases h
 |inr ws=>
  rw[hl]at h
  dsimp only at h
  split at h
  ·cases h
  ·cases hw:wholeL ws with
   |none=>rw[hw]at h;cases h
   |some x=>rw[hw]at h;cases h;exact⟨ws,rfl,hw⟩
theorem parse_cntD {s:List UInt8}{a:Ex}(h:parseR s= .inr a):cntE a≤240:=by
 obtain⟨ws,h1,h2⟩:=parse_invD h
 have h3:=expr_m _ _ _ _ (whole_invD h2)
 have h4:=lexL_len h1
 rw[List.length_nil]at h3
 omega
set_option maxRecDepth 100000 in
set_option maxHeartbeats 2000000 in
theorem refParse_err (l:List UInt8)(w:World)(q:Nat ⊕ Ex)(y:Nat)(hy:y≠0)(hl:∀W,Calls Tryz.prog 19 #[.string (bs l)] W (WordsPost W (.inl y)))(hq:q= .inl y):Calls Tryz.prog 11 #[.string (bs l)] w (ParP w q):=by
 have HL:=Lib.hid hl
 have HQ:=Lib.hid hq
 have y0:((y:Int) != 0)=true:=by rw[bne_iff_ne];omega
 clear hl hq hy
 go_enter Tryz.func11,Tryz.ntmps11
 go_wp2_with (first
  |(go_at_call 19
    refine(HL.out _).mono ?_
    rintro e w1 ⟨hb,rfl⟩
    have A1:=Lib.hid ((RB.new w).call hb)
    obtain⟨⟨r0,r1,r2,r3,r4,r5,r6⟩,rf,rl⟩:=A1.out.facts
    clear HL hb))
 exact endExI Tryz.results11 (x:=ex0) (vk:= .slice none 0 0) (vs:= .slice none 0 0) (setEx w1 w.heap.size ex0 (.slice none 0 0) (.slice none 0 0)) w.heap.size (setEx_at A1.out.1) rfl rfl rfl ⟨setEx_below A1.out.2 (Nat.le_refl _),by rw[HQ.out];rfl⟩
set_option maxRecDepth 100000 in
set_option maxHeartbeats 2000000 in
theorem refParse_deep (l:List UInt8)(w:World)(q:Nat ⊕ Ex)(ws:List Wd)(hl:∀W,Calls Tryz.prog 19 #[.string (bs l)] W (WordsPost W (.inr ws)))(b:Bool)(hd:∀(o:Option Addr) (j:Nat) (W:World),WSl W o j ws→Calls Tryz.prog 20 #[.slice o ws.length j] W (BoP W b))(hb:b=true)(hq:q= .inl 34):Calls Tryz.prog 11 #[.string (bs l)] w (ParP w q):=by
 subst hb
 have HL:=Lib.hid hl
 have HD:=Lib.hid hd
 have HQ:=Lib.hid hq
 clear hl hd hq
 go_enter Tryz.func11,Tryz.ntmps11
 go_wp2_with (first
  |(go_at_call 19
    refine(HL.out _).mono ?_
    rintro e w1 ⟨hb,v,rfl,hv⟩
    have A1:=Lib.hid ((RB.new w).call hb)
    obtain⟨o1,j1,hf⟩:=hv.form
    subst hf
    have HW:=Lib.hid (OwnsWd.wsl hv)
    obtain⟨⟨r0,r1,r2,r3,r4,r5,r6⟩,rf,rl⟩:=A1.out.facts
    clear HL hb hv)
  |(go_at_call 20
    refine(HD.out o1 j1 w1 HW.out).mono ?_
    rintro e w2 ⟨rfl,hb⟩
    have A2:=Lib.hid (A1.out.call hb)
    have HW2:=Lib.hid (HW.out.below hb)
    clear r0 r1 r2 r3 r4 r5 r6 rf rl
    obtain⟨⟨r0,r1,r2,r3,r4,r5,r6⟩,rf,rl⟩:=A2.out.facts
    clear HD hb))
 exact endExI Tryz.results11 (x:=ex0) (vk:= .slice none 0 0) (vs:= .slice none 0 0) (setEx w2 w.heap.size ex0 (.slice none 0 0) (.slice none 0 0)) w.heap.size (setEx_at A2.out.1) rfl rfl rfl ⟨setEx_below A2.out.2 (Nat.le_refl _),by rw[HQ.out];rfl⟩
set_option maxRecDepth 100000 in
set_option maxHeartbeats 2000000 in
theorem refParse_none (l:List UInt8)(w:World)(q:Nat ⊕ Ex)(ws:List Wd)(hl:∀W,Calls Tryz.prog 19 #[.string (bs l)] W (WordsPost W (.inr ws)))(b:Bool)(hd:∀(o:Option Addr) (j:Nat) (W:World),WSl W o j ws→Calls Tryz.prog 20 #[.slice o ws.length j] W (BoP W b))(hb:b=false)(r:Option Ex)(ho:∀(o:Option Addr) (j:Nat) (W:World),WSl W o j ws→Calls Tryz.prog 29 #[.slice o ws.length j,.int .i64 0] W (OrP W r))(hr:r=none)(hq:q= .inl 31):Calls Tryz.prog 11 #[.string (bs l)] w (ParP w q):=by
 subst hb hr
 have HL:=Lib.hid hl
 have HD:=Lib.hid hd
 have HQ:=Lib.hid hq
 clear hl hd hq
 have HO:=Lib.hid ho
 clear ho
 go_enter Tryz.func11,Tryz.ntmps11
 go_wp2_with (first
  |(go_at_call 19
    refine(HL.out _).mono ?_
    rintro e w1 ⟨hb,v,rfl,hv⟩
    have A1:=Lib.hid ((RB.new w).call hb)
    obtain⟨o1,j1,hf⟩:=hv.form
    subst hf
    have HW:=Lib.hid (OwnsWd.wsl hv)
    obtain⟨⟨r0,r1,r2,r3,r4,r5,r6⟩,rf,rl⟩:=A1.out.facts
    clear HL hb hv)
  |(go_at_call 20
    refine(HD.out o1 j1 w1 HW.out).mono ?_
    rintro e w2 ⟨rfl,hb⟩
    have A2:=Lib.hid (A1.out.call hb)
    have HW2:=Lib.hid (HW.out.below hb)
    clear r0 r1 r2 r3 r4 r5 r6 rf rl
    obtain⟨⟨r0,r1,r2,r3,r4,r5,r6⟩,rf,rl⟩:=A2.out.facts
    clear HD hb)
  |(go_at_call 29
    refine(HO.out o1 j1 w2 HW2.out).mono ?_
    intro e w3 h
    obtain⟨y,o3,o4,j3,j4,rfl,ho,hb⟩:=OrP.noX h
    unfold exV
    have A3:=Lib.hid (A2.out.call hb)
    have HY:=Lib.hid (ho.low (by have :=A2.out.lt;omega:w.heap.size+1≤_))
    clear r0 r1 r2 r3 r4 r5 r6 rf rl
    obtain⟨⟨r0,r1,r2,r3,r4,r5,r6⟩,rf,rl⟩:=A3.out.facts
    clear HO h ho hb))
 have hs:=setEx_at (x:=ex0) (vk:= .slice none 0 0) (vs:= .slice none 0 0) A3.out.1
 have hb:=setEx_below (x:=ex0) (vk:= .slice none 0 0) (vs:= .slice none 0 0) A3.out.2 (Nat.le_refl _)
 exact endExI Tryz.results11 (x:=ex0) (vk:= .slice none 0 0) (vs:= .slice none 0 0) ((setEx w3 w.heap.size ex0 (.slice none 0 0) (.slice none 0 0)).alloc (boxEx y (.slice o3 y.ks.length j3) (.slice o4 y.ss.length j4))) w.heap.size (((below_box _).block _ (by rw[setEx_size];exact A3.out.lt)).trans hs) rfl rfl rfl ⟨hb.alloc (by rw[setEx_size];exact A3.out.2.size) _,by rw[HQ.out];rfl⟩
set_option maxRecDepth 100000 in
set_option maxHeartbeats 2000000 in
theorem refParse_ok (l:List UInt8)(w:World)(q:Nat ⊕ Ex)(ws:List Wd)(hl:∀W,Calls Tryz.prog 19 #[.string (bs l)] W (WordsPost W (.inr ws)))(b:Bool)(hd:∀(o:Option Addr) (j:Nat) (W:World),WSl W o j ws→Calls Tryz.prog 20 #[.slice o ws.length j] W (BoP W b))(hb:b=false)(r:Option Ex)(ho:∀(o:Option Addr) (j:Nat) (W:World),WSl W o j ws→Calls Tryz.prog 29 #[.slice o ws.length j,.int .i64 0] W (OrP W r))(y:Ex)(hr:r=some y)(hq:q= .inr y):Calls Tryz.prog 11 #[.string (bs l)] w (ParP w q):=by
 subst hb hr
 have HL:=Lib.hid hl
 have HD:=Lib.hid hd
 have HQ:=Lib.hid hq
 clear hl hd hq
 have HO:=Lib.hid ho
 clear ho
 go_enter Tryz.func11,Tryz.ntmps11
 go_wp2_with (first
  |(go_at_call 19
    refine(HL.out _).mono ?_
    rintro e w1 ⟨hb,v,rfl,hv⟩
    have A1:=Lib.hid ((RB.new w).call hb)
    obtain⟨o1,j1,hf⟩:=hv.form
    subst hf
    have HW:=Lib.hid (OwnsWd.wsl hv)
    obtain⟨⟨r0,r1,r2,r3,r4,r5,r6⟩,rf,rl⟩:=A1.out.facts
    clear HL hb hv)
  |(go_at_call 20
    refine(HD.out o1 j1 w1 HW.out).mono ?_
    rintro e w2 ⟨rfl,hb⟩
    have A2:=Lib.hid (A1.out.call hb)
    have HW2:=Lib.hid (HW.out.below hb)
    clear r0 r1 r2 r3 r4 r5 r6 rf rl
    obtain⟨⟨r0,r1,r2,r3,r4,r5,r6⟩,rf,rl⟩:=A2.out.facts
    clear HD hb)
  |(go_at_call 29
    refine(HO.out o1 j1 w2 HW2.out).mono ?_
    intro e w3 h
    obtain⟨o3,o4,j3,j4,rfl,ho,hb⟩:=OrP.yesX h
    unfold exV
    have A3:=Lib.hid (A2.out.call hb)
    have HY:=Lib.hid (ho.low (by have :=A2.out.lt;omega:w.heap.size+1≤_))
    clear r0 r1 r2 r3 r4 r5 r6 rf rl
    obtain⟨⟨r0,r1,r2,r3,r4,r5,r6⟩,rf,rl⟩:=A3.out.facts
    clear HO h ho hb))
 have hs:=setEx_at (x:=y) (vk:= .slice o3 y.ks.length j3) (vs:= .slice o4 y.ss.length j4) A3.out.1
 have hb:=setEx_below (x:=y) (vk:= .slice o3 y.ks.length j3) (vs:= .slice o4 y.ss.length j4) A3.out.2 (Nat.le_refl _)
 refine endExI Tryz.results11 (x:=y) (vk:= .slice o3 y.ks.length j3) (vs:= .slice o4 y.ss.length j4) ((setEx w3 w.heap.size y (.slice o3 y.ks.length j3) (.slice o4 y.ss.length j4)).alloc (boxEx y (.slice o3 y.ks.length j3) (.slice o4 y.ss.length j4))) w.heap.size (((below_box _).block _ (by rw[setEx_size];exact A3.out.lt)).trans hs) rfl rfl rfl ⟨hb.alloc (by rw[setEx_size];exact A3.out.2.size) _,?_⟩
 rw[HQ.out]
 exact⟨_,_,rfl,ExOn.below (ExOn.move (fun b _ hF=>⟨Nat.le_of_succ_le hF,setEx_ne (by omega)⟩) _ _ _ HY.out) (below_box _)⟩
theorem refParse13_any (l:List UInt8)(w:World)(hl:l.length≤1000):Calls Tryz.prog 11 #[.string (bs l)] w (ParP w (parseR l)):=by
 have HL:=fun W=>refLex_any l W hl
 cases hx:lexL l with
 |inl y=>
  rw[hx]at HL
  exact refParse_err l w _ y (by have :=lexL_errs hx;omega) HL (by unfold parseR;rw[hx])
 |inr ws=>
  rw[hx]at HL
  have hn:=lexL_len hx
  have HD:=fun(o:Option Addr) (j:Nat) (W:World) (h:WSl W o j ws)=>refDeep_any ws o j W h (by omega)
  have HO:=fun(o:Option Addr) (j:Nat) (W:World) (h:WSl W o j ws)=>refOr_any (ws.length+1) (by omega) ws o j W h (by omega) (by omega)
  rw[←whole_or]at HO
  cases hd:deepL ws with
  |true=>exact refParse_deep l w _ ws HL _ HD hd (by unfold parseR;rw[hx];dsimp only;rw[if_pos hd])
  |false=>
   cases hw:wholeL ws with
   |none=>exact refParse_none l w _ ws HL _ HD hd _ HO hw (by unfold parseR;rw[hx];dsimp only;rw[if_neg (by rw[hd];simp),hw])
   |some y=>exact refParse_ok l w _ ws HL _ HD hd _ HO y hw (by unfold parseR;rw[hx];dsimp only;rw[if_neg (by rw[hd];simp),hw])
end Char
end Go.Proofs.YtlmpkpjjakallaaGreatDoor
