import Derived.Test.YtlmpkpjjakallaaGreatDoorPt21
import Derived.Test.YtlmpkpjjakallaaGreatDoorPt19
import Derived.Deep.LoopGhost
import Derived.Test.YtlmpkpjjakallaaGreatDoorPt18
namespace Go.Proofs.YtlmpkpjjakallaaGreatDoor
namespace Char
open Go.RowKit Go.Lib
open Go.Proofs.YtlmpkpjjakallaaGreatDoor.Fig (outT outV)
theorem env_new (w w1:World)(l:List UInt8)(hb:Below w.heap.size w w1):Env w.heap.size w1.heap.size w (((w1.alloc (.cells #[.string (bs l)] 9)).alloc (.cells #[.bool false] 4)).alloc (fnB w1.heap.size)) l false:=by
 obtain⟨A,hA⟩:∃A,A=w1.alloc (.cells #[.string (bs l)] 9):=⟨_,rfl⟩
 have a1:A.heap[w1.heap.size]? =some (.cells #[.string (bs l)] 9 (0,0)):=by rw[hA];exact World.alloc_heap_new w1 _
 have a2:A.heap.size=w1.heap.size+1:=by rw[hA];exact World.size_alloc _ _
 have a3:Below w1.heap.size w1 A:=by rw[hA];exact below_box _
 rw[←hA]
 clear hA
 obtain⟨B,hB⟩:∃B,B=A.alloc (.cells #[.bool false] 4):=⟨_,rfl⟩
 have b1:B.heap[A.heap.size]? =some (.cells #[.bool false] 4 (0,0)):=by rw[hB];exact World.alloc_heap_new A _
 have b2:B.heap.size=A.heap.size+1:=by rw[hB];exact World.size_alloc _ _
 have b3:Below A.heap.size A B:=by rw[hB];exact below_box _
 rw[←hB]
 clear hB
 obtain⟨C,hC⟩:∃C,C=B.alloc (fnB w1.heap.size):=⟨_,rfl⟩
 have c1:C.heap[B.heap.size]? =some (fnB w1.heap.size):=by rw[hC];exact World.alloc_heap_new B _
 have c3:Below B.heap.size B C:=by rw[hC];exact below_box _
 rw[←hC]
 clear hC
 have d1:C.heap[w1.heap.size]? =some (.cells #[.string (bs l)] 9 (0,0)):=(c3.block _ (by omega)).trans ((b3.block _ (by omega)).trans a1)
 have d2:C.heap[w1.heap.size+1]? =some (.cells #[.bool false] 4 (0,0)):=(c3.block _ (by omega)).trans (by rw[←a2];exact b1)
 refine⟨hb.trans ((a3.trans ((b3.mono (by omega)).trans (c3.mono (by omega)))).mono hb.size),hb.size,?_,?_,?_,?_,?_⟩
 ·simp only[World.cell?,d1];rfl
 ·simp only[World.frozen?,d1];rfl
 ·simp only[World.cell?,d2];rfl
 ·simp only[World.frozen?,d2];rfl
 ·rw[show w1.heap.size+1+1=B.heap.size by omega];exact c1
theorem ownsWd_low {B B':Nat}{w:World}{v:Value}{xs:List Wd}(h:OwnsWd B w v xs)(hb:B'≤B):OwnsWd B' w v xs:=by
 obtain⟨h1,h2⟩:=h
 refine⟨h1,?_⟩
 rcases h2 with h0|⟨g,cap,cur,e1,e2,hg,e3⟩
 ·exact .inl h0
 ·exact .inr ⟨g,cap,cur,e1,Nat.le_trans hb e2,hg,e3⟩
theorem owns_set {L:Nat}{w:World}{v:Value}{xs:List Wd}(h:OwnsWd (L+3) w v xs)(a b:Value):OwnsWd (L+3) ((w.setCell ⟨L,0,none⟩ a).setCell ⟨L+1,0,none⟩ b) v xs:=
 h.keep fun g hg=>by
  have :=(h.blk hg).1
  rw[heap_set_ne (a:=⟨L+1,0,none⟩) (by show g≠L+1;omega),heap_set_ne (a:=⟨L,0,none⟩) (by show g≠L;omega)]
theorem words_step {l:List UInt8}{e:Bool}{x:Wd}{n:Nat}{xs:List Wd}{R:Nat ⊕ List Wd}(hl:l≠[])(h:wdL l e=some (x,n))(h1:¬xs.length=120)(hr:appW xs (lexG l e xs.length)=R):appW (xs++[x]) (lexG (dropS (l.drop n)) (endW x) (xs++[x]).length)=R:=by
 rw[lexG_some hl h h1,appW_app]at hr
 rw[List.length_append]
 exact hr
theorem words_tx {l:List UInt8}{e:Bool}{x:Wd}{n:Nat}(h:wdL l e=some (x,n))(ht:txD l=true):txD (dropS (l.drop n))=true:=by
 rw[←take_app (l:=l) n]at ht
 exact tx_dropS (form_rest (wd_form h) ht)
set_option maxHeartbeats 8000000 in
theorem words_any (s:List UInt8)(w:World)(hl:s.length≤400)(ht:txD (dropS s)=true)(hG:Gl w):Calls Tryz.prog 58 #[.string (bs s)] w (WordsPost w (lexG (dropS s) false 0)):=by
 have HS:=Lib.hid (behindS_any s w)
 obtain⟨R,hR⟩:∃R,lexG (dropS s) false 0=R:=⟨_,rfl⟩
 rw[hR]
 have HR:=Lib.hid hR
 have HG:=Lib.hid hG
 have HD:=Lib.hid (Nat.le_trans (dropS_le s) hl)
 have HT:=Lib.hid ht
 clear hR hG hl ht
 generalize dropS s=l0 at *
 go_enter Tryz.func58,Tryz.ntmps58
 go_wp2
 go_step3
 go_wp2_with (first
  |(go_at_call 98
    refine HS.out.mono ?_
    rintro e w1 ⟨rfl,hb1⟩
    have HE1:=Lib.hid (env_new w w1 l0 hb1)
    clear hb1 HS))
 obtain⟨W4,hW4⟩:∃W4,W4=(((w1.alloc (.cells #[.string (bs l0)] 9)).alloc (.cells #[.bool false] 4)).alloc (fnB w1.heap.size)):=⟨_,rfl⟩
 have HE4:=HE1
 rw[←hW4]at HE4
 simp only[fnB,fnK]at hW4
 rw[←hW4]
 clear hW4 HE1
 generalize w1.heap.size=L at *
 clear w1
 go_step3
 go_wp2
 go_loopg [7] l0.length (fun g s7 wr=>∃xs l e,l.length=g∧Hid (Env w.heap.size L w wr l e∧OwnsWd (L+3) wr s7 xs∧appW xs (lexG l e xs.length)=R∧l.length≤400∧txD l=true∧xs.length≤120))
 case atStart=>exact⟨[],l0,false,rfl,Lib.hid ⟨HE4.out,OwnsWd.nil _ _,by rw[appW_nil];exact HR.out,HD.out,HT.out,Nat.zero_le _⟩⟩
 case round=>
  obtain⟨xs,l,e,hg,HQ⟩:=hrel
  have hll:=HQ.out.1.ll
  have hlf:=HQ.out.1.lf
  have hel:=HQ.out.1.el
  have hef:=HQ.out.1.ef
  clear HE4 HR HD HT
  cases l with
  |nil=>
   have hne:((bs []).toList==[])=true:=by rw[bs_tl];rfl
   go_wp2_with fail
   try rw[Exit.noGoto_ret]
   go_ret2
   refine⟨HQ.out.1.hb,?_⟩
   have hr:=HQ.out.2.2.1
   rw[lexG_nil]at hr
   rw[←hr]
   exact⟨_,rfl,by rw[List.append_nil];exact ownsWd_low HQ.out.2.1 (Nat.le_trans HQ.out.1.hL (by omega))⟩
  |cons c t=>
   have hne:((bs (c::t)).toList==[])=false:=by rw[bs_tl];rfl
   obtain⟨f0,f1,f2,f3,f4,f5,f6⟩:=HQ.out.1.fns
   go_wp2_with fail
   clear hll hlf hel hef f0 f1 f2 f3 f4 f5 f6 hne
   have HRR:=Lib.hid HQ.out.2.2
   have HGK:=Lib.hid hg
   have HW0:=Lib.hid (And.intro HQ.out.1 HQ.out.2.1)
   clear HQ hg
   go_loopg [7,25] 7 (fun g s7 s25 wi=>∃k:Nat,s25= .int .i64 (k:Int)∧k+g=7∧Hid (Env w.heap.size L w wi (c::t) e∧OwnsWd (L+3) wi s7 xs∧orAt k (c::t) e=wdL (c::t) e))
   case atStart=>exact⟨0,rfl,rfl,Lib.hid ⟨HW0.out.1,HW0.out.2,rfl⟩⟩
   case round=>
    obtain⟨k,rfl,hkg,HI⟩:=hrel
    clear HW0
    by_cases hk:k<7
    ·have hlt:decide ((k:Int)<7)=true:=decide_eq_true (by omega)
     obtain⟨g2,rfl⟩:∃g2,gk=g2+1:=⟨gk-1,by omega⟩
     obtain⟨fg,cs,hfn,hent,hcall⟩:=kd_call k hk L (c::t) e wr HRR.out.2.1 (by simp) HRR.out.2.2.1 (HG.out.below HI.out.1.hb) HI.out.1.ll HI.out.1.el
     have hidx:=index_fn L k hk
     rw[hfn]at hidx
     have hst:=orAt_step k hk (c::t) e
     rw[HI.out.2.2]at hst
     obtain⟨o,j,hu⟩:=HI.out.2.1.form
     subst hu
     cases hkd:kdW k (c::t) e with
     |none=>
      rw[hkd]at hcall hst
      rw[orW_none]at hst
      have HC:=Lib.hid hcall
      have HST:=Lib.hid hst
      have HKG:=Lib.hid hkg
      have HK:=Lib.hid hk
      have hz0:(0:Int)≤(k:Int):=by omega
      have hz1:(k:Int)<7:=by omega
      clear hcall hst hkg hkd hfn hk
      go_wp2_with (first
       |(go_at_fn fg
         refine HC.out.mono ?_
         intro e' w5 hz
         obtain⟨x,n,hx,rfl,hb5⟩:=wdPost_out hz
         cases hx
         have HB5:=Lib.hid hb5
         clear hb5 hz HC))
      go_roundg g2
      case measure=>omega
      case rel=>exact⟨k+1,by have :=HK.out;go_num,by have :=HKG.out;omega,Lib.hid ⟨HI.out.1.below (HB5.out.trans ((below_box _).mono HB5.out.size)),HI.out.2.1.below (HB5.out.trans ((below_box _).mono HB5.out.size)),HST.out.symm⟩⟩
     |some q=>
      obtain⟨x,n⟩:=q
      rw[hkd]at hcall hst
      rw[orW_some]at hst
      have hnl:=wdL_len hst
      have hn0:((n:Int)==0)=false:=by rw[beq_eq_false_iff_ne];omega
      have HC:=Lib.hid hcall
      have HST:=Lib.hid hst
      have HNL:=Lib.hid hnl
      clear hcall hst hkg hkd hfn hk hnl
      by_cases h120:xs.length=120
      ·have hx120:((xs.length:Int)==120)=true:=by rw[h120];rfl
       have HXL:=Lib.hid h120
       clear h120
       go_wp2_with (first
        |(go_at_fn fg
          refine HC.out.mono ?_
          intro e' w5 hz
          obtain⟨x',n',hx,rfl,hb5⟩:=wdPost_out hz
          cases hx
          have HB5:=Lib.hid hb5
          clear hb5 hz HC))
       try rw[Exit.noGoto_ret]
       go_ret2
       refine⟨(HI.out.1.below (HB5.out.trans ((below_box _).mono HB5.out.size))).hb,?_⟩
       have hr:=HRR.out.1
       rw[HXL.out,lexG_full (by simp) HST.out]at hr
       rw[←hr]
       rfl
      ·have hx120:((xs.length:Int)==120)=false:=by rw[beq_eq_false_iff_ne];omega
       have HXL:=Lib.hid h120
       have hxl:xs.length≤1000:=by have :=HRR.out.2.2.2;omega
       have hsl:=slice_from (c::t) n HNL.out.2
       clear h120
       go_upto_region 13 with(first
        |(go_at_fn fg
          refine HC.out.mono ?_
          intro e' w5 hz
          obtain⟨x',n',hx,rfl,hb5⟩:=wdPost_out hz
          cases hx
          have HO6:=Lib.hid ((HI.out.2.1.below hb5).below (below_box (.cells #[.int .i64 (x.k:Int),.string (bs x.s),.int .i64 (outT x.n),.int .i64 (outV x.n)] 89)))
          have HE6:=Lib.hid ((HI.out.1.below hb5).below (below_box (.cells #[.int .i64 (x.k:Int),.string (bs x.s),.int .i64 (outT x.n),.int .i64 (outV x.n)] 89)))
          have hkx:(w5.alloc (.cells #[.int .i64 (x.k:Int),.string (bs x.s),.int .i64 (outT x.n),.int .i64 (outV x.n)] 89)).heap[w5.heap.size]? =some (wdB x):=World.alloc_heap_new w5 _
          have HKX:=Lib.hid hkx
          have HB5:=Lib.hid hb5
          have hs5:=World.size_alloc w5 (.cells #[.int .i64 (x.k:Int),.string (bs x.s),.int .i64 (outT x.n),.int .i64 (outV x.n)] 89)
          obtain⟨⟨x0,x1,x2,x3⟩,_⟩:=wd_blk hkx
          have HS5:=Lib.hid hs5
          clear hb5 hz HC hkx hs5)
        |(at_builtin
          refine wpList_pushWd rfl (.tmp 38) (.tmp 40) rfl x HO6.out rfl (by simp[Act.eval]) (HE6.out.lt) (by omega) ?_
          intro u7' w7 q1 q2 q3 q4
          have hdr:Below w7.heap.size w7 w7.drew:=(Below.refl _ _).drew
          have HE7:=Lib.hid ((HE6.out.low q2).below hdr)
          have HO7:=Lib.hid (q1.below hdr)
          have hkx:w7.drew.heap[w5.heap.size]? =some (wdB x):=(q3 _ (by have :=HS5.out;omega) (fun h=>by have :=(HI.out.2.1.below HB5.out).blk h.symm;omega)).trans HKX.out
          have HKX:=Lib.hid hkx
          have HLX:=Lib.hid (Array.getElem?_eq_some_iff.1 hkx).1
          clear x0 x1 x2 x3
          obtain⟨⟨x0,x1,x2,x3⟩,_⟩:=wd_blk hkx
          have l0:=HE7.out.ll
          clear hdr hkx q1 q2 q3 q4))
       have hs7:w7.drew.heap.size=w7.heap.size:=rfl
       have HS7:=Lib.hid hs7
       clear hs7
       go_region_with (first
        |(go_at_call 98
          refine(behindS_any ((c::t).drop n) _).mono ?_
          rintro e' w8 ⟨rfl,hb8⟩
          have HE8:=Lib.hid (HE7.out.below hb8)
          have HO8:=Lib.hid (HO7.out.below hb8)
          have hkx:=(hb8.block _ HLX.out).trans HKX.out
          obtain⟨⟨z0,z1,z2,z3⟩,_⟩:=wd_blk hkx
          clear hb8 hkx)
        |(go_at_call 114
          refine(ends_any x _).mono ?_
          rintro e' w9 ⟨rfl,hb9⟩
          have HE9:=Lib.hid (HE8.out.below hb9)
          have HO9:=Lib.hid (HO8.out.below hb9)
          have s0:=HE9.out.ll
          have s1:=HE9.out.lf
          have s2:=HE9.out.el
          have s3:=HE9.out.ef
          clear hb9))
       all_goals
        go_wp2_with fail
        go_roundg (dropS ((c::t).drop n)).length
        case measure=>
         have h1:=dropS_le ((c::t).drop n)
         have h2:=HNL.out
         have h3:=HGK.out
         rw[List.length_drop]at h1
         omega
        case rel=>exact⟨xs++[x],dropS ((c::t).drop n),endW x,rfl,Lib.hid ⟨HE9.out.set _ _,owns_set HO9.out _ _,words_step (by simp) HST.out HXL.out HRR.out.1,Nat.le_trans (dropS_le _) (by rw[List.length_drop];have :=HRR.out.2.1;omega),words_tx HST.out HRR.out.2.2.1,by rw[List.length_append];have :=HRR.out.2.2.2;have :=HXL.out;simp;omega⟩⟩
    ·have hlt:decide ((k:Int)<7)=false:=decide_eq_false (by omega)
     obtain rfl:k=7:=by omega
     clear hkg hk
     go_wp2_with fail
     try rw[Exit.noGoto_ret]
     go_ret2
     refine⟨HI.out.1.hb,?_⟩
     have hr:=HRR.out.1
     have hw:wdL (c::t) e=none:=HI.out.2.2.symm
     rw[lexG_none _ (by simp) hw]at hr
     rw[←hr]
     rfl
end Char
namespace Char
open Go.RowKit Go.Lib
def WordsAt (w:World)(R:Nat ⊕ List Wd)(v:Value)(x:Int)(w':World):Prop:=Below w.heap.size w w'∧match R with
 | .inl y=>v= .slice none 0 0∧x=(y:Int)
 | .inr ws=>x=0∧OwnsWd w.heap.size w' v ws
theorem words_out {w:World}{R:Nat ⊕ List Wd}{e:Ending}{w':World}(h:WordsPost w R e w'):∃v x,e= .returned (.tuple #[v,.int .i64 x])∧WordsAt w R v x w':=by
 obtain⟨h1,h2⟩:=h
 cases R with
 |inl y=>exact⟨_,_,h2,h1,rfl,rfl⟩
 |inr ws=>obtain⟨v,h3,h4⟩:=h2;exact⟨v,_,h3,h1,rfl,h4⟩
theorem words_in {w w1 w2:World}{R:Nat ⊕ List Wd}{v:Value}{x:Int}(hb:Below w.heap.size w w1)(h:WordsAt w1 R v x w2):WordsPost w R (.returned (.tuple #[v,.int .i64 x])) w2:=by
 obtain⟨h1,h2⟩:=h
 refine⟨hb.trans (h1.mono hb.size),?_⟩
 cases R with
 |inl y=>obtain⟨rfl,rfl⟩:=h2;rfl
 |inr ws=>obtain⟨rfl,h4⟩:=h2;exact⟨v,rfl,ownsWd_low h4 hb.size⟩
set_option maxHeartbeats 2000000 in
theorem lex_any (s:List UInt8)(w:World)(hl:s.length≤140737488351232)(hG:Gl w):Calls Tryz.prog 26 #[.string (bs s)] w (WordsPost w (lexL s)):=by
 have hsz:=bs_size s
 have hTx:=text_any (bs s) w (by omega) hG.1
 rw[bs_list]at hTx
 have HT:=Lib.hid hTx
 have hv:lexL s=if 400<s.length then .inl 3 else if txD s=false then .inl 10 else lexG (dropS s) false 0:=rfl
 clear hTx hl
 by_cases h1:400<s.length
 ·have k1:decide ((400:Int)<(s.length:Int))=true:=decide_eq_true (by omega)
  have hr:lexL s= .inl 3:=by rw[hv,if_pos h1]
  rw[hr]
  clear hv h1 hr
  go_enter Tryz.func26,Tryz.ntmps26
  go_wp2_with fail
  go_ret2
  exact⟨Below.refl _ _,rfl⟩
 ·have k1:decide ((400:Int)<(s.length:Int))=false:=decide_eq_false (by omega)
  cases ht:txD s with
  |false=>
   have hr:lexL s= .inl 10:=by rw[hv,if_neg h1,if_pos ht]
   rw[hr]
   rw[ht]at HT
   clear hv h1 hr ht
   go_enter Tryz.func26,Tryz.ntmps26
   go_wp2_with (first
    |(go_at_call 57
      refine HT.out.mono ?_
      rintro e w1 ⟨rfl,hb1⟩
      have HB1:=Lib.hid hb1
      clear hb1 HT))
   go_ret2
   exact⟨HB1.out,rfl⟩
  |true=>
   have hr:lexL s=lexG (dropS s) false 0:=by rw[hv,if_neg h1,if_neg (by rw[ht];decide)]
   rw[hr]
   rw[ht]at HT
   have HW:=Lib.hid fun(W:World) (hb:Below w.heap.size w W)=>words_any s W (by omega) (tx_dropS ht) (hG.below hb)
   clear hv h1 hr ht
   generalize lexG (dropS s) false 0=R at *
   go_enter Tryz.func26,Tryz.ntmps26
   go_wp2_with (first
    |(go_at_call 57
      refine HT.out.mono ?_
      rintro e w1 ⟨rfl,hb1⟩
      have HB1:=Lib.hid hb1
      have HW1:=Lib.hid (HW.out w1 hb1)
      clear hb1 HT)
    |(go_at_call 58
      refine HW1.out.mono ?_
      intro e w2 hz
      obtain⟨v,x,rfl,hz2⟩:=words_out hz
      have HZ:=Lib.hid hz2
      clear hz hz2))
   go_ret2
   exact words_in HB1.out HZ.out
end Char
namespace Char
open Go.RowKit Go.Lib
theorem words_two {w w1 w2 w3:World}{R:Nat ⊕ List Wd}{v1 v2:Value}{x1 x2:Int}(h1:WordsAt w R v1 x1 w1)(h2:WordsAt w2 R v2 x2 w3)(hb:Below w1.heap.size w1 w3):x1=x2∧∃xs B1 B2,OwnsWd B1 w3 v1 xs∧OwnsWd B2 w3 v2 xs:=by
 obtain⟨_,h1⟩:=h1
 obtain⟨_,h2⟩:=h2
 cases R with
 |inl y=>
  obtain⟨rfl,rfl⟩:=h1
  obtain⟨rfl,rfl⟩:=h2
  exact⟨rfl,[],0,0,OwnsWd.nil _ _,OwnsWd.nil _ _⟩
 |inr ws=>
  obtain⟨rfl,h1⟩:=h1
  obtain⟨rfl,h2⟩:=h2
  exact⟨rfl,ws,_,_,h1.below hb,h2⟩
theorem lexG_len:∀(f:Nat) (l:List UInt8) (e:Bool) (n:Nat) (ws:List Wd),n≤120→lexN f l e n= .inr ws→n+ws.length≤120
 |0,_,_,_,_,_,h=>by cases h
 |f+1,l,e,n,ws,hn,h=>by
  unfold lexN at h
  by_cases hl:l=[]
  ·rw[if_pos hl]at h
   cases h
   exact hn
  ·rw[if_neg hl]at h
   cases hw:wdL l e with
   |none=>rw[hw]at h;cases h
   |some q=>
    obtain⟨w,k⟩:=q
    rw[hw]at h
    dsimp only at h
    by_cases h1:n=120
    ·rw[if_pos h1]at h;cases h
    ·rw[if_neg h1]at h
     cases hr:lexN f (dropS (l.drop k)) (endW w) (n+1) with
     |inl x=>rw[hr]at h;cases h
     |inr vs=>
      rw[hr]at h
      cases h
      have :=lexG_len f _ _ _ _ (by omega) hr
      rw[List.length_cons]
      omega
theorem lexL_len {s:List UInt8}{ws:List Wd}(h:lexL s= .inr ws):ws.length≤120:=by
 unfold lexL at h
 split at h
 ·cases h
 ·split at h
  ·cases h
  ·have :=lexG_len _ _ _ _ _ (Nat.zero_le _) h
   omega
theorem words_len {w w1:World}{s:List UInt8}{v:Value}{x:Int}(h:WordsAt w (lexL s) v x w1){B:Nat}{W:World}{xs:List Wd}(ho:OwnsWd B W v xs):xs.length≤120:=by
 obtain⟨_,h⟩:=h
 obtain⟨o,j,rfl⟩:=ho.form
 cases hr:lexL s with
 |inl y=>rw[hr]at h;have :=h.1;injection this with _ h2 _;omega
 |inr ws=>
  rw[hr]at h
  obtain⟨o2,j2,h3⟩:=h.2.form
  injection h3 with _ h4 _
  have :=lexL_len hr
  omega
end Char
namespace Char
open Go.Lib Go.RowKit
theorem form_s {e:Bool}{x:Nat}{w:Wd}{u:List UInt8}(h:Form e x w u):w.s.length≤u.length:=by
 cases h with
 |lit q s hq hs=>simp only[List.length_cons,List.length_append];omega
 |num u v h hz=>exact Nat.le_refl _
 |mark u h=>exact Nat.le_refl _
 |op u h=>exact Nat.le_refl _
 |star=>exact Nat.le_refl _
 |var n h=>simp only[List.length_cons];omega
 |name n h hj=>exact Nat.le_refl _
theorem lexN_words:∀(f:Nat) (l:List UInt8) (e:Bool) (n:Nat) (ws:List Wd),lexN f l e n= .inr ws→∀x∈ws,x.s.length≤l.length
 |0,_,_,_,_,h=>by cases h
 |f+1,l,e,n,ws,h=>by
  unfold lexN at h
  by_cases hl:l=[]
  ·rw[if_pos hl]at h
   cases h
   intro x hx
   cases hx
  ·rw[if_neg hl]at h
   cases hw:wdL l e with
   |none=>rw[hw]at h;cases h
   |some q=>
    obtain⟨w,k⟩:=q
    rw[hw]at h
    dsimp only at h
    by_cases h1:n=120
    ·rw[if_pos h1]at h;cases h
    ·rw[if_neg h1]at h
     cases hr:lexN f (dropS (l.drop k)) (endW w) (n+1) with
     |inl x=>rw[hr]at h;cases h
     |inr vs=>
      rw[hr]at h
      cases h
      intro x hx
      rcases List.mem_cons.1 hx with rfl|hx
      ·have h2:=form_s (wd_form hw)
       rw[List.length_take]at h2
       omega
      ·have h2:=lexN_words f _ _ _ _ hr x hx
       have h3:=dropS_le (l.drop k)
       rw[List.length_drop]at h3
       omega
theorem lexN_errs:∀(f:Nat) (l:List UInt8) (e:Bool) (n y:Nat),lexN f l e n= .inl y→y=30∨y=3
 |0,_,_,_,_,h=>by cases h;exact .inl rfl
 |f+1,l,e,n,y,h=>by
  unfold lexN at h
  by_cases hl:l=[]
  ·rw[if_pos hl]at h
   cases h
  ·rw[if_neg hl]at h
   cases hw:wdL l e with
   |none=>rw[hw]at h;cases h;exact .inl rfl
   |some q=>
    obtain⟨w,k⟩:=q
    rw[hw]at h
    dsimp only at h
    by_cases h1:n=120
    ·rw[if_pos h1]at h;cases h;exact .inr rfl
    ·rw[if_neg h1]at h
     cases hr:lexN f (dropS (l.drop k)) (endW w) (n+1) with
     |inl x=>rw[hr]at h;cases h;exact lexN_errs f _ _ _ _ hr
     |inr vs=>rw[hr]at h;cases h
theorem lexL_words {s:List UInt8}{ws:List Wd}(h:lexL s= .inr ws):∀x∈ws,x.s.length≤400:=by
 unfold lexL at h
 split at h
 ·cases h
 ·split at h
  ·cases h
  ·intro x hx
   have h1:=lexN_words _ _ _ _ _ h x hx
   have h2:=dropS_le s
   omega
theorem lexL_errs {s:List UInt8}{y:Nat}(h:lexL s= .inl y):y=3∨y=10∨y=30:=by
 unfold lexL at h
 split at h
 ·cases h;exact .inl rfl
 ·split at h
  ·cases h;exact .inr (.inl rfl)
  ·rcases lexN_errs _ _ _ _ _ h with rfl|rfl
   ·exact .inr (.inr rfl)
   ·exact .inl rfl
theorem textW_len (w:Wd):(textW w).length≤w.s.length+2:=by
 unfold textW
 split
 ·simp only[List.length_cons];omega
 ·split
  ·split<;>simp only[List.length_cons,List.length_append,List.length_nil]<;>omega
  ·omega
theorem joinW_snoc:∀(xs:List Wd) (x:Wd),joinW (xs++[x])=joinW xs++(textW x++[32])
 |[],_=>rfl
 |y::ys,x=>by
  show textW y++(32::joinW (ys++[x]))=(textW y++(32::joinW ys))++(textW x++[32])
  rw[joinW_snoc ys x]
  simp
theorem joinW_len:∀(xs:List Wd) (m:Nat),(∀x∈xs,x.s.length≤m)→(joinW xs).length≤xs.length*(m+3)
 |[],_,_=>by show 0≤_;omega
 |y::ys,m,h=>by
  have h1:=joinW_len ys m fun x hx=>h x (List.mem_cons_of_mem _ hx)
  have h2:=textW_len y
  have h3:=h y List.mem_cons_self
  show(textW y++(32::joinW ys)).length≤_
  rw[List.length_append,List.length_cons,List.length_cons,Nat.succ_mul]
  omega
theorem joinW_take {ws:List Wd}{k:Nat}(hk:k<ws.length):joinW (ws.take (k+1))=joinW (ws.take k)++(textW ws[k]++[32]):=by
 rw[List.take_succ_eq_append_getElem hk,joinW_snoc]
theorem joinW_bound {ws:List Wd}(h:∀x∈ws,x.s.length≤400)(hl:ws.length≤120)(k:Nat):(joinW (ws.take k)).length≤50000:=by
 have h1:=joinW_len (ws.take k) 400 fun x hx=>h x (List.mem_of_mem_take hx)
 have h2:(ws.take k).length≤120:=by rw[List.length_take];omega
 have h3:(ws.take k).length*(400+3)≤120*(400+3):=Nat.mul_le_mul_right _ h2
 omega
end Char
namespace Char
open Go.RowKit Go.Lib
def parseR (l:List UInt8):Nat ⊕ Ex:=match lexL l with
 | .inl e=> .inl e
 | .inr ws=>if deepL ws then .inl 34 else match wholeL ws with
   |none=> .inl 31
   |some x=> .inr x
def ParP (w:World)(x:Nat ⊕ Ex)(e:Ending)(w':World):Prop:=Below w.heap.size w w'∧match x with
 | .inl y=>e= .returned (.tuple #[exV ex0 (.slice none 0 0) (.slice none 0 0),.int .i64 (y:Int)])
 | .inr x=>∃vk vs,e= .returned (.tuple #[exV x vk vs,.int .i64 0])∧ExOn w' (w.heap.size≤ ·) x vk vs
theorem lf_of {B R:Nat}{w:World}{o:Option Addr}{j:Nat}{ts:List Wd}(ho:OwnsWd B w (.slice o ts.length j) ts)(hR:R=w.heap.size):
 LfB R ts (w.alloc (.cells #[.slice o ts.length j] 54)):=by
 subst hR
 have hn:=World.alloc_heap_new w (.cells #[.slice o ts.length j] 54)
 have hc:ts.length≤j:=by
  rcases ho.2 with⟨h1,h2⟩|⟨g,cap,cur,e1,e2,hg,e3,_⟩
  ·omega
  ·cases e1;exact e3
 refine⟨o,j,by simp only[World.cell?,hn];rfl,by simp only[World.frozen?,hn];rfl,by simp,hc,?_⟩
 by_cases h0:ts=[]
 ·exact .inl h0
 ·have hpos:0<ts.length:=List.length_pos_iff.2 h0
  obtain⟨g,rfl,hg,_⟩:=ho.reads 0 hpos
  refine .inr ⟨g,0,rfl,hg,fun k hk i u hu=> ?_⟩
  obtain⟨g',hg',_,x0,x1,x2,x3⟩:=ho.reads k hk
  cases hg'
  have hb:(w.alloc (.cells #[.slice (some ⟨g,0,none⟩) ts.length j] 54)).heap[g]? =w.heap[g]? :=Below.heap_alloc _ _ _ hg
  refine(World.cell?_of_block (w:=w) (a:=⟨g,0+k*4+i,none⟩) hb).trans ?_
  rw[Nat.zero_add]
  match i,hu with
  |0,hu=>simp[wdC]at hu;subst hu;exact x0
  |1,hu=>simp[wdC]at hu;subst hu;exact x1
  |2,hu=>simp[wdC]at hu;subst hu;exact x2
  |3,hu=>simp[wdC]at hu;subst hu;exact x3
  |i+4,hu=>simp[wdC]at hu
theorem endEx2 {fn:Func}{p q:Tmp}(h:fn.results= #[.cell p 28,.tmp q]){a:Act}{R:Ending→World→Prop}(w1:World)(g:Nat){x:Ex}{vk vs c:Value}(hk:w1.heap[g]? =some (boxEx x vk vs))
 (hp:a.tmps.getD p undef= .pointer (some ⟨g,0,none⟩)) (hq:a.tmps.getD q undef=c) (hd:a.defers=[]) (hR:R (.returned (.tuple #[exV x vk vs,c])) w1):bodyPost Tryz.prog fn R .ret a w1:=by
 have hp':a.tmps[p]?.getD undef= .pointer (some ⟨g,0,none⟩):=by simpa using hp
 have hq':a.tmps[q]?.getD undef=c:=by simpa using hq
 obtain⟨⟨a0,a1,a2,a3,a4,a5,a6⟩,_⟩:=boxEx_blk hk
 unfold exV at hR
 exact bodyPost_ret (by simp[results,h,hp',hq',go_sem,a0,a1,a2,a3,a4,a5,a6]) hd hR
theorem whole_len {ts:List Wd}:wholeL ts=none∨∃x,wholeL ts=some x:=by cases wholeL ts<;>simp
set_option maxRecDepth 100000 in
set_option maxHeartbeats 8000000 in
theorem parse_any (l:List UInt8)(w:World)(hl:l.length≤140737488351232)(hG:Gl w):
 Calls Tryz.prog 10 #[.string (bs l)] w (ParP w (parseR l)):=by
 have hx0:(w.alloc (boxEx ex0 (.slice none 0 0) (.slice none 0 0))).heap[w.heap.size]? =some (boxEx ex0 (.slice none 0 0) (.slice none 0 0)):=World.alloc_heap_new w _
 have hb0:Below w.heap.size w (w.alloc (boxEx ex0 (.slice none 0 0) (.slice none 0 0))):=below_box _
 have hX:=lex_any l (w.alloc (boxEx ex0 (.slice none 0 0) (.slice none 0 0))) hl (hG.below hb0)
 have HX0:=Lib.hid hx0
 have HB0:=Lib.hid hb0
 have HL:=Lib.hid hX
 have hlen:=fun ws (h:lexL l= .inr ws)=>lexL_len h
 have herr:=fun y (h:lexL l= .inl y)=>lexL_errs h
 unfold parseR
 clear hx0 hb0 hX hG hl
 generalize bs l=S at *
 cases h1:lexL l with
 |inl y=>
  rw[h1]at HL
  have hy:=herr y h1
  have k0:((y:Int) != 0)=true:=by rw[bne_iff_ne];omega
  clear h1 hlen herr hy
  go_enter Tryz.func10,Tryz.ntmps10
  go_wp2_with (first
   |(go_at_call 26
     refine HL.out.mono ?_
     intro e w1 hz
     obtain⟨v,x,rfl,hb1,rfl,rfl⟩:=words_out hz
     have HB1:=Lib.hid (HB0.out.trans (hb1.mono (by simp)))
     have HX1:=Lib.hid ((hb1.block w.heap.size (by simp)).trans HX0.out)
     obtain⟨_,gf⟩:=boxEx_blk ((hb1.block w.heap.size (by simp)).trans HX0.out)
     have ga:=(Array.getElem?_eq_some_iff.1 ((hb1.block w.heap.size (by simp)).trans HX0.out)).1
     clear hz hb1 HL))
  have hE:(setEx w1 w.heap.size ex0 (.slice none 0 0) (.slice none 0 0)).heap[w.heap.size]? =_:=setEx_at HX1.out
  have fin:=fun aa=>@endEx2 _ _ _ Tryz.results10 aa (ParP w (.inl y)) (setEx w1 w.heap.size ex0 (.slice none 0 0) (.slice none 0 0)) w.heap.size ex0 (.slice none 0 0) (.slice none 0 0) (.int .i64 (y:Int)) hE
  exact fin _ rfl rfl rfl ⟨setEx_below HB1.out (Nat.le_refl _),rfl⟩
 |inr ws=>
  rw[h1]at HL
  have hwl:=hlen ws h1
  clear h1 hlen herr
  have hd:=fun(W:World) (o:Option Addr) (j:Nat) (ho:OwnsWd (w.alloc (boxEx ex0 (.slice none 0 0) (.slice none 0 0))).heap.size W (.slice o ws.length j) ws)=>deep_any _ (.slice o ws.length j) ws W ho (by omega)
  dsimp only
  cases h2:deepL ws with
  |true=>
   rw[h2]at hd
   have HD:=Lib.hid hd
   clear h2 hd
   simp only[if_true]
   go_enter Tryz.func10,Tryz.ntmps10
   go_wp2_with (first
    |(go_at_call 26
      refine HL.out.mono ?_
      intro e w1 hz
      obtain⟨v,x,rfl,hb1,rfl,ho⟩:=words_out hz
      obtain⟨o,j,rfl⟩:=ho.form
      have HB1:=Lib.hid (HB0.out.trans (hb1.mono (by simp)))
      have HX1:=Lib.hid ((hb1.block w.heap.size (by simp)).trans HX0.out)
      have HO1:=Lib.hid ho
      obtain⟨_,gf⟩:=boxEx_blk ((hb1.block w.heap.size (by simp)).trans HX0.out)
      have ga:=(Array.getElem?_eq_some_iff.1 ((hb1.block w.heap.size (by simp)).trans HX0.out)).1
      clear hz hb1 ho HL)
    |(go_at_call 27
      refine(HD.out _ _ _ HO1.out).mono ?_
      rintro e w2 ⟨rfl,hb2⟩
      have HB2:=Lib.hid (HB1.out.trans (hb2.mono HB1.out.size))
      have HX2:=Lib.hid ((hb2.block _ ga).trans HX1.out)
      have HO2:=Lib.hid (HO1.out.below hb2)
      obtain⟨_,gf2⟩:=boxEx_blk ((hb2.block _ ga).trans HX1.out)
      have ga2:=(Array.getElem?_eq_some_iff.1 ((hb2.block _ ga).trans HX1.out)).1
      clear hb2 HD))
   have hE:(setEx w2 w.heap.size ex0 (.slice none 0 0) (.slice none 0 0)).heap[w.heap.size]? =_:=setEx_at HX2.out
   have fin:=fun aa=>@endEx2 _ _ _ Tryz.results10 aa (ParP w (.inl 34)) (setEx w2 w.heap.size ex0 (.slice none 0 0) (.slice none 0 0)) w.heap.size ex0 (.slice none 0 0) (.slice none 0 0) (.int .i64 34) hE
   exact fin _ rfl rfl rfl ⟨setEx_below HB2.out (Nat.le_refl _),rfl⟩
  |false=>
   rw[h2]at hd
   have HD:=Lib.hid hd
   clear h2 hd
   simp only[Bool.false_eq_true,if_false]
   have hw:=fun(W:World) (o:Option Addr) (j:Nat) (B:Nat) (ho:OwnsWd B W (.slice o ws.length j) ws)=>whole_any W.heap.size ws (W.alloc (.cells #[.slice o ws.length j] 54)) (lf_of ho rfl) (by omega)
   cases h3:wholeL ws with
   |none=>
    rw[h3]at hw
    have HW:=Lib.hid hw
    unfold WhP exV at HW
    dsimp only at HW ⊢
    clear h3 hw
    go_enter Tryz.func10,Tryz.ntmps10
    go_wp2_with (first
     |(go_at_call 26
       refine HL.out.mono ?_
       intro e w1 hz
       obtain⟨v,x,rfl,hb1,rfl,ho⟩:=words_out hz
       obtain⟨o,j,rfl⟩:=ho.form
       have HB1:=Lib.hid (HB0.out.trans (hb1.mono (by simp)))
       have HX1:=Lib.hid ((hb1.block w.heap.size (by simp)).trans HX0.out)
       have HO1:=Lib.hid ho
       obtain⟨_,gf⟩:=boxEx_blk ((hb1.block w.heap.size (by simp)).trans HX0.out)
       have ga:=(Array.getElem?_eq_some_iff.1 ((hb1.block w.heap.size (by simp)).trans HX0.out)).1
       clear hz hb1 ho HL)
     |(go_at_call 27
       refine(HD.out _ _ _ HO1.out).mono ?_
       rintro e w2 ⟨rfl,hb2⟩
       have HB2:=Lib.hid (HB1.out.trans (hb2.mono HB1.out.size))
       have HX2:=Lib.hid ((hb2.block _ ga).trans HX1.out)
       have HO2:=Lib.hid (HO1.out.below hb2)
       obtain⟨_,gf2⟩:=boxEx_blk ((hb2.block _ ga).trans HX1.out)
       have ga2:=(Array.getElem?_eq_some_iff.1 ((hb2.block _ ga).trans HX1.out)).1
       clear hb2 HD)
     |(go_at_call 28
       refine(HW.out _ _ _ _ HO2.out).mono ?_
       rintro e w3 ⟨rfl,hb3⟩
       have hb4:=(below_box (w:=w2) (.cells #[.slice o ws.length j] 54)).trans hb3.1
       have HB3:=Lib.hid (HB2.out.trans (hb4.mono HB2.out.size))
       have HX3:=Lib.hid ((hb4.block _ ga2).trans HX2.out)
       obtain⟨_,gf3⟩:=boxEx_blk ((hb4.block _ ga2).trans HX2.out)
       clear hb3 hb4 HW))
    have hE:(setEx w3 w.heap.size ex0 (.slice none 0 0) (.slice none 0 0)).heap[w.heap.size]? =_:=setEx_at HX3.out
    have fin:=fun aa=>@endEx2 _ _ _ Tryz.results10 aa (ParP w (.inl 31)) (setEx w3 w.heap.size ex0 (.slice none 0 0) (.slice none 0 0)) w.heap.size ex0 (.slice none 0 0) (.slice none 0 0) (.int .i64 31) hE
    exact fin _ rfl rfl rfl ⟨setEx_below HB3.out (Nat.le_refl _),rfl⟩
   |some x=>
    rw[h3]at hw
    have HW:=Lib.hid hw
    unfold WhP exV at HW
    dsimp only at HW ⊢
    clear h3 hw
    go_enter Tryz.func10,Tryz.ntmps10
    go_wp2_with (first
     |(go_at_call 26
       refine HL.out.mono ?_
       intro e w1 hz
       obtain⟨v,x,rfl,hb1,rfl,ho⟩:=words_out hz
       obtain⟨o,j,rfl⟩:=ho.form
       have HB1:=Lib.hid (HB0.out.trans (hb1.mono (by simp)))
       have HX1:=Lib.hid ((hb1.block w.heap.size (by simp)).trans HX0.out)
       have HO1:=Lib.hid ho
       obtain⟨_,gf⟩:=boxEx_blk ((hb1.block w.heap.size (by simp)).trans HX0.out)
       have ga:=(Array.getElem?_eq_some_iff.1 ((hb1.block w.heap.size (by simp)).trans HX0.out)).1
       clear hz hb1 ho HL)
     |(go_at_call 27
       refine(HD.out _ _ _ HO1.out).mono ?_
       rintro e w2 ⟨rfl,hb2⟩
       have HB2:=Lib.hid (HB1.out.trans (hb2.mono HB1.out.size))
       have HX2:=Lib.hid ((hb2.block _ ga).trans HX1.out)
       have HO2:=Lib.hid (HO1.out.below hb2)
       obtain⟨_,gf2⟩:=boxEx_blk ((hb2.block _ ga).trans HX1.out)
       have ga2:=(Array.getElem?_eq_some_iff.1 ((hb2.block _ ga).trans HX1.out)).1
       clear hb2 HD)
     |(go_at_call 28
       refine(HW.out _ _ _ _ HO2.out).mono ?_
       rintro e w3 ⟨⟨vk,vs,rfl,q0⟩,hb3⟩
       have hb4:=(below_box (w:=w2) (.cells #[.slice o ws.length j] 54)).trans hb3.1
       have HB3:=Lib.hid (HB2.out.trans (hb4.mono HB2.out.size))
       have HX3:=Lib.hid ((hb4.block _ ga2).trans HX2.out)
       have HY3:=Lib.hid (ExOn.low (B':=w.heap.size+1) q0 (by simp;omega))
       obtain⟨⟨o1,j1,rfl,_⟩,⟨o2,j2,rfl,_⟩⟩:=ExOn.iff.1 q0
       obtain⟨_,gf3⟩:=boxEx_blk ((hb4.block _ ga2).trans HX2.out)
       clear q0 hb3 hb4 HW))
    have hE:(setEx w3 w.heap.size x (.slice o1 x.ks.length j1) (.slice o2 x.ss.length j2)).heap[w.heap.size]? =_:=setEx_at HX3.out
    have fin:=fun aa=>@endEx2 _ _ _ Tryz.results10 aa (ParP w (.inr x)) (setEx w3 w.heap.size x (.slice o1 x.ks.length j1) (.slice o2 x.ss.length j2)) w.heap.size x (.slice o1 x.ks.length j1) (.slice o2 x.ss.length j2) (.int .i64 0) hE
    exact fin _ rfl rfl rfl ⟨setEx_below HB3.out (Nat.le_refl _),⟨_,_,rfl,ExOn.move (fun k _ hF=>⟨by omega,setEx_ne (by omega)⟩) _ _ _ HY3.out⟩⟩
end Char
namespace Char
open Go.RowKit Go.Lib
open Go.Proofs.YtlmpkpjjakallaaGreatDoor.Fig (Nm outT outV)
theorem noRank_cl (R:List Wd):NoRank 5 (clW::R):=⟨⟨⟨⟨⟨⟨⟨⟨⟨rfl,rfl,rfl⟩,rfl⟩,rfl⟩,rfl⟩,rfl⟩,rfl⟩,rfl⟩,rfl⟩,rfl⟩
theorem noRank_nil:NoRank 5 []:=⟨⟨⟨⟨⟨⟨⟨⟨⟨rfl,rfl,rfl⟩,rfl⟩,rfl⟩,rfl⟩,rfl⟩,rfl⟩,rfl⟩,rfl⟩,rfl⟩
theorem noRank_pl (R:List Wd):NoRank 0 (plW::R):=⟨⟨⟨⟨rfl,rfl,rfl⟩,rfl⟩,rfl⟩,rfl⟩
theorem NoRank.low:∀{n:Nat} {T:List Wd},NoRank n T→NoRank 0 T
 |0,_,h=>h
 |_+1,_,h=>NoRank.low h.1
theorem preds_none {E:PE}{R:List Wd}(h:aheadL 1 [91] R=false)(acc:List Ex):predsL E (R.length+1) R acc=some (acc,R):=by
 rw[predsL,if_neg (by rw[h];decide)]
theorem onw_none {E:PE}{R:List Wd}(h:NoOn R)(acc:List St):onwL E (R.length+1) R acc=some (acc,R):=by
 rw[onwL,if_neg (by rw[h.2.1];decide),if_neg (by rw[h.2.2];decide)]
theorem joined_one {S:PE}{sg:List Sg}{ts R:List Wd}{x:Ex}(h:S ts=some (x,R))(ho:opL sg R=none):joinedL S sg ts=some (x,R):=by
 unfold joinedL
 rw[h]
 dsimp only
 rw[joinT,ho]
section
variable {E:PE} {ws:List Wd} {a:Ex}
theorem path_brack {R:List Wd}(hE:E (ws++clW::R)=some (a,clW::R))(hR:NoOn R):pathL E (opW::(ws++clW::R))=some (a,R):=by
 have h1:primL E (opW::(ws++clW::R))=some (a,R):=by
  unfold primL
  dsimp only
  rw[if_neg (by decide),if_neg (by decide),if_neg (by decide),if_neg (by decide),hE]
  rfl
 have h2:filtL E (opW::(ws++clW::R))=some (a,R):=by
  unfold filtL
  rw[h1]
  dsimp only
  rw[preds_none hR.1]
  rfl
 unfold pathL
 rw[if_pos (by rfl),h2]
 dsimp only
 rw[onw_none hR]
 rfl
theorem rank_brack {R:List Wd}(hE:E (ws++clW::R)=some (a,clW::R)):∀n,NoRank n R→rankL E n (opW::(ws++clW::R))=some (a,R)
 |0,h=>by
  rw[rankL]
  refine joined_one ?_ h.2
  rw[signL,if_neg (by show ¬(aheadL 5 [45] (opW::(ws++clW::R))=true);simp[aheadL,opW])]
  exact joined_one (path_brack hE h.1.1.1) h.1.2
 |n+1,h=>by
  rw[rankL]
  exact joined_one (rank_brack hE n h.1) h.2
end
theorem rank_up {E:PE}{ts:List Wd}{x:Ex}{n:Nat}(h:rankL E n ts=some (x,[])):rankL E (n+1) ts=some (x,[]):=by
 rw[rankL]
 exact joined_one h (op_nil _)
theorem whole_inv {ws:List Wd}{a:Ex}(h:wholeL ws=some a):exprL (ws.length+1) ws=some (a,[]):=by
 unfold wholeL at h
 cases hx:exprL (ws.length+1) ws with
 |none=>rw[hx]at h;cases h
 |some p=>
  obtain⟨x,r⟩:=p
  rw[hx]at h
  cases r with
  |nil=>cases h;rfl
  |cons y r=>cases h
theorem inner {ws:List Wd}{a:Ex}(h:wholeL ws=some a)(R:List Wd)(d:Nat)(hd:ws.length+1≤d):exprL d (ws++clW::R)=some (a,clW::R):=by
 have h2:=expr_x (clW::R) (ws.length+1) d hd ws a [] (whole_inv h) (.inr (noRank_cl R))
 exact h2
theorem whole_brack {ws:List Wd}{a:Ex}(h:wholeL ws=some a):wholeL (opW::(ws++[clW]))=some a:=by
 have h1:exprL ((opW::(ws++[clW])).length+1) (opW::(ws++[clW]))=some (a,[]):=by
  rw[exprL]
  exact rank_brack (inner h [] _ (by simp)) 5 noRank_nil
 unfold wholeL
 rw[h1]
theorem whole_sum {ws vs:List Wd}{a b:Ex}(h:wholeL ws=some a)(k:wholeL vs=some b):wholeL (opW::(ws++clW::plW::opW::(vs++[clW])))=some (.mk 9 [] 0 0 false [a,b] []):=by
 have h1:exprL ((opW::(ws++clW::plW::opW::(vs++[clW]))).length+1) (opW::(ws++clW::plW::opW::(vs++[clW])))=some (.mk 9 [] 0 0 false [a,b] [],[]):=by
  rw[exprL]
  refine rank_up (rank_up (rank_up (rank_up ?_)))
  rw[rankL]
  unfold joinedL
  rw[rank_brack (inner h _ _ (by simp)) 0 (noRank_pl _)]
  dsimp only
  have ho:opL (sgs (4-0)) (plW::opW::(vs++[clW]))=some (9,opW::(vs++[clW])):=rfl
  rw[joinT,ho]
  dsimp only
  rw[rank_brack (inner k [] _ (by simp;omega)) 0 noRank_nil.low]
  dsimp only
  cases hq:(plW::opW::(vs++[clW])).length with
  |zero=>cases hq
  |succ f=>rw[joinT,op_nil]
 unfold wholeL
 rw[h1]
theorem parse_inv {s:List UInt8}{a:Ex}(h:parseR s= .inr a):∃ws,lexL s= .inr ws∧wholeL ws=some a:=by
 unfold parseR at h
 cases hl:lexL s with
 |inl e=>rw[hl]at h;cases h
 |inr ws=>
  rw[hl]at h
  dsimp only at h
  split at h
  ·cases h
  ·cases hw:wholeL ws with
   |none=>rw[hw]at h;cases h
   |some x=>rw[hw]at h;cases h;exact⟨ws,rfl,hw⟩
theorem parse_cnt {s:List UInt8}{a:Ex}(h:parseR s= .inr a):cntE a≤240:=by
 obtain⟨ws,h1,h2⟩:=parse_inv h
 have h3:=expr_m _ _ _ _ (whole_inv h2)
 have h4:=lexL_len h1
 rw[List.length_nil]at h3
 omega
def ParIs (r:Nat ⊕ Ex)(x:Ex):Prop:=r= .inl 3∨r= .inl 34∨r= .inr x
theorem parIs_of {s:List UInt8}{ws:List Wd}{x:Ex}(h:LexIs (lexL s) ws)(hw:wholeL ws=some x):ParIs (parseR s) x:=by
 unfold parseR
 rcases h with h|h
 ·rw[h];exact .inl rfl
 ·rw[h]
  dsimp only
  by_cases hd:deepL ws=true
  ·rw[if_pos hd];exact .inr (.inl rfl)
  ·rw[if_neg hd,hw];exact .inr (.inr rfl)
theorem parse_brack {s:List UInt8}{a:Ex}(h:parseR s= .inr a)(hl:s.length≤190):ParIs (parseR (40::(s++[41]))) a:=by
 obtain⟨ws,h1,h2⟩:=parse_inv h
 exact parIs_of (lex_brack h1 hl) (whole_brack h2)
theorem parse_sum {s t:List UInt8}{a b:Ex}(h:parseR s= .inr a)(hl:s.length≤190)(k:parseR t= .inr b)(kl:t.length≤190):ParIs (parseR (40::(s++41::32::43::32::40::(t++[41])))) (.mk 9 [] 0 0 false [a,b] []):=by
 obtain⟨ws,h1,h2⟩:=parse_inv h
 obtain⟨vs,k1,k2⟩:=parse_inv k
 exact parIs_of (lex_sum h1 hl k1 kl) (whole_sum h2 k2)
end Char
end Go.Proofs.YtlmpkpjjakallaaGreatDoor
