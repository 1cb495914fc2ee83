import Derived.Test.YtlmpkpjjakallaaGreatDoorPk33
import Derived.Test.YtlmpkpjjakallaaGreatDoorPk31
namespace Go.Proofs.YtlmpkpjjakallaaGreatDoor
namespace Char
open Go.RowKit Go.Lib
open Go.Proofs.YtlmpkpjjakallaaGreatDoor.Fig (outT outV litL litX decV digB refLit_any)
def OneP (w:World)(p:Nat)(o:Option (Wd×Nat))(e:Ending)(w':World):Prop:=∃x m,RetW w x m e w'∧match o with
 |some (y,n)=>x=y∧m=((p+n:Nat):Int)
 |none=>m=0
theorem oneP_none {w:World}{p:Nat}{x:Wd}{e:Ending}{w':World}(h:RetW w x 0 e w'):OneP w p none e w':=⟨_,_,h,rfl⟩
theorem oneP_some {w:World}{p n:Nat}{x:Wd}{m:Int}{e:Ending}{w':World}(h:RetW w x m e w')(hm:m=((p+n:Nat):Int)):OneP w p (some (x,n)) e w':=⟨_,_,h,rfl,hm⟩
theorem oneX_quote (l:List UInt8)(p:Nat)(v:Value)(w:World)(e0:Bool)(c:UInt8)(t:List UInt8)(hl:l.length≤450)(hp:p<l.length)(hd:l.drop p=c::t)(hd1:l.drop (p+1)=t)(hlt':p<(bs l).size)(hg:((bs l)[p]'hlt').toNat=c.toNat)(hc:c=34∨c=39):
 Calls Tryz.prog 52 #[.string (bs l),.int .i64 (p:Int),v] w (OneP w p (wdL (l.drop p) e0)):=by
 have hsz:=bs_size l
 have hn:=UInt8.toNat_lt c
 rw[hd,quote_wd t e0 hc,litW_cons,if_pos hc]
 have hs1:=slice_mid6 l p (p+1) (by omega) (by omega)
 rw[hd,show p+1-p=1 by omega,show(c::t).take 1=[c] from rfl]at hs1
 have hF:∀W:World,_:=fun(W:World)=>find_any l [c] (p+1) W (by omega) (by omega) (by simp) (by simp)
 have htl:t.length=l.length-(p+1):=by rw[←hd1,List.length_drop]
 have hi:=index_one c t
 unfold fnd at hF
 rw[hd1,hi]at hF
 by_cases hlt:(t.takeWhile (· != c)).length<t.length
 ·rw[if_pos hlt]
  rw[if_neg (show ¬(t.takeWhile (· != c)).length=t.length by omega),if_neg (show ¬((t.takeWhile (· != c)).length:Int)= -1 by omega)]at hF
  obtain⟨q,hq⟩:∃q,p+1+(t.takeWhile (· != c)).length=q:=⟨_,rfl⟩
  rw[show((p+1:Nat):Int)+((t.takeWhile (· != c)).length:Int)=(q:Int) by omega]at hF
  have hs2:=slice_mid6 l (p+1) q (by omega) (by omega)
  have htw:t.take (t.takeWhile (· != c)).length=t.takeWhile (· != c):=by
   have h:=List.takeWhile_append_dropWhile (p:=(· != c)) (l:=t)
   have h2:=List.take_left (l₁:=t.takeWhile (· != c)) (l₂:=t.dropWhile (· != c))
   rwa [h]at h2
  rw[hd1,show q-(p+1)=(t.takeWhile (· != c)).length by omega,htw]at hs2
  rcases hc with rfl|rfl
  ·exact(one_q34_yes l p 34 [34] _ q v w hsz (by omega) hlt' hg (by omega) rfl hs1 (Lib.hid hF) (by omega) (decide_eq_false (by omega)) hs2).mono fun _ _ h=>oneP_some h (by omega)
  ·exact(one_q39_yes l p 39 [39] _ q v w hsz (by omega) hlt' hg (by omega) rfl rfl hs1 (Lib.hid hF) (by omega) (decide_eq_false (by omega)) hs2).mono fun _ _ h=>oneP_some h (by omega)
 ·rw[if_neg hlt]
  have hle:=(List.takeWhile_prefix (· != c) (l:=t)).length_le
  rw[if_pos (show(t.takeWhile (· != c)).length=t.length by omega),if_pos rfl]at hF
  rcases hc with rfl|rfl
  ·exact(one_q34_no l p 34 [34] v w hsz (by omega) hlt' hg (by omega) rfl hs1 (Lib.hid hF)).mono fun _ _ h=>oneP_none h
  ·exact(one_q39_no l p 39 [39] v w hsz (by omega) hlt' hg (by omega) rfl rfl hs1 (Lib.hid hF)).mono fun _ _ h=>oneP_none h
end Char
namespace Char
open Go.RowKit Go.Lib
open Go.Proofs.YtlmpkpjjakallaaGreatDoor.Fig (outT outV litL litX decV digB refLit_any)
theorem numW_of {L u:List UInt8}{n:Nat}(hn:sizN L=n)(hu:L.take n=u):numW L=(isNum (litL u)).map fun v=>(⟨9,u,.num v⟩,n):=by unfold numW;rw[hn,hu]
theorem oneN_end (l:List UInt8)(p nb:Nat)(v:Value)(w:World)(L u:List UInt8)(n:Nat)(hsz:(bs l).size=l.length)(hl:l.length≤450)(hlt':p<(bs l).size)(hg:((bs l)[p]'hlt').toNat=nb)(hn:nb<256)
 (n34:((nb:Int)==34)=false) (n39:((nb:Int)==39)=false) (t1:Nat) (ht1:p<t1) (htl:t1=l.length) (H1:Hid (∀W:World,Calls Tryz.prog 83 #[.string (bs l),.int .i64 (p:Int)] W fun e w'=>e= .returned (.int .i64 (t1:Int))∧W=w')) (hsn:sizN L=n) (hu:L.take n=u) (hul:u.length≤450) (hT:t1=p+n)
 (hs:∀wx,(Instr.slice 9 (.string (bs l)) (some (.int .i64 (p:Int))) (some (.int .i64 (t1:Int))) none).run Tryz.prog wx= .ok (.string (bs u)) wx):
 Calls Tryz.prog 52 #[.string (bs l),.int .i64 (p:Int),v] w (OneP w p (numW L)):=by
 rw[numW_of hsn hu]
 have HL:∀W:World,_:=fun(W:World)=>refLit_any u W (by omega)
 cases hL:litL u with
 |none=>rw[hL]at HL;exact(one_nend_no l p nb u t1 _ _ v w hsz (by omega) hlt' hg hn n34 n39 H1 (decide_eq_true (by omega)) (decide_eq_true ht1) (by omega) (decide_eq_false (by omega)) (decide_eq_false (by omega)) hs (Lib.hid HL)).mono fun _ _ h=>oneP_none h
 |some y=>
  rw[hL]at HL
  cases y with
  |num V=>exact(one_nend_yes l p nb u t1 V v w hsz (by omega) hlt' hg hn n34 n39 H1 (decide_eq_true (by omega)) (decide_eq_true ht1) (by omega) (decide_eq_false (by omega)) (decide_eq_false (by omega)) hs (Lib.hid HL)).mono fun _ _ h=>oneP_some h (by omega)
  |nan=>exact(one_nend_odd l p nb u t1 1 0 v w hsz (by omega) hlt' hg hn n34 n39 H1 (decide_eq_true (by omega)) (decide_eq_true ht1) (by omega) (decide_eq_false (by omega)) (decide_eq_false (by omega)) (by decide) hs (Lib.hid HL)).mono fun _ _ h=>oneP_none h
  |over=>exact(one_nend_odd l p nb u t1 2 0 v w hsz (by omega) hlt' hg hn n34 n39 H1 (decide_eq_true (by omega)) (decide_eq_true ht1) (by omega) (decide_eq_false (by omega)) (decide_eq_false (by omega)) (by decide) hs (Lib.hid HL)).mono fun _ _ h=>oneP_none h
  |under=>exact(one_nend_odd l p nb u t1 3 0 v w hsz (by omega) hlt' hg hn n34 n39 H1 (decide_eq_true (by omega)) (decide_eq_true ht1) (by omega) (decide_eq_false (by omega)) (decide_eq_false (by omega)) (by decide) hs (Lib.hid HL)).mono fun _ _ h=>oneP_none h
theorem oneN_np (l:List UInt8)(p nb:Nat)(v:Value)(w:World)(L u:List UInt8)(n:Nat)(hsz:(bs l).size=l.length)(hl:l.length≤450)(hlt':p<(bs l).size)(hg:((bs l)[p]'hlt').toNat=nb)(hn:nb<256)
 (n34:((nb:Int)==34)=false) (n39:((nb:Int)==39)=false) (t1 n2:Nat) (ht1:p<t1) (htl:t1<l.length) (H1:Hid (∀W:World,Calls Tryz.prog 83 #[.string (bs l),.int .i64 (p:Int)] W fun e w'=>e= .returned (.int .i64 (t1:Int))∧W=w')) (hlt2:t1<(bs l).size) (hg2:((bs l)[t1]'hlt2).toNat=n2) (hn2:n2<256) (h46:((n2:Int)==46)=false) (hsn:sizN L=n) (hu:L.take n=u) (hul:u.length≤450) (hT:t1=p+n)
 (hs:∀wx,(Instr.slice 9 (.string (bs l)) (some (.int .i64 (p:Int))) (some (.int .i64 (t1:Int))) none).run Tryz.prog wx= .ok (.string (bs u)) wx):
 Calls Tryz.prog 52 #[.string (bs l),.int .i64 (p:Int),v] w (OneP w p (numW L)):=by
 rw[numW_of hsn hu]
 have HL:∀W:World,_:=fun(W:World)=>refLit_any u W (by omega)
 cases hL:litL u with
 |none=>rw[hL]at HL;exact(one_nnp_no l p nb u t1 n2 _ _ v w hsz (by omega) hlt' hg hn n34 n39 H1 (decide_eq_true (by omega)) (decide_eq_true ht1) (by omega) (decide_eq_true (by omega)) (decide_eq_true htl) hlt2 hg2 hn2 h46 hs (Lib.hid HL)).mono fun _ _ h=>oneP_none h
 |some y=>
  rw[hL]at HL
  cases y with
  |num V=>exact(one_nnp_yes l p nb u t1 n2 V v w hsz (by omega) hlt' hg hn n34 n39 H1 (decide_eq_true (by omega)) (decide_eq_true ht1) (by omega) (decide_eq_true (by omega)) (decide_eq_true htl) hlt2 hg2 hn2 h46 hs (Lib.hid HL)).mono fun _ _ h=>oneP_some h (by omega)
  |nan=>exact(one_nnp_odd l p nb u t1 n2 1 0 v w hsz (by omega) hlt' hg hn n34 n39 H1 (decide_eq_true (by omega)) (decide_eq_true ht1) (by omega) (decide_eq_true (by omega)) (decide_eq_true htl) hlt2 hg2 hn2 h46 (by decide) hs (Lib.hid HL)).mono fun _ _ h=>oneP_none h
  |over=>exact(one_nnp_odd l p nb u t1 n2 2 0 v w hsz (by omega) hlt' hg hn n34 n39 H1 (decide_eq_true (by omega)) (decide_eq_true ht1) (by omega) (decide_eq_true (by omega)) (decide_eq_true htl) hlt2 hg2 hn2 h46 (by decide) hs (Lib.hid HL)).mono fun _ _ h=>oneP_none h
  |under=>exact(one_nnp_odd l p nb u t1 n2 3 0 v w hsz (by omega) hlt' hg hn n34 n39 H1 (decide_eq_true (by omega)) (decide_eq_true ht1) (by omega) (decide_eq_true (by omega)) (decide_eq_true htl) hlt2 hg2 hn2 h46 (by decide) hs (Lib.hid HL)).mono fun _ _ h=>oneP_none h
theorem oneN_pt (l:List UInt8)(p nb:Nat)(v:Value)(w:World)(L u:List UInt8)(n:Nat)(hsz:(bs l).size=l.length)(hl:l.length≤450)(hlt':p<(bs l).size)(hg:((bs l)[p]'hlt').toNat=nb)(hn:nb<256)
 (n34:((nb:Int)==34)=false) (n39:((nb:Int)==39)=false) (t1 n2 t2:Nat) (ht1:p<t1) (htl:t1<l.length) (H1:Hid (∀W:World,Calls Tryz.prog 83 #[.string (bs l),.int .i64 (p:Int)] W fun e w'=>e= .returned (.int .i64 (t1:Int))∧W=w')) (hlt2:t1<(bs l).size) (hg2:((bs l)[t1]'hlt2).toNat=n2) (hn2:n2<256) (h46:((n2:Int)==46)=true) (H2:Hid (∀W:World,Calls Tryz.prog 83 #[.string (bs l),.int .i64 ((t1:Int)+1)] W fun e w'=>e= .returned (.int .i64 (t2:Int))∧W=w')) (hsn:sizN L=n) (hu:L.take n=u) (hul:u.length≤450) (hT:t2=p+n) (hTl:t2≤l.length)
 (hs:∀wx,(Instr.slice 9 (.string (bs l)) (some (.int .i64 (p:Int))) (some (.int .i64 (t2:Int))) none).run Tryz.prog wx= .ok (.string (bs u)) wx):
 Calls Tryz.prog 52 #[.string (bs l),.int .i64 (p:Int),v] w (OneP w p (numW L)):=by
 rw[numW_of hsn hu]
 have HL:∀W:World,_:=fun(W:World)=>refLit_any u W (by omega)
 cases hL:litL u with
 |none=>rw[hL]at HL;exact(one_npt_no l p nb u t1 n2 t2 _ _ v w hsz (by omega) hlt' hg hn n34 n39 H1 (decide_eq_true (by omega)) (decide_eq_true ht1) (by omega) (decide_eq_true (by omega)) (decide_eq_true htl) hlt2 hg2 hn2 h46 H2 (by omega) hs (Lib.hid HL)).mono fun _ _ h=>oneP_none h
 |some y=>
  rw[hL]at HL
  cases y with
  |num V=>exact(one_npt_yes l p nb u t1 n2 t2 V v w hsz (by omega) hlt' hg hn n34 n39 H1 (decide_eq_true (by omega)) (decide_eq_true ht1) (by omega) (decide_eq_true (by omega)) (decide_eq_true htl) hlt2 hg2 hn2 h46 H2 (by omega) hs (Lib.hid HL)).mono fun _ _ h=>oneP_some h (by omega)
  |nan=>exact(one_npt_odd l p nb u t1 n2 t2 1 0 v w hsz (by omega) hlt' hg hn n34 n39 H1 (decide_eq_true (by omega)) (decide_eq_true ht1) (by omega) (decide_eq_true (by omega)) (decide_eq_true htl) hlt2 hg2 hn2 h46 H2 (by omega) (by decide) hs (Lib.hid HL)).mono fun _ _ h=>oneP_none h
  |over=>exact(one_npt_odd l p nb u t1 n2 t2 2 0 v w hsz (by omega) hlt' hg hn n34 n39 H1 (decide_eq_true (by omega)) (decide_eq_true ht1) (by omega) (decide_eq_true (by omega)) (decide_eq_true htl) hlt2 hg2 hn2 h46 H2 (by omega) (by decide) hs (Lib.hid HL)).mono fun _ _ h=>oneP_none h
  |under=>exact(one_npt_odd l p nb u t1 n2 t2 3 0 v w hsz (by omega) hlt' hg hn n34 n39 H1 (decide_eq_true (by omega)) (decide_eq_true ht1) (by omega) (decide_eq_true (by omega)) (decide_eq_true htl) hlt2 hg2 hn2 h46 H2 (by omega) (by decide) hs (Lib.hid HL)).mono fun _ _ h=>oneP_none h
theorem oneN_dot (l:List UInt8)(p nb:Nat)(v:Value)(w:World)(L u:List UInt8)(n:Nat)(hsz:(bs l).size=l.length)(hl:l.length≤450)(hlt':p<(bs l).size)(hg:((bs l)[p]'hlt').toNat=nb)(hn:nb<256)
 (n34:((nb:Int)==34)=false) (n39:((nb:Int)==39)=false) (t1:Nat) (ht1:p+1<t1) (H1:Hid (∀W:World,Calls Tryz.prog 83 #[.string (bs l),.int .i64 (p:Int)] W fun e w'=>e= .returned (.int .i64 (p:Int))∧W=w')) (H2:Hid (∀W:World,Calls Tryz.prog 83 #[.string (bs l),.int .i64 ((p:Int)+1)] W fun e w'=>e= .returned (.int .i64 (t1:Int))∧W=w')) (h46:((nb:Int)==46)=true) (hsn:sizN L=n) (hu:L.take n=u) (hul:u.length≤450) (hT:t1=p+n) (hTl:t1≤l.length)
 (hs:∀wx,(Instr.slice 9 (.string (bs l)) (some (.int .i64 (p:Int))) (some (.int .i64 (t1:Int))) none).run Tryz.prog wx= .ok (.string (bs u)) wx):
 Calls Tryz.prog 52 #[.string (bs l),.int .i64 (p:Int),v] w (OneP w p (numW L)):=by
 rw[numW_of hsn hu]
 have HL:∀W:World,_:=fun(W:World)=>refLit_any u W (by omega)
 cases hL:litL u with
 |none=>rw[hL]at HL;exact(one_ndot_no l p nb u t1 _ _ v w hsz (by omega) hlt' hg hn n34 n39 H1 H2 h46 (decide_eq_true (by omega)) (decide_eq_true ht1) (by omega) (decide_eq_true (by omega)) (decide_eq_true (by omega)) hs (Lib.hid HL)).mono fun _ _ h=>oneP_none h
 |some y=>
  rw[hL]at HL
  cases y with
  |num V=>exact(one_ndot_yes l p nb u t1 V v w hsz (by omega) hlt' hg hn n34 n39 H1 H2 h46 (decide_eq_true (by omega)) (decide_eq_true ht1) (by omega) (decide_eq_true (by omega)) (decide_eq_true (by omega)) hs (Lib.hid HL)).mono fun _ _ h=>oneP_some h (by omega)
  |nan=>exact(one_ndot_odd l p nb u t1 1 0 v w hsz (by omega) hlt' hg hn n34 n39 H1 H2 h46 (decide_eq_true (by omega)) (decide_eq_true ht1) (by omega) (decide_eq_true (by omega)) (decide_eq_true (by omega)) (by decide) hs (Lib.hid HL)).mono fun _ _ h=>oneP_none h
  |over=>exact(one_ndot_odd l p nb u t1 2 0 v w hsz (by omega) hlt' hg hn n34 n39 H1 H2 h46 (decide_eq_true (by omega)) (decide_eq_true ht1) (by omega) (decide_eq_true (by omega)) (decide_eq_true (by omega)) (by decide) hs (Lib.hid HL)).mono fun _ _ h=>oneP_none h
  |under=>exact(one_ndot_odd l p nb u t1 3 0 v w hsz (by omega) hlt' hg hn n34 n39 H1 H2 h46 (decide_eq_true (by omega)) (decide_eq_true ht1) (by omega) (decide_eq_true (by omega)) (decide_eq_true (by omega)) (by decide) hs (Lib.hid HL)).mono fun _ _ h=>oneP_none h
end Char
namespace Char
open Go.RowKit Go.Lib
open Go.Proofs.YtlmpkpjjakallaaGreatDoor.Fig (outT outV litL litX decV digB refLit_any)
theorem byte_at (l:List UInt8)(k:Nat)(h:k<l.length):∃hq:k<(bs l).size,((bs l)[k]'hq).toNat=(l.getD k 0).toNat:=⟨by rw[bs_size];exact h,by rw[bs_get]⟩
theorem int_ne {c d:UInt8}{n:Int}(hd:(d.toNat:Int)=n)(h:c≠d):((c.toNat:Int)==n)=false:=by
 rw[beq_eq_false_iff_ne]
 intro e
 exact h (UInt8.toNat_inj.1 (by omega))
set_option maxHeartbeats 1000000 in
theorem oneX_digit (l:List UInt8)(p:Nat)(v:Value)(w:World)(e0:Bool)(c:UInt8)(t:List UInt8)(hl:l.length≤450)(hp:p<l.length)(hd:l.drop p=c::t)(hlt':p<(bs l).size)(hg:((bs l)[p]'hlt').toNat=c.toNat)(hc:digB c=true):
 Calls Tryz.prog 52 #[.string (bs l),.int .i64 (p:Int),v] w (OneP w p (wdL (l.drop p) e0)):=by
 have hsz:=bs_size l
 have hn:=UInt8.toNat_lt c
 obtain⟨m1,m2,_⟩:=dig_ne hc
 rw[hd,digit_wd t e0 hc,←hd]
 have D1:∀W:World,_:=fun(W:World)=>digits_any l p W (by omega) (by omega)
 have hdg:0<dgs (l.drop p):=by rw[hd,dgs_cons,if_pos hc];omega
 have hLl:(l.drop p).length=l.length-p:=List.length_drop
 have hdl:=dgs_le (l.drop p)
 have hsiz:sizN (l.drop p)=dgs (l.drop p)+(if ([46]:List UInt8).isPrefixOf ((l.drop p).drop (dgs (l.drop p))) then 1+dgs ((l.drop p).drop (dgs (l.drop p)+1)) else 0):=rfl
 have hs9:=siz_le (l.drop p)
 obtain⟨t1,ht1⟩:∃t1,p+dgs (l.drop p)=t1:=⟨_,rfl⟩
 have hdt:(l.drop p).drop (dgs (l.drop p))=l.drop t1:=by rw[List.drop_drop,ht1]
 have hdt2:(l.drop p).drop (dgs (l.drop p)+1)=l.drop (t1+1):=by rw[List.drop_drop,show p+(dgs (l.drop p)+1)=t1+1 by omega]
 rw[hdt,hdt2]at hsiz
 have hul:∀n,((l.drop p).take n).length≤450:=fun n=>by rw[List.length_take];omega
 rw[ht1]at D1
 by_cases hend:t1=l.length
 ·have hz:sizN (l.drop p)=dgs (l.drop p):=by rw[hsiz,hend,List.drop_length];rfl
  have hs:=slice_mid6 l p t1 (by omega) (by omega)
  rw[show t1-p=dgs (l.drop p) by omega]at hs
  exact oneN_end l p _ v w _ _ _ hsz hl hlt' hg (by omega) (int_ne rfl m1) (int_ne rfl m2) t1 (by omega) hend (Lib.hid D1) hz rfl (hul _) ht1.symm hs
 ·have hlt:t1<l.length:=by omega
  obtain⟨hlt2,hg2⟩:=byte_at l t1 hlt
  have hdc:=drop_cons l t1 hlt
  by_cases h46:l.getD t1 0=46
  ·rw[h46]at hdc hg2
   have hz:sizN (l.drop p)=dgs (l.drop p)+(1+dgs (l.drop (t1+1))):=by rw[hsiz,hdc,if_pos (show([46]:List UInt8).isPrefixOf (46::l.drop (t1+1))=true from rfl)]
   have D2:∀W:World,_:=fun(W:World)=>digits_any l (t1+1) W (by omega) (by omega)
   obtain⟨t2,ht2⟩:∃t2,t1+1+dgs (l.drop (t1+1))=t2:=⟨_,rfl⟩
   rw[ht2]at D2
   have hs:=slice_mid6 l p t2 (by omega) (by omega)
   rw[show t2-p=sizN (l.drop p) by omega]at hs
   exact oneN_pt l p _ v w _ _ _ hsz hl hlt' hg (by omega) (int_ne rfl m1) (int_ne rfl m2) t1 46 t2 (by omega) hlt (Lib.hid D1) hlt2 hg2 (by omega) rfl (Lib.hid D2) rfl rfl (hul _) (by omega) (by omega) hs
  ·have hz:sizN (l.drop p)=dgs (l.drop p):=by
    rw[hsiz,hdc,if_neg (by simp[List.isPrefixOf];exact fun h=>h46 h.symm)]
    rfl
   have hs:=slice_mid6 l p t1 (by omega) (by omega)
   rw[show t1-p=dgs (l.drop p) by omega]at hs
   exact oneN_np l p _ v w _ _ _ hsz hl hlt' hg (by omega) (int_ne rfl m1) (int_ne rfl m2) t1 _ (by omega) hlt (Lib.hid D1) hlt2 hg2 (UInt8.toNat_lt _) (int_ne rfl h46) hz rfl (hul _) ht1.symm hs
set_option maxHeartbeats 1000000 in
theorem oneX_rest (l:List UInt8)(p B:Nat)(v:Value)(xs:List Wd)(w:World)(c:UInt8)(t:List UInt8)(hl:l.length≤450)(hp:p<l.length)(hd:l.drop p=c::t)(hd1:l.drop (p+1)=t)(hlt':p<(bs l).size)(hg:((bs l)[p]'hlt').toNat=c.toNat)
 (ho:OwnsWd B w v xs) (hxl:xs.length≤1000) (hq:c≠34∧c≠39) (hdg:digB c=false) (hdot:c=46→dgs t=0):
 Calls Tryz.prog 52 #[.string (bs l),.int .i64 (p:Int),v] w (OneP w p (wdL (l.drop p) (lastE false xs))):=by
 have hsz:=bs_size l
 have hn:=UInt8.toNat_lt c
 have hnum:numW (c::t)=none:=by
  by_cases h:c=46
  ·subst h;exact dot_no t (hdot rfl)
  ·exact numW_none t hdg h
 have D1:∀W:World,_:=fun(W:World)=>digits_any l p W (by omega) (by omega)
 have hz:dgs (l.drop p)=0:=by rw[hd];exact dgs_none t hdg
 rw[hz,Nat.add_zero]at D1
 have D2:∀W:World,_:=fun(W:World)=>digits_any l (p+1) W (by omega) (by omega)
 rw[hd1]at D2
 have S:∀W:World,Below w.heap.size w W→_:=fun(W:World) (_:Below w.heap.size w W)=>sign_any l p W (by omega) (by omega)
 have hE:∀W:World,Below w.heap.size w W→_:=fun(W:World) (hb:Below w.heap.size w W)=>ends12_any B v xs W (ho.below hb) hxl
 have n34:((c.toNat:Int)==34)=false:=int_ne rfl hq.1
 have n39:((c.toNat:Int)==39)=false:=int_ne rfl hq.2
 have hM:∀W:World,Below w.heap.size w W→_:=fun(W:World) (hb:Below w.heap.size w W)=>named12_any l p B v xs W (by omega) (by omega) (ho.below hb) hxl
 rw[hd]at S hM ⊢
 generalize lastE false xs=e0 at *
 rw[rest_wd t e0 hq hnum]
 have sg:∀(k:Nat) (u:List UInt8),sgn (c::t)=(k,u)→0<k→u.length≤3→Calls Tryz.prog 52 #[.string (bs l),.int .i64 (p:Int),v] w (OneP w p (some (⟨k,u,.num 0⟩,u.length))):=by
  intro k u h hk hu
  rw[h]at S
  by_cases h46:c=46
  ·have hz2:=hdot h46
   rw[hz2,Nat.add_zero]at D2
   exact(one_signd l p c.toNat k u v w hsz (by omega) hlt' hg hn n34 n39 (Lib.hid D1) (by rw[h46];rfl) (Lib.hid D2) (Lib.hid S) (decide_eq_true (by omega)) (decide_eq_true hk) (bs_size u) hu).mono fun _ _ h=>oneP_some h (by omega)
  ·exact(one_sign l p c.toNat k u v w hsz (by omega) hlt' hg hn n34 n39 (Lib.hid D1) (int_ne rfl h46) (Lib.hid S) (decide_eq_true (by omega)) (decide_eq_true hk) (bs_size u) hu).mono fun _ _ h=>oneP_some h (by omega)
 cases hm:firstP marksL (c::t) with
 |some u=>
  have e:signW 1 marksL (c::t)=some (⟨1,u,.num 0⟩,u.length):=by unfold signW;rw[hm];rfl
  rw[e,orW_some]
  exact sg 1 u (by unfold sgn;rw[hm]) (by decide) (marksL_len u (first_mem hm).1)
 |none=>
  have e:signW 1 marksL (c::t)=none:=by unfold signW;rw[hm];rfl
  rw[e,orW_none]
  cases hop:firstP opsL (c::t) with
  |some u=>
   have e:signW 5 opsL (c::t)=some (⟨5,u,.num 0⟩,u.length):=by unfold signW;rw[hop];rfl
   rw[e,orW_some]
   exact sg 5 u (by unfold sgn;rw[hm,hop]) (by decide) (opsL_len u (first_mem hop).1)
  |none=>
   have e:signW 5 opsL (c::t)=none:=by unfold signW;rw[hop];rfl
   rw[e,orW_none]
   have h46:c≠46:=by
    intro h
    rw[h]at hm
    unfold firstP marksL at hm
    simp at hm
   have c46:=int_ne (n:=46) (d:=46) rfl h46
   have hs0:sgn (c::t)=(0,[]):=by unfold sgn;rw[hm,hop]
   rw[hs0]at S
   by_cases h42:c=42
   ·have e:signW (starK e0) [[42]] (c::t)=some (⟨starK e0,[42],.num 0⟩,1):=by rw[h42];rfl
    rw[e,orW_some]
    have c42:((c.toNat:Int)==42)=true:=by rw[h42];rfl
    cases e0 with
    |true=>exact(one_star_true l p c.toNat v w hsz (by omega) hlt' hg hn n34 n39 (Lib.hid D1) c46 (Lib.hid S) c42 (Lib.hid hE)).mono fun _ _ h=>oneP_some h (by omega)
    |false=>exact(one_star_false l p c.toNat v w hsz (by omega) hlt' hg hn n34 n39 (Lib.hid D1) c46 (Lib.hid S) c42 (Lib.hid hE)).mono fun _ _ h=>oneP_some h (by omega)
   ·have c42:=int_ne (n:=42) (d:=42) rfl h42
    have e:signW (starK e0) [[42]] (c::t)=none:=signW_none t _ fun p hp=>by
     simp only[List.mem_cons,List.not_mem_nil,or_false]at hp
     subst hp
     exact⟨_,_,rfl,fun h=>h42 h.symm⟩
    rw[e,orW_none]
    by_cases h36:c=36
    ·have c36:((c.toNat:Int)==36)=true:=by rw[h36];rfl
     have R:∀W:World,Below w.heap.size w W→_:=fun(W:World) (_:Below w.heap.size w W)=>run_any l (p+1) W (by omega) (by omega)
     rw[hd1]at R
     have hr:=run_le _ t (Nat.le_refl _)
     have htl:t.length=l.length-(p+1):=by rw[←hd1,List.length_drop]
     obtain⟨q,hq2⟩:∃q,p+1+runL t=q:=⟨_,rfl⟩
     rw[hq2]at R
     have hs:=slice_mid6 l (p+1) q (by omega) (by omega)
     rw[hd1,show q-(p+1)=runL t by omega]at hs
     have hNm:∀W:World,Below w.heap.size w W→_:=fun(W:World) (_:Below w.heap.size w W)=>refName_any (bs (t.take (runL t))) W (by rw[bs_size,List.length_take];omega)
     have hv:varW (c::t)=if nmD (bs (t.take (runL t))) then some (⟨10,t.take (runL t),.num 0⟩,1+runL t) else none:=by rw[h36];rfl
     have hnn:nameW e0 (c::t)=none:=by
      obtain⟨a,b⟩:=head_low c (by rw[h36];decide)
      exact nameW_none t e0 a b
     rw[hv,hnn]
     cases hN:nmD (bs (t.take (runL t))) with
     |true=>
      rw[hN]at hNm
      rw[if_pos rfl,orW_some]
      exact(one_var_true l p c.toNat q _ v w hsz (by omega) hlt' hg hn n34 n39 (Lib.hid D1) c46 (Lib.hid S) c42 c36 (by omega) (Lib.hid R) hs (Lib.hid hNm)).mono fun _ _ h=>oneP_some h (by omega)
     |false=>
      rw[hN]at hNm
      rw[if_neg (by decide),orW_none]
      exact(one_var_false l p c.toNat q _ v w hsz (by omega) hlt' hg hn n34 n39 (Lib.hid D1) c46 (Lib.hid S) c42 c36 (by omega) (Lib.hid R) hs (Lib.hid hNm)).mono fun _ _ h=>oneP_none h
    ·have c36:=int_ne (n:=36) (d:=36) rfl h36
     rw[varW_none t h36,orW_none]
     have R:∀W:World,Below w.heap.size w W→_:=fun(W:World) (_:Below w.heap.size w W)=>run_any l p W (by omega) (by omega)
     rw[hd]at R
     have hr:=run_le _ (c::t) (Nat.le_refl _)
     have htl:(c::t).length=l.length-p:=by rw[←hd,List.length_drop]
     have hk:∀y n,nameW e0 (c::t)=some (y,n)→n=runL (c::t):=by
      intro y n h
      unfold nameW at h
      split at h
      ·cases h;rfl
      ·cases h
     obtain⟨q,hq2⟩:∃q,p+runL (c::t)=q:=⟨_,rfl⟩
     rw[hq2]at R hM
     cases hN:nameW e0 (c::t) with
     |some y=>
      obtain⟨y,n⟩:=y
      have hn2:=hk y n hN
      rw[hN]at hM
      exact(one_name_true l p c.toNat q y v w hsz (by omega) hlt' hg hn n34 n39 (Lib.hid D1) c46 (Lib.hid S) c42 c36 (by omega) (Lib.hid R) (Lib.hid fun W hb=>(hM W hb).mono fun _ _ h=>⟨by obtain⟨⟨z,h1,h2⟩,_⟩:=h;exact⟨z,h1 y rfl,h2⟩,h.2⟩)).mono fun _ _ h=>oneP_some h (by omega)
     |none=>
      rw[hN]at hM
      exact(one_name_false l p c.toNat q v w hsz (by omega) hlt' hg hn n34 n39 (Lib.hid D1) c46 (Lib.hid S) c42 c36 (by omega) (Lib.hid R) (Lib.hid fun W hb=>(hM W hb).mono fun _ _ h=>⟨by obtain⟨⟨z,_,h2⟩,_⟩:=h;exact⟨z,h2⟩,h.2⟩)).mono fun _ _ h=>oneP_none h
end Char
namespace Char
open Go.RowKit Go.Lib
open Go.Proofs.YtlmpkpjjakallaaGreatDoor.Fig (outT outV)
theorem wdPost_out {w:World}{o:Option (Wd×Nat)}{e:Ending}{w':World}(h:WdPost w o e w'):∃x n,o.getD (wd0,0)=(x,n)∧e= .returned (.tuple #[.agg #[.int .i64 (x.k:Int),.string (bs x.s),.int .i64 (outT x.n),.int .i64 (outV x.n)],.int .i64 (n:Int)])∧Below w.heap.size w w':=by
 obtain⟨h1,h2⟩:=h
 exact⟨(o.getD (wd0,0)).1,(o.getD (wd0,0)).2,rfl,h1,h2⟩
set_option maxHeartbeats 4000000 in
theorem clos1_any (l:List UInt8)(b:Nat)(o:Option (Wd×Nat))(w:World)(hc:w.cell? ⟨b,0,none⟩=some (.string (bs l)))
 (HC:Hid (∀W:World,Below w.heap.size w W→Calls Tryz.prog 101 #[.string (bs l)] W (WdPost W o))):Calls Tryz.prog 100 #[.pointer (some ⟨b,0,none⟩)] w (WdPost w o):=by
 obtain⟨W1,hW1⟩:∃W1,W1=w.alloc (.cells #[.int .i64 0,.string ⟨#[]⟩,.int .i64 0,.int .i64 0] 89):=⟨_,rfl⟩
 have hb1:Below w.heap.size w W1:=by rw[hW1];exact below_box _
 have hk1:W1.heap[w.heap.size]? =some (wdB wd0):=by rw[hW1];exact World.alloc_heap_new w _
 have hl1:w.heap.size<W1.heap.size:=(Array.getElem?_eq_some_iff.1 hk1).1
 have hc1:W1.cell? ⟨b,0,none⟩=some (.string (bs l)):=(hb1.cell (cell_lt hc)).trans hc
 have HC1:=Lib.hid (HC.out W1 hb1)
 have HW1:=Lib.hid hW1
 have HKEY:=Lib.hid fun(w3:World) (hb3:Below W1.heap.size W1 w3)=>wd0_at ((hb3.block _ hl1).trans hk1)
 have HKB:=Lib.hid fun(w3:World) (hb3:Below W1.heap.size W1 w3)=>And.intro ((hb3.block _ hl1).trans hk1) (hb1.trans (hb3.mono hb1.size))
 clear hb1 hk1 hl1 hW1 HC hc
 go_enter Tryz.func100,Tryz.ntmps100
 go_upto_region 1 with fail
 rw[←HW1.out]
 clear HW1
 go_wp2_with (
  refine HC1.out.mono ?_
  intro e w3 hz
  obtain⟨x,n,hx,rfl,hb3⟩:=wdPost_out hz
  obtain⟨⟨d0,d1,d2,d3⟩,f0,f1,f2,f3⟩:=HKEY.out w3 hb3
  have HKB3:=Lib.hid (HKB.out w3 hb3)
  have HX:=Lib.hid hx
  clear hb3 hz hx HC1)
 exact end_word Tryz.results100 w w3 o (x:=x) HKB3.out.1 HKB3.out.2 (by rw[HX.out]) (by rw[HX.out]) rfl rfl rfl
set_option maxHeartbeats 4000000 in
theorem clos2_any (l:List UInt8)(b:Nat)(o:Option (Wd×Nat))(w:World)(hc:w.cell? ⟨b,0,none⟩=some (.string (bs l)))
 (HC:Hid (∀W:World,Below w.heap.size w W→Calls Tryz.prog 103 #[.string (bs l)] W (WdPost W o))):Calls Tryz.prog 102 #[.pointer (some ⟨b,0,none⟩)] w (WdPost w o):=by
 obtain⟨W1,hW1⟩:∃W1,W1=w.alloc (.cells #[.int .i64 0,.string ⟨#[]⟩,.int .i64 0,.int .i64 0] 89):=⟨_,rfl⟩
 have hb1:Below w.heap.size w W1:=by rw[hW1];exact below_box _
 have hk1:W1.heap[w.heap.size]? =some (wdB wd0):=by rw[hW1];exact World.alloc_heap_new w _
 have hl1:w.heap.size<W1.heap.size:=(Array.getElem?_eq_some_iff.1 hk1).1
 have hc1:W1.cell? ⟨b,0,none⟩=some (.string (bs l)):=(hb1.cell (cell_lt hc)).trans hc
 have HC1:=Lib.hid (HC.out W1 hb1)
 have HW1:=Lib.hid hW1
 have HKEY:=Lib.hid fun(w3:World) (hb3:Below W1.heap.size W1 w3)=>wd0_at ((hb3.block _ hl1).trans hk1)
 have HKB:=Lib.hid fun(w3:World) (hb3:Below W1.heap.size W1 w3)=>And.intro ((hb3.block _ hl1).trans hk1) (hb1.trans (hb3.mono hb1.size))
 clear hb1 hk1 hl1 hW1 HC hc
 go_enter Tryz.func102,Tryz.ntmps102
 go_upto_region 1 with fail
 rw[←HW1.out]
 clear HW1
 go_wp2_with (
  refine HC1.out.mono ?_
  intro e w3 hz
  obtain⟨x,n,hx,rfl,hb3⟩:=wdPost_out hz
  obtain⟨⟨d0,d1,d2,d3⟩,f0,f1,f2,f3⟩:=HKEY.out w3 hb3
  have HKB3:=Lib.hid (HKB.out w3 hb3)
  have HX:=Lib.hid hx
  clear hb3 hz hx HC1)
 exact end_word Tryz.results102 w w3 o (x:=x) HKB3.out.1 HKB3.out.2 (by rw[HX.out]) (by rw[HX.out]) rfl rfl rfl
set_option maxHeartbeats 4000000 in
theorem clos3_any (l:List UInt8)(b:Nat)(o:Option (Wd×Nat))(w:World)(hc:w.cell? ⟨b,0,none⟩=some (.string (bs l)))
 (HC:Hid (∀W:World,Below w.heap.size w W→Calls Tryz.prog 105 #[.string (bs l)] W (WdPost W o))):Calls Tryz.prog 104 #[.pointer (some ⟨b,0,none⟩)] w (WdPost w o):=by
 obtain⟨W1,hW1⟩:∃W1,W1=w.alloc (.cells #[.int .i64 0,.string ⟨#[]⟩,.int .i64 0,.int .i64 0] 89):=⟨_,rfl⟩
 have hb1:Below w.heap.size w W1:=by rw[hW1];exact below_box _
 have hk1:W1.heap[w.heap.size]? =some (wdB wd0):=by rw[hW1];exact World.alloc_heap_new w _
 have hl1:w.heap.size<W1.heap.size:=(Array.getElem?_eq_some_iff.1 hk1).1
 have hc1:W1.cell? ⟨b,0,none⟩=some (.string (bs l)):=(hb1.cell (cell_lt hc)).trans hc
 have HC1:=Lib.hid (HC.out W1 hb1)
 have HW1:=Lib.hid hW1
 have HKEY:=Lib.hid fun(w3:World) (hb3:Below W1.heap.size W1 w3)=>wd0_at ((hb3.block _ hl1).trans hk1)
 have HKB:=Lib.hid fun(w3:World) (hb3:Below W1.heap.size W1 w3)=>And.intro ((hb3.block _ hl1).trans hk1) (hb1.trans (hb3.mono hb1.size))
 clear hb1 hk1 hl1 hW1 HC hc
 go_enter Tryz.func104,Tryz.ntmps104
 go_upto_region 1 with fail
 rw[←HW1.out]
 clear HW1
 go_wp2_with (
  refine HC1.out.mono ?_
  intro e w3 hz
  obtain⟨x,n,hx,rfl,hb3⟩:=wdPost_out hz
  obtain⟨⟨d0,d1,d2,d3⟩,f0,f1,f2,f3⟩:=HKEY.out w3 hb3
  have HKB3:=Lib.hid (HKB.out w3 hb3)
  have HX:=Lib.hid hx
  clear hb3 hz hx HC1)
 exact end_word Tryz.results104 w w3 o (x:=x) HKB3.out.1 HKB3.out.2 (by rw[HX.out]) (by rw[HX.out]) rfl rfl rfl
set_option maxHeartbeats 4000000 in
theorem clos4_any (l:List UInt8)(b:Nat)(o:Option (Wd×Nat))(w:World)(hc:w.cell? ⟨b,0,none⟩=some (.string (bs l)))
 (HC:Hid (∀W:World,Below w.heap.size w W→Calls Tryz.prog 107 #[.string (bs l)] W (WdPost W o))):Calls Tryz.prog 106 #[.pointer (some ⟨b,0,none⟩)] w (WdPost w o):=by
 obtain⟨W1,hW1⟩:∃W1,W1=w.alloc (.cells #[.int .i64 0,.string ⟨#[]⟩,.int .i64 0,.int .i64 0] 89):=⟨_,rfl⟩
 have hb1:Below w.heap.size w W1:=by rw[hW1];exact below_box _
 have hk1:W1.heap[w.heap.size]? =some (wdB wd0):=by rw[hW1];exact World.alloc_heap_new w _
 have hl1:w.heap.size<W1.heap.size:=(Array.getElem?_eq_some_iff.1 hk1).1
 have hc1:W1.cell? ⟨b,0,none⟩=some (.string (bs l)):=(hb1.cell (cell_lt hc)).trans hc
 have HC1:=Lib.hid (HC.out W1 hb1)
 have HW1:=Lib.hid hW1
 have HKEY:=Lib.hid fun(w3:World) (hb3:Below W1.heap.size W1 w3)=>wd0_at ((hb3.block _ hl1).trans hk1)
 have HKB:=Lib.hid fun(w3:World) (hb3:Below W1.heap.size W1 w3)=>And.intro ((hb3.block _ hl1).trans hk1) (hb1.trans (hb3.mono hb1.size))
 clear hb1 hk1 hl1 hW1 HC hc
 go_enter Tryz.func106,Tryz.ntmps106
 go_upto_region 1 with fail
 rw[←HW1.out]
 clear HW1
 go_wp2_with (
  refine HC1.out.mono ?_
  intro e w3 hz
  obtain⟨x,n,hx,rfl,hb3⟩:=wdPost_out hz
  obtain⟨⟨d0,d1,d2,d3⟩,f0,f1,f2,f3⟩:=HKEY.out w3 hb3
  have HKB3:=Lib.hid (HKB.out w3 hb3)
  have HX:=Lib.hid hx
  clear hb3 hz hx HC1)
 exact end_word Tryz.results106 w w3 o (x:=x) HKB3.out.1 HKB3.out.2 (by rw[HX.out]) (by rw[HX.out]) rfl rfl rfl
set_option maxHeartbeats 4000000 in
theorem clos5_any (l:List UInt8)(ended:Bool)(b c:Nat)(o:Option (Wd×Nat))(w:World)(hc:w.cell? ⟨b,0,none⟩=some (.string (bs l)))(hd:w.cell? ⟨c,0,none⟩=some (.bool ended))
 (HC:Hid (∀W:World,Below w.heap.size w W→Calls Tryz.prog 109 #[.string (bs l),.bool ended] W (WdPost W o))):Calls Tryz.prog 108 #[.pointer (some ⟨b,0,none⟩),.pointer (some ⟨c,0,none⟩)] w (WdPost w o):=by
 obtain⟨W1,hW1⟩:∃W1,W1=w.alloc (.cells #[.int .i64 0,.string ⟨#[]⟩,.int .i64 0,.int .i64 0] 89):=⟨_,rfl⟩
 have hb1:Below w.heap.size w W1:=by rw[hW1];exact below_box _
 have hk1:W1.heap[w.heap.size]? =some (wdB wd0):=by rw[hW1];exact World.alloc_heap_new w _
 have hl1:w.heap.size<W1.heap.size:=(Array.getElem?_eq_some_iff.1 hk1).1
 have hc1:W1.cell? ⟨b,0,none⟩=some (.string (bs l)):=(hb1.cell (cell_lt hc)).trans hc
 have hd1:W1.cell? ⟨c,0,none⟩=some (.bool ended):=(hb1.cell (cell_lt hd)).trans hd
 have HC1:=Lib.hid (HC.out W1 hb1)
 have HW1:=Lib.hid hW1
 have HKEY:=Lib.hid fun(w3:World) (hb3:Below W1.heap.size W1 w3)=>wd0_at ((hb3.block _ hl1).trans hk1)
 have HKB:=Lib.hid fun(w3:World) (hb3:Below W1.heap.size W1 w3)=>And.intro ((hb3.block _ hl1).trans hk1) (hb1.trans (hb3.mono hb1.size))
 clear hb1 hk1 hl1 hW1 HC hc hd
 go_enter Tryz.func108,Tryz.ntmps108
 go_upto_region 1 with fail
 rw[←HW1.out]
 clear HW1
 go_wp2_with (
  refine HC1.out.mono ?_
  intro e w3 hz
  obtain⟨x,n,hx,rfl,hb3⟩:=wdPost_out hz
  obtain⟨⟨d0,d1,d2,d3⟩,f0,f1,f2,f3⟩:=HKEY.out w3 hb3
  have HKB3:=Lib.hid (HKB.out w3 hb3)
  have HX:=Lib.hid hx
  clear hb3 hz hx HC1)
 exact end_word Tryz.results108 w w3 o (x:=x) HKB3.out.1 HKB3.out.2 (by rw[HX.out]) (by rw[HX.out]) rfl rfl rfl
set_option maxHeartbeats 4000000 in
theorem clos6_any (l:List UInt8)(b:Nat)(o:Option (Wd×Nat))(w:World)(hc:w.cell? ⟨b,0,none⟩=some (.string (bs l)))
 (HC:Hid (∀W:World,Below w.heap.size w W→Calls Tryz.prog 111 #[.string (bs l)] W (WdPost W o))):Calls Tryz.prog 110 #[.pointer (some ⟨b,0,none⟩)] w (WdPost w o):=by
 obtain⟨W1,hW1⟩:∃W1,W1=w.alloc (.cells #[.int .i64 0,.string ⟨#[]⟩,.int .i64 0,.int .i64 0] 89):=⟨_,rfl⟩
 have hb1:Below w.heap.size w W1:=by rw[hW1];exact below_box _
 have hk1:W1.heap[w.heap.size]? =some (wdB wd0):=by rw[hW1];exact World.alloc_heap_new w _
 have hl1:w.heap.size<W1.heap.size:=(Array.getElem?_eq_some_iff.1 hk1).1
 have hc1:W1.cell? ⟨b,0,none⟩=some (.string (bs l)):=(hb1.cell (cell_lt hc)).trans hc
 have HC1:=Lib.hid (HC.out W1 hb1)
 have HW1:=Lib.hid hW1
 have HKEY:=Lib.hid fun(w3:World) (hb3:Below W1.heap.size W1 w3)=>wd0_at ((hb3.block _ hl1).trans hk1)
 have HKB:=Lib.hid fun(w3:World) (hb3:Below W1.heap.size W1 w3)=>And.intro ((hb3.block _ hl1).trans hk1) (hb1.trans (hb3.mono hb1.size))
 clear hb1 hk1 hl1 hW1 HC hc
 go_enter Tryz.func110,Tryz.ntmps110
 go_upto_region 1 with fail
 rw[←HW1.out]
 clear HW1
 go_wp2_with (
  refine HC1.out.mono ?_
  intro e w3 hz
  obtain⟨x,n,hx,rfl,hb3⟩:=wdPost_out hz
  obtain⟨⟨d0,d1,d2,d3⟩,f0,f1,f2,f3⟩:=HKEY.out w3 hb3
  have HKB3:=Lib.hid (HKB.out w3 hb3)
  have HX:=Lib.hid hx
  clear hb3 hz hx HC1)
 exact end_word Tryz.results110 w w3 o (x:=x) HKB3.out.1 HKB3.out.2 (by rw[HX.out]) (by rw[HX.out]) rfl rfl rfl
set_option maxHeartbeats 4000000 in
theorem clos7_any (l:List UInt8)(ended:Bool)(b c:Nat)(o:Option (Wd×Nat))(w:World)(hc:w.cell? ⟨b,0,none⟩=some (.string (bs l)))(hd:w.cell? ⟨c,0,none⟩=some (.bool ended))
 (HC:Hid (∀W:World,Below w.heap.size w W→Calls Tryz.prog 113 #[.string (bs l),.bool ended] W (WdPost W o))):Calls Tryz.prog 112 #[.pointer (some ⟨b,0,none⟩),.pointer (some ⟨c,0,none⟩)] w (WdPost w o):=by
 obtain⟨W1,hW1⟩:∃W1,W1=w.alloc (.cells #[.int .i64 0,.string ⟨#[]⟩,.int .i64 0,.int .i64 0] 89):=⟨_,rfl⟩
 have hb1:Below w.heap.size w W1:=by rw[hW1];exact below_box _
 have hk1:W1.heap[w.heap.size]? =some (wdB wd0):=by rw[hW1];exact World.alloc_heap_new w _
 have hl1:w.heap.size<W1.heap.size:=(Array.getElem?_eq_some_iff.1 hk1).1
 have hc1:W1.cell? ⟨b,0,none⟩=some (.string (bs l)):=(hb1.cell (cell_lt hc)).trans hc
 have hd1:W1.cell? ⟨c,0,none⟩=some (.bool ended):=(hb1.cell (cell_lt hd)).trans hd
 have HC1:=Lib.hid (HC.out W1 hb1)
 have HW1:=Lib.hid hW1
 have HKEY:=Lib.hid fun(w3:World) (hb3:Below W1.heap.size W1 w3)=>wd0_at ((hb3.block _ hl1).trans hk1)
 have HKB:=Lib.hid fun(w3:World) (hb3:Below W1.heap.size W1 w3)=>And.intro ((hb3.block _ hl1).trans hk1) (hb1.trans (hb3.mono hb1.size))
 clear hb1 hk1 hl1 hW1 HC hc hd
 go_enter Tryz.func112,Tryz.ntmps112
 go_upto_region 1 with fail
 rw[←HW1.out]
 clear HW1
 go_wp2_with (
  refine HC1.out.mono ?_
  intro e w3 hz
  obtain⟨x,n,hx,rfl,hb3⟩:=wdPost_out hz
  obtain⟨⟨d0,d1,d2,d3⟩,f0,f1,f2,f3⟩:=HKEY.out w3 hb3
  have HKB3:=Lib.hid (HKB.out w3 hb3)
  have HX:=Lib.hid hx
  clear hb3 hz hx HC1)
 exact end_word Tryz.results112 w w3 o (x:=x) HKB3.out.1 HKB3.out.2 (by rw[HX.out]) (by rw[HX.out]) rfl rfl rfl
end Char
namespace Char
open Go.RowKit Go.Lib
open Go.Proofs.YtlmpkpjjakallaaGreatDoor.Fig (outT outV)
def kdW:Nat→List UInt8→Bool→Option (Wd×Nat)
 |0,l,_=>litW l
 |1,l,_=>numW l
 |2,l,_=>signW 1 marksL l
 |3,l,_=>signW 5 opsL l
 |4,l,e=>signW (starK e) [[42]] l
 |5,l,_=>varW l
 |_,l,e=>nameW e l
def orAt:Nat→List UInt8→Bool→Option (Wd×Nat)
 |0,l,e=>wdL l e
 |1,l,e=>orW (numW l) (orW (signW 1 marksL l) (orW (signW 5 opsL l) (orW (signW (starK e) [[42]] l) (orW (varW l) (nameW e l)))))
 |2,l,e=>orW (signW 1 marksL l) (orW (signW 5 opsL l) (orW (signW (starK e) [[42]] l) (orW (varW l) (nameW e l))))
 |3,l,e=>orW (signW 5 opsL l) (orW (signW (starK e) [[42]] l) (orW (varW l) (nameW e l)))
 |4,l,e=>orW (signW (starK e) [[42]] l) (orW (varW l) (nameW e l))
 |5,l,e=>orW (varW l) (nameW e l)
 |6,l,e=>nameW e l
 |_,_,_=>none
theorem orAt_step (k:Nat)(hk:k<7)(l:List UInt8)(e:Bool):orAt k l e=orW (kdW k l e) (orAt (k+1) l e):=by
 match k,hk with
 |0,_=>rfl
 |1,_=>rfl
 |2,_=>rfl
 |3,_=>rfl
 |4,_=>rfl
 |5,_=>rfl
 |6,_=>show nameW e l=orW (nameW e l) none;cases nameW e l<;>rfl
def fnK (L:Nat):Nat→Value
 |0=> .func (.func 100) #[] #[.pointer (some ⟨L,0,none⟩)]
 |1=> .func (.func 102) #[] #[.pointer (some ⟨L,0,none⟩)]
 |2=> .func (.func 104) #[] #[.pointer (some ⟨L,0,none⟩)]
 |3=> .func (.func 106) #[] #[.pointer (some ⟨L,0,none⟩)]
 |4=> .func (.func 108) #[] #[.pointer (some ⟨L,0,none⟩),.pointer (some ⟨L+1,0,none⟩)]
 |5=> .func (.func 110) #[] #[.pointer (some ⟨L,0,none⟩)]
 |_=> .func (.func 112) #[] #[.pointer (some ⟨L,0,none⟩),.pointer (some ⟨L+1,0,none⟩)]
theorem kd_call (k:Nat)(hk:k<7)(L:Nat)(l:List UInt8)(e:Bool)(w:World)(hl:l.length≤400)(hne:l≠[])(ht:txD l=true)(hG:Gl w)
 (hc:w.cell? ⟨L,0,none⟩=some (.string (bs l))) (hd:w.cell? ⟨L+1,0,none⟩=some (.bool e)):
 ∃g cs,fnK L k= .func (.func g) #[] cs∧(∀args w,(callFunc g args).run Tryz.prog w= .ok (.enter g args) w)∧Calls Tryz.prog g cs w (WdPost w (kdW k l e)):=by
 match k,hk with
 |0,_=>
  refine⟨_,_,rfl,enters_of Tryz.func100 (by kernel_rfl) rfl,clos1_any l L _ w hc (Lib.hid fun W hb=> ?_)⟩
  match l,hne,hl with
  |c::t,_,hl=>exact literal_any c t W (by rw[List.length_cons]at hl;omega) (hG.below hb).2
 |1,_=>exact⟨_,_,rfl,enters_of Tryz.func102 (by kernel_rfl) rfl,clos2_any l L _ w hc (Lib.hid fun W _=>number_any l W (by omega))⟩
 |2,_=>exact⟨_,_,rfl,enters_of Tryz.func104 (by kernel_rfl) rfl,clos3_any l L _ w hc (Lib.hid fun W _=>mark_any l W)⟩
 |3,_=>exact⟨_,_,rfl,enters_of Tryz.func106 (by kernel_rfl) rfl,clos4_any l L _ w hc (Lib.hid fun W _=>operator_any l W)⟩
 |4,_=>exact⟨_,_,rfl,enters_of Tryz.func108 (by kernel_rfl) rfl,clos5_any l e L (L+1) _ w hc hd (Lib.hid fun W _=>star_any l e W)⟩
 |5,_=>exact⟨_,_,rfl,enters_of Tryz.func110 (by kernel_rfl) rfl,clos6_any l L _ w hc (Lib.hid fun W hb=>variable_any l W (by omega) ht (hG.below hb))⟩
 |6,_=>exact⟨_,_,rfl,enters_of Tryz.func112 (by kernel_rfl) rfl,clos7_any l e L (L+1) _ w hc hd (Lib.hid fun W hb=>named_any l e W (by omega) ht (hG.below hb))⟩
def fnB (L:Nat):Obj:= .cells #[fnK L 0,fnK L 1,fnK L 2,fnK L 3,fnK L 4,fnK L 5,fnK L 6] 136
structure Env (n L:Nat)(w W:World)(l:List UInt8)(e:Bool):Prop where
 hb:Below n w W
 hL:n≤L
 ll:W.cell? ⟨L,0,none⟩=some (.string (bs l))
 lf:W.frozen? ⟨L,0,none⟩=false
 el:W.cell? ⟨L+1,0,none⟩=some (.bool e)
 ef:W.frozen? ⟨L+1,0,none⟩=false
 kb:W.heap[L+1+1]? =some (fnB L)
theorem Env.lt {n L:Nat}{w W:World}{l:List UInt8}{e:Bool}(h:Env n L w W l e):L+3≤W.heap.size:=(Array.getElem?_eq_some_iff.1 h.kb).1
theorem Env.low {n L:Nat}{w W W':World}{l:List UInt8}{e:Bool}(h:Env n L w W l e)(hb:Below (L+3) W W'):Env n L w W' l e:=
 ⟨h.hb.trans (hb.mono (by have :=h.hL;omega)),h.hL,(hb.cell (by show L<_;omega)).trans h.ll,(hb.frozen (by show L<_;omega)).trans h.lf,(hb.cell (by show L+1<_;omega)).trans h.el,(hb.frozen (by show L+1<_;omega)).trans h.ef,(hb.block _ (by omega)).trans h.kb⟩
theorem Env.below {n L:Nat}{w W W':World}{l:List UInt8}{e:Bool}(h:Env n L w W l e)(hb:Below W.heap.size W W'):Env n L w W' l e:=h.low (hb.mono h.lt)
theorem Env.set {n L:Nat}{w W:World}{l:List UInt8}{e:Bool}(h:Env n L w W l e)(l2:List UInt8)(e2:Bool):Env n L w ((W.setCell ⟨L,0,none⟩ (.string (bs l2))).setCell ⟨L+1,0,none⟩ (.bool e2)) l2 e2:=by
 have ne:(⟨L,0,none⟩:Addr)≠⟨L+1,0,none⟩:=fun e=>by injection e;omega
 refine⟨(h.hb.setCell (p:=⟨L,0,none⟩) h.hL _).setCell (p:=⟨L+1,0,none⟩) (Nat.le_succ_of_le h.hL) _,h.hL,?_,?_,?_,?_,?_⟩
 ·rw[World.cell?_setCell_other _ _ _ _ (Ne.symm ne)];exact World.cell?_setCell_same _ _ _ h.ll
 ·rw[World.frozen?_setCell,World.frozen?_setCell];exact h.lf
 ·exact World.cell?_setCell_same _ _ _ (by rw[World.cell?_setCell_other _ _ _ _ ne];exact h.el)
 ·rw[World.frozen?_setCell,World.frozen?_setCell];exact h.ef
 ·rw[heap_set_ne (a:=⟨L+1,0,none⟩) (by show L+1+1≠L+1;omega),heap_set_ne (a:=⟨L,0,none⟩) (by show L+1+1≠L;omega)];exact h.kb
theorem Env.fns {n L:Nat}{w W:World}{l:List UInt8}{e:Bool}(h:Env n L w W l e):W.cell? ⟨L+1+1,0,none⟩=some (fnK L 0)∧W.cell? ⟨L+1+1,1,none⟩=some (fnK L 1)∧W.cell? ⟨L+1+1,2,none⟩=some (fnK L 2)∧W.cell? ⟨L+1+1,3,none⟩=some (fnK L 3)∧W.cell? ⟨L+1+1,4,none⟩=some (fnK L 4)∧W.cell? ⟨L+1+1,5,none⟩=some (fnK L 5)∧W.cell? ⟨L+1+1,6,none⟩=some (fnK L 6):=by
 have hk:=h.kb
 unfold fnB at hk
 exact⟨by simp only[World.cell?,hk];rfl,by simp only[World.cell?,hk];rfl,by simp only[World.cell?,hk];rfl,by simp only[World.cell?,hk];rfl,by simp only[World.cell?,hk];rfl,by simp only[World.cell?,hk];rfl,by simp only[World.cell?,hk];rfl⟩
theorem index_fn (L k:Nat)(hk:k<7)(wx:World):(Instr.index 136 (.agg #[fnK L 0,fnK L 1,fnK L 2,fnK L 3,fnK L 4,fnK L 5,fnK L 6]) (.int .i64 (k:Int))).run Tryz.prog wx= .ok (fnK L k) wx:=by
 have h:=Tryz.underlying136
 rcases (by omega:k=0∨k=1∨k=2∨k=3∨k=4∨k=5∨k=6) with rfl|rfl|rfl|rfl|rfl|rfl|rfl<;>simp[Instr.index,run_underlying h,asIntOf,go_sem]
def WordsPost (w:World)(R:Nat ⊕ List Wd)(e:Ending)(w':World):Prop:=Below w.heap.size w w'∧match R with
 | .inl x=>e= .returned (.tuple #[.slice none 0 0,.int .i64 (x:Int)])
 | .inr ws=>∃v,e= .returned (.tuple #[v,.int .i64 0])∧OwnsWd w.heap.size w' v ws
end Char
end Go.Proofs.YtlmpkpjjakallaaGreatDoor
