import Derived.Test.YtlmpkpjjakallaaGreatDoorPt04
namespace Go.Proofs.YtlmpkpjjakallaaGreatDoor
namespace Char
open Go.RowKit Go.Lib
structure Fn4 where
 least:Int
 most:Int
 nodes:Bool
 ty:Int
def fnT:List (List UInt8×Fn4):=[
 ([108,97,115,116],⟨0,0,false,3⟩),
 ([112,111,115,105,116,105,111,110],⟨0,0,false,3⟩),
 ([99,111,117,110,116],⟨1,1,true,3⟩),
 ([115,117,109],⟨1,1,true,3⟩),
 ([108,111,99,97,108,45,110,97,109,101],⟨0,1,true,4⟩),
 ([110,97,109,101],⟨0,1,true,4⟩),
 ([110,97,109,101,115,112,97,99,101,45,117,114,105],⟨0,1,true,4⟩),
 ([115,116,114,105,110,103],⟨0,1,false,4⟩),
 ([110,111,114,109,97,108,105,122,101,45,115,112,97,99,101],⟨0,1,false,4⟩),
 ([99,111,110,99,97,116],⟨2,120,false,4⟩),
 ([115,116,97,114,116,115,45,119,105,116,104],⟨2,2,false,2⟩),
 ([99,111,110,116,97,105,110,115],⟨2,2,false,2⟩),
 ([115,117,98,115,116,114,105,110,103,45,98,101,102,111,114,101],⟨2,2,false,4⟩),
 ([115,117,98,115,116,114,105,110,103,45,97,102,116,101,114],⟨2,2,false,4⟩),
 ([115,117,98,115,116,114,105,110,103],⟨2,3,false,4⟩),
 ([116,114,97,110,115,108,97,116,101],⟨3,3,false,4⟩),
 ([115,116,114,105,110,103,45,108,101,110,103,116,104],⟨0,1,false,3⟩),
 ([110,117,109,98,101,114],⟨0,1,false,3⟩),
 ([98,111,111,108,101,97,110],⟨1,1,false,2⟩),
 ([110,111,116],⟨1,1,false,2⟩),
 ([108,97,110,103],⟨1,1,false,2⟩),
 ([116,114,117,101],⟨0,0,false,2⟩),
 ([102,97,108,115,101],⟨0,0,false,2⟩),
 ([102,108,111,111,114],⟨1,1,false,3⟩),
 ([99,101,105,108,105,110,103],⟨1,1,false,3⟩),
 ([114,111,117,110,100],⟨1,1,false,3⟩)]
def fnG:List (List UInt8×Fn4)→List UInt8→Option Fn4
 |[],_=>none
 |p::r,s=>if s=p.1 then some p.2 else fnG r s
def fnF (s:List UInt8):Option Fn4:=fnG fnT s
theorem fnG_no:∀(l:List (List UInt8×Fn4)) (s:List UInt8),(∀p∈l,s≠p.1)→fnG l s=none
 |[],_,_=>rfl
 |p::r,s,h=>by rw[fnG,if_neg (h p (by simp)),fnG_no r s fun q hq=>h q (by simp[hq])]
def finT (m:Bool)(t:Int):Int ⊕ Bool→Int ⊕ Int
 | .inl e=> .inl e
 | .inr b=>if !m||b then .inr t else .inl 35
mutual
def ckE:Ex→Nat→Int ⊕ Int
 | .mk op s _ _ _ ks ss,n=>
   if 1≤op∧op≤8 then finT false 2 (ckKs ks n)
   else if (9≤op∧op≤13)∨op=15 then finT false 3 (ckKs ks n)
   else if op=14 then finT true 1 (ckKs ks n)
   else if op=16 then match finT true 1 (ckKs ks n) with
    | .inl e=> .inl e
    | .inr t=>match ckSs ss n with
      |some e=> .inl e
      |none=> .inr t
   else if op=17 then ckF ks n
   else if op=18 then .inr 4
   else if op=19 then .inr 3
   else if op=20 then match fnF s with
    |none=> .inl 32
    |some f=>if (ks.length:Int)<f.least∨f.most<(ks.length:Int) then .inl 33 else finT f.nodes f.ty (ckKs ks n)
   else .inl 32
def ckKs:List Ex→Nat→Int ⊕ Bool
 |[],_=> .inr true
 |k::r,n=>match ckE k n with
  | .inl e=> .inl e
  | .inr t=>match ckKs r n with
    | .inl e=> .inl e
    | .inr b=> .inr (decide (t=1)&&b)
def ckF:List Ex→Nat→Int ⊕ Int
 |[],_=> .inl 0
 |k::r,n=>match ckE k n with
  | .inl e=> .inl e
  | .inr t=>if t=1 then (match ckPs r n with
    |some e=> .inl e
    |none=> .inr 1) else .inl 35
def ckPs:List Ex→Nat→Option Int
 |[],_=>none
 |k::r,n=>if 2≤n then some 34 else match ckE k (n+1) with
  | .inl e=>some e
  | .inr _=>ckPs r n
def ckSs:List St→Nat→Option Int
 |[],_=>none
 |k::r,n=>match ckS k n with
  |some e=>some e
  |none=>ckSs r n
def ckS:St→Nat→Option Int
 | .mk _ _ _ _ ps,n=>ckPs ps n
end
theorem ckE_def (x:Ex)(n:Nat):ckE x n=
 if 1≤x.op∧x.op≤8 then finT false 2 (ckKs x.ks n)
 else if (9≤x.op∧x.op≤13)∨x.op=15 then finT false 3 (ckKs x.ks n)
 else if x.op=14 then finT true 1 (ckKs x.ks n)
 else if x.op=16 then match finT true 1 (ckKs x.ks n) with
  | .inl e=> .inl e
  | .inr t=>match ckSs x.ss n with
    |some e=> .inl e
    |none=> .inr t
 else if x.op=17 then ckF x.ks n
 else if x.op=18 then .inr 4
 else if x.op=19 then .inr 3
 else if x.op=20 then match fnF x.s with
  |none=> .inl 32
  |some f=>if (x.ks.length:Int)<f.least∨f.most<(x.ks.length:Int) then .inl 33 else finT f.nodes f.ty (ckKs x.ks n)
 else .inl 32:=by
 cases x
 rw[ckE]
 rfl
theorem ckS_def (x:St)(n:Nat):ckS x n=ckPs x.ps n:=by cases x;rw[ckS];rfl
def typD (x:Ex):Int×Int:=if rightE x then (match ckE x 0 with
 | .inl e=>(0,e)
 | .inr t=>(t,0)) else (0,2)
end Char
namespace Char
open Go.RowKit Go.Lib
theorem bs_eqv (a b:List UInt8)(v:Bool)(h:decide (a=b)=v):((bs a).toList==(bs b).toList)=v:=by
 rw[bs_tl,bs_tl,←h,Bool.eq_iff_iff,beq_iff_eq,decide_eq_true_eq]
def ofF (s:List UInt8):Nat→Nat→Nat
 |0,_=>0
 |n+1,a=>if nmX a=s then a else ofF s n (a+1)
def ofX (s:List UInt8):Nat:=ofF s 12 1
set_option maxRecDepth 100000 in
set_option maxHeartbeats 4000000 in
theorem ofX_any (s:List UInt8)(w:World):
 Calls Tryz.prog 232 #[.string (bs s)] w fun e w'=>e= .returned (.int .i64 (ofX s:Int))∧Below w.heap.size w w':=by
 obtain⟨R,hR⟩:∃R,ofX s=R:=⟨_,rfl⟩
 rw[hR]
 have HR:=Lib.hid hR
 clear hR
 have HB:=Lib.hid (Below.refl w.heap.size w)
 go_enter Tryz.func232,Tryz.ntmps232
 go_wp2_with fail
 go_loopw [3] (fun v wr=>∃k:Nat,v= .int .i64 (k:Int)∧1≤k∧k≤13∧Hid (R=ofF s (13-k) k∧Below w.heap.size w wr)) (fun v _=>13-(RowKit.intOf v).toNat)
 case atStart=>exact⟨1,rfl,by omega,by omega,Lib.hid ⟨HR.out.symm,HB.out⟩⟩
 case round=>
  obtain⟨k,rfl,hk1,hk13,HI⟩:=hrel
  by_cases hlt:k≤12
  ·have k0:decide ((k:Int)≤12)=true:=decide_eq_true (by omega)
   have HN:=Lib.hid (nameX_any (k:Int) wr)
   have hstep:ofF s (13-k) k=if nmX (k:Int)=s then k else ofF s (13-(k+1)) (k+1):=by
    rw[show 13-k=(13-(k+1))+1 by omega]
    rfl
   have HS:=Lib.hid hstep
   clear hstep
   cases he:decide (nmX (k:Int)=s) with
   |true=>
    have hq:=bs_eqv _ _ _ he
    have HE:=Lib.hid (of_decide_eq_true he)
    clear he
    generalize nmX (k:Int)=X at *
    go_wp2_with (first
     |(go_at_call 71
       refine HN.out.mono ?_
       rintro e w2 ⟨rfl,q2⟩))
    go_ret
    refine⟨?_,HI.out.2.trans (q2.mono HI.out.2.size)⟩
    rw[HI.out.1,HS.out,if_pos HE.out];rfl
   |false=>
    have hq:=bs_eqv _ _ _ he
    have HE:=Lib.hid (of_decide_eq_false he)
    clear he
    generalize nmX (k:Int)=X at *
    go_wp2_with (first
     |(go_at_call 71
       refine HN.out.mono ?_
       rintro e w2 ⟨rfl,q2⟩))
    go_roundw
    case rel=>exact⟨k+1,by go_num,by omega,by omega,Lib.hid ⟨by rw[HI.out.1,HS.out,if_neg HE.out],HI.out.2.trans (q2.mono HI.out.2.size)⟩⟩
    case measure=>simp[RowKit.intOf];omega
  ·have e:k=13:=by omega
   subst e
   have k0:decide ((13:Int)≤12)=false:=by decide
   go_wp2_with fail
   go_ret
   exact⟨by rw[HI.out.1];rfl,HI.out.2⟩
end Char
end Go.Proofs.YtlmpkpjjakallaaGreatDoor
