import Derived.Test.YtlmpkpjjakallaaGreatDoorPt00
import Derived.Test.YtlmpkpjjakallaaGreatDoorProg
import Derived.WalkKit
import Derived.Below
import Derived.Outline
import Derived.Lib.Hide
import Derived.Laws.Strings3
import Derived.WideShapes
import Derived.Test.YtlmpkpjjakallaaGreatDoorPt01
import Derived.Shelf.Unicode.ValidAny
import Derived.Lib.LaidU8T
import Derived.Deep.WholeRow
import Derived.Great.BuildSlice
import Derived.Lib.OthersKept
import Derived.WalkSmall
import Derived.Deep.QuietTactic
import Derived.BigQuiet
import Derived.Laws.EntriesVeiled
import Derived.Shelf.Abstract
namespace Go.Proofs.YtlmpkpjjakallaaGreatDoor
namespace Char
open Go.RowKit Go.Lib
def bs (l:List UInt8):ByteArray:=⟨l.toArray⟩
theorem bs_list (l:List UInt8):(bs l).data.toList=l:=rfl
theorem bs_of (s:ByteArray):bs s.data.toList=s:=rfl
theorem bs_size (l:List UInt8):(bs l).size=l.length:=by show l.toArray.size=_;rw[List.size_toArray]
theorem bs_ext (l:List UInt8)(i j:Nat):(bs l).extract i j=bs ((l.drop i).take (j-i)):=by
 rw[←bs_of ((bs l).extract i j),extract_data]
 rfl
theorem bs_add (a b:List UInt8):bs a++bs b=bs (a++b):=by
 rw[←bs_of (bs a++bs b),ByteArray.data_append,Array.toList_append]
 rfl
theorem bs_get (l:List UInt8)(i:Nat)(h:i<(bs l).size):(bs l)[i]=l.getD i 0:=by
 have h':i<l.length:=by rw[←bs_size];exact h
 have e:l.getD i 0=l[i]:=by simp[List.getD,List.getElem?_eq_getElem h']
 rw[e]
 rfl
theorem ret_str {a b:List UInt8}(h:a=b):Ending.returned (.string (bs a))= .returned (.string (bs b)):=by rw[h]
theorem bs_tl (l:List UInt8):(bs l).toList=l:=by rw[toList_data];rfl
theorem drop_cons (l:List UInt8)(k:Nat)(h:k<l.length):l.drop k=l.getD k 0::l.drop (k+1):=by
 have hg:l.getD k 0=l[k]:=by simp[List.getD,List.getElem?_eq_getElem h]
 rw[List.drop_eq_getElem_cons h,hg]
theorem eq_one (b x:UInt8)(v:Bool)(h:(b==x)=v):((bs [b]).toList==[x])=v:=by
 rw[bs_tl,←h]
 simp
theorem ne_one (b x:UInt8)(h:b≠x):((bs [b]).toList==[x])=false:=eq_one b x false (beq_eq_false_iff_ne.2 h)
theorem bs_one (l:List UInt8)(k:Nat)(h:k<l.length):(bs l).extract k (k+1)=bs [l.getD k 0]:=by
 rw[bs_ext,drop_cons l k h,Nat.add_sub_cancel_left]
 rfl
theorem slice_one (l:List UInt8)(k:Nat)(h:k<l.length)(wx:World):(Instr.slice 9 (.string (bs l)) (some (.int .i64 (k:Int))) (some (.int .i64 ((k:Int)+1))) none).run Tryz.prog wx= .ok (.string (bs [l.getD k 0])) wx:=by
 have :=run_slice_string (P:=Tryz.prog) wx 9 (bs l) .i64 .i64 (k:Int) ((k:Int)+1) Tryz.underlying9 (by omega) (by omega) (by rw[bs_size];omega)
 rw[show(k:Int).toNat=k by omega,show((k:Int)+1).toNat=k+1 by omega,bs_one l k h]at this
 exact this
theorem add_bs (a b:List UInt8)(ha:a.length≤1048576)(hb:b.length≤1048576)(wx:World):(Op.stringOp .add (bs a) (bs b)).run Tryz.prog wx= .ok (.string (bs (a++b))) wx:=by
 have h1:=bs_size a
 have h2:=bs_size b
 rw[run_string_add wx (bs a) (bs b) (by omega) (by omega),bs_add]
end Char
namespace Char
open Go.Lib Go.RowKit
open Go.Proofs.YtlmpkpjjakallaaGreatDoor.Fig (Nm litL digB toldD decL allD)
structure Wd where
 k:Nat
 s:List UInt8
 n:Nm
def orW {α:Type}(a b:Option α):Option α:=match a with
 |some x=>some x
 |none=>b
theorem orW_none {α:Type}(b:Option α):orW none b=b:=rfl
theorem orW_some {α:Type}(x:α)(b:Option α):orW (some x) b=some x:=rfl
def litW:List UInt8→Option (Wd×Nat)
 |[]=>none
 |c::t=>if c=34∨c=39 then (if (t.takeWhile (· != c)).length<t.length then some (⟨8,t.takeWhile (· != c),.num 0⟩,(t.takeWhile (· != c)).length+2) else none) else none
theorem litW_cons (c:UInt8)(t:List UInt8):litW (c::t)=if c=34∨c=39 then (if (t.takeWhile (· != c)).length<t.length then some (⟨8,t.takeWhile (· != c),.num 0⟩,(t.takeWhile (· != c)).length+2) else none) else none:=rfl
def dgs (l:List UInt8):Nat:=(l.takeWhile digB).length
def sizN (l:List UInt8):Nat:=dgs l+(if [46].isPrefixOf (l.drop (dgs l)) then 1+dgs (l.drop (dgs l+1)) else 0)
def isNum:Option Nm→Option Int
 |some (.num v)=>some v
 |_=>none
def numW (l:List UInt8):Option (Wd×Nat):=(isNum (litL (l.take (sizN l)))).map fun v=>(⟨9,l.take (sizN l),.num v⟩,sizN l)
def marksL:List (List UInt8):=[[46,46],[58,58],[40],[41],[91],[93],[46],[64],[44]]
def opsL:List (List UInt8):=[[47,47],[33,61],[60,61],[62,61],[47],[124],[43],[45],[61],[60],[62]]
def openL:List (List UInt8):=[[64],[58,58],[40],[91],[44]]
def joinsL:List (List UInt8):=[[97,110,100],[111,114],[109,111,100],[100,105,118]]
def typesL:List (List UInt8):=[[99,111,109,109,101,110,116],[116,101,120,116],[112,114,111,99,101,115,115,105,110,103,45,105,110,115,116,114,117,99,116,105,111,110],[110,111,100,101]]
def firstP (ss:List (List UInt8))(l:List UInt8):Option (List UInt8):=ss.find? fun p=>p.isPrefixOf l
def signW (k:Nat)(ss:List (List UInt8))(l:List UInt8):Option (Wd×Nat):=(firstP ss l).map fun p=>(⟨k,p,.num 0⟩,p.length)
def starK (e:Bool):Nat:=if e then 5 else 3
def varW (l:List UInt8):Option (Wd×Nat):=if [36].isPrefixOf l&&nmD (bs ((l.drop 1).take (runL (l.drop 1)))) then some (⟨10,(l.drop 1).take (runL (l.drop 1)),.num 0⟩,1+runL (l.drop 1)) else none
def dropS (l:List UInt8):List UInt8:=l.drop (spcL l)
def nx0 (l:List UInt8):Nat:=if [40].isPrefixOf l then 1 else if [58,58].isPrefixOf l then 2 else 0
def nxL (t:List UInt8):Nat:=nx0 (dropS t)
def kindN (e:Bool)(n:List UInt8)(x:Nat):Nat:=if e then 5 else if x=1 then (if typesL.contains n then 4 else 6) else if x=2 then 7 else 2
def nameW (e:Bool)(l:List UInt8):Option (Wd×Nat):=if nmD (bs (l.take (runL l)))&&(!e||joinsL.contains (l.take (runL l))) then some (⟨kindN e (l.take (runL l)) (nxL (l.drop (runL l))),l.take (runL l),.num 0⟩,runL l) else none
def wdL (l:List UInt8)(e:Bool):Option (Wd×Nat):=orW (litW l) (orW (numW l) (orW (signW 1 marksL l) (orW (signW 5 opsL l) (orW (signW (starK e) [[42]] l) (orW (varW l) (nameW e l))))))
def endW (w:Wd):Bool:=w.k != 5&& !(w.k==1&&openL.contains w.s)
def lexN:Nat→List UInt8→Bool→Nat→Nat ⊕ List Wd
 |0,_,_,_=> .inl 30
 |f+1,l,e,n=>if l=[] then .inr [] else match wdL l e with
  |none=> .inl 30
  |some (w,k)=>if n=120 then .inl 3 else match lexN f (dropS (l.drop k)) (endW w) (n+1) with
   | .inl x=> .inl x
   | .inr ws=> .inr (w::ws)
def lexG (l:List UInt8)(e:Bool)(n:Nat):Nat ⊕ List Wd:=lexN (l.length+1) l e n
def lexL (s:List UInt8):Nat ⊕ List Wd:=if 400<s.length then .inl 3 else if txD s=false then .inl 10 else lexG (dropS s) false 0
def appW (acc:List Wd):Nat ⊕ List Wd→Nat ⊕ List Wd
 | .inl x=> .inl x
 | .inr ws=> .inr (acc++ws)
theorem appW_nil (r:Nat ⊕ List Wd):appW [] r=r:=by cases r<;>rfl
theorem appW_app (a b:List Wd)(r:Nat ⊕ List Wd):appW a (appW b r)=appW (a++b) r:=by cases r with
 |inl x=>rfl
 |inr ws=>show Sum.inr _=Sum.inr _;rw[List.append_assoc]
theorem dgs_le (l:List UInt8):dgs l≤l.length:=(List.takeWhile_prefix _).length_le
theorem siz_le (l:List UInt8):sizN l≤l.length:=by
 unfold sizN
 have h:=dgs_le l
 split
 ·rename_i hp
  obtain⟨t,ht⟩:=List.isPrefixOf_iff_prefix.1 hp
  have h2:=congrArg List.length ht
  have h3:=dgs_le (l.drop (dgs l+1))
  rw[List.length_drop]at h2 h3
  simp at h2
  omega
 ·omega
theorem litL_nil:litL []=none:=rfl
theorem first_mem {ss:List (List UInt8)}{l p:List UInt8}(h:firstP ss l=some p):p∈ss∧p.isPrefixOf l=true:=⟨List.mem_of_find?_eq_some h,by simpa using List.find?_some h⟩
theorem sign_some {k:Nat}{ss:List (List UInt8)}{l:List UInt8}{w:Wd}{m:Nat}(h:signW k ss l=some (w,m)):∃p,firstP ss l=some p∧w=⟨k,p,.num 0⟩∧m=p.length:=by
 unfold signW at h
 cases hp:firstP ss l with
 |none=>rw[hp]at h;cases h
 |some p=>rw[hp]at h;cases h;exact⟨p,rfl,rfl,rfl⟩
theorem num_some {l:List UInt8}{w:Wd}{m:Nat}(h:numW l=some (w,m)):∃v,litL (l.take (sizN l))=some (.num v)∧w=⟨9,l.take (sizN l),.num v⟩∧m=sizN l:=by
 unfold numW at h
 cases hq:litL (l.take (sizN l)) with
 |none=>rw[hq]at h;cases h
 |some x=>cases x with
  |num v=>rw[hq]at h;cases h;exact⟨v,rfl,rfl,rfl⟩
  |nan=>rw[hq]at h;cases h
  |over=>rw[hq]at h;cases h
  |under=>rw[hq]at h;cases h
theorem marks_pos:∀p∈marksL,0<p.length:=by decide
theorem ops_pos:∀p∈opsL,0<p.length:=by decide
theorem star_pos:∀p∈([[42]]:List (List UInt8)),0<p.length:=by decide
theorem sign_len {k:Nat}{ss:List (List UInt8)}(hs:∀p∈ss,0<p.length){l:List UInt8}{w:Wd}{m:Nat}(h:signW k ss l=some (w,m)):0<m∧m≤l.length:=by
 obtain⟨p,hp,_,rfl⟩:=sign_some h
 obtain⟨h1,h2⟩:=first_mem hp
 exact⟨hs p h1,(List.isPrefixOf_iff_prefix.1 h2).length_le⟩
theorem nm_pos {s:List UInt8}(h:nmD (bs s)=true):0<s.length:=by
 unfold nmD at h
 simp only[Bool.and_eq_true,decide_eq_true_eq,bs_size]at h
 exact h.1.1.1
theorem wdL_len {l:List UInt8}{e:Bool}{w:Wd}{k:Nat}(h:wdL l e=some (w,k)):0<k∧k≤l.length:=by
 unfold wdL at h
 cases h1:litW l with
 |some x=>
  rw[h1]at h
  cases h
  cases l with
  |nil=>cases h1
  |cons c t=>
   rw[litW_cons]at h1
   split at h1
   ·split at h1
    ·cases h1
     rw[List.length_cons]
     omega
    ·cases h1
   ·cases h1
 |none=>
  rw[h1,orW_none]at h
  cases h2:numW l with
  |some x=>
   rw[h2]at h
   cases h
   obtain⟨v,q1,_,rfl⟩:=num_some h2
   refine⟨?_,siz_le l⟩
   rcases Nat.eq_zero_or_pos (sizN l) with h0|h0
   ·rw[h0,List.take_zero,litL_nil]at q1;cases q1
   ·exact h0
  |none=>
   rw[h2,orW_none]at h
   cases h3:signW 1 marksL l with
   |some x=>rw[h3]at h;cases h;exact sign_len marks_pos h3
   |none=>
    rw[h3,orW_none]at h
    cases h4:signW 5 opsL l with
    |some x=>rw[h4]at h;cases h;exact sign_len ops_pos h4
    |none=>
     rw[h4,orW_none]at h
     cases h5:signW (starK e) [[42]] l with
     |some x=>rw[h5]at h;cases h;exact sign_len star_pos h5
     |none=>
      rw[h5,orW_none]at h
      cases h6:varW l with
      |some x=>
       rw[h6]at h
       cases h
       unfold varW at h6
       split at h6
       ·rename_i hc
        cases h6
        rw[Bool.and_eq_true]at hc
        have hl:=(List.isPrefixOf_iff_prefix.1 hc.1).length_le
        have hr:=run_le _ (l.drop 1) (Nat.le_refl _)
        rw[List.length_drop]at hr
        simp at hl
        omega
       ·cases h6
      |none=>
       rw[h6,orW_none]at h
       unfold nameW at h
       split at h
       ·rename_i hc
        cases h
        rw[Bool.and_eq_true]at hc
        have hp:=nm_pos hc.1
        rw[List.length_take]at hp
        exact⟨by omega,run_le _ l (Nat.le_refl _)⟩
       ·cases h
theorem dropS_le (l:List UInt8):(dropS l).length≤l.length:=by unfold dropS;rw[List.length_drop];omega
theorem lexN_fuel:∀(f g:Nat) (l:List UInt8) (e:Bool) (n:Nat),l.length<f→l.length<g→lexN f l e n=lexN g l e n
 |0,_,_,_,_,h,_=>by omega
 |_+1,0,_,_,_,_,h=>by omega
 |f+1,g+1,l,e,n,hf,hg=>by
  unfold lexN
  by_cases hl:l=[]
  ·rw[if_pos hl,if_pos hl]
  ·rw[if_neg hl,if_neg hl]
   cases h:wdL l e with
   |none=>rfl
   |some x=>
    obtain⟨w,k⟩:=x
    have hk:=wdL_len h
    have hd:=dropS_le (l.drop k)
    rw[List.length_drop]at hd
    dsimp only
    rw[lexN_fuel f g _ _ _ (by omega) (by omega)]
theorem lexG_nil (e:Bool)(n:Nat):lexG [] e n= .inr []:=rfl
theorem lexG_none {l:List UInt8}{e:Bool}(n:Nat)(hl:l≠[])(h:wdL l e=none):lexG l e n= .inl 30:=by
 unfold lexG lexN
 rw[if_neg hl,h]
theorem lexG_full {l:List UInt8}{e:Bool}{x:Wd×Nat}(hl:l≠[])(h:wdL l e=some x):lexG l e 120= .inl 3:=by
 unfold lexG lexN
 rw[if_neg hl,h]
 rfl
theorem lexG_some {l:List UInt8}{e:Bool}{n k:Nat}{w:Wd}(hl:l≠[])(h:wdL l e=some (w,k))(hn:n≠120):lexG l e n=appW [w] (lexG (dropS (l.drop k)) (endW w) (n+1)):=by
 have hk:=wdL_len h
 have hd:=dropS_le (l.drop k)
 rw[List.length_drop]at hd
 conv=>lhs;unfold lexG lexN
 rw[if_neg hl,h]
 dsimp only
 rw[if_neg hn]
 unfold lexG
 rw[lexN_fuel _ ((dropS (l.drop k)).length+1) _ _ _ (by omega) (by omega)]
 cases lexN ((dropS (l.drop k)).length+1) (dropS (l.drop k)) (endW w) (n+1)<;>rfl
theorem index_one (q:UInt8):∀l:List UInt8,index l [q]=if (l.takeWhile (· != q)).length=l.length then -1 else ((l.takeWhile (· != q)).length:Int)
 |[]=>rfl
 |b::t=>by
  have ih:=index_one q t
  unfold index
  by_cases hb:b=q
  ·subst hb
   simp[List.isPrefixOf]
  ·have h2:([q]:List UInt8).isPrefixOf (b::t)=false:=by
    simp[List.isPrefixOf]
    exact fun h=>hb h.symm
   have e:((b::t).takeWhile (· != q)).length=(t.takeWhile (· != q)).length+1:=by
    rw[List.takeWhile_cons,if_pos (by simpa using hb),List.length_cons]
   rw[h2,ih,e,List.length_cons]
   simp only[Bool.false_eq_true,if_false]
   by_cases hq:(t.takeWhile (· != q)).length=t.length
   ·rw[if_pos hq,if_pos (show _+1=t.length+1 by omega)];rfl
   ·rw[if_neg hq,if_neg (show ¬_+1=t.length+1 by omega),if_neg (show ¬((((t.takeWhile (· != q)).length:Int)== -1)=true) by rw[beq_iff_eq];omega)]
    omega
theorem dgs_none {c:UInt8}(t:List UInt8)(h:digB c=false):dgs (c::t)=0:=by
 unfold dgs
 rw[List.takeWhile_cons,h]
 rfl
theorem siz_none {c:UInt8}(t:List UInt8)(h:digB c=false)(hp:c≠46):sizN (c::t)=0:=by
 unfold sizN
 rw[dgs_none t h,List.drop_zero]
 have :([46]:List UInt8).isPrefixOf (c::t)=false:=by
  simp[List.isPrefixOf]
  exact fun h=>hp h.symm
 rw[this]
 rfl
theorem numW_none {c:UInt8}(t:List UInt8)(h:digB c=false)(hp:c≠46):numW (c::t)=none:=by
 unfold numW
 rw[siz_none t h hp]
 rfl
theorem litW_none {c:UInt8}(t:List UInt8)(h:c≠34∧c≠39):litW (c::t)=none:=by
 rw[litW_cons,if_neg (by simp[h])]
theorem signW_none {c:UInt8}(t:List UInt8)(k:Nat){ss:List (List UInt8)}(h:∀p∈ss,∃x r,p=x::r∧x≠c):signW k ss (c::t)=none:=by
 unfold signW firstP
 rw[List.find?_eq_none.2 fun p hp=>by
  obtain⟨x,r,rfl,hx⟩:=h p hp
  simp[List.isPrefixOf,hx]]
 rfl
def signB (c:UInt8):Bool:=[46,58,40,41,91,93,64,44,47,33,60,62,124,43,45,61,42].contains c
theorem signs_none {c:UInt8}(t:List UInt8)(h:signB c=false)(e:Bool):signW 1 marksL (c::t)=none∧signW 5 opsL (c::t)=none∧signW (starK e) [[42]] (c::t)=none:=by
 have key:∀x,signB x=true→x≠c:=fun x hx e=>by rw[e,h]at hx;cases hx
 refine⟨signW_none t _ fun p hp=> ?_,signW_none t _ fun p hp=> ?_,signW_none t _ fun p hp=> ?_⟩
 ·unfold marksL at hp
  simp only[List.mem_cons,List.not_mem_nil,or_false]at hp
  rcases hp with rfl|rfl|rfl|rfl|rfl|rfl|rfl|rfl|rfl<;>exact⟨_,_,rfl,key _ (by decide)⟩
 ·unfold opsL at hp
  simp only[List.mem_cons,List.not_mem_nil,or_false]at hp
  rcases hp with rfl|rfl|rfl|rfl|rfl|rfl|rfl|rfl|rfl|rfl|rfl<;>exact⟨_,_,rfl,key _ (by decide)⟩
 ·simp only[List.mem_cons,List.not_mem_nil,or_false]at hp
  subst hp
  exact⟨_,_,rfl,key _ (by decide)⟩
theorem varW_none {c:UInt8}(t:List UInt8)(h:c≠36):varW (c::t)=none:=by
 unfold varW
 have :([36]:List UInt8).isPrefixOf (c::t)=false:=by
  simp[List.isPrefixOf]
  exact fun e=>h e.symm
 rw[this]
 rfl
theorem nm_head {c:UInt8}{t:List UInt8}(h:nmD (bs (c::t))=true)(hc:c.toNat<128):stC (c.toNat:Int)=true:=by
 unfold nmD at h
 simp only[Bool.and_eq_true]at h
 have h1:=h.2.1
 rw[decode_drop,bs_list,List.drop_zero,decodeL_ascii c t hc]at h1
 exact h1
theorem nameW_none {c:UInt8}(t:List UInt8)(e:Bool)(hc:c.toNat<128)(h:stC (c.toNat:Int)=false):nameW e (c::t)=none:=by
 unfold nameW
 rw[if_neg]
 intro hh
 rw[Bool.and_eq_true]at hh
 have hp:=nm_pos hh.1
 obtain⟨r,hr⟩:∃r,runL (c::t)=r+1:=⟨runL (c::t)-1,by rw[List.length_take]at hp;omega⟩
 rw[hr,List.take_succ_cons]at hh
 rw[nm_head hh.1 hc]at h
 cases h
def headB (c:UInt8):Bool:=c==34||c==39||digB c||signB c||c==36
theorem head_low (c:UInt8)(h:headB c=true):c.toNat<128∧stC (c.toNat:Int)=false:=by
 have :∀n:Fin 256,headB (UInt8.ofNat n.val)=true→(UInt8.ofNat n.val).toNat<128∧stC ((UInt8.ofNat n.val).toNat:Int)=false:=by decide+kernel
 have h2:=this ⟨c.toNat,UInt8.toNat_lt c⟩
 rw[UInt8.ofNat_toNat]at h2
 exact h2 h
end Char
namespace Char
open Go.RowKit Go.Shelf Go.Lib
def validRen:Ren:=
 ⟨fun |196=>96|259=>142|n=>n,
  fun |0=>0|3=>3|4=>4|5=>5|9=>9|12=>12|46=>156|53=>145|119=>152|138=>154|139=>155|n=>n,
  fun |3=>0|4=>1|n=>n⟩
theorem laysValid:Lays.n196 Tryz.prog validRen:=
 {
  mixed:=by kernel_rfl,
  f196:=Tryz.func96.trans (congrArg some (by kernel_rfl)),
  f259:=Tryz.func142.trans (congrArg some (by kernel_rfl)),
  t0:=Tryz.underlying0,
  a0:=Tryz.isAgg0,
  z0:=Tryz.sizeOf0,
  v0:=Tryz.zeroValue0,
  t3:=Tryz.underlying3,
  a3:=Tryz.isAgg3,
  z3:=Tryz.sizeOf3,
  v3:=Tryz.zeroValue3,
  t4:=Tryz.underlying4,
  a4:=Tryz.isAgg4,
  z4:=Tryz.sizeOf4,
  v4:=Tryz.zeroValue4,
  t5:=Tryz.underlying5,
  a5:=Tryz.isAgg5,
  z5:=Tryz.sizeOf5,
  v5:=Tryz.zeroValue5,
  t9:=Tryz.underlying9,
  a9:=Tryz.isAgg9,
  z9:=Tryz.sizeOf9,
  v9:=Tryz.zeroValue9,
  t12:=Tryz.underlying12,
  a12:=Tryz.isAgg12,
  z12:=Tryz.sizeOf12,
  v12:=Tryz.zeroValue12,
  t46:=Tryz.underlying156,
  a46:=Tryz.isAgg156,
  z46:=Tryz.sizeOf156,
  v46:=Tryz.zeroValue156,
  t53:=Tryz.underlying145,
  a53:=Tryz.isAgg145,
  z53:=Tryz.sizeOf145,
  v53:=Tryz.zeroValue145,
  t119:=Tryz.underlying152,
  a119:=Tryz.isAgg152,
  z119:=Tryz.sizeOf152,
  t138:=Tryz.underlying154,
  a138:=Tryz.isAgg154,
  z138:=Tryz.sizeOf154,
  v138:=Tryz.zeroValue154,
  t139:=Tryz.underlying155,
  a139:=Tryz.isAgg155,
  z139:=Tryz.sizeOf155,
  v139:=Tryz.zeroValue155,
  g3:=by kernel_rfl,
  g4:=by kernel_rfl}
def Tabs (w:World):Prop:=Lib.Utf8Tabs 0 1 w
theorem Tabs.below {w w':World}(h:Tabs w)(hb:Below w.heap.size w w'):Tabs w':=Utf8Tabs_below h hb
theorem valid_any (s:ByteArray)(w:World)(hs:s.size≤9223372036854775807)(hT:Tabs w):
 Calls Tryz.prog 96 #[.string s] w fun e w'=>e= .returned (.bool (Lib.validD s.data.toList))∧Below w.heap.size w w':=
 Any.utf8_ValidString laysValid s w hs hT
end Char
namespace Char
open Go.RowKit
set_option maxHeartbeats 400000 in
theorem within_any (b off len cap:Nat)(n:Int)(zs:List Int)(w:World)(hz:2*len=zs.length)(hbig:len≤1000)(hbl:b<w.heap.size)
 (hc:∀j,j<zs.length→w.cell? ⟨b,off+j,none⟩=some (.int .i32 (zs.getD j 0))):
 Calls Tryz.prog 143 #[.slice (some ⟨b,off,none⟩) len cap,.int .i32 n] w fun e w'=>e= .returned (.bool (inP zs n))∧Below w.heap.size w w':=by
 have HZ:=Lib.hid hz
 clear hz
 obtain⟨R,hR⟩:∃R,R=inP zs n:=⟨_,rfl⟩
 rw[←hR]
 have HR:=Lib.hid hR
 clear hR
 go_enter Tryz.func143,Tryz.ntmps143
 go_wp2
 go_loopw [9] (fun i wr=>∃k:Nat,k≤len∧i= .int .i64 (k:Int)∧R=inP (zs.drop (2*k)) n∧Below w.heap.size w wr) (fun i _=>len-(intOf i).toNat)
 case atStart=>exact⟨0,Nat.zero_le _,rfl,by simpa using HR.out,Below.refl _ _⟩
 case round=>
  obtain⟨k,hk,rfl,hr,hb⟩:=hrel
  by_cases hlt:k<len
  ·have hs:=inP_step zs n (2*k) (by rw[←HZ.out];omega)
   have hc0:wr.cell? ⟨b,off+k*2,none⟩=some (.int .i32 (zs.getD (2*k) 0)):=by
    rw[Nat.mul_comm k 2]
    exact(hb.cell (p:=⟨b,off+2*k,none⟩) hbl).trans (hc (2*k) (by rw[←HZ.out];omega))
   have hc1:wr.cell? ⟨b,off+k*2+1,none⟩=some (.int .i32 (zs.getD (2*k+1) 0)):=by
    rw[Nat.mul_comm k 2,Nat.add_assoc]
    exact(hb.cell (p:=⟨b,off+(2*k+1),none⟩) hbl).trans (hc (2*k+1) (by rw[←HZ.out];omega))
   generalize zs.getD (2*k) 0=lo at hc0 hs
   generalize zs.getD (2*k+1) 0=hi at hc1 hs
   rw[←hr]at hs
   have HS:=Lib.hid hs
   clear hc hs hr
   have hb1:=hb.alloc hb.size (Obj.cells #[Value.int IntKind.i32 lo,Value.int IntKind.i32 hi] 157)
   go_wp2
   ·have h1:lo≤n:=by assumption
    have h2:n≤hi:=by assumption
    go_ret
    exact⟨by rw[HS.out];simp[h1,h2],hb1⟩
   all_goals
    have hx:(decide (lo≤n)&&decide (n≤hi))=false:=by
     rw[Bool.and_eq_false_iff,decide_eq_false_iff_not,decide_eq_false_iff_not]
     omega
    rw[hx,Bool.false_or]at HS
    go_roundw
    case rel=>exact⟨k+1,by omega,by go_num,HS.out,hb1⟩
    case measure=>simp[intOf];omega
  ·have hf:=inP_end zs n (2*k) (by rw[←HZ.out];omega)
   rw[←hr]at hf
   have HF:=Lib.hid hf
   clear hf hr
   go_wp2
   go_ret
   exact⟨by rw[HF.out];rfl,hb⟩
theorem within_new (zs:List Int)(len cap:Nat)(C:Array Value)(n:Int)(w:World)(T:TypeId)(hC:C=(zs.map (Value.int .i32)).toArray)(hz:2*len=zs.length)(hbig:len≤1000):
 Calls Tryz.prog 143 #[.slice (some ⟨w.heap.size,0,none⟩) len cap,.int .i32 n] (w.alloc (.cells C T)) fun e w'=>e= .returned (.bool (inP zs n))∧Below w.heap.size w w':=by
 refine(within_any _ 0 len cap n zs _ hz hbig (by simp) ?_).mono ?_
 ·intro j hj
  rw[Nat.zero_add,World.cell?_alloc_new,hC]
  simp[List.getD,List.getElem?_eq_getElem hj]
 ·rintro e w' ⟨he,hb⟩
  exact⟨he,((Below.refl _ _).alloc (Nat.le_refl _) _).trans (hb.mono (by simp))⟩
def isM:List Int:=[9,10,13,13,0x20,0xd7ff,0xe000,0xfffd,0x10000,0x10ffff]
theorem isM_eq (n:Int):inP isM n=isC n:=by
 unfold isC isL isM
 simp only[inP]
 rw[Bool.eq_iff_iff]
 simp only[Bool.or_eq_true,Bool.and_eq_true,decide_eq_true_eq,Bool.false_eq_true,or_false]
 omega
set_option maxHeartbeats 400000 in
theorem is_any (n:Int)(w:World):
 Calls Tryz.prog 97 #[.int .i32 n] w fun e w'=>e= .returned (.bool (isC n))∧Below w.heap.size w w':=by
 go_enter Tryz.func97,Tryz.ntmps97
 go_wp2_with fail
 refine(within_new isM 5 5 _ n w _ rfl rfl (by decide)).mono ?_
 rintro e w' ⟨rfl,hb⟩
 go_wp2_with fail
 go_ret
 exact⟨by rw[←isM_eq];rfl,hb⟩
end Char
namespace Char
open Go.RowKit
theorem width_pos (s:ByteArray)(pos:Nat)(h:pos<s.size):1≤(Utf8.decode s pos).2:=by
 by_cases ha:(s[pos]'h).toNat<128
 ·rw[decode_ascii s pos h ha]
  exact Nat.le_refl _
 ·exact(decode_high s pos h (by omega)).2
set_option maxHeartbeats 400000 in
theorem text_any (s:ByteArray)(w:World)(hs:s.size≤9223372036854775807)(hT:Tabs w):
 Calls Tryz.prog 57 #[.string s] w fun e w'=>e= .returned (.bool (txD s.data.toList))∧Below w.heap.size w w':=by
 have hV:=valid_any s w hs hT
 clear hT
 obtain⟨R,hR⟩:∃R,R=txD s.data.toList:=⟨_,rfl⟩
 rw[←hR]
 unfold txD at hR
 generalize Lib.validD s.data.toList=v at hV hR
 have HR:=Lib.hid hR
 clear hR
 have HV:=Lib.hid hV
 clear hV
 go_enter Tryz.func57,Tryz.ntmps57
 go_wp2_with fail
 refine HV.out.mono ?_
 rintro e w1 ⟨rfl,hb1⟩
 clear HV
 cases v
 ·go_wp2_with fail
  go_ret
  exact⟨by rw[HR.out];rfl,hb1⟩
 ·go_wp2_with fail
  go_loopw [] (fun wr=>∃pos:Nat,wr.heap[w1.heap.size]? =some (.stringIter s pos)∧Below w.heap.size w wr∧R=allR isC (s.data.toList.drop pos)) (fun wr=>s.size-wr.iterPos w1.heap.size)
  case atStart=>exact⟨0,World.iter_heap w1 s 0,hb1.alloc hb1.size _,by simpa using HR.out⟩
  case round=>
   obtain⟨pos,hit,hbw,hr⟩:=hrel
   have hsz:w1.heap.size<wr.heap.size:=(Array.getElem?_eq_some_iff.1 hit).1
   have hip:wr.iterPos w1.heap.size=pos:=iterPos_of hit
   by_cases hp:pos<s.size
   ·have hst:=allR_at isC s pos hp
    have hwd:=width_pos s pos hp
    have hnx:∀ty,(Instr.next (.pointer (some ⟨w1.heap.size,0,none⟩)) true ty).run Tryz.prog wr=_:=fun ty=>Lib.run_next_any_at wr w1.heap.size s pos ty hit hp
    have hit2:=Lib.iterAt_heap wr w1.heap.size s pos (pos+(Utf8.decode s pos).2) hit
    have hbw2:=Lib.below_iterAt hbw (k:=w1.heap.size) hb1.size s (pos+(Utf8.decode s pos).2)
    generalize (Utf8.decode s pos).1=r at hst hnx
    generalize (Utf8.decode s pos).2=d at hst hnx hwd hit2 hbw2
    generalize wr.iterAt w1.heap.size s (pos+d)=W1 at hnx hit2 hbw2
    rw[←hr]at hst
    have HS:=Lib.hid hst
    have HI:=Lib.hid hit2
    have HP:=Lib.hid hip
    clear hst hr hit hit2 hip
    go_wp2_with fail
    refine(is_any (r:Int) W1).mono ?_
    rintro e W2 ⟨rfl,hb2⟩
    have hbw3:=hbw2.trans (hb2.mono hbw2.size)
    have hz1:w1.heap.size<W1.heap.size:=(Array.getElem?_eq_some_iff.1 HI.out).1
    have hit3:W2.heap[w1.heap.size]? =some (.stringIter s (pos+d)):=(hb2.block _ hz1).trans HI.out
    have HI3:=Lib.hid hit3
    clear hit3
    generalize isC (r:Int)=v at HS
    cases v
    ·go_wp2_with fail
     go_ret
     exact⟨by rw[HS.out];rfl,hbw3⟩
    ·go_wp2_with fail
     go_roundw
     case rel=>exact⟨pos+d,HI3.out,hbw3,by rw[HS.out];rfl⟩
     case measure=>
      rw[iterPos_of HI3.out,HP.out]
      omega
   ·have hf:=drop_end s pos hp
    rw[hf,allR_nil]at hr
    have hnx:∀ty,(Instr.next (.pointer (some ⟨w1.heap.size,0,none⟩)) true ty).run Tryz.prog wr=_:=fun ty=>Lib.run_next_end_at wr w1.heap.size s pos ty hit hp
    have HF:=Lib.hid hr
    clear hf hr hit hip
    go_wp2_with fail
    go_ret
    exact⟨by rw[HF.out];rfl,hbw⟩
end Char
namespace Char
open Go.RowKit
def spM:List Int:=[9,10,13,13,0x20,0x20]
theorem spM_eq (n:Int):inP spM n=spC n:=by
 unfold spC spM
 simp only[inP]
 rw[Bool.eq_iff_iff]
 simp only[Bool.or_eq_true,Bool.and_eq_true,decide_eq_true_eq,Bool.false_eq_true,or_false,beq_iff_eq]
 omega
set_option maxHeartbeats 400000 in
theorem chSpace_any (n:Int)(w:World):
 Calls Tryz.prog 99 #[.int .i32 n] w fun e w'=>e= .returned (.bool (spC n))∧Below w.heap.size w w':=by
 go_enter Tryz.func99,Tryz.ntmps99
 go_wp2_with fail
 refine(within_new spM 3 3 _ n w _ rfl rfl (by decide)).mono ?_
 rintro e w' ⟨rfl,hb⟩
 go_wp2_with fail
 go_ret
 exact⟨by rw[←spM_eq];rfl,hb⟩
def stA:Array Value:=(stL.map (Value.int .i32)).toArray
set_option maxHeartbeats 400000 in
theorem chStart_any (n:Int)(w:World):
 Calls Tryz.prog 120 #[.int .i32 n] w fun e w'=>e= .returned (.bool (stC n))∧Below w.heap.size w w':=by
 go_enter Tryz.func120,Tryz.ntmps120
 go_wp2_with (first
  |((with_reducible refine wpList_buildTo rfl 175 _ rfl _ rfl stA (by kernel_rfl) ?_))
  |((with_reducible refine wpList_store_row rfl 175 _ _ rfl w.heap.size stA rfl rfl 175 _ (heap_alloc_last w _) (by kernel_rfl) rfl (by kernel_rfl) ?_);rw[World.setRow_alloc_new]))
 refine(within_new stL 15 15 _ n w _ rfl rfl (by decide)).mono ?_
 rintro e w' ⟨rfl,hb⟩
 go_wp2_with fail
 go_ret
 exact⟨rfl,hb⟩
def paA:Array Value:=(paL.map (Value.int .i32)).toArray
set_option maxHeartbeats 400000 in
theorem chPart_any (n:Int)(w:World):
 Calls Tryz.prog 121 #[.int .i32 n] w fun e w'=>e= .returned (.bool (paC n))∧Below w.heap.size w w':=by
 unfold paC
 generalize hs:stC n=s
 have HS:=Lib.hid hs
 clear hs
 go_enter Tryz.func121,Tryz.ntmps121
 go_wp2_with (first
  |((with_reducible refine wpList_buildTo rfl 158 _ rfl _ rfl paA (by kernel_rfl) ?_))
  |((with_reducible refine wpList_store_row rfl 158 _ _ rfl w.heap.size paA rfl rfl 158 _ (heap_alloc_last w _) (by kernel_rfl) rfl (by kernel_rfl) ?_);rw[World.setRow_alloc_new]))
 have hb0:=(Below.refl w.heap.size w).alloc (Nat.le_refl _) (Obj.cells paA 158)
 refine(chStart_any n _).mono ?_
 rintro e w1 ⟨rfl,hb1⟩
 have hbb:=hb0.trans (hb1.mono (by simp))
 have hz:w.heap.size<w1.heap.size:=by have :=hb1.size;simp at this;omega
 have hcl:∀j,j<paL.length→w1.cell? ⟨w.heap.size,0+j,none⟩=some (.int .i32 (paL.getD j 0)):=by
  intro j hj
  rw[hb1.cell (p:=⟨w.heap.size,0+j,none⟩) (by simp),Nat.zero_add,World.cell?_alloc_new]
  unfold paA
  simp[List.getD,List.getElem?_eq_getElem hj]
 rw[HS.out]
 cases s
 ·have hwn:Calls Tryz.prog 143 #[.slice (some ⟨w.heap.size,0,none⟩) 5 5,.int .i32 n] w1 _:=within_any w.heap.size 0 5 5 n paL w1 rfl (by decide) hz hcl
  clear hcl
  go_wp2_with fail
  refine hwn.mono ?_
  rintro e w' ⟨rfl,hb2⟩
  go_wp2_with fail
  go_ret
  exact⟨rfl,hbb.trans (hb2.mono hbb.size)⟩
 ·clear hcl
  go_wp2_with fail
  go_ret
  exact⟨rfl,hbb⟩
def aheadR (s:ByteArray)(pos:Nat):Bool:=if pos=0 then stC ((Utf8.decode s 0).1:Int) else true
set_option maxHeartbeats 400000 in
theorem chName_any (s:ByteArray)(w:World)(hs:s.size≤9223372036854775807)(hT:Tabs w):
 Calls Tryz.prog 69 #[.string s] w fun e w'=>e= .returned (.bool (nmD s))∧Below w.heap.size w w':=by
 have hV:=text_any s w hs hT
 clear hT
 obtain⟨R,hR⟩:∃R,R=nmD s:=⟨_,rfl⟩
 rw[←hR]
 unfold nmD at hR
 by_cases h0:s.size=0
 ·have HR:=Lib.hid hR
  clear hR hV
  have h0b:((s.size:Int)==0)=true:=by simp[h0]
  have H0:=Lib.hid h0
  clear h0
  go_enter Tryz.func69,Tryz.ntmps69
  go_wp2_with fail
  go_ret
  exact⟨by rw[HR.out,H0.out];rfl,Below.refl _ _⟩
 have h0b:((s.size:Int)==0)=false:=by rw[beq_eq_false_iff_ne];omega
 by_cases h32:32<s.size
 ·have h32z:(32:Int)<(s.size:Int):=by omega
  have e32:decide (s.size≤32)=false:=decide_eq_false (by omega)
  rw[e32,Bool.and_false,Bool.false_and,Bool.false_and]at hR
  have HR:=Lib.hid hR
  clear hR hV e32 h32
  go_enter Tryz.func69,Tryz.ntmps69
  go_wp2_with fail
  go_ret
  exact⟨by rw[HR.out];rfl,Below.refl _ _⟩
 have h32z:¬(32:Int)<(s.size:Int):=by omega
 rw[decide_eq_true (by omega:0<s.size),decide_eq_true (by omega:s.size≤32),Bool.true_and,Bool.true_and]at hR
 generalize txD s.data.toList=v at hV hR
 have HR:=Lib.hid hR
 clear hR
 have HV:=Lib.hid hV
 clear hV
 go_enter Tryz.func69,Tryz.ntmps69
 go_wp2_with fail
 refine HV.out.mono ?_
 rintro e w1 ⟨rfl,hb1⟩
 clear HV
 cases v
 ·go_wp2_with fail
  go_ret
  exact⟨by rw[HR.out];rfl,hb1⟩
 ·go_wp2_with fail
  go_loopw [] (fun wr=>∃pos:Nat,wr.heap[w1.heap.size]? =some (.stringIter s pos)∧Below w.heap.size w wr∧R=(aheadR s pos&&allR paC (s.data.toList.drop pos))) (fun wr=>s.size-wr.iterPos w1.heap.size)
  case atStart=>exact⟨0,World.iter_heap w1 s 0,hb1.alloc hb1.size _,by simpa [aheadR] using HR.out⟩
  case round=>
   obtain⟨pos,hit,hbw,hr⟩:=hrel
   have hsz:w1.heap.size<wr.heap.size:=(Array.getElem?_eq_some_iff.1 hit).1
   have hip:wr.iterPos w1.heap.size=pos:=iterPos_of hit
   by_cases hp:pos<s.size
   ·have hst:=allR_at paC s pos hp
    have hwd:=width_pos s pos hp
    have hnx:∀ty,(Instr.next (.pointer (some ⟨w1.heap.size,0,none⟩)) true ty).run Tryz.prog wr=_:=fun ty=>Lib.run_next_any_at wr w1.heap.size s pos ty hit hp
    have hit2:=Lib.iterAt_heap wr w1.heap.size s pos (pos+(Utf8.decode s pos).2) hit
    have hbw2:=Lib.below_iterAt hbw (k:=w1.heap.size) hb1.size s (pos+(Utf8.decode s pos).2)
    have hah:aheadR s pos=(if pos=0 then stC ((Utf8.decode s pos).1:Int) else true):=by
     unfold aheadR
     by_cases h:pos=0
     ·rw[if_pos h,if_pos h,h]
     ·rw[if_neg h,if_neg h]
    generalize (Utf8.decode s pos).1=r at hst hnx hah
    have hd0:aheadR s (pos+(Utf8.decode s pos).2)=true:=by unfold aheadR;rw[if_neg (by omega)]
    generalize (Utf8.decode s pos).2=d at hst hnx hwd hit2 hbw2 hd0
    generalize wr.iterAt w1.heap.size s (pos+d)=W1 at hnx hit2 hbw2
    rw[hst,hah]at hr
    have HS:=Lib.hid hr
    have HI:=Lib.hid hit2
    have HP:=Lib.hid hip
    have HD:=Lib.hid hd0
    clear hst hr hit hit2 hip hah hd0
    have hz1:w1.heap.size<W1.heap.size:=(Array.getElem?_eq_some_iff.1 HI.out).1
    have fin:∀W2,Below W1.heap.size W1 W2→W2.heap[w1.heap.size]? =some (.stringIter s (pos+d))∧Below w.heap.size w W2:=fun W2 hb2=>⟨(hb2.block _ hz1).trans HI.out,hbw2.trans (hb2.mono hbw2.size)⟩
    by_cases hp0:pos=0
    ·have hp0b:((pos:Int)==0)=true:=by simp[hp0]
     have hs2:=HS.out
     rw[if_pos hp0]at hs2
     have HS2:=Lib.hid hs2
     clear hs2 HS hp0
     go_wp2_with fail
     refine(chStart_any (r:Int) W1).mono ?_
     rintro e W2 ⟨rfl,hb2⟩
     generalize stC (r:Int)=c at HS2
     cases c
     ·go_wp2_with fail
      go_ret
      exact⟨by rw[HS2.out];rfl,(fin _ hb2).2⟩
     ·go_wp2_with fail
      refine(chPart_any (r:Int) W2).mono ?_
      rintro e W3 ⟨rfl,hb3⟩
      have hb23:=hb2.trans (hb3.mono hb2.size)
      generalize paC (r:Int)=c2 at HS2
      cases c2
      ·go_wp2_with fail
       go_ret
       exact⟨by rw[HS2.out];rfl,(fin _ hb23).2⟩
      ·go_wp2_with fail
       go_roundw
       case rel=>exact⟨pos+d,(fin _ hb23).1,(fin _ hb23).2,by rw[HS2.out,HD.out];rfl⟩
       case measure=>
        rw[iterPos_of (fin _ hb23).1,HP.out]
        omega
    ·have hp0b:((pos:Int)==0)=false:=by rw[beq_eq_false_iff_ne];omega
     have hs2:=HS.out
     rw[if_neg hp0]at hs2
     have HS2:=Lib.hid hs2
     clear hs2 HS hp0
     go_wp2_with fail
     refine(chPart_any (r:Int) W1).mono ?_
     rintro e W2 ⟨rfl,hb2⟩
     generalize paC (r:Int)=c2 at HS2
     cases c2
     ·go_wp2_with fail
      go_ret
      exact⟨by rw[HS2.out];rfl,(fin _ hb2).2⟩
     ·go_wp2_with fail
      go_roundw
      case rel=>exact⟨pos+d,(fin _ hb2).1,(fin _ hb2).2,by rw[HS2.out,HD.out];rfl⟩
      case measure=>
       rw[iterPos_of (fin _ hb2).1,HP.out]
       omega
   ·have hf:=drop_end s pos hp
    have hah:aheadR s pos=true:=by unfold aheadR;rw[if_neg (by omega)]
    rw[hf,allR_nil,hah]at hr
    have hnx:∀ty,(Instr.next (.pointer (some ⟨w1.heap.size,0,none⟩)) true ty).run Tryz.prog wr=_:=fun ty=>Lib.run_next_end_at wr w1.heap.size s pos ty hit hp
    have HF:=Lib.hid hr
    clear hf hr hit hip hah
    go_wp2_with fail
    go_ret
    exact⟨by rw[HF.out];rfl,hbw⟩
end Char
namespace Char
open Go.RowKit
set_option maxHeartbeats 400000 in
theorem refSpace_any (n:Int)(w:World):
 Calls Tryz.prog 82 #[.int .i64 n] w fun e w'=>e= .returned (.bool (spC n))∧w=w':=by
 go_enter Tryz.func82,Tryz.ntmps82
 go_wp2_with fail
 all_goals go_ret
 all_goals exact⟨by unfold spC;simp_all,rfl⟩
end Char
namespace Char
open Go.RowKit Go.Lib
theorem slice_mid6 (l:List UInt8)(i j:Nat)(h:i≤j)(hj:j≤l.length)(wx:World):(Instr.slice 9 (.string (bs l)) (some (.int .i64 (i:Int))) (some (.int .i64 (j:Int))) none).run Tryz.prog wx= .ok (.string (bs ((l.drop i).take (j-i)))) wx:=by
 have :=run_slice_string (P:=Tryz.prog) wx 9 (bs l) .i64 .i64 (i:Int) (j:Int) Tryz.underlying9 (by omega) (by omega) (by rw[bs_size];omega)
 rw[show(i:Int).toNat=i by omega,show(j:Int).toNat=j by omega,bs_ext]at this
 exact this
theorem slice_from (l:List UInt8)(i:Nat)(h:i≤l.length)(wx:World):(Instr.slice 9 (.string (bs l)) (some (.int .i64 (i:Int))) none none).run Tryz.prog wx= .ok (.string (bs (l.drop i))) wx:=by
 have hs:=bs_size l
 have :=run_slice_string_l (P:=Tryz.prog) wx 9 (bs l) Tryz.underlying9 .i64 (i:Int) (by omega) (by omega)
 rw[this,show(i:Int).toNat=i by omega,hs,bs_ext]
 have e:(l.drop i).take (l.length-i)=l.drop i:=List.take_of_length_le (by rw[List.length_drop];omega)
 rw[e]
theorem ret_i {k:IntKind}{a b:Int}(h:a=b):Ending.returned (.int k a)= .returned (.int k b):=by rw[h]
theorem ret_b {a b:Bool}(h:a=b):Ending.returned (.bool a)= .returned (.bool b):=by rw[h]
set_option maxRecDepth 100000 in
set_option maxHeartbeats 4000000 in
theorem find_any (l t:List UInt8)(p:Nat)(w:World)(hl:l.length≤60000)(hp:p≤60010)(ht:0<t.length)(ht2:t.length≤1000):
 Calls Tryz.prog 77 #[.string (bs l),.int .i64 (p:Int),.string (bs t)] w fun e w'=>e= .returned (.int .i64 (fnd l t p))∧w=w':=by
 obtain⟨R,hR⟩:∃R,fnd l t p=R:=⟨_,rfl⟩
 rw[hR]
 have HR:=Lib.hid hR
 have hsz:=bs_size l
 have hst:=bs_size t
 clear hR
 go_enter Tryz.func77,Tryz.ntmps77
 go_wp2_with fail
 go_loop [7] (fun v=>∃k:Nat,v= .int .i64 (k:Int)∧k≤60020∧Hid (p≤k∧fnd l t k=R)) (fun v=>60030-(RowKit.intOf v).toNat)
 case atStart=>exact⟨p,rfl,by omega,Lib.hid ⟨Nat.le_refl _,HR.out⟩⟩
 case round=>
  obtain⟨k,rfl,hk,HK⟩:=hrel
  by_cases hlt:k+t.length≤l.length
  ·have hsl:=slice_mid6 l k (k+t.length) (by omega) hlt
   rw[show(((k+t.length:Nat)):Int)=(k:Int)+(t.length:Int) by omega,Nat.add_sub_cancel_left]at hsl
   have hpt:=pre_take t (l.drop k) (by rw[List.length_drop];omega)
   cases hpre:t.isPrefixOf (l.drop k) with
   |true=>
    rw[hpre]at hpt
    have q:((bs ((l.drop k).take t.length)).toList==(bs t).toList)=true:=by rw[bs_tl,bs_tl];exact hpt.symm
    have HX:Hid ((k:Int)=R):=Lib.hid (by rw[←HK.out.2,fnd_here hpre])
    clear hpt hpre
    generalize (l.drop k).take t.length=N at *
    go_wp2_with fail
    go_ret
    exact⟨ret_i HX.out,rfl⟩
   |false=>
    rw[hpre]at hpt
    have q:((bs ((l.drop k).take t.length)).toList==(bs t).toList)=false:=by rw[bs_tl,bs_tl];exact hpt.symm
    have HX:Hid (p≤k+1∧fnd l t (k+1)=R):=Lib.hid ⟨by have :=HK.out.1;omega,by rw[←HK.out.2,fnd_next (by omega) hpre]⟩
    clear hpt hpre
    generalize (l.drop k).take t.length=N at *
    go_wp2_with fail
    go_round
    case rel=>exact⟨k+1,by go_num,by omega,HX⟩
    case measure=>simp[RowKit.intOf];omega
  ·have HX:Hid ((-1:Int)=R):=Lib.hid (by rw[←HK.out.2,fnd_end (by omega) ht])
   go_wp2_with fail
   go_ret
   exact⟨ret_i HX.out,rfl⟩
set_option maxRecDepth 100000 in
set_option maxHeartbeats 4000000 in
theorem begins12_any (l t:List UInt8)(p:Nat)(w:World)(hl:l.length≤60000)(hp:p≤l.length)(ht:t.length≤1000):
 Calls Tryz.prog 135 #[.string (bs l),.int .i64 (p:Int),.string (bs t)] w fun e w'=>e= .returned (.bool (t.isPrefixOf (l.drop p)))∧w=w':=by
 have hsz:=bs_size l
 have hst:=bs_size t
 by_cases hlt:p+t.length≤l.length
 ·have hsl:=slice_mid6 l p (p+t.length) (by omega) hlt
  rw[show(((p+t.length:Nat)):Int)=(p:Int)+(t.length:Int) by omega,Nat.add_sub_cancel_left]at hsl
  have hpt:=pre_take t (l.drop p) (by rw[List.length_drop];omega)
  have q:((bs ((l.drop p).take t.length)).toList==(bs t).toList)=t.isPrefixOf (l.drop p):=by rw[bs_tl,bs_tl];exact hpt.symm
  generalize t.isPrefixOf (l.drop p)=v at *
  clear hpt
  generalize (l.drop p).take t.length=N at *
  go_enter Tryz.func135,Tryz.ntmps135
  go_wp2_with fail
  go_ret
  exact⟨rfl,rfl⟩
 ·rw[pre_short (show(l.drop p).length<t.length by rw[List.length_drop];omega)]
  go_enter Tryz.func135,Tryz.ntmps135
  go_wp2_with fail
  go_ret
  exact⟨rfl,rfl⟩
end Char
namespace Char
open Go.RowKit Go.Lib Go.Shelf
theorem below_drewN5 (w:World):∀n,Below w.heap.size w (w.drewN n):=fun _=>⟨rfl,rfl,rfl,Nat.le_refl _,fun _ _=>rfl⟩
def MaxL (w:World):Prop:=∃m,w.cell? ⟨2,0,none⟩=some (.int .i64 m)
theorem MaxL.below {w w':World}(h:MaxL w)(hb:Below w.heap.size w w'):MaxL w':=by
 obtain⟨m,hm⟩:=h
 have :2<w.heap.size:=by
  unfold World.cell? at hm
  split at hm
  ·rename_i hh;exact(Array.getElem?_eq_some_iff.1 hh).1
  ·cases hm
 exact⟨m,(hb.cell (p:=⟨2,0,none⟩) this).trans hm⟩
def Gl (w:World):Prop:=Tabs w∧MaxL w
theorem Gl.below {w w':World}(h:Gl w)(hb:Below w.heap.size w w'):Gl w':=⟨h.1.below hb,h.2.below hb⟩
theorem hasp_any (l p:List UInt8)(w:World):Calls Tryz.prog 152 #[.string (bs l),.string (bs p)] w fun e w'=>e= .returned (.bool (p.isPrefixOf l))∧w'=w:=
 Any.strings_HasPrefix layHasP (bs l) (bs p) w
theorem cutp_any (l p:List UInt8)(w:World):Calls Tryz.prog 147 #[.string (bs l),.string (bs p)] w fun e w'=>e= .returned (.tuple #[.string (bs (if p.isPrefixOf l then l.drop p.length else l)),.bool (p.isPrefixOf l)])∧w'=w:=
 Any.strings_CutPrefix layCutP (bs l) (bs p) w
theorem scut_any (l m:List UInt8)(w:World)(hl:l.length≤100000)(hG:MaxL w):
 Calls Tryz.prog 145 #[.string (bs l),.string (bs m)] w fun e w'=>e= .returned (.tuple #[.string (bs (cut l m).1),.string (bs (cut l m).2.1),.bool (cut l m).2.2])∧Below w.heap.size w w':=by
 obtain⟨z,hz⟩:=hG
 have hs:=bs_size l
 refine(Any.strings_Cut layCut (bs l) (bs m) z w (by omega) hz).mono fun e w' h=> ?_
 obtain⟨he,n,rfl⟩:=h
 exact⟨he,below_drewN5 w n⟩
theorem cut_one (q:UInt8)(t:List UInt8):(cut t [q]).1=(if (t.takeWhile (· != q)).length<t.length then t.takeWhile (· != q) else t)∧(cut t [q]).2.2=decide ((t.takeWhile (· != q)).length<t.length):=by
 have hle:=(List.takeWhile_prefix (· != q) (l:=t)).length_le
 have htk:t.take (t.takeWhile (· != q)).length=t.takeWhile (· != q):=by
  have h:=List.takeWhile_append_dropWhile (p:=(· != q)) (l:=t)
  have h2:=List.take_left (l₁:=t.takeWhile (· != q)) (l₂:=t.dropWhile (· != q))
  rwa [h]at h2
 unfold cut
 rw[index_one]
 by_cases h:(t.takeWhile (· != q)).length=t.length
 ·rw[if_pos h,if_neg (by omega),if_neg (by omega),decide_eq_false (by omega)]
  exact⟨rfl,rfl⟩
 ·rw[if_neg h,if_pos (by omega),if_pos (by omega),decide_eq_true (by omega)]
  exact⟨htk,rfl⟩
theorem part_pred (w:World):PredGrows Tryz.prog 121 #[] (fun r=>paC (r:Int)) w:=fun W x _ _=>chPart_any (x:Int) W
theorem space_pred (w:World):PredGrows Tryz.prog 99 #[] (fun r=>spC (r:Int)) w:=fun W x _ _=>chSpace_any (x:Int) W
def dgC (n:Int):Bool:=decide (48≤n)&&decide (n≤57)
set_option maxHeartbeats 400000 in
theorem digit_clos (n:Int)(w:World):Calls Tryz.prog 146 #[.int .i32 n] w fun e w'=>e= .returned (.bool (dgC n))∧w=w':=by
 unfold dgC
 by_cases h1:48≤n
 ·rw[decide_eq_true h1]
  go_enter Tryz.func146,Tryz.ntmps146
  go_wp2_with fail
  go_ret
  exact⟨ret_b (by simp),rfl⟩
 ·rw[decide_eq_false h1]
  go_enter Tryz.func146,Tryz.ntmps146
  go_wp2_with fail
  go_ret
  exact⟨rfl,rfl⟩
theorem digit_pred (w:World):PredGrows Tryz.prog 146 #[] (fun r=>dgC (r:Int)) w:=fun W x _ _=>(digit_clos (x:Int) W).mono fun _ _ h=>⟨h.1,h.2▸Below.refl _ _⟩
theorem dgs_tl:∀l:List UInt8,dgs l=tlL (fun r=>dgC (r:Int)) l
 |[]=>rfl
 |b::t=>by
  rw[tl_step _ (b::t) (by simp)]
  have hd:dgs (b::t)=if Fig.digB b then dgs t+1 else 0:=by
   unfold dgs
   rw[List.takeWhile_cons]
   split<;>rfl
  rw[hd]
  by_cases hb:b.toNat<128
  ·rw[decodeL_ascii b t hb]
   have e:dgC ((b.toNat:Nat):Int)=Fig.digB b:=by
    unfold dgC Fig.digB
    rw[show decide ((48:Int)≤(b.toNat:Int))=decide (48≤b.toNat) from decide_eq_decide.2 (by omega),show decide ((b.toNat:Int)≤57)=decide (b.toNat≤57) from decide_eq_decide.2 (by omega)]
   show _=if dgC ((b.toNat:Nat):Int)=true then 1+tlL _ t else 0
   rw[e,dgs_tl t]
   split
   ·omega
   ·rfl
  ·have h1:=decodeL_high b t hb
   have e1:Fig.digB b=false:=by
    unfold Fig.digB
    rw[Bool.and_eq_false_iff,decide_eq_false_iff_not,decide_eq_false_iff_not]
    omega
   have e2:dgC ((decodeL (b::t)).1:Int)=false:=by
    unfold dgC
    rw[Bool.and_eq_false_iff,decide_eq_false_iff_not,decide_eq_false_iff_not]
    omega
   show _=if dgC ((decodeL (b::t)).1:Int)=true then _ else 0
   rw[e1,e2]
   rfl
set_option maxHeartbeats 1000000 in
theorem behind_any (g:Nat)(p:Nat→Bool)(l:List UInt8)(w:World)(eg:∀args w,(callFunc g args).run Tryz.prog w= .ok (.enter g args) w)(hp:PredGrows Tryz.prog g #[] p w):
 Calls Tryz.prog 98 #[.string (bs l),.func (.func g) #[] #[]] w fun e w'=>e= .returned (.string (bs (l.drop (tlL p l))))∧Below w.heap.size w w':=by
 have hC:=Any.strings_TrimLeftFunc_grows layTrimL g #[] eg p (bs l) w hp
 have he:trimLeftF p (bs l)=bs (l.drop (tlL p l)):=by
  rw[←bs_of (trimLeftF p (bs l)),trimLeft_eq]
  rfl
 rw[he]at hC
 have hC2:Calls Tryz.prog 144 #[.string (bs l),.func (.func g) #[] #[]] w fun e w'=>e= .returned (.string (bs (l.drop (tlL p l))))∧Below w.heap.size w w':=hC
 have HC:=Lib.hid hC2
 clear hC hC2 he hp eg
 generalize l.drop (tlL p l)=t at *
 go_enter Tryz.func98,Tryz.ntmps98
 go_wp2_with fail
 refine HC.out.mono ?_
 rintro e w1 ⟨rfl,hb⟩
 have HB:=Lib.hid hb
 clear hb
 go_wp2_with fail
 go_ret
 exact⟨rfl,HB.out⟩
theorem behindS_any (l:List UInt8)(w:World):Calls Tryz.prog 98 #[.string (bs l),.func (.func 99) #[] #[]] w fun e w'=>e= .returned (.string (bs (dropS l)))∧Below w.heap.size w w':=by
 unfold dropS
 rw[spc_tl l]
 exact behind_any 99 _ l w (enters_of Tryz.func99 (by kernel_rfl) rfl) (space_pred w)
theorem behindD_any (l:List UInt8)(w:World):Calls Tryz.prog 98 #[.string (bs l),.func (.func 146) #[] #[]] w fun e w'=>e= .returned (.string (bs (l.drop (dgs l))))∧Below w.heap.size w w':=by
 rw[dgs_tl l]
 exact behind_any 146 _ l w (enters_of Tryz.func146 (by kernel_rfl) rfl) (digit_pred w)
theorem behindP_any (l:List UInt8)(w:World)(ht:txD l=true):Calls Tryz.prog 98 #[.string (bs l),.func (.func 121) #[] #[]] w fun e w'=>e= .returned (.string (bs (l.drop (runL l))))∧Below w.heap.size w w':=by
 rw[run_tl _ l (Nat.le_refl _) ht]
 exact behind_any 121 _ l w (enters_of Tryz.func121 (by kernel_rfl) rfl) (part_pred w)
theorem slice_to (l:List UInt8)(k:Nat)(h:k≤l.length)(wx:World):(Instr.slice 9 (.string (bs l)) none (some (.int .i64 (k:Int))) none).run Tryz.prog wx= .ok (.string (bs (l.take k))) wx:=by
 have hsz:=bs_size l
 have :=run_slice_string_h (P:=Tryz.prog) wx 9 (bs l) Tryz.underlying9 .i64 (k:Int) (by omega) (by omega)
 rw[this,show(k:Int).toNat=k by omega,bs_ext]
 rfl
set_option maxHeartbeats 2000000 in
theorem lexRun_any (l:List UInt8)(w:World)(hl:l.length≤100000)(ht:txD l=true):Calls Tryz.prog 150 #[.string (bs l)] w fun e w'=>e= .returned (.string (bs (l.take (runL l))))∧Below w.heap.size w w':=by
 have hC:=behindP_any l w ht
 have hk:=run_le _ l (Nat.le_refl _)
 generalize runL l=k at *
 have hsl:=slice_to l k hk
 have hs1:=bs_size l
 have hs2:=bs_size (l.drop k)
 rw[List.length_drop]at hs2
 have hwr:IntKind.i64.wrap ((l.length:Int)-((l.length-k:Nat):Int))=(k:Int):=by
  rw[show(l.length:Int)-((l.length-k:Nat):Int)=(k:Int) by omega]
  exact IntWalk.i64_in _ (by omega)
 generalize l.take k=V at *
 generalize l.drop k=t at *
 have HC:=Lib.hid hC
 clear hC
 go_enter Tryz.func150,Tryz.ntmps150
 go_wp2_with fail
 refine HC.out.mono ?_
 rintro e w1 ⟨rfl,hb1⟩
 have HB:=Lib.hid hb1
 clear hb1
 go_wp2_with fail
 go_ret
 exact⟨rfl,HB.out⟩
end Char
namespace Fig
open Go.Proofs.YtlmpkpjjakallaaGreatDoor.Char Go.RowKit Go.Shelf
theorem rep_nought (c:Nat)(w:World)(hc:c≤6):
 Calls Tryz.prog 195 #[.string ⟨#[48]⟩,.int .i64 (c:Int)] w fun e w'=>e= .returned (.string (bs (List.replicate c (chr 0))))∧Below w.heap.size w w':=by
 refine(Any.strings_Repeat layRep layRepX ⟨#[48]⟩ c w (by omega) (by show 1*c≤_;omega)).mono ?_
 rintro e w' ⟨rfl,hb⟩
 refine⟨?_,hb⟩
 have h:=Lib.repeatL_replicate 48 1 c
 rw[Nat.mul_one]at h
 show Ending.returned (.string ⟨(Lib.repeatL [48] c).toArray⟩)=_
 rw[show([48]:List UInt8)=List.replicate 1 48 from rfl,h]
 rfl
end Fig
end Go.Proofs.YtlmpkpjjakallaaGreatDoor
