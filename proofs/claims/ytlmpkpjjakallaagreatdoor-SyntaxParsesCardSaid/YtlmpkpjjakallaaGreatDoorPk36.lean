import Derived.Test.YtlmpkpjjakallaaGreatDoorPk12
import Derived.Laws.StructEq
import Derived.Test.YtlmpkpjjakallaaGreatDoorPk05
import Derived.StillTailTactics
import Derived.Deep.CutBlock
import Derived.Deep.DeepCutAuto
import Derived.Test.YtlmpkpjjakallaaGreatDoorPk35
import Derived.Test.YtlmpkpjjakallaaGreatDoorCards
import Derived.Test.YtlmpkpjjakallaaGreatDoorTie
import Derived.Test.YtlmpkpjjakallaaGreatDoorPk02
import Derived.PinnedBridge
import Derived.Lay
import Derived.Lib.LaidIn
import Derived.Lib.LaidU8T
import Derived.Lib.LaidTab
import Derived.Deep.DeepHandedRow
import Derived.Deep.DeepWitnessRowRef
import Derived.ProofKit
import Derived.OpenShut
import Derived.JoinedCond
import Derived.SizedLaws
import Derived.Shelf.Vars
import Derived.LaidLaws
namespace Go.Proofs.YtlmpkpjjakallaaGreatDoor
namespace Char
open Go.RowKit Go.Lib
theorem ne_dec (a b c d:Int)(w:World):(binOp .neq 24 (.agg #[.int .i64 a,.int .i64 b]) (.agg #[.int .i64 c,.int .i64 d])).run Tryz.prog w= .ok (.bool (!decide (a=c∧b=d))) w:=by
 have u9:=Tryz.underlying3
 have u8:=Tryz.underlying2
 have a9:=Tryz.isAgg3
 have a8:=Tryz.isAgg2
 have z9:=Tryz.sizeOf3
 have z8:=Tryz.sizeOf2
 have hS:Tryz.prog.underlying 24=some (.struct (Tryz.prog.fieldsOf 24)):=by kernel_rfl
 have hp:Tryz.prog.stoodInHeld 24=false:=by kernel_rfl
 rw[run_neq_struct,show(10000:Nat)=9999+1 from rfl,run_equalIn_agg w 9999 24 _ _ hS hp]
 simp only[Program.fieldsOf,Tryz.underlying24]
 by_cases h1:a=c
 ·by_cases h2:b=d
  ·subst h1 h2;go_simp
  ·subst h1;go_simp
 ·go_simp
theorem ne_tst (a c:Int)(n m:List UInt8)(h k:Bool)(w:World):(binOp .neq 60 (.agg #[.int .i64 a,.string (bs n),.bool h]) (.agg #[.int .i64 c,.string (bs m),.bool k])).run Tryz.prog w= .ok (.bool (!decide (a=c∧n=m∧h=k))) w:=by
 have u9:=Tryz.underlying3
 have u8:=Tryz.underlying9
 have u7:=Tryz.underlying4
 have a9:=Tryz.isAgg3
 have a8:=Tryz.isAgg9
 have a7:=Tryz.isAgg4
 have z9:=Tryz.sizeOf3
 have z8:=Tryz.sizeOf9
 have z7:=Tryz.sizeOf4
 have hS:Tryz.prog.underlying 60=some (.struct (Tryz.prog.fieldsOf 60)):=by kernel_rfl
 have hp:Tryz.prog.stoodInHeld 60=false:=by kernel_rfl
 rw[run_neq_struct,show(10000:Nat)=9999+1 from rfl,run_equalIn_agg w 9999 60 _ _ hS hp]
 simp only[Program.fieldsOf,Tryz.underlying60]
 by_cases h1:a=c
 ·by_cases h2:n=m
  ·by_cases h3:h=k
   ·subst h1 h2 h3;go_simp
   ·subst h1 h2;go_simp
  ·subst h1;go_simp;simp[bs_tl,h2]
 ·go_simp
theorem guard_dec (op:BinOp)(x y:Operand)(xs ys:Array Value)(w:World):(eqGuard op 24 x y (.agg xs) (.agg ys)).run Tryz.prog w= .ok () w:=
 run_eqGuard_agg w op 24 x y _ _ (by kernel_rfl)
theorem guard_tst (op:BinOp)(x y:Operand)(xs ys:Array Value)(w:World):(eqGuard op 60 x y (.agg xs) (.agg ys)).run Tryz.prog w= .ok () w:=
 run_eqGuard_agg w op 60 x y _ _ (by kernel_rfl)
end Char
namespace Char
open Go.RowKit Go.Lib
theorem ExAt.cells {w:World}{g off:Nat}{x:Ex}{vk vs:Value}(h:ExAt w g off x vk vs):w.cell? ⟨g,off,none⟩=some (.int .i64 x.op)∧w.cell? ⟨g,off+1,none⟩=some (.string (bs x.s))∧w.cell? ⟨g,off+2,none⟩=some (.int .i64 x.tg)∧w.cell? ⟨g,off+3,none⟩=some (.int .i64 x.vl)∧w.cell? ⟨g,off+4,none⟩=some (.bool x.abs)∧w.cell? ⟨g,off+5,none⟩=some vk∧w.cell? ⟨g,off+6,none⟩=some vs:=
 ⟨h 0 _ rfl,h 1 _ rfl,h 2 _ rfl,h 3 _ rfl,h 4 _ rfl,h 5 _ rfl,h 6 _ rfl⟩
theorem StAt.cells {w:World}{g off:Nat}{x:St}{vp:Value}(h:StAt w g off x vp):w.cell? ⟨g,off,none⟩=some (.int .i64 x.ax)∧w.cell? ⟨g,off+1,none⟩=some (.int .i64 x.tk)∧w.cell? ⟨g,off+2,none⟩=some (.string (bs x.nm))∧w.cell? ⟨g,off+3,none⟩=some (.bool x.has)∧w.cell? ⟨g,off+4,none⟩=some vp:=
 ⟨h 0 _ rfl,h 1 _ rfl,h 2 _ rfl,h 3 _ rfl,h 4 _ rfl⟩
theorem ExAt.lt {w:World}{g off:Nat}{x:Ex}{vk vs:Value}(h:ExAt w g off x vk vs):g<w.heap.size:=cell_lt h.cells.1
theorem StAt.lt {w:World}{g off:Nat}{x:St}{vp:Value}(h:StAt w g off x vp):g<w.heap.size:=cell_lt h.cells.1
theorem StOn.below {w w':World}{F:Nat→Prop}{x:St}{vp:Value}(h:StOn w F x vp)(hb:Below w.heap.size w w'):StOn w' F x vp:=
 StOn.move (fun b hb0 hF=>⟨hF,hb.block b hb0⟩) x vp h
theorem KdOn.below {w w':World}{F:Nat→Prop}{v:Value}{ks:List Ex}(h:KdOn w F v ks)(hb:Below w.heap.size w w'):KdOn w' F v ks:=
 KdOn.move (fun b hb0 hF=>⟨hF,hb.block b hb0⟩) h
theorem SdOn.below {w w':World}{F:Nat→Prop}{v:Value}{ks:List St}(h:SdOn w F v ks)(hb:Below w.heap.size w w'):SdOn w' F v ks:=
 SdOn.move (fun b hb0 hF=>⟨hF,hb.block b hb0⟩) h
theorem KdOn.read {w:World}{F:Nat→Prop}{o:Option Addr}{n j:Nat}{ks:List Ex}(h:KdOn w F (.slice o n j) ks)(k:Nat)(hk:k<ks.length):∃g off vk vs,o=some ⟨g,off,none⟩∧F g∧ExAt w g (off+k*7) ks[k] vk vs∧ExOn w F ks[k] vk vs:=by
 obtain⟨o',j',e,h⟩:=h
 cases e
 rcases h with h|⟨g,off,rfl,hg,hK⟩
 ·rw[h]at hk;cases hk
 ·obtain⟨vk,vs,h1,h2⟩:=hK.at k hk
  exact⟨g,off,vk,vs,rfl,hg.1,h1,h2⟩
theorem KdOn.cap {w:World}{F:Nat→Prop}{o:Option Addr}{n j:Nat}{ks:List Ex}(h:KdOn w F (.slice o n j) ks)(hk:0<ks.length):ks.length≤j:=by
 obtain⟨o',j',e,h⟩:=h
 cases e
 rcases h with h|⟨g,off,rfl,hg,hK⟩
 ·rw[h]at hk;cases hk
 ·exact hg.2
theorem KdOn.tail {w:World}{F:Nat→Prop}{g off n j:Nat}{x:Ex}{ks:List Ex}(h:KdOn w F (.slice (some ⟨g,off,none⟩) n j) (x::ks)):KdOn w F (.slice (some ⟨g,off+7,none⟩) ks.length (j-1)) ks:=by
 obtain⟨o',j',e,h⟩:=h
 cases e
 rcases h with h|⟨g',off',e2,hg,hK⟩
 ·cases h
 ·cases e2
  rw[KsOn]at hK
  refine⟨_,_,rfl,.inr ⟨g,off+7,rfl,⟨hg.1,?_⟩,hK.2⟩⟩
  have :=hg.2
  simp only[List.length_cons]at this
  omega
theorem SdOn.read {w:World}{F:Nat→Prop}{o:Option Addr}{n j:Nat}{ks:List St}(h:SdOn w F (.slice o n j) ks)(k:Nat)(hk:k<ks.length):∃g off vp,o=some ⟨g,off,none⟩∧F g∧StAt w g (off+k*5) ks[k] vp∧StOn w F ks[k] vp:=by
 obtain⟨o',j',e,h⟩:=h
 cases e
 rcases h with h|⟨g,off,rfl,hg,hK⟩
 ·rw[h]at hk;cases hk
 ·obtain⟨vp,h1,h2⟩:=hK.at k hk
  exact⟨g,off,vp,rfl,hg.1,h1,h2⟩
def SamC (f c:Nat):Prop:=∀(a b:Ex) (va vk ua uk:Value) (w:World) (F G:Nat→Prop),cntE a≤c→ExOn w F a va vk→ExOn w G b ua uk→
 Calls Tryz.prog f #[exV a va vk,exV b ua uk] w fun e w'=>e= .returned (.bool (eqE a b))∧Below w.heap.size w w'
end Char
namespace Char
open Go.RowKit Go.Lib
set_option maxRecDepth 100000 in
set_option maxHeartbeats 4000000 in
theorem lists_of (c:Nat)(hS:SamC 12 c)(ks ls:List Ex)(v1 v2:Value)(w:World)(F G:Nat→Prop)(hc:cntEs ks≤c)(hcm:c≤1000)
 (h1:KdOn w F v1 ks) (h2:KdOn w G v2 ls):
 Calls Tryz.prog 30 #[v1,v2] w fun e w'=>e= .returned (.bool (eqEs ks ls))∧Below w.heap.size w w':=by
 have HS:=Lib.hid hS
 clear hS
 have hcl:=cntEs_len ks
 obtain⟨o1,j1,rfl⟩:=h1.form
 obtain⟨o2,j2,rfl⟩:=h2.form
 by_cases e4:ks.length=ls.length
 ·have k4:((ks.length:Int) != (ls.length:Int))=false:=by simp[e4]
  have HL:=Lib.hid e4
  clear e4
  go_enter Tryz.func30,Tryz.ntmps30
  go_wp2_with fail
  go_loopw [5] (fun v wr=>∃j:Nat,v= .int .i64 (j:Int)∧j≤ks.length∧Below w.heap.size w wr∧eqEs ks ls=eqEs (ks.drop j) (ls.drop j)) (fun v _=>ks.length-(RowKit.intOf v).toNat)
  case atStart=>exact⟨0,rfl,Nat.zero_le _,Below.refl _ _,by simp⟩
  case round=>
   obtain⟨j,rfl,hj,hbr,heq⟩:=hrel
   have hlen:=HL.out
   by_cases hlt:j<ks.length
   ·have hlt2:j<ls.length:=by omega
    rw[eqEs_drop _ _ j hlt hlt2]at heq
    obtain⟨_,_,hv1,h1⟩:=h1
    obtain⟨_,_,hv2,h2⟩:=h2
    cases hv1
    cases hv2
    rcases h1 with h0|⟨g,off,rfl,⟨hg,_⟩,hK⟩
    ·rw[h0]at hlt;cases hlt
    obtain⟨va,vk,hat,hon⟩:=hK.at j hlt
    rcases h2 with h0|⟨g',off',rfl,⟨hg',_⟩,hK'⟩
    ·rw[h0]at hlt2;cases hlt2
    obtain⟨ua,uk,hat',hon'⟩:=hK'.at j hlt2
    obtain⟨a0,a1,a2,a3,a4,a5,a6⟩:=(hat.move (hbr.block g hat.lt)).cells
    obtain⟨b0,b1,b2,b3,b4,b5,b6⟩:=(hat'.move (hbr.block g' hat'.lt)).cells
    have hc3:=cntEs_at ks j hlt
    have hc2:=HS.out ks[j] ls[j] va vk ua uk wr.drew F G (by omega) (hon.below hbr.drew) (hon'.below hbr.drew)
    generalize ks[j]=kid at *
    generalize ls[j]=kid' at *
    obtain⟨hn1,hn2⟩:=ExOn.iff.1 hon
    obtain⟨hn3,hn4⟩:=ExOn.iff.1 hon'
    obtain⟨oa',ja',rfl⟩:=hn1.form
    obtain⟨ok',jk',rfl⟩:=hn2.form
    obtain⟨oa2,ja2,rfl⟩:=hn3.form
    obtain⟨ok2,jk2,rfl⟩:=hn4.form
    unfold exV at hc2
    have HC2:=Lib.hid hc2
    have HE:=Lib.hid heq
    have HBR:=Lib.hid hbr
    clear hc2 hon hon' hat hat' hK hK' heq hbr hlen hn1 hn2 hn3 hn4
    cases hr:eqE kid kid' with
    |false=>
     have HR:=Lib.hid hr
     clear hr
     go_wp2_with fail
     go_still_tail 8,(by kernel_rfl)
     change wpList _ _ _ _ _ wr.drew
     go_wp2_with fail
     refine HC2.out.mono ?_
     rintro e w2 ⟨rfl,hb2⟩
     rw[HR.out]
     go_wp2_with fail
     go_ret
     rw[HE.out,HR.out]
     exact⟨rfl,HBR.out.drew.trans (hb2.mono HBR.out.drew.size)⟩
    |true=>
     have HR:=Lib.hid hr
     clear hr
     go_wp2_with fail
     go_still_tail 8,(by kernel_rfl)
     change wpList _ _ _ _ _ wr.drew
     go_wp2_with fail
     refine HC2.out.mono ?_
     rintro e w2 ⟨rfl,hb2⟩
     rw[HR.out]
     go_wp2_with fail
     go_roundw
     case rel=>exact⟨j+1,by go_num,by omega,HBR.out.drew.trans (hb2.mono HBR.out.drew.size),by rw[HE.out,HR.out,Bool.true_and]⟩
     case measure=>simp[RowKit.intOf];omega
   ·have e:j=ks.length:=by omega
    subst e
    rw[eqEs_end _ _ hlen]at heq
    have HE:=Lib.hid heq
    clear heq hlen
    go_wp2_with fail
    go_ret
    rw[HE.out]
    exact⟨rfl,hbr⟩
 ·have k4:((ks.length:Int) != (ls.length:Int))=true:=by rw[bne_iff_ne];omega
  have HD:=Lib.hid (eqEs_len _ _ e4)
  clear e4
  go_enter Tryz.func30,Tryz.ntmps30
  go_wp2_with fail
  go_ret
  rw[HD.out]
  exact⟨rfl,Below.refl _ _⟩
theorem duo_st (w:World)(p q:St)(vp vq:Value):(((w.alloc (boxSt p vp)).alloc (boxSt q vq)).drew).heap[w.heap.size]? =some (boxSt p vp)∧(((w.alloc (boxSt p vp)).alloc (boxSt q vq)).drew).heap[w.heap.size+1]? =some (boxSt q vq)∧Below w.heap.size w (((w.alloc (boxSt p vp)).alloc (boxSt q vq)).drew):=by
 have h1:((w.alloc (boxSt p vp)).alloc (boxSt q vq)).heap[w.heap.size]? =some (boxSt p vp):=(Below.heap_alloc _ _ _ (by simp)).trans (World.alloc_heap_new w _)
 have h2:((w.alloc (boxSt p vp)).alloc (boxSt q vq)).heap[w.heap.size+1]? =some (boxSt q vq):=by simpa using World.alloc_heap_new (w.alloc (boxSt p vp)) (boxSt q vq)
 exact⟨h1,h2,(((Below.refl _ _).alloc (Nat.le_refl _) _).alloc (by simp) _).drew⟩
theorem lists_bool (c:Nat)(hS:SamC 12 c)(hcm:c≤1000):∀(ks ls:List Ex) (v1 v2:Value) (w:World) (F G:Nat→Prop),cntEs ks≤c→KdOn w F v1 ks→KdOn w G v2 ls→
 Calls Tryz.prog 30 #[v1,v2] w fun e w'=>e= .returned (.bool (eqEs ks ls))∧Below w.heap.size w w':=fun ks ls v1 v2 w F G hc h1 h2=>lists_of c hS ks ls v1 v2 w F G hc hcm h1 h2
set_option maxRecDepth 100000 in
set_option maxHeartbeats 8000000 in
theorem refSame_yes (c:Nat)(hS:SamC 12 c)(hcm:c≤1000)(a b:Ex)(va vk ua uk:Value)(w:World)(F G:Nat→Prop)(hc:cntE a≤c+1)(ha:ExOn w F a va vk)(hb:ExOn w G b ua uk)
 (e0:a.op=b.op) (e1:a.s=b.s) (e2:a.tg=b.tg∧a.vl=b.vl) (e3:a.abs=b.abs) (e4:a.ss.length=b.ss.length) (e5:eqEs a.ks b.ks=true):
 Calls Tryz.prog 12 #[exV a va vk,exV b ua uk] w fun e w'=>e= .returned (.bool (eqSs a.ss b.ss))∧Below w.heap.size w w':=by
 obtain⟨ha1,ha2⟩:=ExOn.iff.1 ha
 obtain⟨hb1,hb2⟩:=ExOn.iff.1 hb
 obtain⟨oa,ja,rfl⟩:=ha1.form
 obtain⟨oc,jc,rfl⟩:=ha2.form
 obtain⟨ob,jb,rfl⟩:=hb1.form
 obtain⟨od,jd,rfl⟩:=hb2.form
 have hcd:=cntE_def a
 have hcs:=cntSs_len a.ss
 obtain⟨w1,hw1⟩:∃w1,w1=(w.alloc (boxEx a (.slice oa a.ks.length ja) (.slice oc a.ss.length jc))).alloc (boxEx b (.slice ob b.ks.length jb) (.slice od b.ss.length jd)):=⟨_,rfl⟩
 have b1:Below w.heap.size w w1:=by rw[hw1];exact((Below.refl _ _).alloc (Nat.le_refl _) _).alloc (by simp) _
 have hq:=lists_of c hS a.ks b.ks _ _ w1 F G (by omega) hcm (ha1.below b1) (hb1.below b1)
 rw[e5]at hq
 have s1:w1.heap.size=w.heap.size+2:=by rw[hw1];simp
 have hcl:∀W,Below w1.heap.size w1 W→W.cell? ⟨w.heap.size,5+1,none⟩=some (.slice oc a.ss.length jc)∧W.cell? ⟨w.heap.size+1,5+1,none⟩=some (.slice od b.ss.length jd):=fun W hW=>by
  have h0:w1.cell? ⟨w.heap.size,6,none⟩=some (.slice oc a.ss.length jc):=by rw[hw1];unfold boxEx;go_simp
  have h1:w1.cell? ⟨w.heap.size+1,6,none⟩=some (.slice od b.ss.length jd):=by rw[hw1];unfold boxEx;go_simp
  exact⟨(hW.cell (p:=⟨w.heap.size,6,none⟩) (by show w.heap.size<_;omega)).trans h0,(hW.cell (p:=⟨w.heap.size+1,6,none⟩) (by show w.heap.size+1<_;omega)).trans h1⟩
 simp only[Nat.reduceAdd]at hcl
 have ht:=fun wx=>ne_dec a.tg a.vl b.tg b.vl wx
 rw[decide_eq_true e2]at ht
 simp only[Bool.not_true]at ht
 have hg:=fun x y wx=>guard_dec .neq x y #[.int .i64 a.tg,.int .i64 a.vl] #[.int .i64 b.tg,.int .i64 b.vl] wx
 have k0:(a.op != b.op)=false:=by simp[e0]
 have k1:((bs a.s).toList==(bs b.s).toList)=true:=by rw[e1,beq_iff_eq]
 have k4:((a.ss.length:Int) != (b.ss.length:Int))=false:=by simp[e4]
 have hat:∀W,Below w1.heap.size w1 W→SdOn W F (.slice oc a.ss.length jc) a.ss∧SdOn W G (.slice od b.ss.length jd) b.ss:=fun W hW=>⟨ha2.below (b1.trans (hW.mono b1.size)),hb2.below (b1.trans (hW.mono b1.size))⟩
 have hcc:cntSs a.ss≤c:=by omega
 have hlists:=lists_bool c hS hcm
 unfold boxEx at hw1
 unfold exV
 rw[←e3]at hw1 ⊢
 have HQ:=Lib.hid hq
 have HCL:=Lib.hid hcl
 have HAT:=Lib.hid hat
 have HB:=Lib.hid b1
 have HW:=Lib.hid hw1
 have HL:=Lib.hid e4
 have HCC:=Lib.hid hcc
 have HLI:=Lib.hid hlists
 have hsl:a.ss.length≤1000:=by omega
 clear hq hcl b1 hw1 ha hb ha1 ha2 hb1 hb2 hS hc hcd hcm e0 e1 e2 e3 e4 e5 hcs hat hcc hlists
 go_enter Tryz.func12,Tryz.ntmps12
 go_wp2_with fail
 rw[←HW.out]
 refine HQ.out.mono ?_
 rintro e w2 ⟨rfl,hb2⟩
 obtain⟨c0,c1⟩:=HCL.out _ hb2
 have HB2:=Lib.hid hb2
 clear hb2 HQ HW
 go_wp2_with fail
 clear c0 c1
 go_loopw [5] (fun v wr=>∃j:Nat,v= .int .i64 (j:Int)∧j≤a.ss.length∧Hid (Below w1.heap.size w1 wr∧eqSs a.ss b.ss=eqSs (a.ss.drop j) (b.ss.drop j))) (fun v _=>a.ss.length-(RowKit.intOf v).toNat)
 case atStart=>exact⟨0,rfl,Nat.zero_le _,Lib.hid ⟨HB2.out,by simp⟩⟩
 case round=>
  clear HB2
  obtain⟨j,rfl,hj,HR⟩:=hrel
  obtain⟨c0,c1⟩:=HCL.out _ HR.out.1
  by_cases hlt:j<a.ss.length
  ·have hlt2:j<b.ss.length:=by have :=HL.out;omega
   obtain⟨hat1,hat2⟩:=HAT.out _ HR.out.1
   obtain⟨g,off,va,rfl,hg1,hx1,hx2⟩:=hat1.read j hlt
   obtain⟨g',off',ua,rfl,hg2,hy1,hy2⟩:=hat2.read j hlt2
   have heq:=HR.out.2
   rw[eqSs_drop _ _ j hlt hlt2]at heq
   have hcn:=cntSs_at a.ss j hlt
   have hcs:=cntS_def a.ss[j]
   generalize a.ss[j]=p at *
   generalize b.ss[j]=q at *
   obtain⟨a0,a1,a2,a3,a4⟩:=hx1.cells
   obtain⟨b0,b1,b2,b3,b4⟩:=hy1.cells
   have hn1:=StOn.iff.1 hx2
   have hn2:=StOn.iff.1 hy2
   obtain⟨op,jp,rfl⟩:=hn1.form
   obtain⟨oq,jq,rfl⟩:=hn2.form
   have HE:=Lib.hid heq
   have HBR:=Lib.hid HR.out.1
   have HN1:=Lib.hid hn1
   have HN2:=Lib.hid hn2
   have hgl:g<wr.heap.size:=cell_lt a0
   have hgl':g'<wr.heap.size:=cell_lt b0
   have hz0:w.heap.size<wr.heap.size:=cell_lt c0
   have hz1:w.heap.size+1<wr.heap.size:=cell_lt c1
   clear hx1 hx2 hy1 hy2 heq hat1 hat2 HR hn1 hn2
   go_upto_region 6 with fail
   go_cut [6,7] (fun v6 v7 wx=>∃b6 b7:Nat,v6= .pointer (some ⟨b6,0,none⟩)∧v7= .pointer (some ⟨b7,0,none⟩)∧Hid (wx.heap[b6]? =some (boxSt p (.slice op p.ps.length jp))∧wx.heap[b7]? =some (boxSt q (.slice oq q.ps.length jq))∧Below wr.heap.size wr wx))
   case first=>
    go_region
    all_goals
     go_wp2_with fail
     go_meet
     first
      |exact⟨_,_,rfl,rfl,Lib.hid (duo_st wr p q _ _)⟩
      |exact⟨_,_,rfl,rfl,Lib.hid ⟨(duo_st wr q p _ _).2.1,(duo_st wr q p _ _).1,(duo_st wr q p _ _).2.2⟩⟩
   case rest=>
    clear c0 c1 a0 a1 a2 a3 a4 b0 b1 b2 b3 b4 hgl hgl' hz0 hz1
    obtain⟨b6,b7,rfl,rfl,HD⟩:=hcut
    obtain⟨⟨a0,a1,a2,a3,a4⟩,_⟩:=boxSt_blk HD.out.1
    obtain⟨⟨b0,b1,b2,b3,b4⟩,_⟩:=boxSt_blk HD.out.2.1
    have HBW:=Lib.hid (HBR.out.trans (HD.out.2.2.mono HBR.out.size))
    have HLQ:=Lib.hid (HLI.out p.ps q.ps _ _ wc F G (by have :=HCC.out;omega) (HN1.out.below HD.out.2.2) (HN2.out.below HD.out.2.2))
    clear HN1 HN2 HD HLI HBR HAT HCL
    have hdef:=eqS_def p q
    have ht2:=fun wx=>ne_tst p.tk q.tk p.nm q.nm p.has q.has wx
    have hg3:=fun x y wx=>guard_tst .neq x y #[.int .i64 p.tk,.string (bs p.nm),.bool p.has] #[.int .i64 q.tk,.string (bs q.nm),.bool q.has] wx
    by_cases f0:p.ax=q.ax
    ·have k6:(p.ax != q.ax)=false:=by simp[f0]
     rw[decide_eq_true f0]at hdef
     clear f0
     by_cases f1:p.tk=q.tk∧p.nm=q.nm∧p.has=q.has
     ·rw[decide_eq_true f1]at hdef ht2
      clear f1
      simp only[Bool.not_true]at ht2
      obtain⟨Q,hQ⟩:∃Q,eqEs p.ps q.ps=Q:=⟨_,rfl⟩
      rw[hQ]at hdef HLQ
      clear hQ
      have HE2:=Lib.hid (HE.out.trans (by rw[hdef]))
      clear hdef HE
      cases Q with
      |true=>
       go_wp2_with fail
       refine HLQ.out.mono ?_
       rintro e w3 ⟨rfl,hb3⟩
       have HB3:=Lib.hid (HBW.out.trans (hb3.mono HBW.out.size))
       clear hb3 HBW HLQ
       go_wp2_with fail
       go_roundw
       case rel=>exact⟨j+1,by go_num,by omega,Lib.hid ⟨HB3.out,by rw[HE2.out];rfl⟩⟩
       case measure=>simp[RowKit.intOf];omega
      |false=>
       go_wp2_with fail
       refine HLQ.out.mono ?_
       rintro e w3 ⟨rfl,hb3⟩
       have HB3:=Lib.hid (HBW.out.trans (hb3.mono HBW.out.size))
       clear hb3 HBW HLQ
       go_wp2_with fail
       go_ret
       rw[HE2.out]
       exact⟨rfl,HB.out.trans (HB3.out.mono (by omega))⟩
     ·rw[decide_eq_false f1]at hdef ht2
      clear f1
      simp only[Bool.not_false]at ht2
      have HE2:=Lib.hid (HE.out.trans (by rw[hdef]))
      clear hdef HE
      go_wp2_with fail
      go_ret
      rw[HE2.out]
      exact⟨rfl,HB.out.trans (HBW.out.mono (by omega))⟩
    ·have k6:(p.ax != q.ax)=true:=by simp[f0]
     rw[decide_eq_false f0]at hdef
     clear f0
     have HE2:=Lib.hid (HE.out.trans (by rw[hdef]))
     clear hdef HE
     go_wp2_with fail
     go_ret
     rw[HE2.out]
     exact⟨rfl,HB.out.trans (HBW.out.mono (by omega))⟩
  ·have e:j=a.ss.length:=by omega
   subst e
   have heq:=HR.out.2
   rw[eqSs_end _ _ HL.out]at heq
   have HE:=Lib.hid heq
   have HF:=Lib.hid HR.out.1
   clear heq HR
   go_wp2_with fail
   go_ret
   rw[HE.out]
   exact⟨rfl,HB.out.trans (HF.out.mono (by omega))⟩
end Char
namespace Char
open Go.RowKit Go.Lib
set_option maxRecDepth 100000 in
set_option maxHeartbeats 8000000 in
theorem refSame_of (c:Nat)(hS:SamC 12 c)(hcm:c≤1000):SamC 12 (c+1):=by
 intro a b va vk ua uk w F G hc ha hb
 by_cases hall:a.op=b.op∧a.s=b.s∧(a.tg=b.tg∧a.vl=b.vl)∧a.abs=b.abs∧a.ss.length=b.ss.length∧eqEs a.ks b.ks=true
 ·obtain⟨e0,e1,e2,e3,e4,e5⟩:=hall
  have hdef:eqE a b=eqSs a.ss b.ss:=by rw[eqE_def,decide_eq_true e0,decide_eq_true e1,decide_eq_true e2,decide_eq_true e3,e5];rfl
  rw[hdef]
  exact refSame_yes c hS hcm a b va vk ua uk w F G hc ha hb e0 e1 e2 e3 e4 e5
 obtain⟨ha1,ha2⟩:=ExOn.iff.1 ha
 obtain⟨hb1,hb2⟩:=ExOn.iff.1 hb
 obtain⟨oa,ja,rfl⟩:=ha1.form
 obtain⟨oc,jc,rfl⟩:=ha2.form
 obtain⟨ob,jb,rfl⟩:=hb1.form
 obtain⟨od,jd,rfl⟩:=hb2.form
 have hcd:=cntE_def a
 have hdef:eqE a b=false:=by
  rw[eqE_def]
  by_cases e0:a.op=b.op
  ·by_cases e1:a.s=b.s
   ·by_cases e2:a.tg=b.tg∧a.vl=b.vl
    ·by_cases e3:a.abs=b.abs
     ·by_cases e4:a.ss.length=b.ss.length
      ·cases e5:eqEs a.ks b.ks with
       |true=>exact absurd ⟨e0,e1,e2,e3,e4,e5⟩ hall
       |false=>rw[Bool.false_and,Bool.and_false]
      ·rw[eqSs_len _ _ e4,Bool.and_false,Bool.and_false]
     ·rw[decide_eq_false e3,Bool.and_false,Bool.false_and]
    ·rw[decide_eq_false e2,Bool.and_false,Bool.false_and,Bool.false_and]
   ·rw[decide_eq_false e1,Bool.and_false,Bool.false_and,Bool.false_and,Bool.false_and]
  ·rw[decide_eq_false e0,Bool.false_and,Bool.false_and,Bool.false_and,Bool.false_and]
 rw[hdef]
 clear hdef
 obtain⟨w1,hw1⟩:∃w1,w1=(w.alloc (boxEx a (.slice oa a.ks.length ja) (.slice oc a.ss.length jc))).alloc (boxEx b (.slice ob b.ks.length jb) (.slice od b.ss.length jd)):=⟨_,rfl⟩
 have b1:Below w.heap.size w w1:=by rw[hw1];exact((Below.refl _ _).alloc (Nat.le_refl _) _).alloc (by simp) _
 have hq:=lists_of c hS a.ks b.ks _ _ w1 F G (by omega) hcm (ha1.below b1) (hb1.below b1)
 have ht:=fun wx=>ne_dec a.tg a.vl b.tg b.vl wx
 have hg:=fun x y wx=>guard_dec .neq x y #[.int .i64 a.tg,.int .i64 a.vl] #[.int .i64 b.tg,.int .i64 b.vl] wx
 unfold boxEx at hw1
 unfold exV
 have HB:=Lib.hid b1
 clear b1 ha hb ha1 ha2 hb1 hb2 hS hc hcd hcm
 by_cases e0:a.op=b.op
 ·have k0:(a.op != b.op)=false:=by simp[e0]
  by_cases e1:a.s=b.s
  ·have k1:((bs a.s).toList==(bs b.s).toList)=true:=by rw[e1,beq_iff_eq]
   by_cases e2:a.tg=b.tg∧a.vl=b.vl
   ·rw[decide_eq_true e2]at ht
    simp only[Bool.not_true]at ht
    by_cases e3:a.abs=b.abs
    ·rw[←e3]at hw1 ⊢
     by_cases e4:a.ss.length=b.ss.length
     ·have k4:((a.ss.length:Int) != (b.ss.length:Int))=false:=by simp[e4]
      have e5:eqEs a.ks b.ks=false:=by
       cases e5:eqEs a.ks b.ks with
       |true=>exact absurd ⟨e0,e1,e2,e3,e4,e5⟩ hall
       |false=>rfl
      rw[e5]at hq
      have HQ:=Lib.hid hq
      have HW:=Lib.hid hw1
      clear hall e0 e1 e2 e3 e4 e5 hq hw1
      go_enter Tryz.func12,Tryz.ntmps12
      go_wp2_with fail
      rw[←HW.out]
      refine HQ.out.mono ?_
      rintro e w2 ⟨rfl,hb2⟩
      go_wp2_with fail
      go_ret
      exact⟨rfl,HB.out.trans (hb2.mono HB.out.size)⟩
     ·have k4:((a.ss.length:Int) != (b.ss.length:Int))=true:=by rw[bne_iff_ne];omega
      have HW:=Lib.hid hw1
      clear hall e0 e1 e2 e3 e4 hq hw1
      go_enter Tryz.func12,Tryz.ntmps12
      go_wp2_with fail
      rw[←HW.out]
      go_ret
      exact⟨rfl,HB.out⟩
    ·clear hall e0 e1 e2 hq
     generalize a.abs=p at *
     generalize b.abs=q at *
     cases p<;>cases q
     ·exact absurd rfl e3
     ·have HW:=Lib.hid hw1
      clear e3 hw1
      go_enter Tryz.func12,Tryz.ntmps12
      go_wp2_with fail
      rw[←HW.out]
      go_ret
      exact⟨rfl,HB.out⟩
     ·have HW:=Lib.hid hw1
      clear e3 hw1
      go_enter Tryz.func12,Tryz.ntmps12
      go_wp2_with fail
      rw[←HW.out]
      go_ret
      exact⟨rfl,HB.out⟩
     ·exact absurd rfl e3
   ·rw[decide_eq_false e2]at ht
    simp only[Bool.not_false]at ht
    have HW:=Lib.hid hw1
    clear hall e0 e1 e2 hq hw1
    go_enter Tryz.func12,Tryz.ntmps12
    go_wp2_with fail
    rw[←HW.out]
    go_ret
    exact⟨rfl,HB.out⟩
  ·have k1:((bs a.s).toList==(bs b.s).toList)=false:=by rw[bs_tl,bs_tl,beq_eq_false_iff_ne];exact e1
   have HW:=Lib.hid hw1
   clear hall e0 e1 hq hw1
   go_enter Tryz.func12,Tryz.ntmps12
   go_wp2_with fail
   rw[←HW.out]
   go_ret
   exact⟨rfl,HB.out⟩
 ·have k0:(a.op != b.op)=true:=by simp[e0]
  have HW:=Lib.hid hw1
  clear hall e0 hq hw1
  go_enter Tryz.func12,Tryz.ntmps12
  go_wp2_with fail
  rw[←HW.out]
  go_ret
  exact⟨rfl,HB.out⟩
theorem refSameE_any:∀c,c≤1001→SamC 12 c
 |0,_=>fun a _ _ _ _ _ _ _ _ hc=>by have :=cntE_pos a;omega
 |c+1,h=>refSame_of c (refSameE_any c (by omega)) (by omega)
end Char
namespace Char
open Go.RowKit Go.Lib
def sumEx:Ex:= .mk 10 [] 0 0 false [.mk 10 [] 0 0 false [.mk 19 [] 0 1000000 false [] [],.mk 19 [] 0 2000000 false [] []] [],.mk 19 [] 0 3000000 false [] []] []
theorem sum_parse:parseR [49,32,45,32,50,32,45,32,51]= .inr sumEx:=by kernel_rfl
theorem sum_called (w:World)(hG:Gl w):Calls Tryz.prog 10 #[.string ⟨#[49,32,45,32,50,32,45,32,51]⟩] w fun e w'=>∃(g off j1 j2:Nat) (o2:Option Addr),e= .returned (.tuple #[.agg #[.int .i64 10,.string ⟨#[]⟩,.int .i64 0,.int .i64 0,.bool false,.slice (some ⟨g,off,none⟩) 2 j1,.slice o2 0 j2],.int .i64 0])∧Below w.heap.size w w'∧
 w'.cell? ⟨g,off,none⟩=some (.int .i64 10)∧w'.cell? ⟨g,off+7+2,none⟩=some (.int .i64 0)∧w'.cell? ⟨g,off+7+3,none⟩=some (.int .i64 3000000):=by
 have h:=parse_any [49,32,45,32,50,32,45,32,51] w (by decide) hG
 rw[sum_parse]at h
 refine h.mono ?_
 rintro e w1 ⟨hb1,vk,vs,rfl,q0⟩
 obtain⟨⟨o1,j1,rfl,k1⟩,⟨o2,j2,rfl,k2⟩⟩:=ExOn.iff.1 q0
 rcases k1 with k1|⟨g,off,rfl,hg,k1⟩
 ·cases k1
 obtain⟨uk,us,u1,_⟩:=k1.at 0 (by decide)
 obtain⟨tk,ts,t1,_⟩:=k1.at 1 (by decide)
 have c0:=u1 0 _ rfl
 have c1:=t1 2 _ rfl
 have c2:=t1 3 _ rfl
 simp only[Nat.zero_mul,Nat.one_mul,Nat.add_zero]at c0 c1 c2
 exact⟨g,off,j1,j2,o2,rfl,hb1,c0,c1,c2⟩
set_option maxRecDepth 100000 in
set_option maxHeartbeats 8000000 in
theorem works13_any (w:World)(hG:Gl w):Calls Tryz.prog 9 #[] w fun e w'=>e= .returned (.bool true)∧Below w.heap.size w w':=by
 have HP:=Lib.hid (sum_called w hG)
 clear hG
 go_enter Tryz.func9,Tryz.ntmps9
 go_wp2_with (first
  |(go_at_call 10
    refine HP.out.mono ?_
    rintro e w1 ⟨g,off,j1,j2,o2,rfl,hb1,c0,c1,c2⟩
    have HB1:=Lib.hid (fun o=>hb1.trans ((below_box (w:=w1) o).mono hb1.size))
    have e0:∀o,(w1.alloc o).cell? ⟨g,off,none⟩=some (.int .i64 10):=fun o=>((below_box (w:=w1) o).cell (p:=⟨g,off,none⟩) (cell_lt c0)).trans c0
    have e1:∀o,(w1.alloc o).cell? ⟨g,off+7+2,none⟩=some (.int .i64 0):=fun o=>((below_box (w:=w1) o).cell (p:=⟨g,off+7+2,none⟩) (cell_lt c1)).trans c1
    have e2:∀o,(w1.alloc o).cell? ⟨g,off+7+3,none⟩=some (.int .i64 3000000):=fun o=>((below_box (w:=w1) o).cell (p:=⟨g,off+7+3,none⟩) (cell_lt c2)).trans c2
    clear hb1 HP))
 go_ret
 exact⟨rfl,HB1.out _⟩
end Char
namespace Char
open Go.RowKit Go.Lib
open Go.Proofs.YtlmpkpjjakallaaGreatDoor.Fig (outT outV)
def exO:Nat ⊕ Ex→Ex
 | .inl _=>ex0
 | .inr x=>x
def erO:Nat ⊕ Ex→Nat
 | .inl y=>y
 | .inr _=>0
theorem ParP.any {w w':World}{r:Nat ⊕ Ex}{e:Ending}(h:ParP w r e w'):∃(o1 o2:Option Addr) (j1 j2:Nat),e= .returned (.tuple #[.agg #[.int .i64 (exO r).op,.string (bs (exO r).s),.int .i64 (exO r).tg,.int .i64 (exO r).vl,.bool (exO r).abs,.slice o1 (exO r).ks.length j1,.slice o2 (exO r).ss.length j2],.int .i64 (erO r:Int)])∧ExOn w' (fun _=>True) (exO r) (.slice o1 (exO r).ks.length j1) (.slice o2 (exO r).ss.length j2)∧Below w.heap.size w w':=by
 obtain⟨hb,h⟩:=h
 cases r with
 |inl y=>exact⟨none,none,0,0,h,ExOn.iff.2 ⟨KdOn.nil _ _,SdOn.nil _ _⟩,hb⟩
 |inr x=>
  obtain⟨vk,vs,rfl,hx⟩:=h
  obtain⟨⟨o1,j1,rfl,_⟩,⟨o2,j2,rfl,_⟩⟩:=ExOn.iff.1 hx
  exact⟨o1,o2,j1,j2,rfl,ExOn.move (fun b _ _=>⟨trivial,rfl⟩) _ _ _ hx,hb⟩
theorem exO_cnt (l:List UInt8):cntE (exO (parseR l))≤240:=by
 cases h:parseR l with
 |inl y=>exact(by decide:cntE ex0≤240)
 |inr x=>exact parse_cntD h
set_option maxRecDepth 100000 in
set_option maxHeartbeats 4000000 in
theorem parses_law (s:ByteArray)(w:World)(hG:Gl w):Calls Tryz.prog 3 #[.string s] w fun e w'=>e= .returned (.bool true)∧Below w.heap.size w w':=by
 obtain⟨l,rfl⟩:∃l,s=bs l:=⟨s.data.toList,(bs_of s).symm⟩
 have hsz:=bs_size l
 have HWK:=Lib.hid fun(W:World) (hb:Below w.heap.size w W)=>works13_any W (hG.below hb)
 by_cases hl:500<l.length
 ·have k0:decide ((500:Int)<(l.length:Int))=true:=decide_eq_true (by omega)
  clear hl hG
  go_enter Tryz.func3,Tryz.ntmps3
  go_wp2_with (first
   |(go_at_call 9
     refine(HWK.out _ (Below.refl _ _)).mono ?_
     rintro e w1 ⟨rfl,hb⟩
     have HB:=Lib.hid hb
     clear hb))
  go_ret
  exact⟨rfl,HB.out⟩
 ·have k0:decide ((500:Int)<(l.length:Int))=false:=decide_eq_false (by omega)
  have HP:=Lib.hid (parse_any l w (by omega) hG)
  have HR:=Lib.hid fun(W:World)=>refParse13_any l W (by omega)
  have HC:=Lib.hid (exO_cnt l)
  obtain⟨R,hR⟩:∃R,parseR l=R:=⟨_,rfl⟩
  rw[hR]at HP HR HC
  have k1:((erO R:Int)==(erO R:Int))=true:=by simp
  clear hl hG hR
  go_enter Tryz.func3,Tryz.ntmps3
  go_wp2_with (first
   |(go_at_call 10
     refine HP.out.mono ?_
     intro e w1 h
     obtain⟨o1,o2,j1,j2,rfl,ho,hb⟩:=ParP.any h
     have HB1:=Lib.hid (hb.alloc hb.size (boxEx (exO R) (.slice o1 (exO R).ks.length j1) (.slice o2 (exO R).ss.length j2)))
     have hk1:=World.alloc_heap_new w1 (boxEx (exO R) (.slice o1 (exO R).ks.length j1) (.slice o2 (exO R).ss.length j2))
     have HK1:=Lib.hid hk1
     have HE1:=Lib.hid (ExOn.below ho (below_box (boxEx (exO R) (.slice o1 (exO R).ks.length j1) (.slice o2 (exO R).ss.length j2))))
     clear h ho hb hk1 HP)
   |(go_at_call 11
     refine(HR.out _).mono ?_
     intro e w2 h
     obtain⟨o3,o4,j3,j4,rfl,ho,hb⟩:=ParP.any h
     have hb:Below (w1.alloc (boxEx (exO R) (.slice o1 (exO R).ks.length j1) (.slice o2 (exO R).ss.length j2))).heap.size (w1.alloc (boxEx (exO R) (.slice o1 (exO R).ks.length j1) (.slice o2 (exO R).ss.length j2))) w2:=hb
     have hbx:=hb.trans ((below_box (w:=w2) (boxEx (exO R) (.slice o3 (exO R).ks.length j3) (.slice o4 (exO R).ss.length j4))).mono hb.size)
     have HB2:=Lib.hid (HB1.out.trans (hbx.mono HB1.out.size))
     have HE2:=Lib.hid (HE1.out.below hbx)
     have HZ2:=Lib.hid (ExOn.below ho (below_box (boxEx (exO R) (.slice o3 (exO R).ks.length j3) (.slice o4 (exO R).ss.length j4))))
     obtain⟨⟨a0,a1,a2,a3,a4,a5,a6⟩,_⟩:=boxEx_blk ((hb.block w1.heap.size (by simp)).trans HK1.out)
     have al:w1.heap.size<w2.heap.size:=by have :=hb.size;simp at this;omega
     clear h ho hb hbx HR)
   |(go_at_call 12
     have CS:=refSameE_any 1000 (by omega) (exO R) (exO R) _ _ _ _ _ _ _ (by have :=HC.out;omega) HE2.out HZ2.out
     unfold exV at CS
     rw[eqE_self]at CS
     refine CS.mono ?_
     clear CS
     rintro e w3 ⟨rfl,hb⟩
     have HB3:=Lib.hid (HB2.out.trans (hb.mono HB2.out.size))
     clear hb)
   |(go_at_call 9
     refine(HWK.out w3 HB3.out).mono ?_
     rintro e w4 ⟨rfl,hb⟩
     have HB4:=Lib.hid (HB3.out.trans (hb.mono HB3.out.size))
     clear hb))
  go_ret
  exact⟨rfl,HB4.out⟩
end Char
namespace Char
open Go.ChangeShapes Go.WideShapes Go.ChangeAt Go.RowKit
theorem own:ownKnob Tryz.prog.godebug=none:=by kernel_rfl
def laid:List (String×DataW Unit):=[("unicode/utf8.acceptRanges",Rows.laid_unicode_utf8_acceptRanges),("unicode/utf8.first",Rows.laid_unicode_utf8_first)]
def laidL:List (String×DataW Unit):=[("unicode/utf8.acceptRanges",Lib.acceptData),("unicode/utf8.first",Lib.firstData)]
theorem accept_eq:(Rows.laid_unicode_utf8_acceptRanges:DataW Unit)=Lib.acceptData:=by kernel_rfl
theorem first_eq:Rows.laid_unicode_utf8_first=Lib.firstData:=Pinned.utf8First_eq
theorem laid_eq:laid=laidL:=by
 unfold laid laidL
 rw[accept_eq,first_eq]
noncomputable def laidWorld (os:Os):World:=World.laidAll Tryz.prog os laid
theorem laid_met (os:Os)(args:Array Value):laidMet Tryz.prog laid ((laidWorld os).forCall (fun _ _=>0) ⟨#[],args,[]⟩).memory:=laidMet_laidAll _ (by kernel_rfl) (by kernel_rfl)
theorem maxL_of {W:World}(h:W.ShapedOpen Tryz.prog):MaxL W:=
 cell_of_shapedOpen_int (t:=3) (zero:= #[.int .i64 0]) h (of_decide_eq_true (by kernel_rfl)) (by kernel_rfl) rfl (by kernel_rfl) (by kernel_rfl) Tryz.underlying3
theorem tabs_of {W:World}(hL:laidMetH Tryz.prog laid W):Tabs W:=by
 rw[laid_eq]at hL
 exact utf8Tabs_of_readsT (U8Types.of196 laysValid) ⟨by kernel_rfl,by kernel_rfl,by kernel_rfl,by kernel_rfl,by kernel_rfl,by kernel_rfl,by kernel_rfl⟩ (Lib.laidMet.reads hL (by unfold laidL;simp)) (Lib.laidMet.reads hL (by unfold laidL;simp))
theorem gl_of {W:World}(hL:laidMetH Tryz.prog laid W)(hS:W.ShapedOpen Tryz.prog):Gl W:=⟨tabs_of hL,maxL_of hS⟩
end Char
end Go.Proofs.YtlmpkpjjakallaaGreatDoor
