import Derived.Test.YtlmpkpjjakallaaGreatDoorPt10
import Derived.Test.YtlmpkpjjakallaaGreatDoorPt07
import Derived.Deep.QuietTactic
import Derived.BigQuiet
namespace Go.Proofs.YtlmpkpjjakallaaGreatDoor
namespace Char
open Go.RowKit Go.Lib
set_option maxRecDepth 100000 in
set_option maxHeartbeats 4000000 in
theorem testP_any (k:Int)(nm:List UInt8)(hs:Bool)(w:World)(hn:nm.length≤1048576)(hG:Gl w):
 Calls Tryz.prog 72 #[.agg #[.int .i64 k,.string (bs nm),.bool hs]] w fun e w'=>e= .returned (.bool (testD k nm hs))∧Below w.heap.size w w':=by
 have hsz:=bs_size nm
 have hb0:Below w.heap.size w (w.alloc (boxTe k nm hs)):=below_box _
 have hx0:∀W,Below (w.alloc (boxTe k nm hs)).heap.size (w.alloc (boxTe k nm hs)) W→W.cell? ⟨w.heap.size,0,none⟩=some (.int .i64 k)∧W.cell? ⟨w.heap.size,1,none⟩=some (.string (bs nm)):=fun W hW=>by
  have h:=(hW.block w.heap.size (by simp)).trans (World.alloc_heap_new w _)
  exact⟨(boxTe_blk h).1.1,(boxTe_blk h).1.2.1⟩
 have hrt:=rightT_any k nm hs (w.alloc (boxTe k nm hs))
 have hnm:=fun W (hW:Below w.heap.size w W)=>chName_any (bs nm) W (by omega) (hG.below hW).1
 have hlt:=fun W (hW:Below w.heap.size w W)=>litP_any nm W hn (hG.below hW)
 unfold boxTe at hb0 hx0 hrt
 unfold teW at hrt
 have HB:=Lib.hid hb0
 have HX:=Lib.hid hx0
 have HR:=Lib.hid hrt
 have HN:=Lib.hid hnm
 have HL:=Lib.hid hlt
 unfold testD
 generalize rightT k nm hs=R at *
 clear hb0 hx0 hrt hnm hlt hG
 cases R
 ·go_enter Tryz.func72,Tryz.ntmps72
  go_wp2_with fail
  refine HR.out.mono ?_
  rintro e w1 ⟨rfl,hb1⟩
  go_wp2_with fail
  all_goals
   go_ret
   exact⟨rfl,HB.out.trans (hb1.mono HB.out.size)⟩
 ·by_cases hk:k=1
  ·rw[if_pos hk]
   have k1:(k==1)=true:=by simp[hk]
   clear hk
   go_enter Tryz.func72,Tryz.ntmps72
   go_wp2_with fail
   refine HR.out.mono ?_
   rintro e w1 ⟨rfl,hb1⟩
   obtain⟨c0,c1⟩:=HX.out w1 hb1
   have HB1:=Lib.hid (HB.out.trans (hb1.mono HB.out.size))
   clear hb1
   go_wp2_with fail
   refine(HN.out w1 HB1.out).mono ?_
   rintro e w2 ⟨rfl,hb2⟩
   go_wp2_with fail
   go_ret
   exact⟨by simp,HB1.out.trans (hb2.mono HB1.out.size)⟩
  ·rw[if_neg hk]
   have k1:(k==1)=false:=by simp[hk]
   clear hk
   go_enter Tryz.func72,Tryz.ntmps72
   go_wp2_with fail
   refine HR.out.mono ?_
   rintro e w1 ⟨rfl,hb1⟩
   obtain⟨c0,c1⟩:=HX.out w1 hb1
   have HB1:=Lib.hid (HB.out.trans (hb1.mono HB.out.size))
   clear hb1
   go_wp2_with fail
   refine(HL.out w1 HB1.out).mono ?_
   rintro e w2 ⟨rfl,hb2⟩
   go_wp2_with fail
   go_ret
   exact⟨by simp,HB1.out.trans (hb2.mono HB1.out.size)⟩
end Char
namespace Char
open Go.RowKit Go.Lib
open Go.Proofs.YtlmpkpjjakallaaGreatDoor.Fig (rightB aggV right_any)
theorem ne_sign (m:List UInt8)(r:Int)(w:World):(binOp .neq 101 (.agg #[.string (bs m),.int .i64 r]) (.agg #[.string ⟨#[]⟩,.int .i64 0])).run Tryz.prog w= .ok (.bool (!decide (m=[]∧r=0))) w:=by
 have u9:=Tryz.underlying3
 have u8:=Tryz.underlying9
 have a9:=Tryz.isAgg3
 have a8:=Tryz.isAgg9
 have z9:=Tryz.sizeOf3
 have z8:=Tryz.sizeOf9
 have hS:Tryz.prog.underlying 101=some (.struct (Tryz.prog.fieldsOf 101)):=by kernel_rfl
 have hp:Tryz.prog.stoodInHeld 101=false:=by kernel_rfl
 rw[run_neq_struct,show(10000:Nat)=9999+1 from rfl,run_equalIn_agg w 9999 101 _ _ hS hp]
 simp only[Program.fieldsOf,Tryz.underlying101]
 by_cases h1:m=[]
 ·by_cases h2:r=0
  ·subst h1 h2;go_simp;simp[bs_tl]
  ·subst h1;go_simp
 ·go_simp;simp[bs_tl,h1]
theorem guard_sign (op:BinOp)(x y:Operand)(xs ys:Array Value)(w:World):(eqGuard op 101 x y (.agg xs) (.agg ys)).run Tryz.prog w= .ok () w:=
 run_eqGuard_agg w op 101 x y _ _ (by kernel_rfl)
theorem below_drewNX (w:World)(n:Nat):Below w.heap.size w (w.drewN n):=⟨rfl,rfl,rfl,Nat.le_refl _,fun _ _=>rfl⟩
set_option maxRecDepth 100000 in
set_option maxHeartbeats 8000000 in
theorem fields_neg (tg vl:Int)(s:List UInt8)(ab:Bool)(nk ns j1 j2:Nat)(o1 o2:Option Addr)(w:World):
 Calls Tryz.prog 32 #[.agg #[.int .i64 15,.string (bs s),.int .i64 tg,.int .i64 vl,.bool ab,.slice o1 nk j1,.slice o2 ns j2]] w fun e w'=>e= .returned (.bool (fieldsB 15 tg vl s ab nk ns))∧Below w.heap.size w w':=by
 obtain⟨R,hR⟩:∃R,fieldsB 15 tg vl s ab nk ns=R:=⟨_,rfl⟩
 rw[hR]
 unfold fieldsB at hR
 rw[if_pos rfl]at hR
 obtain⟨K,hK⟩:∃K,decide (nk=1)=K:=⟨_,rfl⟩
 have e1:((nk:Int)==1)=K:=by rw[←hK,Bool.eq_iff_iff,beq_iff_eq,decide_eq_true_iff];omega
 rw[hK]at hR
 clear hK
 obtain⟨T,hT⟩:∃T,s.isEmpty=T:=⟨_,rfl⟩
 obtain⟨N,hN⟩:∃N,decide (tg=0∧vl=0)=N:=⟨_,rfl⟩
 obtain⟨S,hS⟩:∃S,decide (ns=0)=S:=⟨_,rfl⟩
 obtain⟨K0,hK0⟩:∃K,decide (nk=0)=K:=⟨_,rfl⟩
 have he:=bs_emp _ _ hT
 have ht:=fun wx=>eq_dec tg vl 0 0 wx
 have hgd:=fun x y xs ys wx=>guard_dec .eql x y xs ys wx
 have es:((ns:Int)==0)=S:=by rw[←hS,Bool.eq_iff_iff,beq_iff_eq,decide_eq_true_iff];omega
 have ek:((nk:Int)==0)=K0:=by rw[←hK0,Bool.eq_iff_iff,beq_iff_eq,decide_eq_true_iff];omega
 rw[hN]at ht
 unfold way0 at hR
 simp only[hT,hN,hS]at hR
 have HR:=Lib.hid hR
 have hbx:Below w.heap.size w (w.alloc (.cells #[.int .i64 15,.string (bs s),.int .i64 tg,.int .i64 vl,.bool ab,.slice o1 nk j1,.slice o2 ns j2] 28)):=below_box _
 have HB:=Lib.hid fun n=>hbx.trans ((below_drewNX _ n).mono hbx.size)
 clear hT hN hS hK0 hR hbx
 cases ab
 ·go_enter Tryz.func32,Tryz.ntmps32
  go_wp2_with fail
  go_quiet (fail)
  go_wp2_with fail
  go_quiet (fail)
  go_upto_region 19 with fail
  cases T
  ·go_wp2_with fail
   go_ret
   exact⟨by rw[←HR.out];simp,HB.out _⟩
  ·cases N
   ·go_wp2_with fail
    go_ret
    exact⟨by rw[←HR.out];simp,HB.out _⟩
   ·cases K
    ·go_wp2_with fail
     go_ret
     exact⟨by rw[←HR.out];simp,HB.out _⟩
    ·cases S
     ·go_wp2_with fail
      go_ret
      exact⟨by rw[←HR.out];simp,HB.out _⟩
     ·go_wp2_with fail
      go_ret
      exact⟨by rw[←HR.out];simp,HB.out _⟩
 ·go_enter Tryz.func32,Tryz.ntmps32
  go_wp2_with fail
  go_quiet (fail)
  go_wp2_with fail
  go_quiet (fail)
  go_upto_region 19 with fail
  cases T
  ·go_wp2_with fail
   go_ret
   exact⟨by rw[←HR.out];simp,HB.out _⟩
  ·cases N
   ·go_wp2_with fail
    go_ret
    exact⟨by rw[←HR.out];simp,HB.out _⟩
   ·cases K
    ·go_wp2_with fail
     go_ret
     exact⟨by rw[←HR.out];simp,HB.out _⟩
    ·go_wp2_with fail
     go_ret
     exact⟨by rw[←HR.out];simp,HB.out _⟩
set_option maxRecDepth 100000 in
set_option maxHeartbeats 8000000 in
theorem fields_filt (tg vl:Int)(s:List UInt8)(ab:Bool)(nk ns j1 j2:Nat)(o1 o2:Option Addr)(w:World):
 Calls Tryz.prog 32 #[.agg #[.int .i64 17,.string (bs s),.int .i64 tg,.int .i64 vl,.bool ab,.slice o1 nk j1,.slice o2 ns j2]] w fun e w'=>e= .returned (.bool (fieldsB 17 tg vl s ab nk ns))∧Below w.heap.size w w':=by
 obtain⟨R,hR⟩:∃R,fieldsB 17 tg vl s ab nk ns=R:=⟨_,rfl⟩
 rw[hR]
 unfold fieldsB at hR
 rw[if_neg (by decide)]at hR
 rw[if_neg (by decide)]at hR
 rw[if_pos rfl]at hR
 obtain⟨K,hK⟩:∃K,decide (2≤nk)=K:=⟨_,rfl⟩
 have e1:decide ((2:Int)≤(nk:Int))=K:=by rw[←hK,decide_eq_decide];omega
 rw[hK]at hR
 clear hK
 obtain⟨T,hT⟩:∃T,s.isEmpty=T:=⟨_,rfl⟩
 obtain⟨N,hN⟩:∃N,decide (tg=0∧vl=0)=N:=⟨_,rfl⟩
 obtain⟨S,hS⟩:∃S,decide (ns=0)=S:=⟨_,rfl⟩
 obtain⟨K0,hK0⟩:∃K,decide (nk=0)=K:=⟨_,rfl⟩
 have he:=bs_emp _ _ hT
 have ht:=fun wx=>eq_dec tg vl 0 0 wx
 have hgd:=fun x y xs ys wx=>guard_dec .eql x y xs ys wx
 have es:((ns:Int)==0)=S:=by rw[←hS,Bool.eq_iff_iff,beq_iff_eq,decide_eq_true_iff];omega
 have ek:((nk:Int)==0)=K0:=by rw[←hK0,Bool.eq_iff_iff,beq_iff_eq,decide_eq_true_iff];omega
 rw[hN]at ht
 unfold way0 at hR
 simp only[hT,hN,hS]at hR
 have HR:=Lib.hid hR
 have hbx:Below w.heap.size w (w.alloc (.cells #[.int .i64 17,.string (bs s),.int .i64 tg,.int .i64 vl,.bool ab,.slice o1 nk j1,.slice o2 ns j2] 28)):=below_box _
 have HB:=Lib.hid fun n=>hbx.trans ((below_drewNX _ n).mono hbx.size)
 clear hT hN hS hK0 hR hbx
 cases ab
 ·go_enter Tryz.func32,Tryz.ntmps32
  go_wp2_with fail
  go_quiet (fail)
  go_wp2_with fail
  go_quiet (fail)
  go_upto_region 19 with fail
  cases T
  ·go_wp2_with fail
   go_ret
   exact⟨by rw[←HR.out];simp,HB.out _⟩
  ·cases N
   ·go_wp2_with fail
    go_ret
    exact⟨by rw[←HR.out];simp,HB.out _⟩
   ·cases K
    ·go_wp2_with fail
     go_ret
     exact⟨by rw[←HR.out];simp,HB.out _⟩
    ·cases S
     ·go_wp2_with fail
      go_ret
      exact⟨by rw[←HR.out];simp,HB.out _⟩
     ·go_wp2_with fail
      go_ret
      exact⟨by rw[←HR.out];simp,HB.out _⟩
 ·go_enter Tryz.func32,Tryz.ntmps32
  go_wp2_with fail
  go_quiet (fail)
  go_wp2_with fail
  go_quiet (fail)
  go_upto_region 19 with fail
  cases T
  ·go_wp2_with fail
   go_ret
   exact⟨by rw[←HR.out];simp,HB.out _⟩
  ·cases N
   ·go_wp2_with fail
    go_ret
    exact⟨by rw[←HR.out];simp,HB.out _⟩
   ·cases K
    ·go_wp2_with fail
     go_ret
     exact⟨by rw[←HR.out];simp,HB.out _⟩
    ·go_wp2_with fail
     go_ret
     exact⟨by rw[←HR.out];simp,HB.out _⟩
set_option maxRecDepth 100000 in
set_option maxHeartbeats 8000000 in
theorem fields_lit (tg vl:Int)(s:List UInt8)(ab:Bool)(nk ns j1 j2:Nat)(o1 o2:Option Addr)(w:World)(hs:s.length≤1048576)(hG:Gl w):
 Calls Tryz.prog 32 #[.agg #[.int .i64 18,.string (bs s),.int .i64 tg,.int .i64 vl,.bool ab,.slice o1 nk j1,.slice o2 ns j2]] w fun e w'=>e= .returned (.bool (fieldsB 18 tg vl s ab nk ns))∧Below w.heap.size w w':=by
 have hsz:=bs_size s
 obtain⟨R,hR⟩:∃R,fieldsB 18 tg vl s ab nk ns=R:=⟨_,rfl⟩
 rw[hR]
 unfold fieldsB at hR
 rw[if_neg (by decide)]at hR
 rw[if_neg (by decide)]at hR
 rw[if_neg (by decide)]at hR
 rw[if_pos rfl]at hR
 have HL:=Lib.hid fun W (hW:Below w.heap.size w W)=>litP_any s W hs (hG.below hW)
 generalize litD s=L at *
 obtain⟨T,hT⟩:∃T,s.isEmpty=T:=⟨_,rfl⟩
 obtain⟨N,hN⟩:∃N,decide (tg=0∧vl=0)=N:=⟨_,rfl⟩
 obtain⟨S,hS⟩:∃S,decide (ns=0)=S:=⟨_,rfl⟩
 obtain⟨K0,hK0⟩:∃K,decide (nk=0)=K:=⟨_,rfl⟩
 have he:=bs_emp _ _ hT
 have ht:=fun wx=>eq_dec tg vl 0 0 wx
 have hgd:=fun x y xs ys wx=>guard_dec .eql x y xs ys wx
 have es:((ns:Int)==0)=S:=by rw[←hS,Bool.eq_iff_iff,beq_iff_eq,decide_eq_true_iff];omega
 have ek:((nk:Int)==0)=K0:=by rw[←hK0,Bool.eq_iff_iff,beq_iff_eq,decide_eq_true_iff];omega
 rw[hN]at ht
 unfold way0 at hR
 simp only[hN,hS,hK0]at hR
 have HR:=Lib.hid hR
 have hbx:Below w.heap.size w (w.alloc (.cells #[.int .i64 18,.string (bs s),.int .i64 tg,.int .i64 vl,.bool ab,.slice o1 nk j1,.slice o2 ns j2] 28)):=below_box _
 have HB:=Lib.hid fun n=>hbx.trans ((below_drewNX _ n).mono hbx.size)
 clear hT hN hS hK0 hR hbx
 cases ab
 ·go_enter Tryz.func32,Tryz.ntmps32
  go_wp2_with fail
  go_quiet (fail)
  go_wp2_with fail
  go_quiet (fail)
  go_wp2_with fail
  refine(HL.out _ (HB.out _)).mono ?_
  rintro e w1 ⟨rfl,hb1⟩
  have HF:=Lib.hid ((HB.out _).trans (hb1.mono (HB.out _).size))
  clear hb1
  go_upto_region 19 with fail
  cases L
  ·go_wp2_with fail
   go_ret
   exact⟨by rw[←HR.out];simp,HF.out⟩
  ·cases N
   ·go_wp2_with fail
    go_ret
    exact⟨by rw[←HR.out];simp,HF.out⟩
   ·cases K0
    ·go_wp2_with fail
     go_ret
     exact⟨by rw[←HR.out];simp,HF.out⟩
    ·cases S
     ·go_wp2_with fail
      go_ret
      exact⟨by rw[←HR.out];simp,HF.out⟩
     ·go_wp2_with fail
      go_ret
      exact⟨by rw[←HR.out];simp,HF.out⟩
 ·go_enter Tryz.func32,Tryz.ntmps32
  go_wp2_with fail
  go_quiet (fail)
  go_wp2_with fail
  go_quiet (fail)
  go_wp2_with fail
  refine(HL.out _ (HB.out _)).mono ?_
  rintro e w1 ⟨rfl,hb1⟩
  have HF:=Lib.hid ((HB.out _).trans (hb1.mono (HB.out _).size))
  clear hb1
  go_upto_region 19 with fail
  cases L
  ·go_wp2_with fail
   go_ret
   exact⟨by rw[←HR.out];simp,HF.out⟩
  ·cases N
   ·go_wp2_with fail
    go_ret
    exact⟨by rw[←HR.out];simp,HF.out⟩
   ·cases K0
    ·go_wp2_with fail
     go_ret
     exact⟨by rw[←HR.out];simp,HF.out⟩
    ·go_wp2_with fail
     go_ret
     exact⟨by rw[←HR.out];simp,HF.out⟩
set_option maxRecDepth 100000 in
set_option maxHeartbeats 8000000 in
theorem fields_call (tg vl:Int)(s:List UInt8)(ab:Bool)(nk ns j1 j2:Nat)(o1 o2:Option Addr)(w:World)(hs:s.length≤1048576)(hG:Gl w):
 Calls Tryz.prog 32 #[.agg #[.int .i64 20,.string (bs s),.int .i64 tg,.int .i64 vl,.bool ab,.slice o1 nk j1,.slice o2 ns j2]] w fun e w'=>e= .returned (.bool (fieldsB 20 tg vl s ab nk ns))∧Below w.heap.size w w':=by
 have hsz:=bs_size s
 obtain⟨R,hR⟩:∃R,fieldsB 20 tg vl s ab nk ns=R:=⟨_,rfl⟩
 rw[hR]
 unfold fieldsB at hR
 rw[if_neg (by decide)]at hR
 rw[if_neg (by decide)]at hR
 rw[if_neg (by decide)]at hR
 rw[if_neg (by decide)]at hR
 rw[if_neg (by decide)]at hR
 rw[if_pos rfl]at hR
 have HL:=Lib.hid fun W (hW:Below w.heap.size w W)=>funcP_any s W hs (hG.below hW)
 generalize fnD s=L at *
 obtain⟨T,hT⟩:∃T,s.isEmpty=T:=⟨_,rfl⟩
 obtain⟨N,hN⟩:∃N,decide (tg=0∧vl=0)=N:=⟨_,rfl⟩
 obtain⟨S,hS⟩:∃S,decide (ns=0)=S:=⟨_,rfl⟩
 obtain⟨K0,hK0⟩:∃K,decide (nk=0)=K:=⟨_,rfl⟩
 have he:=bs_emp _ _ hT
 have ht:=fun wx=>eq_dec tg vl 0 0 wx
 have hgd:=fun x y xs ys wx=>guard_dec .eql x y xs ys wx
 have es:((ns:Int)==0)=S:=by rw[←hS,Bool.eq_iff_iff,beq_iff_eq,decide_eq_true_iff];omega
 have ek:((nk:Int)==0)=K0:=by rw[←hK0,Bool.eq_iff_iff,beq_iff_eq,decide_eq_true_iff];omega
 rw[hN]at ht
 unfold way0 at hR
 simp only[hN,hS]at hR
 have HR:=Lib.hid hR
 have hbx:Below w.heap.size w (w.alloc (.cells #[.int .i64 20,.string (bs s),.int .i64 tg,.int .i64 vl,.bool ab,.slice o1 nk j1,.slice o2 ns j2] 28)):=below_box _
 have HB:=Lib.hid fun n=>hbx.trans ((below_drewNX _ n).mono hbx.size)
 clear hT hN hS hK0 hR hbx
 cases ab
 ·go_enter Tryz.func32,Tryz.ntmps32
  go_wp2_with fail
  go_quiet (fail)
  go_wp2_with fail
  go_quiet (fail)
  go_wp2_with fail
  refine(HL.out _ (HB.out _)).mono ?_
  rintro e w1 ⟨rfl,hb1⟩
  have HF:=Lib.hid ((HB.out _).trans (hb1.mono (HB.out _).size))
  clear hb1
  go_upto_region 19 with fail
  cases L
  ·go_wp2_with fail
   go_ret
   exact⟨by rw[←HR.out];simp,HF.out⟩
  ·cases N
   ·go_wp2_with fail
    go_ret
    exact⟨by rw[←HR.out];simp,HF.out⟩
   ·cases S
    ·go_wp2_with fail
     go_ret
     exact⟨by rw[←HR.out];simp,HF.out⟩
    ·go_wp2_with fail
     go_ret
     exact⟨by rw[←HR.out];simp,HF.out⟩
 ·go_enter Tryz.func32,Tryz.ntmps32
  go_wp2_with fail
  go_quiet (fail)
  go_wp2_with fail
  go_quiet (fail)
  go_wp2_with fail
  refine(HL.out _ (HB.out _)).mono ?_
  rintro e w1 ⟨rfl,hb1⟩
  have HF:=Lib.hid ((HB.out _).trans (hb1.mono (HB.out _).size))
  clear hb1
  go_upto_region 19 with fail
  cases L
  ·go_wp2_with fail
   go_ret
   exact⟨by rw[←HR.out];simp,HF.out⟩
  ·cases N
   ·go_wp2_with fail
    go_ret
    exact⟨by rw[←HR.out];simp,HF.out⟩
   ·go_wp2_with fail
    go_ret
    exact⟨by rw[←HR.out];simp,HF.out⟩
set_option maxRecDepth 100000 in
set_option maxHeartbeats 8000000 in
theorem fields_var (tg vl:Int)(s:List UInt8)(ab:Bool)(nk ns j1 j2:Nat)(o1 o2:Option Addr)(w:World)(hs:s.length≤1048576)(hG:Gl w):
 Calls Tryz.prog 32 #[.agg #[.int .i64 21,.string (bs s),.int .i64 tg,.int .i64 vl,.bool ab,.slice o1 nk j1,.slice o2 ns j2]] w fun e w'=>e= .returned (.bool (fieldsB 21 tg vl s ab nk ns))∧Below w.heap.size w w':=by
 have hsz:=bs_size s
 obtain⟨R,hR⟩:∃R,fieldsB 21 tg vl s ab nk ns=R:=⟨_,rfl⟩
 rw[hR]
 unfold fieldsB at hR
 rw[if_neg (by decide)]at hR
 rw[if_neg (by decide)]at hR
 rw[if_neg (by decide)]at hR
 rw[if_neg (by decide)]at hR
 rw[if_neg (by decide)]at hR
 rw[if_neg (by decide)]at hR
 rw[if_pos rfl]at hR
 have HL:=Lib.hid fun W (hW:Below w.heap.size w W)=>chName_any (bs s) W (by omega) (hG.below hW).1
 generalize nmD (bs s)=L at *
 obtain⟨T,hT⟩:∃T,s.isEmpty=T:=⟨_,rfl⟩
 obtain⟨N,hN⟩:∃N,decide (tg=0∧vl=0)=N:=⟨_,rfl⟩
 obtain⟨S,hS⟩:∃S,decide (ns=0)=S:=⟨_,rfl⟩
 obtain⟨K0,hK0⟩:∃K,decide (nk=0)=K:=⟨_,rfl⟩
 have he:=bs_emp _ _ hT
 have ht:=fun wx=>eq_dec tg vl 0 0 wx
 have hgd:=fun x y xs ys wx=>guard_dec .eql x y xs ys wx
 have es:((ns:Int)==0)=S:=by rw[←hS,Bool.eq_iff_iff,beq_iff_eq,decide_eq_true_iff];omega
 have ek:((nk:Int)==0)=K0:=by rw[←hK0,Bool.eq_iff_iff,beq_iff_eq,decide_eq_true_iff];omega
 rw[hN]at ht
 unfold way0 at hR
 simp only[hN,hS,hK0]at hR
 have HR:=Lib.hid hR
 have hbx:Below w.heap.size w (w.alloc (.cells #[.int .i64 21,.string (bs s),.int .i64 tg,.int .i64 vl,.bool ab,.slice o1 nk j1,.slice o2 ns j2] 28)):=below_box _
 have HB:=Lib.hid fun n=>hbx.trans ((below_drewNX _ n).mono hbx.size)
 clear hT hN hS hK0 hR hbx
 cases ab
 ·go_enter Tryz.func32,Tryz.ntmps32
  go_wp2_with fail
  go_quiet (fail)
  go_wp2_with fail
  go_quiet (fail)
  go_wp2_with fail
  refine(HL.out _ (HB.out _)).mono ?_
  rintro e w1 ⟨rfl,hb1⟩
  have HF:=Lib.hid ((HB.out _).trans (hb1.mono (HB.out _).size))
  clear hb1
  go_upto_region 19 with fail
  cases L
  ·go_wp2_with fail
   go_ret
   exact⟨by rw[←HR.out];simp,HF.out⟩
  ·cases N
   ·go_wp2_with fail
    go_ret
    exact⟨by rw[←HR.out];simp,HF.out⟩
   ·cases K0
    ·go_wp2_with fail
     go_ret
     exact⟨by rw[←HR.out];simp,HF.out⟩
    ·cases S
     ·go_wp2_with fail
      go_ret
      exact⟨by rw[←HR.out];simp,HF.out⟩
     ·go_wp2_with fail
      go_ret
      exact⟨by rw[←HR.out];simp,HF.out⟩
 ·go_enter Tryz.func32,Tryz.ntmps32
  go_wp2_with fail
  go_quiet (fail)
  go_wp2_with fail
  go_quiet (fail)
  go_wp2_with fail
  refine(HL.out _ (HB.out _)).mono ?_
  rintro e w1 ⟨rfl,hb1⟩
  have HF:=Lib.hid ((HB.out _).trans (hb1.mono (HB.out _).size))
  clear hb1
  go_upto_region 19 with fail
  cases L
  ·go_wp2_with fail
   go_ret
   exact⟨by rw[←HR.out];simp,HF.out⟩
  ·cases N
   ·go_wp2_with fail
    go_ret
    exact⟨by rw[←HR.out];simp,HF.out⟩
   ·cases K0
    ·go_wp2_with fail
     go_ret
     exact⟨by rw[←HR.out];simp,HF.out⟩
    ·go_wp2_with fail
     go_ret
     exact⟨by rw[←HR.out];simp,HF.out⟩
set_option maxRecDepth 100000 in
set_option maxHeartbeats 8000000 in
theorem fields_op (op tg vl:Int)(s:List UInt8)(ab:Bool)(nk ns j1 j2:Nat)(o1 o2:Option Addr)(w:World)(h15:op≠15)(h16:op≠16)(h17:op≠17)(h18:op≠18)(h19:op≠19)(h20:op≠20)(h21:op≠21):
 Calls Tryz.prog 32 #[.agg #[.int .i64 op,.string (bs s),.int .i64 tg,.int .i64 vl,.bool ab,.slice o1 nk j1,.slice o2 ns j2]] w fun e w'=>e= .returned (.bool (fieldsB op tg vl s ab nk ns))∧Below w.heap.size w w':=by
 obtain⟨R,hR⟩:∃R,fieldsB op tg vl s ab nk ns=R:=⟨_,rfl⟩
 rw[hR]
 unfold fieldsB at hR
 rw[if_neg h15]at hR
 have f15:(op==15)=false:=beq_eq_false_iff_ne.2 h15
 rw[if_neg h16]at hR
 have f16:(op==16)=false:=beq_eq_false_iff_ne.2 h16
 rw[if_neg h17]at hR
 have f17:(op==17)=false:=beq_eq_false_iff_ne.2 h17
 rw[if_neg h18]at hR
 have f18:(op==18)=false:=beq_eq_false_iff_ne.2 h18
 rw[if_neg h19]at hR
 have f19:(op==19)=false:=beq_eq_false_iff_ne.2 h19
 rw[if_neg h20]at hR
 have f20:(op==20)=false:=beq_eq_false_iff_ne.2 h20
 rw[if_neg h21]at hR
 have f21:(op==21)=false:=beq_eq_false_iff_ne.2 h21
 clear h15 h16 h17 h18 h19 h20 h21
 obtain⟨K,hK⟩:∃K,decide (nk=2)=K:=⟨_,rfl⟩
 have e1:((nk:Int)==2)=K:=by rw[←hK,Bool.eq_iff_iff,beq_iff_eq,decide_eq_true_iff];omega
 rw[hK]at hR
 clear hK
 have hcl:∀W,Below (w.alloc (.cells #[.int .i64 op,.string (bs s),.int .i64 tg,.int .i64 vl,.bool ab,.slice o1 nk j1,.slice o2 ns j2] 28)).heap.size (w.alloc (.cells #[.int .i64 op,.string (bs s),.int .i64 tg,.int .i64 vl,.bool ab,.slice o1 nk j1,.slice o2 ns j2] 28)) W→W.cell? ⟨w.heap.size,2,none⟩=some (.int .i64 tg)∧W.cell? ⟨w.heap.size,3,none⟩=some (.int .i64 vl)∧W.cell? ⟨w.heap.size,5,none⟩=some (.slice o1 nk j1):=fun W hW=>by
  have h:=(hW.block w.heap.size (by simp)).trans (World.alloc_heap_new w _)
  exact⟨by rw[Lib.cell_of_heap h];rfl,by rw[Lib.cell_of_heap h];rfl,by rw[Lib.cell_of_heap h];rfl⟩
 have HCL:=Lib.hid hcl
 clear hcl
 have HL:=Lib.hid fun W=>operX_any op W
 have hsn:=fun wx=>ne_sign (signE op).1 (signE op).2 wx
 have hsg:=fun x y xs ys wx=>guard_sign .neq x y xs ys wx
 rw[sign_op,Bool.not_not]at hsn
 generalize signE op=G at *
 generalize opB op=L at *
 obtain⟨T,hT⟩:∃T,s.isEmpty=T:=⟨_,rfl⟩
 obtain⟨N,hN⟩:∃N,decide (tg=0∧vl=0)=N:=⟨_,rfl⟩
 obtain⟨S,hS⟩:∃S,decide (ns=0)=S:=⟨_,rfl⟩
 obtain⟨K0,hK0⟩:∃K,decide (nk=0)=K:=⟨_,rfl⟩
 have he:=bs_emp _ _ hT
 have ht:=fun wx=>eq_dec tg vl 0 0 wx
 have hgd:=fun x y xs ys wx=>guard_dec .eql x y xs ys wx
 have es:((ns:Int)==0)=S:=by rw[←hS,Bool.eq_iff_iff,beq_iff_eq,decide_eq_true_iff];omega
 have ek:((nk:Int)==0)=K0:=by rw[←hK0,Bool.eq_iff_iff,beq_iff_eq,decide_eq_true_iff];omega
 rw[hN]at ht
 unfold way0 at hR
 simp only[hT,hN,hS]at hR
 have HR:=Lib.hid hR
 have hbx:Below w.heap.size w (w.alloc (.cells #[.int .i64 op,.string (bs s),.int .i64 tg,.int .i64 vl,.bool ab,.slice o1 nk j1,.slice o2 ns j2] 28)):=below_box _
 have HB:=Lib.hid fun n=>hbx.trans ((below_drewNX _ n).mono hbx.size)
 clear hT hN hS hK0 hR hbx
 cases ab
 ·go_enter Tryz.func32,Tryz.ntmps32
  go_wp2_with fail
  go_quiet (fail)
  go_wp2_with fail
  go_quiet (fail)
  go_wp2_with fail
  refine(HL.out _).mono ?_
  rintro e w1 ⟨rfl,hb1⟩
  have HF:=Lib.hid ((HB.out _).trans (hb1.mono (HB.out _).size))
  obtain⟨d0,d1,d2⟩:=HCL.out w1 ((below_drewNX _ _).trans hb1)
  clear hb1
  cases L
  ·go_upto_region 19 with fail
   cases T
   ·go_wp2_with fail
    go_ret
    exact⟨by rw[←HR.out];simp,HF.out⟩
   ·cases N
    ·go_wp2_with fail
     go_ret
     exact⟨by rw[←HR.out];simp,HF.out⟩
    ·go_wp2_with fail
     go_ret
     exact⟨by rw[←HR.out];simp,HF.out⟩
  ·go_upto_region 19 with fail
   cases T
   ·go_wp2_with fail
    go_ret
    exact⟨by rw[←HR.out];simp,HF.out⟩
   ·cases N
    ·go_wp2_with fail
     go_ret
     exact⟨by rw[←HR.out];simp,HF.out⟩
    ·cases K
     ·go_wp2_with fail
      go_ret
      exact⟨by rw[←HR.out];simp,HF.out⟩
     ·cases S
      ·go_wp2_with fail
       go_ret
       exact⟨by rw[←HR.out];simp,HF.out⟩
      ·go_wp2_with fail
       go_ret
       exact⟨by rw[←HR.out];simp,HF.out⟩
 ·go_enter Tryz.func32,Tryz.ntmps32
  go_wp2_with fail
  go_quiet (fail)
  go_wp2_with fail
  go_quiet (fail)
  go_wp2_with fail
  refine(HL.out _).mono ?_
  rintro e w1 ⟨rfl,hb1⟩
  have HF:=Lib.hid ((HB.out _).trans (hb1.mono (HB.out _).size))
  obtain⟨d0,d1,d2⟩:=HCL.out w1 ((below_drewNX _ _).trans hb1)
  clear hb1
  cases L
  ·go_upto_region 19 with fail
   cases T
   ·go_wp2_with fail
    go_ret
    exact⟨by rw[←HR.out];simp,HF.out⟩
   ·cases N
    ·go_wp2_with fail
     go_ret
     exact⟨by rw[←HR.out];simp,HF.out⟩
    ·go_wp2_with fail
     go_ret
     exact⟨by rw[←HR.out];simp,HF.out⟩
  ·go_upto_region 19 with fail
   cases T
   ·go_wp2_with fail
    go_ret
    exact⟨by rw[←HR.out];simp,HF.out⟩
   ·cases N
    ·go_wp2_with fail
     go_ret
     exact⟨by rw[←HR.out];simp,HF.out⟩
    ·cases K
     ·go_wp2_with fail
      go_ret
      exact⟨by rw[←HR.out];simp,HF.out⟩
     ·go_wp2_with fail
      go_ret
      exact⟨by rw[←HR.out];simp,HF.out⟩
set_option maxRecDepth 100000 in
set_option maxHeartbeats 8000000 in
theorem fields_num (tg vl:Int)(s:List UInt8)(ab:Bool)(nk ns j1 j2:Nat)(o1 o2:Option Addr)(w:World):
 Calls Tryz.prog 32 #[.agg #[.int .i64 19,.string (bs s),.int .i64 tg,.int .i64 vl,.bool ab,.slice o1 nk j1,.slice o2 ns j2]] w fun e w'=>e= .returned (.bool (fieldsB 19 tg vl s ab nk ns))∧Below w.heap.size w w':=by
 obtain⟨R,hR⟩:∃R,fieldsB 19 tg vl s ab nk ns=R:=⟨_,rfl⟩
 rw[hR]
 unfold fieldsB at hR
 rw[if_neg (by decide)]at hR
 rw[if_neg (by decide)]at hR
 rw[if_neg (by decide)]at hR
 rw[if_neg (by decide)]at hR
 rw[if_pos rfl]at hR
 have hcl:∀W,Below (w.alloc (.cells #[.int .i64 19,.string (bs s),.int .i64 tg,.int .i64 vl,.bool ab,.slice o1 nk j1,.slice o2 ns j2] 28)).heap.size (w.alloc (.cells #[.int .i64 19,.string (bs s),.int .i64 tg,.int .i64 vl,.bool ab,.slice o1 nk j1,.slice o2 ns j2] 28)) W→W.cell? ⟨w.heap.size,2,none⟩=some (.int .i64 tg)∧W.cell? ⟨w.heap.size,3,none⟩=some (.int .i64 vl)∧W.cell? ⟨w.heap.size,5,none⟩=some (.slice o1 nk j1):=fun W hW=>by
  have h:=(hW.block w.heap.size (by simp)).trans (World.alloc_heap_new w _)
  exact⟨by rw[Lib.cell_of_heap h];rfl,by rw[Lib.cell_of_heap h];rfl,by rw[Lib.cell_of_heap h];rfl⟩
 have HCL:=Lib.hid hcl
 clear hcl
 have HL:=Lib.hid fun W=>right_any tg vl W
 unfold aggV at HL
 unfold numD at hR
 obtain⟨A,hA⟩:∃A,decide (tg=0)=A:=⟨_,rfl⟩
 have e1:(tg==0)=A:=by rw[←hA];exact beq_decX _ _
 rw[hA]at hR
 obtain⟨V,hV⟩:∃A,decide (0≤vl)=A:=⟨_,rfl⟩
 rw[hV]at hR
 clear hA
 generalize rightB tg vl=L at *
 obtain⟨T,hT⟩:∃T,s.isEmpty=T:=⟨_,rfl⟩
 obtain⟨N,hN⟩:∃N,decide (tg=0∧vl=0)=N:=⟨_,rfl⟩
 obtain⟨S,hS⟩:∃S,decide (ns=0)=S:=⟨_,rfl⟩
 obtain⟨K0,hK0⟩:∃K,decide (nk=0)=K:=⟨_,rfl⟩
 have he:=bs_emp _ _ hT
 have ht:=fun wx=>eq_dec tg vl 0 0 wx
 have hgd:=fun x y xs ys wx=>guard_dec .eql x y xs ys wx
 have es:((ns:Int)==0)=S:=by rw[←hS,Bool.eq_iff_iff,beq_iff_eq,decide_eq_true_iff];omega
 have ek:((nk:Int)==0)=K0:=by rw[←hK0,Bool.eq_iff_iff,beq_iff_eq,decide_eq_true_iff];omega
 rw[hN]at ht
 unfold way0 at hR
 simp only[hT,hS,hK0]at hR
 have HR:=Lib.hid hR
 have hbx:Below w.heap.size w (w.alloc (.cells #[.int .i64 19,.string (bs s),.int .i64 tg,.int .i64 vl,.bool ab,.slice o1 nk j1,.slice o2 ns j2] 28)):=below_box _
 have HB:=Lib.hid fun n=>hbx.trans ((below_drewNX _ n).mono hbx.size)
 clear hT hN hS hK0 hR hbx
 cases ab
 ·go_enter Tryz.func32,Tryz.ntmps32
  go_wp2_with fail
  go_quiet (fail)
  go_wp2_with fail
  go_quiet (fail)
  go_wp2_with fail
  refine(HL.out _).mono ?_
  rintro e w1 ⟨rfl,hb1⟩
  have HF:=Lib.hid ((HB.out _).trans (hb1.mono (HB.out _).size))
  obtain⟨d0,d1,d2⟩:=HCL.out w1 ((below_drewNX _ _).trans hb1)
  clear hb1
  cases L
  ·go_upto_region 19 with fail
   cases T
   ·go_wp2_with fail
    go_ret
    exact⟨by rw[←HR.out];simp,HF.out⟩
   ·go_wp2_with fail
    go_ret
    exact⟨by rw[←HR.out];simp,HF.out⟩
  ·cases A
   ·go_upto_region 19 with fail
    cases T
    ·go_wp2_with fail
     go_ret
     exact⟨by rw[←HR.out];simp,HF.out⟩
    ·go_wp2_with fail
     go_ret
     exact⟨by rw[←HR.out];simp,HF.out⟩
   ·go_upto_region 19 with fail
    cases T
    ·go_wp2_with fail
     go_ret
     exact⟨by rw[←HR.out];simp,HF.out⟩
    ·cases V
     ·go_wp2_with fail
      go_ret
      exact⟨by rw[←HR.out];simp,HF.out⟩
     ·cases K0
      ·go_wp2_with fail
       go_ret
       exact⟨by rw[←HR.out];simp,HF.out⟩
      ·cases S
       ·go_wp2_with fail
        go_ret
        exact⟨by rw[←HR.out];simp,HF.out⟩
       ·go_wp2_with fail
        go_ret
        exact⟨by rw[←HR.out];simp,HF.out⟩
 ·go_enter Tryz.func32,Tryz.ntmps32
  go_wp2_with fail
  go_quiet (fail)
  go_wp2_with fail
  go_quiet (fail)
  go_wp2_with fail
  refine(HL.out _).mono ?_
  rintro e w1 ⟨rfl,hb1⟩
  have HF:=Lib.hid ((HB.out _).trans (hb1.mono (HB.out _).size))
  obtain⟨d0,d1,d2⟩:=HCL.out w1 ((below_drewNX _ _).trans hb1)
  clear hb1
  cases L
  ·go_upto_region 19 with fail
   cases T
   ·go_wp2_with fail
    go_ret
    exact⟨by rw[←HR.out];simp,HF.out⟩
   ·go_wp2_with fail
    go_ret
    exact⟨by rw[←HR.out];simp,HF.out⟩
  ·cases A
   ·go_upto_region 19 with fail
    cases T
    ·go_wp2_with fail
     go_ret
     exact⟨by rw[←HR.out];simp,HF.out⟩
    ·go_wp2_with fail
     go_ret
     exact⟨by rw[←HR.out];simp,HF.out⟩
   ·go_upto_region 19 with fail
    cases T
    ·go_wp2_with fail
     go_ret
     exact⟨by rw[←HR.out];simp,HF.out⟩
    ·cases V
     ·go_wp2_with fail
      go_ret
      exact⟨by rw[←HR.out];simp,HF.out⟩
     ·cases K0
      ·go_wp2_with fail
       go_ret
       exact⟨by rw[←HR.out];simp,HF.out⟩
      ·go_wp2_with fail
       go_ret
       exact⟨by rw[←HR.out];simp,HF.out⟩
set_option maxRecDepth 100000 in
set_option maxHeartbeats 8000000 in
theorem fields_path (tg vl:Int)(s:List UInt8)(ab:Bool)(nk ns j1 j2:Nat)(o1 o2:Option Addr)(w:World):
 Calls Tryz.prog 32 #[.agg #[.int .i64 16,.string (bs s),.int .i64 tg,.int .i64 vl,.bool ab,.slice o1 nk j1,.slice o2 ns j2]] w fun e w'=>e= .returned (.bool (fieldsB 16 tg vl s ab nk ns))∧Below w.heap.size w w':=by
 obtain⟨R,hR⟩:∃R,fieldsB 16 tg vl s ab nk ns=R:=⟨_,rfl⟩
 rw[hR]
 unfold fieldsB at hR
 rw[if_neg (by decide)]at hR
 rw[if_pos rfl]at hR
 obtain⟨K,hK⟩:∃K,decide (nk≤1)=K:=⟨_,rfl⟩
 have e1:decide ((nk:Int)≤1)=K:=by rw[←hK,decide_eq_decide];omega
 rw[hK]at hR
 clear hK
 have hcl:∀W,Below (w.alloc (.cells #[.int .i64 16,.string (bs s),.int .i64 tg,.int .i64 vl,.bool ab,.slice o1 nk j1,.slice o2 ns j2] 28)).heap.size (w.alloc (.cells #[.int .i64 16,.string (bs s),.int .i64 tg,.int .i64 vl,.bool ab,.slice o1 nk j1,.slice o2 ns j2] 28)) W→W.cell? ⟨w.heap.size,2,none⟩=some (.int .i64 tg)∧W.cell? ⟨w.heap.size,3,none⟩=some (.int .i64 vl)∧W.cell? ⟨w.heap.size,5,none⟩=some (.slice o1 nk j1):=fun W hW=>by
  have h:=(hW.block w.heap.size (by simp)).trans (World.alloc_heap_new w _)
  exact⟨by rw[Lib.cell_of_heap h];rfl,by rw[Lib.cell_of_heap h];rfl,by rw[Lib.cell_of_heap h];rfl⟩
 have HCL:=Lib.hid hcl
 clear hcl
 have HL:=Lib.hid fun W=>leadsP_any 16 tg vl s ab nk ns j1 j2 o1 o2 W
 generalize leadsB ab nk ns=L at *
 obtain⟨T,hT⟩:∃T,s.isEmpty=T:=⟨_,rfl⟩
 obtain⟨N,hN⟩:∃N,decide (tg=0∧vl=0)=N:=⟨_,rfl⟩
 obtain⟨S,hS⟩:∃S,decide (ns=0)=S:=⟨_,rfl⟩
 obtain⟨K0,hK0⟩:∃K,decide (nk=0)=K:=⟨_,rfl⟩
 have he:=bs_emp _ _ hT
 have ht:=fun wx=>eq_dec tg vl 0 0 wx
 have hgd:=fun x y xs ys wx=>guard_dec .eql x y xs ys wx
 have es:((ns:Int)==0)=S:=by rw[←hS,Bool.eq_iff_iff,beq_iff_eq,decide_eq_true_iff];omega
 have ek:((nk:Int)==0)=K0:=by rw[←hK0,Bool.eq_iff_iff,beq_iff_eq,decide_eq_true_iff];omega
 rw[hN]at ht
 simp only[hT,hN]at hR
 have HR:=Lib.hid hR
 have hbx:Below w.heap.size w (w.alloc (.cells #[.int .i64 16,.string (bs s),.int .i64 tg,.int .i64 vl,.bool ab,.slice o1 nk j1,.slice o2 ns j2] 28)):=below_box _
 have HB:=Lib.hid fun n=>hbx.trans ((below_drewNX _ n).mono hbx.size)
 clear hT hN hS hK0 hR hbx
 cases ab
 ·go_enter Tryz.func32,Tryz.ntmps32
  go_wp2_with fail
  go_quiet (fail)
  go_wp2_with fail
  go_quiet (fail)
  go_wp2_with fail
  go_region_with (go_at_call 65
                  refine(HL.out _).mono ?_
                  rintro e w1 ⟨rfl,hb1⟩
                  have HF:=Lib.hid ((HB.out _).trans (hb1.mono (HB.out _).size))
                  obtain⟨d0,d1,d2⟩:=HCL.out w1 ((below_drewNX _ _).trans hb1)
                  clear hb1)
  all_goals
   go_upto_region 19 with fail
   cases T
   ·go_wp2_with fail
    go_ret
    exact⟨by rw[←HR.out];simp,HF.out⟩
   ·cases N
    ·go_wp2_with fail
     go_ret
     exact⟨by rw[←HR.out];simp,HF.out⟩
    ·cases K
     ·go_wp2_with fail
      go_ret
      exact⟨by rw[←HR.out];simp,HF.out⟩
     ·cases L
      ·go_wp2_with fail
       go_ret
       exact⟨by rw[←HR.out];simp,HF.out⟩
      ·go_wp2_with fail
       go_ret
       exact⟨by rw[←HR.out];simp,HF.out⟩
 ·go_enter Tryz.func32,Tryz.ntmps32
  go_wp2_with fail
  go_quiet (fail)
  go_wp2_with fail
  go_quiet (fail)
  go_wp2_with fail
  go_region_with (go_at_call 65
                  refine(HL.out _).mono ?_
                  rintro e w1 ⟨rfl,hb1⟩
                  have HF:=Lib.hid ((HB.out _).trans (hb1.mono (HB.out _).size))
                  obtain⟨d0,d1,d2⟩:=HCL.out w1 ((below_drewNX _ _).trans hb1)
                  clear hb1)
  all_goals
   go_upto_region 19 with fail
   cases T
   ·go_wp2_with fail
    go_ret
    exact⟨by rw[←HR.out];simp,HF.out⟩
   ·cases N
    ·go_wp2_with fail
     go_ret
     exact⟨by rw[←HR.out];simp,HF.out⟩
    ·cases K
     ·go_wp2_with fail
      go_ret
      exact⟨by rw[←HR.out];simp,HF.out⟩
     ·cases L
      ·go_wp2_with fail
       go_ret
       exact⟨by rw[←HR.out];simp,HF.out⟩
      ·go_wp2_with fail
       go_ret
       exact⟨by rw[←HR.out];simp,HF.out⟩
theorem fieldsP_any (op tg vl:Int)(s:List UInt8)(ab:Bool)(nk ns j1 j2:Nat)(o1 o2:Option Addr)(w:World)(hs:s.length≤1048576)(hG:Gl w):
 Calls Tryz.prog 32 #[.agg #[.int .i64 op,.string (bs s),.int .i64 tg,.int .i64 vl,.bool ab,.slice o1 nk j1,.slice o2 ns j2]] w fun e w'=>e= .returned (.bool (fieldsB op tg vl s ab nk ns))∧Below w.heap.size w w':=by
 by_cases h15:op=15
 ·subst h15;exact fields_neg tg vl s ab nk ns j1 j2 o1 o2 w
 by_cases h16:op=16
 ·subst h16;exact fields_path tg vl s ab nk ns j1 j2 o1 o2 w
 by_cases h17:op=17
 ·subst h17;exact fields_filt tg vl s ab nk ns j1 j2 o1 o2 w
 by_cases h18:op=18
 ·subst h18;exact fields_lit tg vl s ab nk ns j1 j2 o1 o2 w hs hG
 by_cases h19:op=19
 ·subst h19;exact fields_num tg vl s ab nk ns j1 j2 o1 o2 w
 by_cases h20:op=20
 ·subst h20;exact fields_call tg vl s ab nk ns j1 j2 o1 o2 w hs hG
 by_cases h21:op=21
 ·subst h21;exact fields_var tg vl s ab nk ns j1 j2 o1 o2 w hs hG
 exact fields_op op tg vl s ab nk ns j1 j2 o1 o2 w h15 h16 h17 h18 h19 h20 h21
end Char
namespace Char
open Go.RowKit Go.Lib
def RtC (f c:Nat):Prop:=∀(x:Ex) (vk vs:Value) (w:World) (F:Nat→Prop),cntE x≤c→wfE 1048576 x→ExOn w F x vk vs→Gl w→
 Calls Tryz.prog f #[exV x vk vs] w fun e w'=>e= .returned (.bool (rightE x))∧Below w.heap.size w w'
def RsC (c:Nat):Prop:=∀(x:St) (vp:Value) (w:World) (F:Nat→Prop),cntS x≤c→wfS 1048576 x→StOn w F x vp→Gl w→
 Calls Tryz.prog 35 #[stpV x vp] w fun e w'=>e= .returned (.bool (rightS x))∧Below w.heap.size w w'
set_option maxRecDepth 100000 in
set_option maxHeartbeats 4000000 in
theorem everyE_of (c:Nat)(hS:RtC 15 c)(ks:List Ex)(v:Value)(w:World)(F:Nat→Prop)(hc:cntEs ks≤c)(hcm:c≤1000)(hw:wfEs 1048576 ks)(h1:KdOn w F v ks)(hG:Gl w):
 Calls Tryz.prog 33 #[v,.func (.func 15) #[] #[]] w fun e w'=>e= .returned (.bool (rightEs ks))∧Below w.heap.size w w':=by
 have HS:=Lib.hid hS
 clear hS
 have hcl:=cntEs_len ks
 obtain⟨o1,j1,rfl⟩:=h1.form
 have hm:ks.length≤1000:=by omega
 have HK:=Lib.hid h1
 have HW:=Lib.hid hw
 have HG:=Lib.hid hG
 have HC:=Lib.hid (Nat.le_refl c)
 clear h1 hw hG
 go_enter Tryz.func33,Tryz.ntmps33
 go_wp2_with fail
 go_loopw [9] (fun v wr=>∃j:Nat,v= .int .i64 (j:Int)∧j≤ks.length∧Hid (Below w.heap.size w wr∧rightEs ks=rightEs (ks.drop j))) (fun v _=>ks.length-(RowKit.intOf v).toNat)
 case atStart=>exact⟨0,rfl,Nat.zero_le _,Lib.hid ⟨Below.refl _ _,by simp⟩⟩
 case round=>
  obtain⟨j,rfl,hj,HR⟩:=hrel
  by_cases hlt:j<ks.length
  ·obtain⟨g,off,va,vk,rfl,hg,hat,hon⟩:=HK.out.read j hlt
   have heq:=HR.out.2
   rw[rightEs_drop hlt]at heq
   have hc3:=cntEs_at ks j hlt
   have hq1:∀W,Below w.heap.size w W→ExAt W g (off+j*7) ks[j] va vk:=fun W hW=>hat.move (hW.block g hat.lt)
   have hc2:=fun W (hW:Below w.heap.size w W)=>HS.out ks[j] va vk W F (by omega) (wfEs_at HW.out j hlt) (hon.below hW) (HG.out.below hW)
   generalize ks[j]=kid at *
   obtain⟨hn1,hn2⟩:=ExOn.iff.1 hon
   obtain⟨oa',ja',rfl⟩:=hn1.form
   obtain⟨ok',jk',rfl⟩:=hn2.form
   unfold exV at hc2
   have HC2:=Lib.hid hc2
   have HE:=Lib.hid heq
   have HBR:=Lib.hid HR.out.1
   obtain⟨a0,a1,a2,a3,a4,a5,a6⟩:=(hq1 wr HR.out.1).cells
   have hgl:g<wr.heap.size:=cell_lt a0
   clear hc2 hon hat heq hq1 hn1 hn2 HR
   cases hr:rightE kid with
   |false=>
    have HRR:=Lib.hid hr
    clear hr
    go_wp2_with fail
    obtain⟨W2,hW2⟩:∃W2,W2=wr.alloc (boxEx kid (.slice oa' kid.ks.length ja') (.slice ok' kid.ss.length jk')):=⟨_,rfl⟩
    have hb2:Below w.heap.size w W2:=by rw[hW2];exact HBR.out.alloc HBR.out.size _
    unfold boxEx at hW2
    rw[←hW2]
    clear hW2
    refine(HC2.out W2 hb2).mono ?_
    rintro e w2 ⟨rfl,hb3⟩
    have HB4:=Lib.hid (hb2.trans (hb3.mono hb2.size))
    clear hb2 hb3
    rw[HRR.out]
    go_wp2_with fail
    go_ret
    rw[HE.out,HRR.out]
    exact⟨rfl,HB4.out⟩
   |true=>
    have HRR:=Lib.hid hr
    clear hr
    go_wp2_with fail
    obtain⟨W2,hW2⟩:∃W2,W2=wr.alloc (boxEx kid (.slice oa' kid.ks.length ja') (.slice ok' kid.ss.length jk')):=⟨_,rfl⟩
    have hb2:Below w.heap.size w W2:=by rw[hW2];exact HBR.out.alloc HBR.out.size _
    unfold boxEx at hW2
    rw[←hW2]
    clear hW2
    refine(HC2.out W2 hb2).mono ?_
    rintro e w2 ⟨rfl,hb3⟩
    have HB4:=Lib.hid (hb2.trans (hb3.mono hb2.size))
    clear hb2 hb3
    rw[HRR.out]
    go_wp2_with fail
    go_roundw
    case rel=>exact⟨j+1,by go_num,by omega,Lib.hid ⟨HB4.out,by rw[HE.out,HRR.out,Bool.true_and]⟩⟩
    case measure=>simp[RowKit.intOf];omega
  ·have e:j=ks.length:=by omega
   subst e
   have heq:=HR.out.2
   rw[rightEs_end]at heq
   have HE:=Lib.hid heq
   have HF:=Lib.hid HR.out.1
   clear heq HR
   go_wp2_with fail
   go_ret
   rw[HE.out]
   exact⟨rfl,HF.out⟩
set_option maxRecDepth 100000 in
set_option maxHeartbeats 4000000 in
theorem everyS_of (c:Nat)(hS:RsC c)(ks:List St)(v:Value)(w:World)(F:Nat→Prop)(hc:cntSs ks≤c)(hcm:c≤1000)(hw:wfSs 1048576 ks)(h1:SdOn w F v ks)(hG:Gl w):
 Calls Tryz.prog 34 #[v,.func (.func 35) #[] #[]] w fun e w'=>e= .returned (.bool (rightSs ks))∧Below w.heap.size w w':=by
 have HS:=Lib.hid hS
 clear hS
 have hcl:=cntSs_len ks
 obtain⟨o1,j1,rfl⟩:=h1.form
 have hm:ks.length≤1000:=by omega
 have HK:=Lib.hid h1
 have HW:=Lib.hid hw
 have HG:=Lib.hid hG
 clear h1 hw hG
 go_enter Tryz.func34,Tryz.ntmps34
 go_wp2_with fail
 go_loopw [9] (fun v wr=>∃j:Nat,v= .int .i64 (j:Int)∧j≤ks.length∧Hid (Below w.heap.size w wr∧rightSs ks=rightSs (ks.drop j))) (fun v _=>ks.length-(RowKit.intOf v).toNat)
 case atStart=>exact⟨0,rfl,Nat.zero_le _,Lib.hid ⟨Below.refl _ _,by simp⟩⟩
 case round=>
  obtain⟨j,rfl,hj,HR⟩:=hrel
  by_cases hlt:j<ks.length
  ·obtain⟨g,off,va,rfl,hg,hat,hon⟩:=HK.out.read j hlt
   have heq:=HR.out.2
   rw[rightSs_drop hlt]at heq
   have hc3:=cntSs_at ks j hlt
   have hq1:∀W,Below w.heap.size w W→StAt W g (off+j*5) ks[j] va:=fun W hW=>hat.move (hW.block g hat.lt)
   have hc2:=fun W (hW:Below w.heap.size w W)=>HS.out ks[j] va W F (by omega) (wfSs_at HW.out j hlt) (hon.below hW) (HG.out.below hW)
   generalize ks[j]=kid at *
   have hn1:=StOn.iff.1 hon
   obtain⟨oa',ja',rfl⟩:=hn1.form
   unfold stpV at hc2
   have HC2:=Lib.hid hc2
   have HE:=Lib.hid heq
   have HBR:=Lib.hid HR.out.1
   obtain⟨a0,a1,a2,a3,a4⟩:=(hq1 wr HR.out.1).cells
   have hgl:g<wr.heap.size:=cell_lt a0
   clear hc2 hon hat heq hq1 hn1 HR
   cases hr:rightS kid with
   |false=>
    have HRR:=Lib.hid hr
    clear hr
    go_wp2_with fail
    obtain⟨W2,hW2⟩:∃W2,W2=wr.alloc (boxSt kid (.slice oa' kid.ps.length ja')):=⟨_,rfl⟩
    have hb2:Below w.heap.size w W2:=by rw[hW2];exact HBR.out.alloc HBR.out.size _
    unfold boxSt at hW2
    rw[←hW2]
    clear hW2
    refine(HC2.out W2 hb2).mono ?_
    rintro e w2 ⟨rfl,hb3⟩
    have HB4:=Lib.hid (hb2.trans (hb3.mono hb2.size))
    clear hb2 hb3
    rw[HRR.out]
    go_wp2_with fail
    go_ret
    rw[HE.out,HRR.out]
    exact⟨rfl,HB4.out⟩
   |true=>
    have HRR:=Lib.hid hr
    clear hr
    go_wp2_with fail
    obtain⟨W2,hW2⟩:∃W2,W2=wr.alloc (boxSt kid (.slice oa' kid.ps.length ja')):=⟨_,rfl⟩
    have hb2:Below w.heap.size w W2:=by rw[hW2];exact HBR.out.alloc HBR.out.size _
    unfold boxSt at hW2
    rw[←hW2]
    clear hW2
    refine(HC2.out W2 hb2).mono ?_
    rintro e w2 ⟨rfl,hb3⟩
    have HB4:=Lib.hid (hb2.trans (hb3.mono hb2.size))
    clear hb2 hb3
    rw[HRR.out]
    go_wp2_with fail
    go_roundw
    case rel=>exact⟨j+1,by go_num,by omega,Lib.hid ⟨HB4.out,by rw[HE.out,HRR.out,Bool.true_and]⟩⟩
    case measure=>simp[RowKit.intOf];omega
  ·have e:j=ks.length:=by omega
   subst e
   have heq:=HR.out.2
   rw[rightSs_end]at heq
   have HE:=Lib.hid heq
   have HF:=Lib.hid HR.out.1
   clear heq HR
   go_wp2_with fail
   go_ret
   rw[HE.out]
   exact⟨rfl,HF.out⟩
set_option maxRecDepth 100000 in
set_option maxHeartbeats 4000000 in
theorem stepR_of (c:Nat)(hS:RtC 15 c)(hcm:c≤1000):RsC c:=by
 intro x vp w F hc hw hx hG
 have hx2:=StOn.iff.1 hx
 obtain⟨oa,ja,rfl⟩:=hx2.form
 have hdef:=rightS_def x
 have hcd:=cntS_def x
 obtain⟨⟨_,_,hnl,_⟩,hwp⟩:=(wfS_def _ _).1 hw
 obtain⟨w1,hw1⟩:∃w1,w1=w.alloc (boxSt x (.slice oa x.ps.length ja)):=⟨_,rfl⟩
 have b1:Below w.heap.size w w1:=by rw[hw1];exact below_box _
 have hcl:∀W,Below w1.heap.size w1 W→W.cell? ⟨w.heap.size,1,none⟩=some (.int .i64 x.tk)∧W.cell? ⟨w.heap.size,2,none⟩=some (.string (bs x.nm))∧W.cell? ⟨w.heap.size,3,none⟩=some (.bool x.has)∧W.cell? ⟨w.heap.size,4,none⟩=some (.slice oa x.ps.length ja):=fun W hW=>by
  have h:w1.heap[w.heap.size]? =some (boxSt x (.slice oa x.ps.length ja)):=by rw[hw1];exact World.alloc_heap_new w _
  obtain⟨⟨_,a1,a2,a3,a4⟩,_⟩:=boxSt_blk ((hW.block w.heap.size (by rw[hw1];simp)).trans h)
  exact⟨a1,a2,a3,a4⟩
 have hna:=nameX_any x.ax w1
 have hte:=fun W (hW:Below w.heap.size w W)=>testP_any x.tk x.nm x.has W hnl (hG.below hW)
 have hev:=fun W (hW:Below w.heap.size w W)=>everyE_of c hS x.ps (.slice oa x.ps.length ja) W F (by omega) hcm hwp (hx2.below hW) (hG.below hW)
 have hem:=bs_emp _ _ (nmX_ax x.ax)
 unfold boxSt at hw1
 have HCL:=Lib.hid hcl
 have HB:=Lib.hid b1
 have HW:=Lib.hid hw1
 have HNA:=Lib.hid hna
 have HTE:=Lib.hid hte
 have HEV:=Lib.hid hev
 unfold stepD at hdef
 clear hcl b1 hw1 hna hte hev hx hx2 hS hG hw hc hcd hcm hnl hwp
 unfold stpV
 generalize nmX x.ax=NM at *
 obtain⟨A,hA⟩:∃A,decide (1≤x.ax∧x.ax≤12)=A:=⟨_,rfl⟩
 rw[hA]at hem hdef
 clear hA
 obtain⟨D,hD⟩:∃D,testD x.tk x.nm x.has=D:=⟨_,rfl⟩
 rw[hD]at HTE hdef
 clear hD
 have HD:=Lib.hid hdef
 clear hdef
 cases A
 ·simp only[Bool.not_false]at hem
  go_enter Tryz.func35,Tryz.ntmps35
  go_wp2_with fail
  rw[←HW.out]
  refine HNA.out.mono ?_
  rintro e w2 ⟨rfl,hb2⟩
  go_wp2_with fail
  go_ret
  rw[HD.out]
  exact⟨by simp,HB.out.trans (hb2.mono HB.out.size)⟩
 ·simp only[Bool.not_true]at hem
  cases D
  ·go_enter Tryz.func35,Tryz.ntmps35
   go_wp2_with fail
   rw[←HW.out]
   refine HNA.out.mono ?_
   rintro e w2 ⟨rfl,hb2⟩
   obtain⟨c1,c2,c3,c4⟩:=HCL.out w2 hb2
   have HB2:=Lib.hid (HB.out.trans (hb2.mono HB.out.size))
   clear hb2
   go_wp2_with fail
   refine(HTE.out w2 HB2.out).mono ?_
   rintro e w3 ⟨rfl,hb3⟩
   go_wp2_with fail
   go_ret
   rw[HD.out]
   exact⟨by simp,HB2.out.trans (hb3.mono HB2.out.size)⟩
  ·go_enter Tryz.func35,Tryz.ntmps35
   go_wp2_with fail
   rw[←HW.out]
   refine HNA.out.mono ?_
   rintro e w2 ⟨rfl,hb2⟩
   obtain⟨c1,c2,c3,c4⟩:=HCL.out w2 hb2
   have HB2:=Lib.hid (HB.out.trans (hb2.mono HB.out.size))
   have HBX:=Lib.hid hb2
   clear hb2
   go_wp2_with fail
   refine(HTE.out w2 HB2.out).mono ?_
   rintro e w3 ⟨rfl,hb3⟩
   clear c1 c2 c3 c4
   obtain⟨c1,c2,c3,c4⟩:=HCL.out w3 (HBX.out.trans (hb3.mono HBX.out.size))
   have HB3:=Lib.hid (HB2.out.trans (hb3.mono HB2.out.size))
   clear hb3
   go_wp2_with fail
   refine(HEV.out w3 HB3.out).mono ?_
   rintro e w4 ⟨rfl,hb4⟩
   go_wp2_with fail
   go_ret
   rw[HD.out]
   exact⟨by simp,HB3.out.trans (hb4.mono HB3.out.size)⟩
set_option maxRecDepth 100000 in
set_option maxHeartbeats 4000000 in
theorem rightX_of (c:Nat)(hS:RtC 15 c)(hcm:c≤1000):RtC 15 (c+1):=by
 intro x vk vs w F hc hw hx hG
 obtain⟨hx1,hx2⟩:=ExOn.iff.1 hx
 obtain⟨oa,ja,rfl⟩:=hx1.form
 obtain⟨ob,jb,rfl⟩:=hx2.form
 have hdef:=rightE_def x
 have hcd:=cntE_def x
 obtain⟨⟨_,_,_,hsl,_⟩,hwk,hws⟩:=(wfE_def _ _).1 hw
 obtain⟨w1,hw1⟩:∃w1,w1=w.alloc (boxEx x (.slice oa x.ks.length ja) (.slice ob x.ss.length jb)):=⟨_,rfl⟩
 have b1:Below w.heap.size w w1:=by rw[hw1];exact below_box _
 have hcl:∀W,Below w1.heap.size w1 W→W.cell? ⟨w.heap.size,5,none⟩=some (.slice oa x.ks.length ja)∧W.cell? ⟨w.heap.size,6,none⟩=some (.slice ob x.ss.length jb):=fun W hW=>by
  have h:w1.heap[w.heap.size]? =some (boxEx x (.slice oa x.ks.length ja) (.slice ob x.ss.length jb)):=by rw[hw1];exact World.alloc_heap_new w _
  obtain⟨⟨_,_,_,_,_,a5,a6⟩,_⟩:=boxEx_blk ((hW.block w.heap.size (by rw[hw1];simp)).trans h)
  exact⟨a5,a6⟩
 have hfi:=fieldsP_any x.op x.tg x.vl x.s x.abs x.ks.length x.ss.length ja jb oa ob w1 hsl (hG.below b1)
 have hek:=fun W (hW:Below w.heap.size w W)=>everyE_of c hS x.ks (.slice oa x.ks.length ja) W F (by omega) hcm hwk (hx1.below hW) (hG.below hW)
 have hes:=fun W (hW:Below w.heap.size w W)=>everyS_of c (stepR_of c hS hcm) x.ss (.slice ob x.ss.length jb) W F (by omega) hcm hws (hx2.below hW) (hG.below hW)
 unfold boxEx at hw1
 unfold fieldsE at hdef
 have HCL:=Lib.hid hcl
 have HB:=Lib.hid b1
 have HW:=Lib.hid hw1
 have HFI:=Lib.hid hfi
 have HEK:=Lib.hid hek
 have HES:=Lib.hid hes
 clear hcl b1 hw1 hfi hek hes hx hx1 hx2 hS hG hw hc hcd hcm hsl hwk hws
 unfold exV
 generalize fieldsB x.op x.tg x.vl x.s x.abs x.ks.length x.ss.length=A at *
 obtain⟨D,hD⟩:∃D,rightEs x.ks=D:=⟨_,rfl⟩
 rw[hD]at HEK hdef
 clear hD
 have HD:=Lib.hid hdef
 clear hdef
 cases A
 ·go_enter Tryz.func15,Tryz.ntmps15
  go_wp2_with fail
  rw[←HW.out]
  refine HFI.out.mono ?_
  rintro e w2 ⟨rfl,hb2⟩
  go_wp2_with fail
  go_ret
  rw[HD.out]
  exact⟨by simp,HB.out.trans (hb2.mono HB.out.size)⟩
 ·cases D
  ·go_enter Tryz.func15,Tryz.ntmps15
   go_wp2_with fail
   rw[←HW.out]
   refine HFI.out.mono ?_
   rintro e w2 ⟨rfl,hb2⟩
   obtain⟨c1,c2⟩:=HCL.out w2 hb2
   have HB2:=Lib.hid (HB.out.trans (hb2.mono HB.out.size))
   clear hb2
   go_wp2_with fail
   refine(HEK.out w2 HB2.out).mono ?_
   rintro e w3 ⟨rfl,hb3⟩
   go_wp2_with fail
   go_ret
   rw[HD.out]
   exact⟨by simp,HB2.out.trans (hb3.mono HB2.out.size)⟩
  ·go_enter Tryz.func15,Tryz.ntmps15
   go_wp2_with fail
   rw[←HW.out]
   refine HFI.out.mono ?_
   rintro e w2 ⟨rfl,hb2⟩
   obtain⟨c1,c2⟩:=HCL.out w2 hb2
   have HB2:=Lib.hid (HB.out.trans (hb2.mono HB.out.size))
   have HBX:=Lib.hid hb2
   clear hb2
   go_wp2_with fail
   refine(HEK.out w2 HB2.out).mono ?_
   rintro e w3 ⟨rfl,hb3⟩
   clear c1 c2
   obtain⟨c1,c2⟩:=HCL.out w3 (HBX.out.trans (hb3.mono HBX.out.size))
   have HB3:=Lib.hid (HB2.out.trans (hb3.mono HB2.out.size))
   clear hb3
   go_wp2_with fail
   refine(HES.out w3 HB3.out).mono ?_
   rintro e w4 ⟨rfl,hb4⟩
   go_wp2_with fail
   go_ret
   rw[HD.out]
   exact⟨by simp,HB3.out.trans (hb4.mono HB3.out.size)⟩
theorem rightX_any:∀c,c≤1001→RtC 15 c
 |0,_=>fun x _ _ _ _ hc=>by have :=cntE_pos x;omega
 |c+1,h=>rightX_of c (rightX_any c (by omega)) (by omega)
end Char
end Go.Proofs.YtlmpkpjjakallaaGreatDoor
