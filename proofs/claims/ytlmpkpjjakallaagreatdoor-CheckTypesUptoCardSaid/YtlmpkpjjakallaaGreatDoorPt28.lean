import Derived.Test.YtlmpkpjjakallaaGreatDoorPt27
namespace Go.Proofs.YtlmpkpjjakallaaGreatDoor
namespace Char
open Go.RowKit Go.Lib
set_option maxRecDepth 100000 in
set_option maxHeartbeats 4000000 in
theorem rtw_lo (op tg vl:Int)(S:ByteArray)(ab:Bool)(ok os:Option Addr)(nk jk ns js:Nat)(w:World)
 (g1:op<1):Calls Tryz.prog 16 #[.agg #[.int .i64 op,.string S,.int .i64 tg,.int .i64 vl,.bool ab,.slice ok nk jk,.slice os ns js]] w fun e w'=>e= .returned (.bool false)∧Below w.heap.size w w':=by
 have hk:=World.alloc_heap_new w (.cells #[.int .i64 op,.string S,.int .i64 tg,.int .i64 vl,.bool ab,.slice ok nk jk,.slice os ns js] 28)
 have HC:=Lib.hid fun(W:World) (hW:Below (w.alloc (.cells #[.int .i64 op,.string S,.int .i64 tg,.int .i64 vl,.bool ab,.slice ok nk jk,.slice os ns js] 28)).heap.size (w.alloc (.cells #[.int .i64 op,.string S,.int .i64 tg,.int .i64 vl,.bool ab,.slice ok nk jk,.slice os ns js] 28)) W)=>cells7 ((hW.block w.heap.size (by simp)).trans hk)
 have HB:=Lib.hid (below_box (w:=w) (.cells #[.int .i64 op,.string S,.int .i64 tg,.int .i64 vl,.bool ab,.slice ok nk jk,.slice os ns js] 28))
 have FIN:=Lib.hid fun(W:World) (hW:Below (w.alloc (.cells #[.int .i64 op,.string S,.int .i64 tg,.int .i64 vl,.bool ab,.slice ok nk jk,.slice os ns js] 28)).heap.size (w.alloc (.cells #[.int .i64 op,.string S,.int .i64 tg,.int .i64 vl,.bool ab,.slice ok nk jk,.slice os ns js] 28)) W)=>HB.out.trans (hW.mono HB.out.size)
 clear hk
 go_enter Tryz.func16,Tryz.ntmps16
 go_wp2_with (first
 |(go_at_call 36
   with_reducible refine(K.a _ HB.out).mono ?_
   rintro e w1 ⟨rfl,hb⟩
   have H1:=Lib.hid hb
   obtain⟨⟨c0,c1,c2,c3,c4,c5,c6⟩,_⟩:=HC.out w1 hb
   clear hb)
 |(go_at_call 37
   with_reducible refine(K.s _ (FIN.out _ H1.out)).mono ?_
   rintro e w2 ⟨rfl,hb⟩
   have hb:=H1.out.trans (hb.mono H1.out.size)
   have H2:=Lib.hid hb
   obtain⟨⟨c0,c1,c2,c3,c4,c5,c6⟩,_⟩:=HC.out w2 hb
   clear hb)
 |(go_at_call 38
   with_reducible refine(K.n _).mono ?_
   rintro e w2 ⟨rfl,hb⟩
   have hb:=H1.out.trans (hb.mono H1.out.size)
   have H2:=Lib.hid hb
   obtain⟨⟨c0,c1,c2,c3,c4,c5,c6⟩,_⟩:=HC.out w2 hb
   clear hb)
 |(go_at_call 39
   with_reducible refine(K.l _).mono ?_
   rintro e w2 ⟨rfl,hb⟩
   have hb:=H1.out.trans (hb.mono H1.out.size)
   have H2:=Lib.hid hb
   obtain⟨⟨c0,c1,c2,c3,c4,c5,c6⟩,_⟩:=HC.out w2 hb
   clear hb)
 |(go_at_call 40
   with_reducible refine(K.d _).mono ?_
   rintro e w2 ⟨rfl,hb⟩
   have hb:=H1.out.trans (hb.mono H1.out.size)
   have H2:=Lib.hid hb
   obtain⟨⟨c0,c1,c2,c3,c4,c5,c6⟩,_⟩:=HC.out w2 hb
   clear hb))
 go_ret
 exact⟨rfl,HB.out⟩
set_option maxRecDepth 100000 in
set_option maxHeartbeats 4000000 in
theorem rtw_hi (op tg vl:Int)(S:ByteArray)(ab:Bool)(ok os:Option Addr)(nk jk ns js:Nat)(w:World)
 (g1:¬op<1) (g2:21<op):Calls Tryz.prog 16 #[.agg #[.int .i64 op,.string S,.int .i64 tg,.int .i64 vl,.bool ab,.slice ok nk jk,.slice os ns js]] w fun e w'=>e= .returned (.bool false)∧Below w.heap.size w w':=by
 have hk:=World.alloc_heap_new w (.cells #[.int .i64 op,.string S,.int .i64 tg,.int .i64 vl,.bool ab,.slice ok nk jk,.slice os ns js] 28)
 have HC:=Lib.hid fun(W:World) (hW:Below (w.alloc (.cells #[.int .i64 op,.string S,.int .i64 tg,.int .i64 vl,.bool ab,.slice ok nk jk,.slice os ns js] 28)).heap.size (w.alloc (.cells #[.int .i64 op,.string S,.int .i64 tg,.int .i64 vl,.bool ab,.slice ok nk jk,.slice os ns js] 28)) W)=>cells7 ((hW.block w.heap.size (by simp)).trans hk)
 have HB:=Lib.hid (below_box (w:=w) (.cells #[.int .i64 op,.string S,.int .i64 tg,.int .i64 vl,.bool ab,.slice ok nk jk,.slice os ns js] 28))
 have FIN:=Lib.hid fun(W:World) (hW:Below (w.alloc (.cells #[.int .i64 op,.string S,.int .i64 tg,.int .i64 vl,.bool ab,.slice ok nk jk,.slice os ns js] 28)).heap.size (w.alloc (.cells #[.int .i64 op,.string S,.int .i64 tg,.int .i64 vl,.bool ab,.slice ok nk jk,.slice os ns js] 28)) W)=>HB.out.trans (hW.mono HB.out.size)
 clear hk
 go_enter Tryz.func16,Tryz.ntmps16
 go_wp2_with (first
 |(go_at_call 36
   with_reducible refine(K.a _ HB.out).mono ?_
   rintro e w1 ⟨rfl,hb⟩
   have H1:=Lib.hid hb
   obtain⟨⟨c0,c1,c2,c3,c4,c5,c6⟩,_⟩:=HC.out w1 hb
   clear hb)
 |(go_at_call 37
   with_reducible refine(K.s _ (FIN.out _ H1.out)).mono ?_
   rintro e w2 ⟨rfl,hb⟩
   have hb:=H1.out.trans (hb.mono H1.out.size)
   have H2:=Lib.hid hb
   obtain⟨⟨c0,c1,c2,c3,c4,c5,c6⟩,_⟩:=HC.out w2 hb
   clear hb)
 |(go_at_call 38
   with_reducible refine(K.n _).mono ?_
   rintro e w2 ⟨rfl,hb⟩
   have hb:=H1.out.trans (hb.mono H1.out.size)
   have H2:=Lib.hid hb
   obtain⟨⟨c0,c1,c2,c3,c4,c5,c6⟩,_⟩:=HC.out w2 hb
   clear hb)
 |(go_at_call 39
   with_reducible refine(K.l _).mono ?_
   rintro e w2 ⟨rfl,hb⟩
   have hb:=H1.out.trans (hb.mono H1.out.size)
   have H2:=Lib.hid hb
   obtain⟨⟨c0,c1,c2,c3,c4,c5,c6⟩,_⟩:=HC.out w2 hb
   clear hb)
 |(go_at_call 40
   with_reducible refine(K.d _).mono ?_
   rintro e w2 ⟨rfl,hb⟩
   have hb:=H1.out.trans (hb.mono H1.out.size)
   have H2:=Lib.hid hb
   obtain⟨⟨c0,c1,c2,c3,c4,c5,c6⟩,_⟩:=HC.out w2 hb
   clear hb))
 go_ret
 exact⟨rfl,HB.out⟩
set_option maxRecDepth 100000 in
set_option maxHeartbeats 4000000 in
theorem rtw_all (op tg vl:Int)(S:ByteArray)(ab:Bool)(ok os:Option Addr)(nk jk ns js:Nat)(w:World)(qA qS qN qL qD:Bool)(K:RtK w S tg vl ok os nk jk ns js qA qS qN qL qD)
 (g1:¬op<1) (g2:¬21<op) (hA:qA=false):Calls Tryz.prog 16 #[.agg #[.int .i64 op,.string S,.int .i64 tg,.int .i64 vl,.bool ab,.slice ok nk jk,.slice os ns js]] w fun e w'=>e= .returned (.bool false)∧Below w.heap.size w w':=by
 have hk:=World.alloc_heap_new w (.cells #[.int .i64 op,.string S,.int .i64 tg,.int .i64 vl,.bool ab,.slice ok nk jk,.slice os ns js] 28)
 have HC:=Lib.hid fun(W:World) (hW:Below (w.alloc (.cells #[.int .i64 op,.string S,.int .i64 tg,.int .i64 vl,.bool ab,.slice ok nk jk,.slice os ns js] 28)).heap.size (w.alloc (.cells #[.int .i64 op,.string S,.int .i64 tg,.int .i64 vl,.bool ab,.slice ok nk jk,.slice os ns js] 28)) W)=>cells7 ((hW.block w.heap.size (by simp)).trans hk)
 have HB:=Lib.hid (below_box (w:=w) (.cells #[.int .i64 op,.string S,.int .i64 tg,.int .i64 vl,.bool ab,.slice ok nk jk,.slice os ns js] 28))
 have FIN:=Lib.hid fun(W:World) (hW:Below (w.alloc (.cells #[.int .i64 op,.string S,.int .i64 tg,.int .i64 vl,.bool ab,.slice ok nk jk,.slice os ns js] 28)).heap.size (w.alloc (.cells #[.int .i64 op,.string S,.int .i64 tg,.int .i64 vl,.bool ab,.slice ok nk jk,.slice os ns js] 28)) W)=>HB.out.trans (hW.mono HB.out.size)
 clear hk
 subst hA
 go_enter Tryz.func16,Tryz.ntmps16
 go_wp2_with (first
 |(go_at_call 36
   with_reducible refine(K.a _ HB.out).mono ?_
   rintro e w1 ⟨rfl,hb⟩
   have H1:=Lib.hid hb
   obtain⟨⟨c0,c1,c2,c3,c4,c5,c6⟩,_⟩:=HC.out w1 hb
   clear hb)
 |(go_at_call 37
   with_reducible refine(K.s _ (FIN.out _ H1.out)).mono ?_
   rintro e w2 ⟨rfl,hb⟩
   have hb:=H1.out.trans (hb.mono H1.out.size)
   have H2:=Lib.hid hb
   obtain⟨⟨c0,c1,c2,c3,c4,c5,c6⟩,_⟩:=HC.out w2 hb
   clear hb)
 |(go_at_call 38
   with_reducible refine(K.n _).mono ?_
   rintro e w2 ⟨rfl,hb⟩
   have hb:=H1.out.trans (hb.mono H1.out.size)
   have H2:=Lib.hid hb
   obtain⟨⟨c0,c1,c2,c3,c4,c5,c6⟩,_⟩:=HC.out w2 hb
   clear hb)
 |(go_at_call 39
   with_reducible refine(K.l _).mono ?_
   rintro e w2 ⟨rfl,hb⟩
   have hb:=H1.out.trans (hb.mono H1.out.size)
   have H2:=Lib.hid hb
   obtain⟨⟨c0,c1,c2,c3,c4,c5,c6⟩,_⟩:=HC.out w2 hb
   clear hb)
 |(go_at_call 40
   with_reducible refine(K.d _).mono ?_
   rintro e w2 ⟨rfl,hb⟩
   have hb:=H1.out.trans (hb.mono H1.out.size)
   have H2:=Lib.hid hb
   obtain⟨⟨c0,c1,c2,c3,c4,c5,c6⟩,_⟩:=HC.out w2 hb
   clear hb))
 go_ret
 exact⟨rfl,FIN.out _ H1.out⟩
set_option maxRecDepth 100000 in
set_option maxHeartbeats 4000000 in
theorem rtw_abs (op tg vl:Int)(S:ByteArray)(ab:Bool)(ok os:Option Addr)(nk jk ns js:Nat)(w:World)(qA qS qN qL qD:Bool)(K:RtK w S tg vl ok os nk jk ns js qA qS qN qL qD)
 (g1:¬op<1) (g2:¬21<op) (hA:qA=true) (n16:(op != 16)=true) (hab:ab=true):Calls Tryz.prog 16 #[.agg #[.int .i64 op,.string S,.int .i64 tg,.int .i64 vl,.bool ab,.slice ok nk jk,.slice os ns js]] w fun e w'=>e= .returned (.bool false)∧Below w.heap.size w w':=by
 have hk:=World.alloc_heap_new w (.cells #[.int .i64 op,.string S,.int .i64 tg,.int .i64 vl,.bool ab,.slice ok nk jk,.slice os ns js] 28)
 have HC:=Lib.hid fun(W:World) (hW:Below (w.alloc (.cells #[.int .i64 op,.string S,.int .i64 tg,.int .i64 vl,.bool ab,.slice ok nk jk,.slice os ns js] 28)).heap.size (w.alloc (.cells #[.int .i64 op,.string S,.int .i64 tg,.int .i64 vl,.bool ab,.slice ok nk jk,.slice os ns js] 28)) W)=>cells7 ((hW.block w.heap.size (by simp)).trans hk)
 have HB:=Lib.hid (below_box (w:=w) (.cells #[.int .i64 op,.string S,.int .i64 tg,.int .i64 vl,.bool ab,.slice ok nk jk,.slice os ns js] 28))
 have FIN:=Lib.hid fun(W:World) (hW:Below (w.alloc (.cells #[.int .i64 op,.string S,.int .i64 tg,.int .i64 vl,.bool ab,.slice ok nk jk,.slice os ns js] 28)).heap.size (w.alloc (.cells #[.int .i64 op,.string S,.int .i64 tg,.int .i64 vl,.bool ab,.slice ok nk jk,.slice os ns js] 28)) W)=>HB.out.trans (hW.mono HB.out.size)
 clear hk
 subst hA hab
 go_enter Tryz.func16,Tryz.ntmps16
 go_wp2_with (first
 |(go_at_call 36
   with_reducible refine(K.a _ HB.out).mono ?_
   rintro e w1 ⟨rfl,hb⟩
   have H1:=Lib.hid hb
   obtain⟨⟨c0,c1,c2,c3,c4,c5,c6⟩,_⟩:=HC.out w1 hb
   clear hb)
 |(go_at_call 37
   with_reducible refine(K.s _ (FIN.out _ H1.out)).mono ?_
   rintro e w2 ⟨rfl,hb⟩
   have hb:=H1.out.trans (hb.mono H1.out.size)
   have H2:=Lib.hid hb
   obtain⟨⟨c0,c1,c2,c3,c4,c5,c6⟩,_⟩:=HC.out w2 hb
   clear hb)
 |(go_at_call 38
   with_reducible refine(K.n _).mono ?_
   rintro e w2 ⟨rfl,hb⟩
   have hb:=H1.out.trans (hb.mono H1.out.size)
   have H2:=Lib.hid hb
   obtain⟨⟨c0,c1,c2,c3,c4,c5,c6⟩,_⟩:=HC.out w2 hb
   clear hb)
 |(go_at_call 39
   with_reducible refine(K.l _).mono ?_
   rintro e w2 ⟨rfl,hb⟩
   have hb:=H1.out.trans (hb.mono H1.out.size)
   have H2:=Lib.hid hb
   obtain⟨⟨c0,c1,c2,c3,c4,c5,c6⟩,_⟩:=HC.out w2 hb
   clear hb)
 |(go_at_call 40
   with_reducible refine(K.d _).mono ?_
   rintro e w2 ⟨rfl,hb⟩
   have hb:=H1.out.trans (hb.mono H1.out.size)
   have H2:=Lib.hid hb
   obtain⟨⟨c0,c1,c2,c3,c4,c5,c6⟩,_⟩:=HC.out w2 hb
   clear hb))
 go_ret
 exact⟨rfl,FIN.out _ H1.out⟩
set_option maxRecDepth 100000 in
set_option maxHeartbeats 4000000 in
theorem rtw_stp (op tg vl:Int)(S:ByteArray)(ab:Bool)(ok os:Option Addr)(nk jk ns js:Nat)(w:World)(qA qS qN qL qD:Bool)(K:RtK w S tg vl ok os nk jk ns js qA qS qN qL qD)
 (g1:¬op<1) (g2:¬21<op) (hA:qA=true) (n16:(op != 16)=true) (hab:ab=false) (hns:(0:Int)<(ns:Int)):Calls Tryz.prog 16 #[.agg #[.int .i64 op,.string S,.int .i64 tg,.int .i64 vl,.bool ab,.slice ok nk jk,.slice os ns js]] w fun e w'=>e= .returned (.bool false)∧Below w.heap.size w w':=by
 have hk:=World.alloc_heap_new w (.cells #[.int .i64 op,.string S,.int .i64 tg,.int .i64 vl,.bool ab,.slice ok nk jk,.slice os ns js] 28)
 have HC:=Lib.hid fun(W:World) (hW:Below (w.alloc (.cells #[.int .i64 op,.string S,.int .i64 tg,.int .i64 vl,.bool ab,.slice ok nk jk,.slice os ns js] 28)).heap.size (w.alloc (.cells #[.int .i64 op,.string S,.int .i64 tg,.int .i64 vl,.bool ab,.slice ok nk jk,.slice os ns js] 28)) W)=>cells7 ((hW.block w.heap.size (by simp)).trans hk)
 have HB:=Lib.hid (below_box (w:=w) (.cells #[.int .i64 op,.string S,.int .i64 tg,.int .i64 vl,.bool ab,.slice ok nk jk,.slice os ns js] 28))
 have FIN:=Lib.hid fun(W:World) (hW:Below (w.alloc (.cells #[.int .i64 op,.string S,.int .i64 tg,.int .i64 vl,.bool ab,.slice ok nk jk,.slice os ns js] 28)).heap.size (w.alloc (.cells #[.int .i64 op,.string S,.int .i64 tg,.int .i64 vl,.bool ab,.slice ok nk jk,.slice os ns js] 28)) W)=>HB.out.trans (hW.mono HB.out.size)
 clear hk
 subst hA hab
 go_enter Tryz.func16,Tryz.ntmps16
 go_wp2_with (first
 |(go_at_call 36
   with_reducible refine(K.a _ HB.out).mono ?_
   rintro e w1 ⟨rfl,hb⟩
   have H1:=Lib.hid hb
   obtain⟨⟨c0,c1,c2,c3,c4,c5,c6⟩,_⟩:=HC.out w1 hb
   clear hb)
 |(go_at_call 37
   with_reducible refine(K.s _ (FIN.out _ H1.out)).mono ?_
   rintro e w2 ⟨rfl,hb⟩
   have hb:=H1.out.trans (hb.mono H1.out.size)
   have H2:=Lib.hid hb
   obtain⟨⟨c0,c1,c2,c3,c4,c5,c6⟩,_⟩:=HC.out w2 hb
   clear hb)
 |(go_at_call 38
   with_reducible refine(K.n _).mono ?_
   rintro e w2 ⟨rfl,hb⟩
   have hb:=H1.out.trans (hb.mono H1.out.size)
   have H2:=Lib.hid hb
   obtain⟨⟨c0,c1,c2,c3,c4,c5,c6⟩,_⟩:=HC.out w2 hb
   clear hb)
 |(go_at_call 39
   with_reducible refine(K.l _).mono ?_
   rintro e w2 ⟨rfl,hb⟩
   have hb:=H1.out.trans (hb.mono H1.out.size)
   have H2:=Lib.hid hb
   obtain⟨⟨c0,c1,c2,c3,c4,c5,c6⟩,_⟩:=HC.out w2 hb
   clear hb)
 |(go_at_call 40
   with_reducible refine(K.d _).mono ?_
   rintro e w2 ⟨rfl,hb⟩
   have hb:=H1.out.trans (hb.mono H1.out.size)
   have H2:=Lib.hid hb
   obtain⟨⟨c0,c1,c2,c3,c4,c5,c6⟩,_⟩:=HC.out w2 hb
   clear hb))
 go_ret
 exact⟨rfl,FIN.out _ H1.out⟩
set_option maxRecDepth 100000 in
set_option maxHeartbeats 4000000 in
theorem rtw_dec (op tg vl:Int)(S:ByteArray)(ab:Bool)(ok os:Option Addr)(nk jk ns js:Nat)(w:World)(qA qS qN qL qD:Bool)(K:RtK w S tg vl ok os nk jk ns js qA qS qN qL qD)
 (g1:¬op<1) (g2:¬21<op) (hA:qA=true) (n16:(op != 16)=true) (hab:ab=false) (hns:¬(0:Int)<(ns:Int)) (n19:(op != 19)=true) (hd:¬(tg=0∧vl=0)):Calls Tryz.prog 16 #[.agg #[.int .i64 op,.string S,.int .i64 tg,.int .i64 vl,.bool ab,.slice ok nk jk,.slice os ns js]] w fun e w'=>e= .returned (.bool false)∧Below w.heap.size w w':=by
 have hk:=World.alloc_heap_new w (.cells #[.int .i64 op,.string S,.int .i64 tg,.int .i64 vl,.bool ab,.slice ok nk jk,.slice os ns js] 28)
 have HC:=Lib.hid fun(W:World) (hW:Below (w.alloc (.cells #[.int .i64 op,.string S,.int .i64 tg,.int .i64 vl,.bool ab,.slice ok nk jk,.slice os ns js] 28)).heap.size (w.alloc (.cells #[.int .i64 op,.string S,.int .i64 tg,.int .i64 vl,.bool ab,.slice ok nk jk,.slice os ns js] 28)) W)=>cells7 ((hW.block w.heap.size (by simp)).trans hk)
 have HB:=Lib.hid (below_box (w:=w) (.cells #[.int .i64 op,.string S,.int .i64 tg,.int .i64 vl,.bool ab,.slice ok nk jk,.slice os ns js] 28))
 have FIN:=Lib.hid fun(W:World) (hW:Below (w.alloc (.cells #[.int .i64 op,.string S,.int .i64 tg,.int .i64 vl,.bool ab,.slice ok nk jk,.slice os ns js] 28)).heap.size (w.alloc (.cells #[.int .i64 op,.string S,.int .i64 tg,.int .i64 vl,.bool ab,.slice ok nk jk,.slice os ns js] 28)) W)=>HB.out.trans (hW.mono HB.out.size)
 clear hk
 subst hA hab
 have hne:=fun W=>ne_dec tg vl 0 0 W
 simp only[decide_eq_false hd,Bool.not_false]at hne
 have hgd:=guard_dec
 clear hd
 go_enter Tryz.func16,Tryz.ntmps16
 go_wp2_with (first
 |(go_at_call 36
   with_reducible refine(K.a _ HB.out).mono ?_
   rintro e w1 ⟨rfl,hb⟩
   have H1:=Lib.hid hb
   obtain⟨⟨c0,c1,c2,c3,c4,c5,c6⟩,_⟩:=HC.out w1 hb
   clear hb)
 |(go_at_call 37
   with_reducible refine(K.s _ (FIN.out _ H1.out)).mono ?_
   rintro e w2 ⟨rfl,hb⟩
   have hb:=H1.out.trans (hb.mono H1.out.size)
   have H2:=Lib.hid hb
   obtain⟨⟨c0,c1,c2,c3,c4,c5,c6⟩,_⟩:=HC.out w2 hb
   clear hb)
 |(go_at_call 38
   with_reducible refine(K.n _).mono ?_
   rintro e w2 ⟨rfl,hb⟩
   have hb:=H1.out.trans (hb.mono H1.out.size)
   have H2:=Lib.hid hb
   obtain⟨⟨c0,c1,c2,c3,c4,c5,c6⟩,_⟩:=HC.out w2 hb
   clear hb)
 |(go_at_call 39
   with_reducible refine(K.l _).mono ?_
   rintro e w2 ⟨rfl,hb⟩
   have hb:=H1.out.trans (hb.mono H1.out.size)
   have H2:=Lib.hid hb
   obtain⟨⟨c0,c1,c2,c3,c4,c5,c6⟩,_⟩:=HC.out w2 hb
   clear hb)
 |(go_at_call 40
   with_reducible refine(K.d _).mono ?_
   rintro e w2 ⟨rfl,hb⟩
   have hb:=H1.out.trans (hb.mono H1.out.size)
   have H2:=Lib.hid hb
   obtain⟨⟨c0,c1,c2,c3,c4,c5,c6⟩,_⟩:=HC.out w2 hb
   clear hb))
 go_ret
 exact⟨rfl,FIN.out _ H1.out⟩
set_option maxRecDepth 100000 in
set_option maxHeartbeats 4000000 in
theorem rtw_dec16 (op tg vl:Int)(S:ByteArray)(ab:Bool)(ok os:Option Addr)(nk jk ns js:Nat)(w:World)(qA qS qN qL qD:Bool)(K:RtK w S tg vl ok os nk jk ns js qA qS qN qL qD)
 (hA:qA=true) (n16:op=16) (hd:¬(tg=0∧vl=0)):Calls Tryz.prog 16 #[.agg #[.int .i64 op,.string S,.int .i64 tg,.int .i64 vl,.bool ab,.slice ok nk jk,.slice os ns js]] w fun e w'=>e= .returned (.bool false)∧Below w.heap.size w w':=by
 have hk:=World.alloc_heap_new w (.cells #[.int .i64 op,.string S,.int .i64 tg,.int .i64 vl,.bool ab,.slice ok nk jk,.slice os ns js] 28)
 have HC:=Lib.hid fun(W:World) (hW:Below (w.alloc (.cells #[.int .i64 op,.string S,.int .i64 tg,.int .i64 vl,.bool ab,.slice ok nk jk,.slice os ns js] 28)).heap.size (w.alloc (.cells #[.int .i64 op,.string S,.int .i64 tg,.int .i64 vl,.bool ab,.slice ok nk jk,.slice os ns js] 28)) W)=>cells7 ((hW.block w.heap.size (by simp)).trans hk)
 have HB:=Lib.hid (below_box (w:=w) (.cells #[.int .i64 op,.string S,.int .i64 tg,.int .i64 vl,.bool ab,.slice ok nk jk,.slice os ns js] 28))
 have FIN:=Lib.hid fun(W:World) (hW:Below (w.alloc (.cells #[.int .i64 op,.string S,.int .i64 tg,.int .i64 vl,.bool ab,.slice ok nk jk,.slice os ns js] 28)).heap.size (w.alloc (.cells #[.int .i64 op,.string S,.int .i64 tg,.int .i64 vl,.bool ab,.slice ok nk jk,.slice os ns js] 28)) W)=>HB.out.trans (hW.mono HB.out.size)
 clear hk
 subst hA n16
 have hne:=fun W=>ne_dec tg vl 0 0 W
 simp only[decide_eq_false hd,Bool.not_false]at hne
 have hgd:=guard_dec
 clear hd
 go_enter Tryz.func16,Tryz.ntmps16
 go_wp2_with (first
 |(go_at_call 36
   with_reducible refine(K.a _ HB.out).mono ?_
   rintro e w1 ⟨rfl,hb⟩
   have H1:=Lib.hid hb
   obtain⟨⟨c0,c1,c2,c3,c4,c5,c6⟩,_⟩:=HC.out w1 hb
   clear hb)
 |(go_at_call 37
   with_reducible refine(K.s _ (FIN.out _ H1.out)).mono ?_
   rintro e w2 ⟨rfl,hb⟩
   have hb:=H1.out.trans (hb.mono H1.out.size)
   have H2:=Lib.hid hb
   obtain⟨⟨c0,c1,c2,c3,c4,c5,c6⟩,_⟩:=HC.out w2 hb
   clear hb)
 |(go_at_call 38
   with_reducible refine(K.n _).mono ?_
   rintro e w2 ⟨rfl,hb⟩
   have hb:=H1.out.trans (hb.mono H1.out.size)
   have H2:=Lib.hid hb
   obtain⟨⟨c0,c1,c2,c3,c4,c5,c6⟩,_⟩:=HC.out w2 hb
   clear hb)
 |(go_at_call 39
   with_reducible refine(K.l _).mono ?_
   rintro e w2 ⟨rfl,hb⟩
   have hb:=H1.out.trans (hb.mono H1.out.size)
   have H2:=Lib.hid hb
   obtain⟨⟨c0,c1,c2,c3,c4,c5,c6⟩,_⟩:=HC.out w2 hb
   clear hb)
 |(go_at_call 40
   with_reducible refine(K.d _).mono ?_
   rintro e w2 ⟨rfl,hb⟩
   have hb:=H1.out.trans (hb.mono H1.out.size)
   have H2:=Lib.hid hb
   obtain⟨⟨c0,c1,c2,c3,c4,c5,c6⟩,_⟩:=HC.out w2 hb
   clear hb))
 go_ret
 exact⟨rfl,FIN.out _ H1.out⟩
set_option maxRecDepth 100000 in
set_option maxHeartbeats 4000000 in
theorem rtw_txt (op tg vl:Int)(S:ByteArray)(ab:Bool)(ok os:Option Addr)(nk jk ns js:Nat)(w:World)(qA qS qN qL qD:Bool)(K:RtK w S tg vl ok os nk jk ns js qA qS qN qL qD)
 (g1:¬op<1) (g2:¬21<op) (hA:qA=true) (n16:(op != 16)=true) (hab:ab=false) (hns:¬(0:Int)<(ns:Int)) (n19:(op != 19)=true) (htg:tg=0) (hvl:vl=0) (n18:(op != 18)=true) (g20:op<20) (hs:(S.toList==[])=false):Calls Tryz.prog 16 #[.agg #[.int .i64 op,.string S,.int .i64 tg,.int .i64 vl,.bool ab,.slice ok nk jk,.slice os ns js]] w fun e w'=>e= .returned (.bool false)∧Below w.heap.size w w':=by
 have hk:=World.alloc_heap_new w (.cells #[.int .i64 op,.string S,.int .i64 tg,.int .i64 vl,.bool ab,.slice ok nk jk,.slice os ns js] 28)
 have HC:=Lib.hid fun(W:World) (hW:Below (w.alloc (.cells #[.int .i64 op,.string S,.int .i64 tg,.int .i64 vl,.bool ab,.slice ok nk jk,.slice os ns js] 28)).heap.size (w.alloc (.cells #[.int .i64 op,.string S,.int .i64 tg,.int .i64 vl,.bool ab,.slice ok nk jk,.slice os ns js] 28)) W)=>cells7 ((hW.block w.heap.size (by simp)).trans hk)
 have HB:=Lib.hid (below_box (w:=w) (.cells #[.int .i64 op,.string S,.int .i64 tg,.int .i64 vl,.bool ab,.slice ok nk jk,.slice os ns js] 28))
 have FIN:=Lib.hid fun(W:World) (hW:Below (w.alloc (.cells #[.int .i64 op,.string S,.int .i64 tg,.int .i64 vl,.bool ab,.slice ok nk jk,.slice os ns js] 28)).heap.size (w.alloc (.cells #[.int .i64 op,.string S,.int .i64 tg,.int .i64 vl,.bool ab,.slice ok nk jk,.slice os ns js] 28)) W)=>HB.out.trans (hW.mono HB.out.size)
 clear hk
 subst hA hab htg hvl
 have hne:=fun W=>ne_dec 0 0 0 0 W
 simp only[and_self,decide_true,Bool.not_true]at hne
 have hgd:=guard_dec
 go_enter Tryz.func16,Tryz.ntmps16
 go_wp2_with (first
 |(go_at_call 36
   with_reducible refine(K.a _ HB.out).mono ?_
   rintro e w1 ⟨rfl,hb⟩
   have H1:=Lib.hid hb
   obtain⟨⟨c0,c1,c2,c3,c4,c5,c6⟩,_⟩:=HC.out w1 hb
   clear hb)
 |(go_at_call 37
   with_reducible refine(K.s _ (FIN.out _ H1.out)).mono ?_
   rintro e w2 ⟨rfl,hb⟩
   have hb:=H1.out.trans (hb.mono H1.out.size)
   have H2:=Lib.hid hb
   obtain⟨⟨c0,c1,c2,c3,c4,c5,c6⟩,_⟩:=HC.out w2 hb
   clear hb)
 |(go_at_call 38
   with_reducible refine(K.n _).mono ?_
   rintro e w2 ⟨rfl,hb⟩
   have hb:=H1.out.trans (hb.mono H1.out.size)
   have H2:=Lib.hid hb
   obtain⟨⟨c0,c1,c2,c3,c4,c5,c6⟩,_⟩:=HC.out w2 hb
   clear hb)
 |(go_at_call 39
   with_reducible refine(K.l _).mono ?_
   rintro e w2 ⟨rfl,hb⟩
   have hb:=H1.out.trans (hb.mono H1.out.size)
   have H2:=Lib.hid hb
   obtain⟨⟨c0,c1,c2,c3,c4,c5,c6⟩,_⟩:=HC.out w2 hb
   clear hb)
 |(go_at_call 40
   with_reducible refine(K.d _).mono ?_
   rintro e w2 ⟨rfl,hb⟩
   have hb:=H1.out.trans (hb.mono H1.out.size)
   have H2:=Lib.hid hb
   obtain⟨⟨c0,c1,c2,c3,c4,c5,c6⟩,_⟩:=HC.out w2 hb
   clear hb))
 go_ret
 exact⟨rfl,FIN.out _ H1.out⟩
set_option maxRecDepth 100000 in
set_option maxHeartbeats 4000000 in
theorem rtw_txt16 (op tg vl:Int)(S:ByteArray)(ab:Bool)(ok os:Option Addr)(nk jk ns js:Nat)(w:World)(qA qS qN qL qD:Bool)(K:RtK w S tg vl ok os nk jk ns js qA qS qN qL qD)
 (hA:qA=true) (n16:op=16) (htg:tg=0) (hvl:vl=0) (hs:(S.toList==[])=false):Calls Tryz.prog 16 #[.agg #[.int .i64 op,.string S,.int .i64 tg,.int .i64 vl,.bool ab,.slice ok nk jk,.slice os ns js]] w fun e w'=>e= .returned (.bool false)∧Below w.heap.size w w':=by
 have hk:=World.alloc_heap_new w (.cells #[.int .i64 op,.string S,.int .i64 tg,.int .i64 vl,.bool ab,.slice ok nk jk,.slice os ns js] 28)
 have HC:=Lib.hid fun(W:World) (hW:Below (w.alloc (.cells #[.int .i64 op,.string S,.int .i64 tg,.int .i64 vl,.bool ab,.slice ok nk jk,.slice os ns js] 28)).heap.size (w.alloc (.cells #[.int .i64 op,.string S,.int .i64 tg,.int .i64 vl,.bool ab,.slice ok nk jk,.slice os ns js] 28)) W)=>cells7 ((hW.block w.heap.size (by simp)).trans hk)
 have HB:=Lib.hid (below_box (w:=w) (.cells #[.int .i64 op,.string S,.int .i64 tg,.int .i64 vl,.bool ab,.slice ok nk jk,.slice os ns js] 28))
 have FIN:=Lib.hid fun(W:World) (hW:Below (w.alloc (.cells #[.int .i64 op,.string S,.int .i64 tg,.int .i64 vl,.bool ab,.slice ok nk jk,.slice os ns js] 28)).heap.size (w.alloc (.cells #[.int .i64 op,.string S,.int .i64 tg,.int .i64 vl,.bool ab,.slice ok nk jk,.slice os ns js] 28)) W)=>HB.out.trans (hW.mono HB.out.size)
 clear hk
 subst hA n16 htg hvl
 have hne:=fun W=>ne_dec 0 0 0 0 W
 simp only[and_self,decide_true,Bool.not_true]at hne
 have hgd:=guard_dec
 go_enter Tryz.func16,Tryz.ntmps16
 go_wp2_with (first
 |(go_at_call 36
   with_reducible refine(K.a _ HB.out).mono ?_
   rintro e w1 ⟨rfl,hb⟩
   have H1:=Lib.hid hb
   obtain⟨⟨c0,c1,c2,c3,c4,c5,c6⟩,_⟩:=HC.out w1 hb
   clear hb)
 |(go_at_call 37
   with_reducible refine(K.s _ (FIN.out _ H1.out)).mono ?_
   rintro e w2 ⟨rfl,hb⟩
   have hb:=H1.out.trans (hb.mono H1.out.size)
   have H2:=Lib.hid hb
   obtain⟨⟨c0,c1,c2,c3,c4,c5,c6⟩,_⟩:=HC.out w2 hb
   clear hb)
 |(go_at_call 38
   with_reducible refine(K.n _).mono ?_
   rintro e w2 ⟨rfl,hb⟩
   have hb:=H1.out.trans (hb.mono H1.out.size)
   have H2:=Lib.hid hb
   obtain⟨⟨c0,c1,c2,c3,c4,c5,c6⟩,_⟩:=HC.out w2 hb
   clear hb)
 |(go_at_call 39
   with_reducible refine(K.l _).mono ?_
   rintro e w2 ⟨rfl,hb⟩
   have hb:=H1.out.trans (hb.mono H1.out.size)
   have H2:=Lib.hid hb
   obtain⟨⟨c0,c1,c2,c3,c4,c5,c6⟩,_⟩:=HC.out w2 hb
   clear hb)
 |(go_at_call 40
   with_reducible refine(K.d _).mono ?_
   rintro e w2 ⟨rfl,hb⟩
   have hb:=H1.out.trans (hb.mono H1.out.size)
   have H2:=Lib.hid hb
   obtain⟨⟨c0,c1,c2,c3,c4,c5,c6⟩,_⟩:=HC.out w2 hb
   clear hb))
 go_ret
 exact⟨rfl,FIN.out _ H1.out⟩
set_option maxRecDepth 100000 in
set_option maxHeartbeats 4000000 in
theorem rtw_txt19 (op tg vl:Int)(S:ByteArray)(ab:Bool)(ok os:Option Addr)(nk jk ns js:Nat)(w:World)(qA qS qN qL qD:Bool)(K:RtK w S tg vl ok os nk jk ns js qA qS qN qL qD)
 (hA:qA=true) (hab:ab=false) (hns:¬(0:Int)<(ns:Int)) (n19:op=19) (hs:(S.toList==[])=false):Calls Tryz.prog 16 #[.agg #[.int .i64 op,.string S,.int .i64 tg,.int .i64 vl,.bool ab,.slice ok nk jk,.slice os ns js]] w fun e w'=>e= .returned (.bool false)∧Below w.heap.size w w':=by
 have hk:=World.alloc_heap_new w (.cells #[.int .i64 op,.string S,.int .i64 tg,.int .i64 vl,.bool ab,.slice ok nk jk,.slice os ns js] 28)
 have HC:=Lib.hid fun(W:World) (hW:Below (w.alloc (.cells #[.int .i64 op,.string S,.int .i64 tg,.int .i64 vl,.bool ab,.slice ok nk jk,.slice os ns js] 28)).heap.size (w.alloc (.cells #[.int .i64 op,.string S,.int .i64 tg,.int .i64 vl,.bool ab,.slice ok nk jk,.slice os ns js] 28)) W)=>cells7 ((hW.block w.heap.size (by simp)).trans hk)
 have HB:=Lib.hid (below_box (w:=w) (.cells #[.int .i64 op,.string S,.int .i64 tg,.int .i64 vl,.bool ab,.slice ok nk jk,.slice os ns js] 28))
 have FIN:=Lib.hid fun(W:World) (hW:Below (w.alloc (.cells #[.int .i64 op,.string S,.int .i64 tg,.int .i64 vl,.bool ab,.slice ok nk jk,.slice os ns js] 28)).heap.size (w.alloc (.cells #[.int .i64 op,.string S,.int .i64 tg,.int .i64 vl,.bool ab,.slice ok nk jk,.slice os ns js] 28)) W)=>HB.out.trans (hW.mono HB.out.size)
 clear hk
 subst hA hab n19
 go_enter Tryz.func16,Tryz.ntmps16
 go_wp2_with (first
 |(go_at_call 36
   with_reducible refine(K.a _ HB.out).mono ?_
   rintro e w1 ⟨rfl,hb⟩
   have H1:=Lib.hid hb
   obtain⟨⟨c0,c1,c2,c3,c4,c5,c6⟩,_⟩:=HC.out w1 hb
   clear hb)
 |(go_at_call 37
   with_reducible refine(K.s _ (FIN.out _ H1.out)).mono ?_
   rintro e w2 ⟨rfl,hb⟩
   have hb:=H1.out.trans (hb.mono H1.out.size)
   have H2:=Lib.hid hb
   obtain⟨⟨c0,c1,c2,c3,c4,c5,c6⟩,_⟩:=HC.out w2 hb
   clear hb)
 |(go_at_call 38
   with_reducible refine(K.n _).mono ?_
   rintro e w2 ⟨rfl,hb⟩
   have hb:=H1.out.trans (hb.mono H1.out.size)
   have H2:=Lib.hid hb
   obtain⟨⟨c0,c1,c2,c3,c4,c5,c6⟩,_⟩:=HC.out w2 hb
   clear hb)
 |(go_at_call 39
   with_reducible refine(K.l _).mono ?_
   rintro e w2 ⟨rfl,hb⟩
   have hb:=H1.out.trans (hb.mono H1.out.size)
   have H2:=Lib.hid hb
   obtain⟨⟨c0,c1,c2,c3,c4,c5,c6⟩,_⟩:=HC.out w2 hb
   clear hb)
 |(go_at_call 40
   with_reducible refine(K.d _).mono ?_
   rintro e w2 ⟨rfl,hb⟩
   have hb:=H1.out.trans (hb.mono H1.out.size)
   have H2:=Lib.hid hb
   obtain⟨⟨c0,c1,c2,c3,c4,c5,c6⟩,_⟩:=HC.out w2 hb
   clear hb))
 go_ret
 exact⟨rfl,FIN.out _ H1.out⟩
set_option maxRecDepth 100000 in
set_option maxHeartbeats 4000000 in
theorem rtw_bin (op tg vl:Int)(S:ByteArray)(ab:Bool)(ok os:Option Addr)(nk jk ns js:Nat)(w:World)(qA qS qN qL qD:Bool)(K:RtK w S tg vl ok os nk jk ns js qA qS qN qL qD)
 (g1:¬op<1) (g2:¬21<op) (hA:qA=true) (n16:(op != 16)=true) (hab:ab=false) (hns:¬(0:Int)<(ns:Int)) (n19:(op != 19)=true) (htg:tg=0) (hvl:vl=0) (n18:(op != 18)=true) (g20:op<20) (hs:(S.toList==[])=true) (g14:op≤14):Calls Tryz.prog 16 #[.agg #[.int .i64 op,.string S,.int .i64 tg,.int .i64 vl,.bool ab,.slice ok nk jk,.slice os ns js]] w fun e w'=>e= .returned (.bool ((nk:Int)==2))∧Below w.heap.size w w':=by
 have hk:=World.alloc_heap_new w (.cells #[.int .i64 op,.string S,.int .i64 tg,.int .i64 vl,.bool ab,.slice ok nk jk,.slice os ns js] 28)
 have HC:=Lib.hid fun(W:World) (hW:Below (w.alloc (.cells #[.int .i64 op,.string S,.int .i64 tg,.int .i64 vl,.bool ab,.slice ok nk jk,.slice os ns js] 28)).heap.size (w.alloc (.cells #[.int .i64 op,.string S,.int .i64 tg,.int .i64 vl,.bool ab,.slice ok nk jk,.slice os ns js] 28)) W)=>cells7 ((hW.block w.heap.size (by simp)).trans hk)
 have HB:=Lib.hid (below_box (w:=w) (.cells #[.int .i64 op,.string S,.int .i64 tg,.int .i64 vl,.bool ab,.slice ok nk jk,.slice os ns js] 28))
 have FIN:=Lib.hid fun(W:World) (hW:Below (w.alloc (.cells #[.int .i64 op,.string S,.int .i64 tg,.int .i64 vl,.bool ab,.slice ok nk jk,.slice os ns js] 28)).heap.size (w.alloc (.cells #[.int .i64 op,.string S,.int .i64 tg,.int .i64 vl,.bool ab,.slice ok nk jk,.slice os ns js] 28)) W)=>HB.out.trans (hW.mono HB.out.size)
 clear hk
 subst hA hab htg hvl
 have hne:=fun W=>ne_dec 0 0 0 0 W
 simp only[and_self,decide_true,Bool.not_true]at hne
 have hgd:=guard_dec
 go_enter Tryz.func16,Tryz.ntmps16
 go_wp2_with (first
 |(go_at_call 36
   with_reducible refine(K.a _ HB.out).mono ?_
   rintro e w1 ⟨rfl,hb⟩
   have H1:=Lib.hid hb
   obtain⟨⟨c0,c1,c2,c3,c4,c5,c6⟩,_⟩:=HC.out w1 hb
   clear hb)
 |(go_at_call 37
   with_reducible refine(K.s _ (FIN.out _ H1.out)).mono ?_
   rintro e w2 ⟨rfl,hb⟩
   have hb:=H1.out.trans (hb.mono H1.out.size)
   have H2:=Lib.hid hb
   obtain⟨⟨c0,c1,c2,c3,c4,c5,c6⟩,_⟩:=HC.out w2 hb
   clear hb)
 |(go_at_call 38
   with_reducible refine(K.n _).mono ?_
   rintro e w2 ⟨rfl,hb⟩
   have hb:=H1.out.trans (hb.mono H1.out.size)
   have H2:=Lib.hid hb
   obtain⟨⟨c0,c1,c2,c3,c4,c5,c6⟩,_⟩:=HC.out w2 hb
   clear hb)
 |(go_at_call 39
   with_reducible refine(K.l _).mono ?_
   rintro e w2 ⟨rfl,hb⟩
   have hb:=H1.out.trans (hb.mono H1.out.size)
   have H2:=Lib.hid hb
   obtain⟨⟨c0,c1,c2,c3,c4,c5,c6⟩,_⟩:=HC.out w2 hb
   clear hb)
 |(go_at_call 40
   with_reducible refine(K.d _).mono ?_
   rintro e w2 ⟨rfl,hb⟩
   have hb:=H1.out.trans (hb.mono H1.out.size)
   have H2:=Lib.hid hb
   obtain⟨⟨c0,c1,c2,c3,c4,c5,c6⟩,_⟩:=HC.out w2 hb
   clear hb))
 go_ret
 exact⟨rfl,FIN.out _ H1.out⟩
set_option maxRecDepth 100000 in
set_option maxHeartbeats 4000000 in
theorem rtw_neg (op tg vl:Int)(S:ByteArray)(ab:Bool)(ok os:Option Addr)(nk jk ns js:Nat)(w:World)(qA qS qN qL qD:Bool)(K:RtK w S tg vl ok os nk jk ns js qA qS qN qL qD)
 (hA:qA=true) (hab:ab=false) (hns:¬(0:Int)<(ns:Int)) (nn:op=15) (htg:tg=0) (hvl:vl=0) (hs:(S.toList==[])=true):Calls Tryz.prog 16 #[.agg #[.int .i64 op,.string S,.int .i64 tg,.int .i64 vl,.bool ab,.slice ok nk jk,.slice os ns js]] w fun e w'=>e= .returned (.bool ((nk:Int)==1))∧Below w.heap.size w w':=by
 have hk:=World.alloc_heap_new w (.cells #[.int .i64 op,.string S,.int .i64 tg,.int .i64 vl,.bool ab,.slice ok nk jk,.slice os ns js] 28)
 have HC:=Lib.hid fun(W:World) (hW:Below (w.alloc (.cells #[.int .i64 op,.string S,.int .i64 tg,.int .i64 vl,.bool ab,.slice ok nk jk,.slice os ns js] 28)).heap.size (w.alloc (.cells #[.int .i64 op,.string S,.int .i64 tg,.int .i64 vl,.bool ab,.slice ok nk jk,.slice os ns js] 28)) W)=>cells7 ((hW.block w.heap.size (by simp)).trans hk)
 have HB:=Lib.hid (below_box (w:=w) (.cells #[.int .i64 op,.string S,.int .i64 tg,.int .i64 vl,.bool ab,.slice ok nk jk,.slice os ns js] 28))
 have FIN:=Lib.hid fun(W:World) (hW:Below (w.alloc (.cells #[.int .i64 op,.string S,.int .i64 tg,.int .i64 vl,.bool ab,.slice ok nk jk,.slice os ns js] 28)).heap.size (w.alloc (.cells #[.int .i64 op,.string S,.int .i64 tg,.int .i64 vl,.bool ab,.slice ok nk jk,.slice os ns js] 28)) W)=>HB.out.trans (hW.mono HB.out.size)
 clear hk
 subst hA hab nn htg hvl
 have hne:=fun W=>ne_dec 0 0 0 0 W
 simp only[and_self,decide_true,Bool.not_true]at hne
 have hgd:=guard_dec
 go_enter Tryz.func16,Tryz.ntmps16
 go_wp2_with (first
 |(go_at_call 36
   with_reducible refine(K.a _ HB.out).mono ?_
   rintro e w1 ⟨rfl,hb⟩
   have H1:=Lib.hid hb
   obtain⟨⟨c0,c1,c2,c3,c4,c5,c6⟩,_⟩:=HC.out w1 hb
   clear hb)
 |(go_at_call 37
   with_reducible refine(K.s _ (FIN.out _ H1.out)).mono ?_
   rintro e w2 ⟨rfl,hb⟩
   have hb:=H1.out.trans (hb.mono H1.out.size)
   have H2:=Lib.hid hb
   obtain⟨⟨c0,c1,c2,c3,c4,c5,c6⟩,_⟩:=HC.out w2 hb
   clear hb)
 |(go_at_call 38
   with_reducible refine(K.n _).mono ?_
   rintro e w2 ⟨rfl,hb⟩
   have hb:=H1.out.trans (hb.mono H1.out.size)
   have H2:=Lib.hid hb
   obtain⟨⟨c0,c1,c2,c3,c4,c5,c6⟩,_⟩:=HC.out w2 hb
   clear hb)
 |(go_at_call 39
   with_reducible refine(K.l _).mono ?_
   rintro e w2 ⟨rfl,hb⟩
   have hb:=H1.out.trans (hb.mono H1.out.size)
   have H2:=Lib.hid hb
   obtain⟨⟨c0,c1,c2,c3,c4,c5,c6⟩,_⟩:=HC.out w2 hb
   clear hb)
 |(go_at_call 40
   with_reducible refine(K.d _).mono ?_
   rintro e w2 ⟨rfl,hb⟩
   have hb:=H1.out.trans (hb.mono H1.out.size)
   have H2:=Lib.hid hb
   obtain⟨⟨c0,c1,c2,c3,c4,c5,c6⟩,_⟩:=HC.out w2 hb
   clear hb))
 go_ret
 exact⟨rfl,FIN.out _ H1.out⟩
set_option maxRecDepth 100000 in
set_option maxHeartbeats 4000000 in
theorem rtw_flt (op tg vl:Int)(S:ByteArray)(ab:Bool)(ok os:Option Addr)(nk jk ns js:Nat)(w:World)(qA qS qN qL qD:Bool)(K:RtK w S tg vl ok os nk jk ns js qA qS qN qL qD)
 (hA:qA=true) (hab:ab=false) (hns:¬(0:Int)<(ns:Int)) (nn:op=17) (htg:tg=0) (hvl:vl=0) (hs:(S.toList==[])=true):Calls Tryz.prog 16 #[.agg #[.int .i64 op,.string S,.int .i64 tg,.int .i64 vl,.bool ab,.slice ok nk jk,.slice os ns js]] w fun e w'=>e= .returned (.bool (decide ((2:Int)≤(nk:Int))))∧Below w.heap.size w w':=by
 have hk:=World.alloc_heap_new w (.cells #[.int .i64 op,.string S,.int .i64 tg,.int .i64 vl,.bool ab,.slice ok nk jk,.slice os ns js] 28)
 have HC:=Lib.hid fun(W:World) (hW:Below (w.alloc (.cells #[.int .i64 op,.string S,.int .i64 tg,.int .i64 vl,.bool ab,.slice ok nk jk,.slice os ns js] 28)).heap.size (w.alloc (.cells #[.int .i64 op,.string S,.int .i64 tg,.int .i64 vl,.bool ab,.slice ok nk jk,.slice os ns js] 28)) W)=>cells7 ((hW.block w.heap.size (by simp)).trans hk)
 have HB:=Lib.hid (below_box (w:=w) (.cells #[.int .i64 op,.string S,.int .i64 tg,.int .i64 vl,.bool ab,.slice ok nk jk,.slice os ns js] 28))
 have FIN:=Lib.hid fun(W:World) (hW:Below (w.alloc (.cells #[.int .i64 op,.string S,.int .i64 tg,.int .i64 vl,.bool ab,.slice ok nk jk,.slice os ns js] 28)).heap.size (w.alloc (.cells #[.int .i64 op,.string S,.int .i64 tg,.int .i64 vl,.bool ab,.slice ok nk jk,.slice os ns js] 28)) W)=>HB.out.trans (hW.mono HB.out.size)
 clear hk
 subst hA hab nn htg hvl
 have hne:=fun W=>ne_dec 0 0 0 0 W
 simp only[and_self,decide_true,Bool.not_true]at hne
 have hgd:=guard_dec
 go_enter Tryz.func16,Tryz.ntmps16
 go_wp2_with (first
 |(go_at_call 36
   with_reducible refine(K.a _ HB.out).mono ?_
   rintro e w1 ⟨rfl,hb⟩
   have H1:=Lib.hid hb
   obtain⟨⟨c0,c1,c2,c3,c4,c5,c6⟩,_⟩:=HC.out w1 hb
   clear hb)
 |(go_at_call 37
   with_reducible refine(K.s _ (FIN.out _ H1.out)).mono ?_
   rintro e w2 ⟨rfl,hb⟩
   have hb:=H1.out.trans (hb.mono H1.out.size)
   have H2:=Lib.hid hb
   obtain⟨⟨c0,c1,c2,c3,c4,c5,c6⟩,_⟩:=HC.out w2 hb
   clear hb)
 |(go_at_call 38
   with_reducible refine(K.n _).mono ?_
   rintro e w2 ⟨rfl,hb⟩
   have hb:=H1.out.trans (hb.mono H1.out.size)
   have H2:=Lib.hid hb
   obtain⟨⟨c0,c1,c2,c3,c4,c5,c6⟩,_⟩:=HC.out w2 hb
   clear hb)
 |(go_at_call 39
   with_reducible refine(K.l _).mono ?_
   rintro e w2 ⟨rfl,hb⟩
   have hb:=H1.out.trans (hb.mono H1.out.size)
   have H2:=Lib.hid hb
   obtain⟨⟨c0,c1,c2,c3,c4,c5,c6⟩,_⟩:=HC.out w2 hb
   clear hb)
 |(go_at_call 40
   with_reducible refine(K.d _).mono ?_
   rintro e w2 ⟨rfl,hb⟩
   have hb:=H1.out.trans (hb.mono H1.out.size)
   have H2:=Lib.hid hb
   obtain⟨⟨c0,c1,c2,c3,c4,c5,c6⟩,_⟩:=HC.out w2 hb
   clear hb))
 go_ret
 exact⟨rfl,FIN.out _ H1.out⟩
set_option maxRecDepth 100000 in
set_option maxHeartbeats 4000000 in
theorem rtw_p2 (op tg vl:Int)(S:ByteArray)(ab:Bool)(ok os:Option Addr)(nk jk ns js:Nat)(w:World)(qA qS qN qL qD:Bool)(K:RtK w S tg vl ok os nk jk ns js qA qS qN qL qD)
 (hA:qA=true) (n16:op=16) (htg:tg=0) (hvl:vl=0) (hs:(S.toList==[])=true) (k1:(1:Int)<(nk:Int)):Calls Tryz.prog 16 #[.agg #[.int .i64 op,.string S,.int .i64 tg,.int .i64 vl,.bool ab,.slice ok nk jk,.slice os ns js]] w fun e w'=>e= .returned (.bool false)∧Below w.heap.size w w':=by
 have hk:=World.alloc_heap_new w (.cells #[.int .i64 op,.string S,.int .i64 tg,.int .i64 vl,.bool ab,.slice ok nk jk,.slice os ns js] 28)
 have HC:=Lib.hid fun(W:World) (hW:Below (w.alloc (.cells #[.int .i64 op,.string S,.int .i64 tg,.int .i64 vl,.bool ab,.slice ok nk jk,.slice os ns js] 28)).heap.size (w.alloc (.cells #[.int .i64 op,.string S,.int .i64 tg,.int .i64 vl,.bool ab,.slice ok nk jk,.slice os ns js] 28)) W)=>cells7 ((hW.block w.heap.size (by simp)).trans hk)
 have HB:=Lib.hid (below_box (w:=w) (.cells #[.int .i64 op,.string S,.int .i64 tg,.int .i64 vl,.bool ab,.slice ok nk jk,.slice os ns js] 28))
 have FIN:=Lib.hid fun(W:World) (hW:Below (w.alloc (.cells #[.int .i64 op,.string S,.int .i64 tg,.int .i64 vl,.bool ab,.slice ok nk jk,.slice os ns js] 28)).heap.size (w.alloc (.cells #[.int .i64 op,.string S,.int .i64 tg,.int .i64 vl,.bool ab,.slice ok nk jk,.slice os ns js] 28)) W)=>HB.out.trans (hW.mono HB.out.size)
 clear hk
 subst hA n16 htg hvl
 have hne:=fun W=>ne_dec 0 0 0 0 W
 simp only[and_self,decide_true,Bool.not_true]at hne
 have hgd:=guard_dec
 go_enter Tryz.func16,Tryz.ntmps16
 go_wp2_with (first
 |(go_at_call 36
   with_reducible refine(K.a _ HB.out).mono ?_
   rintro e w1 ⟨rfl,hb⟩
   have H1:=Lib.hid hb
   obtain⟨⟨c0,c1,c2,c3,c4,c5,c6⟩,_⟩:=HC.out w1 hb
   clear hb)
 |(go_at_call 37
   with_reducible refine(K.s _ (FIN.out _ H1.out)).mono ?_
   rintro e w2 ⟨rfl,hb⟩
   have hb:=H1.out.trans (hb.mono H1.out.size)
   have H2:=Lib.hid hb
   obtain⟨⟨c0,c1,c2,c3,c4,c5,c6⟩,_⟩:=HC.out w2 hb
   clear hb)
 |(go_at_call 38
   with_reducible refine(K.n _).mono ?_
   rintro e w2 ⟨rfl,hb⟩
   have hb:=H1.out.trans (hb.mono H1.out.size)
   have H2:=Lib.hid hb
   obtain⟨⟨c0,c1,c2,c3,c4,c5,c6⟩,_⟩:=HC.out w2 hb
   clear hb)
 |(go_at_call 39
   with_reducible refine(K.l _).mono ?_
   rintro e w2 ⟨rfl,hb⟩
   have hb:=H1.out.trans (hb.mono H1.out.size)
   have H2:=Lib.hid hb
   obtain⟨⟨c0,c1,c2,c3,c4,c5,c6⟩,_⟩:=HC.out w2 hb
   clear hb)
 |(go_at_call 40
   with_reducible refine(K.d _).mono ?_
   rintro e w2 ⟨rfl,hb⟩
   have hb:=H1.out.trans (hb.mono H1.out.size)
   have H2:=Lib.hid hb
   obtain⟨⟨c0,c1,c2,c3,c4,c5,c6⟩,_⟩:=HC.out w2 hb
   clear hb))
 go_ret
 exact⟨rfl,FIN.out _ H1.out⟩
set_option maxRecDepth 100000 in
set_option maxHeartbeats 4000000 in
theorem rtw_p1a (op tg vl:Int)(S:ByteArray)(ab:Bool)(ok os:Option Addr)(nk jk ns js:Nat)(w:World)(qA qS qN qL qD:Bool)(K:RtK w S tg vl ok os nk jk ns js qA qS qN qL qD)
 (hA:qA=true) (n16:op=16) (htg:tg=0) (hvl:vl=0) (hs:(S.toList==[])=true) (k1:nk=1) (hab:ab=true):Calls Tryz.prog 16 #[.agg #[.int .i64 op,.string S,.int .i64 tg,.int .i64 vl,.bool ab,.slice ok nk jk,.slice os ns js]] w fun e w'=>e= .returned (.bool false)∧Below w.heap.size w w':=by
 have hk:=World.alloc_heap_new w (.cells #[.int .i64 op,.string S,.int .i64 tg,.int .i64 vl,.bool ab,.slice ok nk jk,.slice os ns js] 28)
 have HC:=Lib.hid fun(W:World) (hW:Below (w.alloc (.cells #[.int .i64 op,.string S,.int .i64 tg,.int .i64 vl,.bool ab,.slice ok nk jk,.slice os ns js] 28)).heap.size (w.alloc (.cells #[.int .i64 op,.string S,.int .i64 tg,.int .i64 vl,.bool ab,.slice ok nk jk,.slice os ns js] 28)) W)=>cells7 ((hW.block w.heap.size (by simp)).trans hk)
 have HB:=Lib.hid (below_box (w:=w) (.cells #[.int .i64 op,.string S,.int .i64 tg,.int .i64 vl,.bool ab,.slice ok nk jk,.slice os ns js] 28))
 have FIN:=Lib.hid fun(W:World) (hW:Below (w.alloc (.cells #[.int .i64 op,.string S,.int .i64 tg,.int .i64 vl,.bool ab,.slice ok nk jk,.slice os ns js] 28)).heap.size (w.alloc (.cells #[.int .i64 op,.string S,.int .i64 tg,.int .i64 vl,.bool ab,.slice ok nk jk,.slice os ns js] 28)) W)=>HB.out.trans (hW.mono HB.out.size)
 clear hk
 subst hA n16 htg hvl k1 hab
 have hne:=fun W=>ne_dec 0 0 0 0 W
 simp only[and_self,decide_true,Bool.not_true]at hne
 have hgd:=guard_dec
 go_enter Tryz.func16,Tryz.ntmps16
 go_wp2_with (first
 |(go_at_call 36
   with_reducible refine(K.a _ HB.out).mono ?_
   rintro e w1 ⟨rfl,hb⟩
   have H1:=Lib.hid hb
   obtain⟨⟨c0,c1,c2,c3,c4,c5,c6⟩,_⟩:=HC.out w1 hb
   clear hb)
 |(go_at_call 37
   with_reducible refine(K.s _ (FIN.out _ H1.out)).mono ?_
   rintro e w2 ⟨rfl,hb⟩
   have hb:=H1.out.trans (hb.mono H1.out.size)
   have H2:=Lib.hid hb
   obtain⟨⟨c0,c1,c2,c3,c4,c5,c6⟩,_⟩:=HC.out w2 hb
   clear hb)
 |(go_at_call 38
   with_reducible refine(K.n _).mono ?_
   rintro e w2 ⟨rfl,hb⟩
   have hb:=H1.out.trans (hb.mono H1.out.size)
   have H2:=Lib.hid hb
   obtain⟨⟨c0,c1,c2,c3,c4,c5,c6⟩,_⟩:=HC.out w2 hb
   clear hb)
 |(go_at_call 39
   with_reducible refine(K.l _).mono ?_
   rintro e w2 ⟨rfl,hb⟩
   have hb:=H1.out.trans (hb.mono H1.out.size)
   have H2:=Lib.hid hb
   obtain⟨⟨c0,c1,c2,c3,c4,c5,c6⟩,_⟩:=HC.out w2 hb
   clear hb)
 |(go_at_call 40
   with_reducible refine(K.d _).mono ?_
   rintro e w2 ⟨rfl,hb⟩
   have hb:=H1.out.trans (hb.mono H1.out.size)
   have H2:=Lib.hid hb
   obtain⟨⟨c0,c1,c2,c3,c4,c5,c6⟩,_⟩:=HC.out w2 hb
   clear hb))
 go_ret
 exact⟨rfl,FIN.out _ H1.out⟩
set_option maxRecDepth 100000 in
set_option maxHeartbeats 4000000 in
theorem rtw_p1b (op tg vl:Int)(S:ByteArray)(ab:Bool)(ok os:Option Addr)(nk jk ns js:Nat)(w:World)(qA qS qN qL qD:Bool)(K:RtK w S tg vl ok os nk jk ns js qA qS qN qL qD)
 (hA:qA=true) (n16:op=16) (htg:tg=0) (hvl:vl=0) (hs:(S.toList==[])=true) (k1:nk=1) (hab:ab=false) (k2:ns=0):Calls Tryz.prog 16 #[.agg #[.int .i64 op,.string S,.int .i64 tg,.int .i64 vl,.bool ab,.slice ok nk jk,.slice os ns js]] w fun e w'=>e= .returned (.bool false)∧Below w.heap.size w w':=by
 have hk:=World.alloc_heap_new w (.cells #[.int .i64 op,.string S,.int .i64 tg,.int .i64 vl,.bool ab,.slice ok nk jk,.slice os ns js] 28)
 have HC:=Lib.hid fun(W:World) (hW:Below (w.alloc (.cells #[.int .i64 op,.string S,.int .i64 tg,.int .i64 vl,.bool ab,.slice ok nk jk,.slice os ns js] 28)).heap.size (w.alloc (.cells #[.int .i64 op,.string S,.int .i64 tg,.int .i64 vl,.bool ab,.slice ok nk jk,.slice os ns js] 28)) W)=>cells7 ((hW.block w.heap.size (by simp)).trans hk)
 have HB:=Lib.hid (below_box (w:=w) (.cells #[.int .i64 op,.string S,.int .i64 tg,.int .i64 vl,.bool ab,.slice ok nk jk,.slice os ns js] 28))
 have FIN:=Lib.hid fun(W:World) (hW:Below (w.alloc (.cells #[.int .i64 op,.string S,.int .i64 tg,.int .i64 vl,.bool ab,.slice ok nk jk,.slice os ns js] 28)).heap.size (w.alloc (.cells #[.int .i64 op,.string S,.int .i64 tg,.int .i64 vl,.bool ab,.slice ok nk jk,.slice os ns js] 28)) W)=>HB.out.trans (hW.mono HB.out.size)
 clear hk
 subst hA n16 htg hvl k1 hab k2
 have hne:=fun W=>ne_dec 0 0 0 0 W
 simp only[and_self,decide_true,Bool.not_true]at hne
 have hgd:=guard_dec
 go_enter Tryz.func16,Tryz.ntmps16
 go_wp2_with (first
 |(go_at_call 36
   with_reducible refine(K.a _ HB.out).mono ?_
   rintro e w1 ⟨rfl,hb⟩
   have H1:=Lib.hid hb
   obtain⟨⟨c0,c1,c2,c3,c4,c5,c6⟩,_⟩:=HC.out w1 hb
   clear hb)
 |(go_at_call 37
   with_reducible refine(K.s _ (FIN.out _ H1.out)).mono ?_
   rintro e w2 ⟨rfl,hb⟩
   have hb:=H1.out.trans (hb.mono H1.out.size)
   have H2:=Lib.hid hb
   obtain⟨⟨c0,c1,c2,c3,c4,c5,c6⟩,_⟩:=HC.out w2 hb
   clear hb)
 |(go_at_call 38
   with_reducible refine(K.n _).mono ?_
   rintro e w2 ⟨rfl,hb⟩
   have hb:=H1.out.trans (hb.mono H1.out.size)
   have H2:=Lib.hid hb
   obtain⟨⟨c0,c1,c2,c3,c4,c5,c6⟩,_⟩:=HC.out w2 hb
   clear hb)
 |(go_at_call 39
   with_reducible refine(K.l _).mono ?_
   rintro e w2 ⟨rfl,hb⟩
   have hb:=H1.out.trans (hb.mono H1.out.size)
   have H2:=Lib.hid hb
   obtain⟨⟨c0,c1,c2,c3,c4,c5,c6⟩,_⟩:=HC.out w2 hb
   clear hb)
 |(go_at_call 40
   with_reducible refine(K.d _).mono ?_
   rintro e w2 ⟨rfl,hb⟩
   have hb:=H1.out.trans (hb.mono H1.out.size)
   have H2:=Lib.hid hb
   obtain⟨⟨c0,c1,c2,c3,c4,c5,c6⟩,_⟩:=HC.out w2 hb
   clear hb))
 go_ret
 exact⟨rfl,FIN.out _ H1.out⟩
set_option maxRecDepth 100000 in
set_option maxHeartbeats 4000000 in
theorem rtw_p1c (op tg vl:Int)(S:ByteArray)(ab:Bool)(ok os:Option Addr)(nk jk ns js:Nat)(w:World)(qA qS qN qL qD:Bool)(K:RtK w S tg vl ok os nk jk ns js qA qS qN qL qD)
 (hA:qA=true) (n16:op=16) (htg:tg=0) (hvl:vl=0) (hs:(S.toList==[])=true) (k1:nk=1) (hab:ab=false) (k2:((ns:Int)==0)=false):Calls Tryz.prog 16 #[.agg #[.int .i64 op,.string S,.int .i64 tg,.int .i64 vl,.bool ab,.slice ok nk jk,.slice os ns js]] w fun e w'=>e= .returned (.bool qS)∧Below w.heap.size w w':=by
 have hk:=World.alloc_heap_new w (.cells #[.int .i64 op,.string S,.int .i64 tg,.int .i64 vl,.bool ab,.slice ok nk jk,.slice os ns js] 28)
 have HC:=Lib.hid fun(W:World) (hW:Below (w.alloc (.cells #[.int .i64 op,.string S,.int .i64 tg,.int .i64 vl,.bool ab,.slice ok nk jk,.slice os ns js] 28)).heap.size (w.alloc (.cells #[.int .i64 op,.string S,.int .i64 tg,.int .i64 vl,.bool ab,.slice ok nk jk,.slice os ns js] 28)) W)=>cells7 ((hW.block w.heap.size (by simp)).trans hk)
 have HB:=Lib.hid (below_box (w:=w) (.cells #[.int .i64 op,.string S,.int .i64 tg,.int .i64 vl,.bool ab,.slice ok nk jk,.slice os ns js] 28))
 have FIN:=Lib.hid fun(W:World) (hW:Below (w.alloc (.cells #[.int .i64 op,.string S,.int .i64 tg,.int .i64 vl,.bool ab,.slice ok nk jk,.slice os ns js] 28)).heap.size (w.alloc (.cells #[.int .i64 op,.string S,.int .i64 tg,.int .i64 vl,.bool ab,.slice ok nk jk,.slice os ns js] 28)) W)=>HB.out.trans (hW.mono HB.out.size)
 clear hk
 subst hA n16 htg hvl k1 hab
 have hne:=fun W=>ne_dec 0 0 0 0 W
 simp only[and_self,decide_true,Bool.not_true]at hne
 have hgd:=guard_dec
 go_enter Tryz.func16,Tryz.ntmps16
 go_wp2_with (first
 |(go_at_call 36
   with_reducible refine(K.a _ HB.out).mono ?_
   rintro e w1 ⟨rfl,hb⟩
   have H1:=Lib.hid hb
   obtain⟨⟨c0,c1,c2,c3,c4,c5,c6⟩,_⟩:=HC.out w1 hb
   clear hb)
 |(go_at_call 37
   with_reducible refine(K.s _ (FIN.out _ H1.out)).mono ?_
   rintro e w2 ⟨rfl,hb⟩
   have hb:=H1.out.trans (hb.mono H1.out.size)
   have H2:=Lib.hid hb
   obtain⟨⟨c0,c1,c2,c3,c4,c5,c6⟩,_⟩:=HC.out w2 hb
   clear hb)
 |(go_at_call 38
   with_reducible refine(K.n _).mono ?_
   rintro e w2 ⟨rfl,hb⟩
   have hb:=H1.out.trans (hb.mono H1.out.size)
   have H2:=Lib.hid hb
   obtain⟨⟨c0,c1,c2,c3,c4,c5,c6⟩,_⟩:=HC.out w2 hb
   clear hb)
 |(go_at_call 39
   with_reducible refine(K.l _).mono ?_
   rintro e w2 ⟨rfl,hb⟩
   have hb:=H1.out.trans (hb.mono H1.out.size)
   have H2:=Lib.hid hb
   obtain⟨⟨c0,c1,c2,c3,c4,c5,c6⟩,_⟩:=HC.out w2 hb
   clear hb)
 |(go_at_call 40
   with_reducible refine(K.d _).mono ?_
   rintro e w2 ⟨rfl,hb⟩
   have hb:=H1.out.trans (hb.mono H1.out.size)
   have H2:=Lib.hid hb
   obtain⟨⟨c0,c1,c2,c3,c4,c5,c6⟩,_⟩:=HC.out w2 hb
   clear hb))
 go_ret
 exact⟨rfl,FIN.out _ H2.out⟩
set_option maxRecDepth 100000 in
set_option maxHeartbeats 4000000 in
theorem rtw_p0a (op tg vl:Int)(S:ByteArray)(ab:Bool)(ok os:Option Addr)(nk jk ns js:Nat)(w:World)(qA qS qN qL qD:Bool)(K:RtK w S tg vl ok os nk jk ns js qA qS qN qL qD)
 (hA:qA=true) (n16:op=16) (htg:tg=0) (hvl:vl=0) (hs:(S.toList==[])=true) (k1:nk=0) (hab:ab=false) (k2:ns=0):Calls Tryz.prog 16 #[.agg #[.int .i64 op,.string S,.int .i64 tg,.int .i64 vl,.bool ab,.slice ok nk jk,.slice os ns js]] w fun e w'=>e= .returned (.bool false)∧Below w.heap.size w w':=by
 have hk:=World.alloc_heap_new w (.cells #[.int .i64 op,.string S,.int .i64 tg,.int .i64 vl,.bool ab,.slice ok nk jk,.slice os ns js] 28)
 have HC:=Lib.hid fun(W:World) (hW:Below (w.alloc (.cells #[.int .i64 op,.string S,.int .i64 tg,.int .i64 vl,.bool ab,.slice ok nk jk,.slice os ns js] 28)).heap.size (w.alloc (.cells #[.int .i64 op,.string S,.int .i64 tg,.int .i64 vl,.bool ab,.slice ok nk jk,.slice os ns js] 28)) W)=>cells7 ((hW.block w.heap.size (by simp)).trans hk)
 have HB:=Lib.hid (below_box (w:=w) (.cells #[.int .i64 op,.string S,.int .i64 tg,.int .i64 vl,.bool ab,.slice ok nk jk,.slice os ns js] 28))
 have FIN:=Lib.hid fun(W:World) (hW:Below (w.alloc (.cells #[.int .i64 op,.string S,.int .i64 tg,.int .i64 vl,.bool ab,.slice ok nk jk,.slice os ns js] 28)).heap.size (w.alloc (.cells #[.int .i64 op,.string S,.int .i64 tg,.int .i64 vl,.bool ab,.slice ok nk jk,.slice os ns js] 28)) W)=>HB.out.trans (hW.mono HB.out.size)
 clear hk
 subst hA n16 htg hvl k1 hab k2
 have hne:=fun W=>ne_dec 0 0 0 0 W
 simp only[and_self,decide_true,Bool.not_true]at hne
 have hgd:=guard_dec
 go_enter Tryz.func16,Tryz.ntmps16
 go_wp2_with (first
 |(go_at_call 36
   with_reducible refine(K.a _ HB.out).mono ?_
   rintro e w1 ⟨rfl,hb⟩
   have H1:=Lib.hid hb
   obtain⟨⟨c0,c1,c2,c3,c4,c5,c6⟩,_⟩:=HC.out w1 hb
   clear hb)
 |(go_at_call 37
   with_reducible refine(K.s _ (FIN.out _ H1.out)).mono ?_
   rintro e w2 ⟨rfl,hb⟩
   have hb:=H1.out.trans (hb.mono H1.out.size)
   have H2:=Lib.hid hb
   obtain⟨⟨c0,c1,c2,c3,c4,c5,c6⟩,_⟩:=HC.out w2 hb
   clear hb)
 |(go_at_call 38
   with_reducible refine(K.n _).mono ?_
   rintro e w2 ⟨rfl,hb⟩
   have hb:=H1.out.trans (hb.mono H1.out.size)
   have H2:=Lib.hid hb
   obtain⟨⟨c0,c1,c2,c3,c4,c5,c6⟩,_⟩:=HC.out w2 hb
   clear hb)
 |(go_at_call 39
   with_reducible refine(K.l _).mono ?_
   rintro e w2 ⟨rfl,hb⟩
   have hb:=H1.out.trans (hb.mono H1.out.size)
   have H2:=Lib.hid hb
   obtain⟨⟨c0,c1,c2,c3,c4,c5,c6⟩,_⟩:=HC.out w2 hb
   clear hb)
 |(go_at_call 40
   with_reducible refine(K.d _).mono ?_
   rintro e w2 ⟨rfl,hb⟩
   have hb:=H1.out.trans (hb.mono H1.out.size)
   have H2:=Lib.hid hb
   obtain⟨⟨c0,c1,c2,c3,c4,c5,c6⟩,_⟩:=HC.out w2 hb
   clear hb))
 go_ret
 exact⟨rfl,FIN.out _ H1.out⟩
set_option maxRecDepth 100000 in
set_option maxHeartbeats 4000000 in
theorem rtw_p0b (op tg vl:Int)(S:ByteArray)(ab:Bool)(ok os:Option Addr)(nk jk ns js:Nat)(w:World)(qA qS qN qL qD:Bool)(K:RtK w S tg vl ok os nk jk ns js qA qS qN qL qD)
 (hA:qA=true) (n16:op=16) (htg:tg=0) (hvl:vl=0) (hs:(S.toList==[])=true) (k1:nk=0) (hab:ab=true) (k2:ns=0):Calls Tryz.prog 16 #[.agg #[.int .i64 op,.string S,.int .i64 tg,.int .i64 vl,.bool ab,.slice ok nk jk,.slice os ns js]] w fun e w'=>e= .returned (.bool qS)∧Below w.heap.size w w':=by
 have hk:=World.alloc_heap_new w (.cells #[.int .i64 op,.string S,.int .i64 tg,.int .i64 vl,.bool ab,.slice ok nk jk,.slice os ns js] 28)
 have HC:=Lib.hid fun(W:World) (hW:Below (w.alloc (.cells #[.int .i64 op,.string S,.int .i64 tg,.int .i64 vl,.bool ab,.slice ok nk jk,.slice os ns js] 28)).heap.size (w.alloc (.cells #[.int .i64 op,.string S,.int .i64 tg,.int .i64 vl,.bool ab,.slice ok nk jk,.slice os ns js] 28)) W)=>cells7 ((hW.block w.heap.size (by simp)).trans hk)
 have HB:=Lib.hid (below_box (w:=w) (.cells #[.int .i64 op,.string S,.int .i64 tg,.int .i64 vl,.bool ab,.slice ok nk jk,.slice os ns js] 28))
 have FIN:=Lib.hid fun(W:World) (hW:Below (w.alloc (.cells #[.int .i64 op,.string S,.int .i64 tg,.int .i64 vl,.bool ab,.slice ok nk jk,.slice os ns js] 28)).heap.size (w.alloc (.cells #[.int .i64 op,.string S,.int .i64 tg,.int .i64 vl,.bool ab,.slice ok nk jk,.slice os ns js] 28)) W)=>HB.out.trans (hW.mono HB.out.size)
 clear hk
 subst hA n16 htg hvl k1 hab k2
 have hne:=fun W=>ne_dec 0 0 0 0 W
 simp only[and_self,decide_true,Bool.not_true]at hne
 have hgd:=guard_dec
 go_enter Tryz.func16,Tryz.ntmps16
 go_wp2_with (first
 |(go_at_call 36
   with_reducible refine(K.a _ HB.out).mono ?_
   rintro e w1 ⟨rfl,hb⟩
   have H1:=Lib.hid hb
   obtain⟨⟨c0,c1,c2,c3,c4,c5,c6⟩,_⟩:=HC.out w1 hb
   clear hb)
 |(go_at_call 37
   with_reducible refine(K.s _ (FIN.out _ H1.out)).mono ?_
   rintro e w2 ⟨rfl,hb⟩
   have hb:=H1.out.trans (hb.mono H1.out.size)
   have H2:=Lib.hid hb
   obtain⟨⟨c0,c1,c2,c3,c4,c5,c6⟩,_⟩:=HC.out w2 hb
   clear hb)
 |(go_at_call 38
   with_reducible refine(K.n _).mono ?_
   rintro e w2 ⟨rfl,hb⟩
   have hb:=H1.out.trans (hb.mono H1.out.size)
   have H2:=Lib.hid hb
   obtain⟨⟨c0,c1,c2,c3,c4,c5,c6⟩,_⟩:=HC.out w2 hb
   clear hb)
 |(go_at_call 39
   with_reducible refine(K.l _).mono ?_
   rintro e w2 ⟨rfl,hb⟩
   have hb:=H1.out.trans (hb.mono H1.out.size)
   have H2:=Lib.hid hb
   obtain⟨⟨c0,c1,c2,c3,c4,c5,c6⟩,_⟩:=HC.out w2 hb
   clear hb)
 |(go_at_call 40
   with_reducible refine(K.d _).mono ?_
   rintro e w2 ⟨rfl,hb⟩
   have hb:=H1.out.trans (hb.mono H1.out.size)
   have H2:=Lib.hid hb
   obtain⟨⟨c0,c1,c2,c3,c4,c5,c6⟩,_⟩:=HC.out w2 hb
   clear hb))
 go_ret
 exact⟨rfl,FIN.out _ H2.out⟩
set_option maxRecDepth 100000 in
set_option maxHeartbeats 4000000 in
theorem rtw_p0c (op tg vl:Int)(S:ByteArray)(ab:Bool)(ok os:Option Addr)(nk jk ns js:Nat)(w:World)(qA qS qN qL qD:Bool)(K:RtK w S tg vl ok os nk jk ns js qA qS qN qL qD)
 (hA:qA=true) (n16:op=16) (htg:tg=0) (hvl:vl=0) (hs:(S.toList==[])=true) (k1:nk=0) (k2:((ns:Int)==0)=false):Calls Tryz.prog 16 #[.agg #[.int .i64 op,.string S,.int .i64 tg,.int .i64 vl,.bool ab,.slice ok nk jk,.slice os ns js]] w fun e w'=>e= .returned (.bool qS)∧Below w.heap.size w w':=by
 have hk:=World.alloc_heap_new w (.cells #[.int .i64 op,.string S,.int .i64 tg,.int .i64 vl,.bool ab,.slice ok nk jk,.slice os ns js] 28)
 have HC:=Lib.hid fun(W:World) (hW:Below (w.alloc (.cells #[.int .i64 op,.string S,.int .i64 tg,.int .i64 vl,.bool ab,.slice ok nk jk,.slice os ns js] 28)).heap.size (w.alloc (.cells #[.int .i64 op,.string S,.int .i64 tg,.int .i64 vl,.bool ab,.slice ok nk jk,.slice os ns js] 28)) W)=>cells7 ((hW.block w.heap.size (by simp)).trans hk)
 have HB:=Lib.hid (below_box (w:=w) (.cells #[.int .i64 op,.string S,.int .i64 tg,.int .i64 vl,.bool ab,.slice ok nk jk,.slice os ns js] 28))
 have FIN:=Lib.hid fun(W:World) (hW:Below (w.alloc (.cells #[.int .i64 op,.string S,.int .i64 tg,.int .i64 vl,.bool ab,.slice ok nk jk,.slice os ns js] 28)).heap.size (w.alloc (.cells #[.int .i64 op,.string S,.int .i64 tg,.int .i64 vl,.bool ab,.slice ok nk jk,.slice os ns js] 28)) W)=>HB.out.trans (hW.mono HB.out.size)
 clear hk
 subst hA n16 htg hvl k1
 have hne:=fun W=>ne_dec 0 0 0 0 W
 simp only[and_self,decide_true,Bool.not_true]at hne
 have hgd:=guard_dec
 go_enter Tryz.func16,Tryz.ntmps16
 go_wp2_with (first
 |(go_at_call 36
   with_reducible refine(K.a _ HB.out).mono ?_
   rintro e w1 ⟨rfl,hb⟩
   have H1:=Lib.hid hb
   obtain⟨⟨c0,c1,c2,c3,c4,c5,c6⟩,_⟩:=HC.out w1 hb
   clear hb)
 |(go_at_call 37
   with_reducible refine(K.s _ (FIN.out _ H1.out)).mono ?_
   rintro e w2 ⟨rfl,hb⟩
   have hb:=H1.out.trans (hb.mono H1.out.size)
   have H2:=Lib.hid hb
   obtain⟨⟨c0,c1,c2,c3,c4,c5,c6⟩,_⟩:=HC.out w2 hb
   clear hb)
 |(go_at_call 38
   with_reducible refine(K.n _).mono ?_
   rintro e w2 ⟨rfl,hb⟩
   have hb:=H1.out.trans (hb.mono H1.out.size)
   have H2:=Lib.hid hb
   obtain⟨⟨c0,c1,c2,c3,c4,c5,c6⟩,_⟩:=HC.out w2 hb
   clear hb)
 |(go_at_call 39
   with_reducible refine(K.l _).mono ?_
   rintro e w2 ⟨rfl,hb⟩
   have hb:=H1.out.trans (hb.mono H1.out.size)
   have H2:=Lib.hid hb
   obtain⟨⟨c0,c1,c2,c3,c4,c5,c6⟩,_⟩:=HC.out w2 hb
   clear hb)
 |(go_at_call 40
   with_reducible refine(K.d _).mono ?_
   rintro e w2 ⟨rfl,hb⟩
   have hb:=H1.out.trans (hb.mono H1.out.size)
   have H2:=Lib.hid hb
   obtain⟨⟨c0,c1,c2,c3,c4,c5,c6⟩,_⟩:=HC.out w2 hb
   clear hb))
 go_ret
 exact⟨rfl,FIN.out _ H2.out⟩
set_option maxRecDepth 100000 in
set_option maxHeartbeats 4000000 in
theorem rtw_f0 (op tg vl:Int)(S:ByteArray)(ab:Bool)(ok os:Option Addr)(nk jk ns js:Nat)(w:World)(qA qS qN qL qD:Bool)(K:RtK w S tg vl ok os nk jk ns js qA qS qN qL qD)
 (hA:qA=true) (hab:ab=false) (hns:¬(0:Int)<(ns:Int)) (nn:op=20) (htg:tg=0) (hvl:vl=0) (hN:qN=false):Calls Tryz.prog 16 #[.agg #[.int .i64 op,.string S,.int .i64 tg,.int .i64 vl,.bool ab,.slice ok nk jk,.slice os ns js]] w fun e w'=>e= .returned (.bool false)∧Below w.heap.size w w':=by
 have hk:=World.alloc_heap_new w (.cells #[.int .i64 op,.string S,.int .i64 tg,.int .i64 vl,.bool ab,.slice ok nk jk,.slice os ns js] 28)
 have HC:=Lib.hid fun(W:World) (hW:Below (w.alloc (.cells #[.int .i64 op,.string S,.int .i64 tg,.int .i64 vl,.bool ab,.slice ok nk jk,.slice os ns js] 28)).heap.size (w.alloc (.cells #[.int .i64 op,.string S,.int .i64 tg,.int .i64 vl,.bool ab,.slice ok nk jk,.slice os ns js] 28)) W)=>cells7 ((hW.block w.heap.size (by simp)).trans hk)
 have HB:=Lib.hid (below_box (w:=w) (.cells #[.int .i64 op,.string S,.int .i64 tg,.int .i64 vl,.bool ab,.slice ok nk jk,.slice os ns js] 28))
 have FIN:=Lib.hid fun(W:World) (hW:Below (w.alloc (.cells #[.int .i64 op,.string S,.int .i64 tg,.int .i64 vl,.bool ab,.slice ok nk jk,.slice os ns js] 28)).heap.size (w.alloc (.cells #[.int .i64 op,.string S,.int .i64 tg,.int .i64 vl,.bool ab,.slice ok nk jk,.slice os ns js] 28)) W)=>HB.out.trans (hW.mono HB.out.size)
 clear hk
 subst hA hab nn htg hvl hN
 have hne:=fun W=>ne_dec 0 0 0 0 W
 simp only[and_self,decide_true,Bool.not_true]at hne
 have hgd:=guard_dec
 go_enter Tryz.func16,Tryz.ntmps16
 go_wp2_with (first
 |(go_at_call 36
   with_reducible refine(K.a _ HB.out).mono ?_
   rintro e w1 ⟨rfl,hb⟩
   have H1:=Lib.hid hb
   obtain⟨⟨c0,c1,c2,c3,c4,c5,c6⟩,_⟩:=HC.out w1 hb
   clear hb)
 |(go_at_call 37
   with_reducible refine(K.s _ (FIN.out _ H1.out)).mono ?_
   rintro e w2 ⟨rfl,hb⟩
   have hb:=H1.out.trans (hb.mono H1.out.size)
   have H2:=Lib.hid hb
   obtain⟨⟨c0,c1,c2,c3,c4,c5,c6⟩,_⟩:=HC.out w2 hb
   clear hb)
 |(go_at_call 38
   with_reducible refine(K.n _).mono ?_
   rintro e w2 ⟨rfl,hb⟩
   have hb:=H1.out.trans (hb.mono H1.out.size)
   have H2:=Lib.hid hb
   obtain⟨⟨c0,c1,c2,c3,c4,c5,c6⟩,_⟩:=HC.out w2 hb
   clear hb)
 |(go_at_call 39
   with_reducible refine(K.l _).mono ?_
   rintro e w2 ⟨rfl,hb⟩
   have hb:=H1.out.trans (hb.mono H1.out.size)
   have H2:=Lib.hid hb
   obtain⟨⟨c0,c1,c2,c3,c4,c5,c6⟩,_⟩:=HC.out w2 hb
   clear hb)
 |(go_at_call 40
   with_reducible refine(K.d _).mono ?_
   rintro e w2 ⟨rfl,hb⟩
   have hb:=H1.out.trans (hb.mono H1.out.size)
   have H2:=Lib.hid hb
   obtain⟨⟨c0,c1,c2,c3,c4,c5,c6⟩,_⟩:=HC.out w2 hb
   clear hb))
 go_ret
 exact⟨rfl,FIN.out _ H2.out⟩
set_option maxRecDepth 100000 in
set_option maxHeartbeats 4000000 in
theorem rtw_f1 (op tg vl:Int)(S:ByteArray)(ab:Bool)(ok os:Option Addr)(nk jk ns js:Nat)(w:World)(qA qS qN qL qD:Bool)(K:RtK w S tg vl ok os nk jk ns js qA qS qN qL qD)
 (hA:qA=true) (hab:ab=false) (hns:¬(0:Int)<(ns:Int)) (nn:op=20) (htg:tg=0) (hvl:vl=0) (hN:qN=true) (e0:(S.toList==[99,111,109,109,101,110,116])=true):Calls Tryz.prog 16 #[.agg #[.int .i64 op,.string S,.int .i64 tg,.int .i64 vl,.bool ab,.slice ok nk jk,.slice os ns js]] w fun e w'=>e= .returned (.bool false)∧Below w.heap.size w w':=by
 have hk:=World.alloc_heap_new w (.cells #[.int .i64 op,.string S,.int .i64 tg,.int .i64 vl,.bool ab,.slice ok nk jk,.slice os ns js] 28)
 have HC:=Lib.hid fun(W:World) (hW:Below (w.alloc (.cells #[.int .i64 op,.string S,.int .i64 tg,.int .i64 vl,.bool ab,.slice ok nk jk,.slice os ns js] 28)).heap.size (w.alloc (.cells #[.int .i64 op,.string S,.int .i64 tg,.int .i64 vl,.bool ab,.slice ok nk jk,.slice os ns js] 28)) W)=>cells7 ((hW.block w.heap.size (by simp)).trans hk)
 have HB:=Lib.hid (below_box (w:=w) (.cells #[.int .i64 op,.string S,.int .i64 tg,.int .i64 vl,.bool ab,.slice ok nk jk,.slice os ns js] 28))
 have FIN:=Lib.hid fun(W:World) (hW:Below (w.alloc (.cells #[.int .i64 op,.string S,.int .i64 tg,.int .i64 vl,.bool ab,.slice ok nk jk,.slice os ns js] 28)).heap.size (w.alloc (.cells #[.int .i64 op,.string S,.int .i64 tg,.int .i64 vl,.bool ab,.slice ok nk jk,.slice os ns js] 28)) W)=>HB.out.trans (hW.mono HB.out.size)
 clear hk
 subst hA hab nn htg hvl hN
 have hne:=fun W=>ne_dec 0 0 0 0 W
 simp only[and_self,decide_true,Bool.not_true]at hne
 have hgd:=guard_dec
 go_enter Tryz.func16,Tryz.ntmps16
 go_wp2_with (first
 |(go_at_call 36
   with_reducible refine(K.a _ HB.out).mono ?_
   rintro e w1 ⟨rfl,hb⟩
   have H1:=Lib.hid hb
   obtain⟨⟨c0,c1,c2,c3,c4,c5,c6⟩,_⟩:=HC.out w1 hb
   clear hb)
 |(go_at_call 37
   with_reducible refine(K.s _ (FIN.out _ H1.out)).mono ?_
   rintro e w2 ⟨rfl,hb⟩
   have hb:=H1.out.trans (hb.mono H1.out.size)
   have H2:=Lib.hid hb
   obtain⟨⟨c0,c1,c2,c3,c4,c5,c6⟩,_⟩:=HC.out w2 hb
   clear hb)
 |(go_at_call 38
   with_reducible refine(K.n _).mono ?_
   rintro e w2 ⟨rfl,hb⟩
   have hb:=H1.out.trans (hb.mono H1.out.size)
   have H2:=Lib.hid hb
   obtain⟨⟨c0,c1,c2,c3,c4,c5,c6⟩,_⟩:=HC.out w2 hb
   clear hb)
 |(go_at_call 39
   with_reducible refine(K.l _).mono ?_
   rintro e w2 ⟨rfl,hb⟩
   have hb:=H1.out.trans (hb.mono H1.out.size)
   have H2:=Lib.hid hb
   obtain⟨⟨c0,c1,c2,c3,c4,c5,c6⟩,_⟩:=HC.out w2 hb
   clear hb)
 |(go_at_call 40
   with_reducible refine(K.d _).mono ?_
   rintro e w2 ⟨rfl,hb⟩
   have hb:=H1.out.trans (hb.mono H1.out.size)
   have H2:=Lib.hid hb
   obtain⟨⟨c0,c1,c2,c3,c4,c5,c6⟩,_⟩:=HC.out w2 hb
   clear hb))
 go_ret
 exact⟨rfl,FIN.out _ H2.out⟩
set_option maxRecDepth 100000 in
set_option maxHeartbeats 4000000 in
theorem rtw_f2 (op tg vl:Int)(S:ByteArray)(ab:Bool)(ok os:Option Addr)(nk jk ns js:Nat)(w:World)(qA qS qN qL qD:Bool)(K:RtK w S tg vl ok os nk jk ns js qA qS qN qL qD)
 (hA:qA=true) (hab:ab=false) (hns:¬(0:Int)<(ns:Int)) (nn:op=20) (htg:tg=0) (hvl:vl=0) (hN:qN=true) (e0:(S.toList==[99,111,109,109,101,110,116])=false) (e1:(S.toList==[116,101,120,116])=true):Calls Tryz.prog 16 #[.agg #[.int .i64 op,.string S,.int .i64 tg,.int .i64 vl,.bool ab,.slice ok nk jk,.slice os ns js]] w fun e w'=>e= .returned (.bool false)∧Below w.heap.size w w':=by
 have hk:=World.alloc_heap_new w (.cells #[.int .i64 op,.string S,.int .i64 tg,.int .i64 vl,.bool ab,.slice ok nk jk,.slice os ns js] 28)
 have HC:=Lib.hid fun(W:World) (hW:Below (w.alloc (.cells #[.int .i64 op,.string S,.int .i64 tg,.int .i64 vl,.bool ab,.slice ok nk jk,.slice os ns js] 28)).heap.size (w.alloc (.cells #[.int .i64 op,.string S,.int .i64 tg,.int .i64 vl,.bool ab,.slice ok nk jk,.slice os ns js] 28)) W)=>cells7 ((hW.block w.heap.size (by simp)).trans hk)
 have HB:=Lib.hid (below_box (w:=w) (.cells #[.int .i64 op,.string S,.int .i64 tg,.int .i64 vl,.bool ab,.slice ok nk jk,.slice os ns js] 28))
 have FIN:=Lib.hid fun(W:World) (hW:Below (w.alloc (.cells #[.int .i64 op,.string S,.int .i64 tg,.int .i64 vl,.bool ab,.slice ok nk jk,.slice os ns js] 28)).heap.size (w.alloc (.cells #[.int .i64 op,.string S,.int .i64 tg,.int .i64 vl,.bool ab,.slice ok nk jk,.slice os ns js] 28)) W)=>HB.out.trans (hW.mono HB.out.size)
 clear hk
 subst hA hab nn htg hvl hN
 have hne:=fun W=>ne_dec 0 0 0 0 W
 simp only[and_self,decide_true,Bool.not_true]at hne
 have hgd:=guard_dec
 go_enter Tryz.func16,Tryz.ntmps16
 go_wp2_with (first
 |(go_at_call 36
   with_reducible refine(K.a _ HB.out).mono ?_
   rintro e w1 ⟨rfl,hb⟩
   have H1:=Lib.hid hb
   obtain⟨⟨c0,c1,c2,c3,c4,c5,c6⟩,_⟩:=HC.out w1 hb
   clear hb)
 |(go_at_call 37
   with_reducible refine(K.s _ (FIN.out _ H1.out)).mono ?_
   rintro e w2 ⟨rfl,hb⟩
   have hb:=H1.out.trans (hb.mono H1.out.size)
   have H2:=Lib.hid hb
   obtain⟨⟨c0,c1,c2,c3,c4,c5,c6⟩,_⟩:=HC.out w2 hb
   clear hb)
 |(go_at_call 38
   with_reducible refine(K.n _).mono ?_
   rintro e w2 ⟨rfl,hb⟩
   have hb:=H1.out.trans (hb.mono H1.out.size)
   have H2:=Lib.hid hb
   obtain⟨⟨c0,c1,c2,c3,c4,c5,c6⟩,_⟩:=HC.out w2 hb
   clear hb)
 |(go_at_call 39
   with_reducible refine(K.l _).mono ?_
   rintro e w2 ⟨rfl,hb⟩
   have hb:=H1.out.trans (hb.mono H1.out.size)
   have H2:=Lib.hid hb
   obtain⟨⟨c0,c1,c2,c3,c4,c5,c6⟩,_⟩:=HC.out w2 hb
   clear hb)
 |(go_at_call 40
   with_reducible refine(K.d _).mono ?_
   rintro e w2 ⟨rfl,hb⟩
   have hb:=H1.out.trans (hb.mono H1.out.size)
   have H2:=Lib.hid hb
   obtain⟨⟨c0,c1,c2,c3,c4,c5,c6⟩,_⟩:=HC.out w2 hb
   clear hb))
 go_ret
 exact⟨rfl,FIN.out _ H2.out⟩
set_option maxRecDepth 100000 in
set_option maxHeartbeats 4000000 in
theorem rtw_f3 (op tg vl:Int)(S:ByteArray)(ab:Bool)(ok os:Option Addr)(nk jk ns js:Nat)(w:World)(qA qS qN qL qD:Bool)(K:RtK w S tg vl ok os nk jk ns js qA qS qN qL qD)
 (hA:qA=true) (hab:ab=false) (hns:¬(0:Int)<(ns:Int)) (nn:op=20) (htg:tg=0) (hvl:vl=0) (hN:qN=true) (e0:(S.toList==[99,111,109,109,101,110,116])=false) (e1:(S.toList==[116,101,120,116])=false) (e2:(S.toList==[112,114,111,99,101,115,115,105,110,103,45,105,110,115,116,114,117,99,116,105,111,110])=true):Calls Tryz.prog 16 #[.agg #[.int .i64 op,.string S,.int .i64 tg,.int .i64 vl,.bool ab,.slice ok nk jk,.slice os ns js]] w fun e w'=>e= .returned (.bool false)∧Below w.heap.size w w':=by
 have hk:=World.alloc_heap_new w (.cells #[.int .i64 op,.string S,.int .i64 tg,.int .i64 vl,.bool ab,.slice ok nk jk,.slice os ns js] 28)
 have HC:=Lib.hid fun(W:World) (hW:Below (w.alloc (.cells #[.int .i64 op,.string S,.int .i64 tg,.int .i64 vl,.bool ab,.slice ok nk jk,.slice os ns js] 28)).heap.size (w.alloc (.cells #[.int .i64 op,.string S,.int .i64 tg,.int .i64 vl,.bool ab,.slice ok nk jk,.slice os ns js] 28)) W)=>cells7 ((hW.block w.heap.size (by simp)).trans hk)
 have HB:=Lib.hid (below_box (w:=w) (.cells #[.int .i64 op,.string S,.int .i64 tg,.int .i64 vl,.bool ab,.slice ok nk jk,.slice os ns js] 28))
 have FIN:=Lib.hid fun(W:World) (hW:Below (w.alloc (.cells #[.int .i64 op,.string S,.int .i64 tg,.int .i64 vl,.bool ab,.slice ok nk jk,.slice os ns js] 28)).heap.size (w.alloc (.cells #[.int .i64 op,.string S,.int .i64 tg,.int .i64 vl,.bool ab,.slice ok nk jk,.slice os ns js] 28)) W)=>HB.out.trans (hW.mono HB.out.size)
 clear hk
 subst hA hab nn htg hvl hN
 have hne:=fun W=>ne_dec 0 0 0 0 W
 simp only[and_self,decide_true,Bool.not_true]at hne
 have hgd:=guard_dec
 go_enter Tryz.func16,Tryz.ntmps16
 go_wp2_with (first
 |(go_at_call 36
   with_reducible refine(K.a _ HB.out).mono ?_
   rintro e w1 ⟨rfl,hb⟩
   have H1:=Lib.hid hb
   obtain⟨⟨c0,c1,c2,c3,c4,c5,c6⟩,_⟩:=HC.out w1 hb
   clear hb)
 |(go_at_call 37
   with_reducible refine(K.s _ (FIN.out _ H1.out)).mono ?_
   rintro e w2 ⟨rfl,hb⟩
   have hb:=H1.out.trans (hb.mono H1.out.size)
   have H2:=Lib.hid hb
   obtain⟨⟨c0,c1,c2,c3,c4,c5,c6⟩,_⟩:=HC.out w2 hb
   clear hb)
 |(go_at_call 38
   with_reducible refine(K.n _).mono ?_
   rintro e w2 ⟨rfl,hb⟩
   have hb:=H1.out.trans (hb.mono H1.out.size)
   have H2:=Lib.hid hb
   obtain⟨⟨c0,c1,c2,c3,c4,c5,c6⟩,_⟩:=HC.out w2 hb
   clear hb)
 |(go_at_call 39
   with_reducible refine(K.l _).mono ?_
   rintro e w2 ⟨rfl,hb⟩
   have hb:=H1.out.trans (hb.mono H1.out.size)
   have H2:=Lib.hid hb
   obtain⟨⟨c0,c1,c2,c3,c4,c5,c6⟩,_⟩:=HC.out w2 hb
   clear hb)
 |(go_at_call 40
   with_reducible refine(K.d _).mono ?_
   rintro e w2 ⟨rfl,hb⟩
   have hb:=H1.out.trans (hb.mono H1.out.size)
   have H2:=Lib.hid hb
   obtain⟨⟨c0,c1,c2,c3,c4,c5,c6⟩,_⟩:=HC.out w2 hb
   clear hb))
 go_ret
 exact⟨rfl,FIN.out _ H2.out⟩
set_option maxRecDepth 100000 in
set_option maxHeartbeats 4000000 in
theorem rtw_f4 (op tg vl:Int)(S:ByteArray)(ab:Bool)(ok os:Option Addr)(nk jk ns js:Nat)(w:World)(qA qS qN qL qD:Bool)(K:RtK w S tg vl ok os nk jk ns js qA qS qN qL qD)
 (hA:qA=true) (hab:ab=false) (hns:¬(0:Int)<(ns:Int)) (nn:op=20) (htg:tg=0) (hvl:vl=0) (hN:qN=true) (e0:(S.toList==[99,111,109,109,101,110,116])=false) (e1:(S.toList==[116,101,120,116])=false) (e2:(S.toList==[112,114,111,99,101,115,115,105,110,103,45,105,110,115,116,114,117,99,116,105,111,110])=false) (e3:(S.toList==[110,111,100,101])=true):Calls Tryz.prog 16 #[.agg #[.int .i64 op,.string S,.int .i64 tg,.int .i64 vl,.bool ab,.slice ok nk jk,.slice os ns js]] w fun e w'=>e= .returned (.bool false)∧Below w.heap.size w w':=by
 have hk:=World.alloc_heap_new w (.cells #[.int .i64 op,.string S,.int .i64 tg,.int .i64 vl,.bool ab,.slice ok nk jk,.slice os ns js] 28)
 have HC:=Lib.hid fun(W:World) (hW:Below (w.alloc (.cells #[.int .i64 op,.string S,.int .i64 tg,.int .i64 vl,.bool ab,.slice ok nk jk,.slice os ns js] 28)).heap.size (w.alloc (.cells #[.int .i64 op,.string S,.int .i64 tg,.int .i64 vl,.bool ab,.slice ok nk jk,.slice os ns js] 28)) W)=>cells7 ((hW.block w.heap.size (by simp)).trans hk)
 have HB:=Lib.hid (below_box (w:=w) (.cells #[.int .i64 op,.string S,.int .i64 tg,.int .i64 vl,.bool ab,.slice ok nk jk,.slice os ns js] 28))
 have FIN:=Lib.hid fun(W:World) (hW:Below (w.alloc (.cells #[.int .i64 op,.string S,.int .i64 tg,.int .i64 vl,.bool ab,.slice ok nk jk,.slice os ns js] 28)).heap.size (w.alloc (.cells #[.int .i64 op,.string S,.int .i64 tg,.int .i64 vl,.bool ab,.slice ok nk jk,.slice os ns js] 28)) W)=>HB.out.trans (hW.mono HB.out.size)
 clear hk
 subst hA hab nn htg hvl hN
 have hne:=fun W=>ne_dec 0 0 0 0 W
 simp only[and_self,decide_true,Bool.not_true]at hne
 have hgd:=guard_dec
 go_enter Tryz.func16,Tryz.ntmps16
 go_wp2_with (first
 |(go_at_call 36
   with_reducible refine(K.a _ HB.out).mono ?_
   rintro e w1 ⟨rfl,hb⟩
   have H1:=Lib.hid hb
   obtain⟨⟨c0,c1,c2,c3,c4,c5,c6⟩,_⟩:=HC.out w1 hb
   clear hb)
 |(go_at_call 37
   with_reducible refine(K.s _ (FIN.out _ H1.out)).mono ?_
   rintro e w2 ⟨rfl,hb⟩
   have hb:=H1.out.trans (hb.mono H1.out.size)
   have H2:=Lib.hid hb
   obtain⟨⟨c0,c1,c2,c3,c4,c5,c6⟩,_⟩:=HC.out w2 hb
   clear hb)
 |(go_at_call 38
   with_reducible refine(K.n _).mono ?_
   rintro e w2 ⟨rfl,hb⟩
   have hb:=H1.out.trans (hb.mono H1.out.size)
   have H2:=Lib.hid hb
   obtain⟨⟨c0,c1,c2,c3,c4,c5,c6⟩,_⟩:=HC.out w2 hb
   clear hb)
 |(go_at_call 39
   with_reducible refine(K.l _).mono ?_
   rintro e w2 ⟨rfl,hb⟩
   have hb:=H1.out.trans (hb.mono H1.out.size)
   have H2:=Lib.hid hb
   obtain⟨⟨c0,c1,c2,c3,c4,c5,c6⟩,_⟩:=HC.out w2 hb
   clear hb)
 |(go_at_call 40
   with_reducible refine(K.d _).mono ?_
   rintro e w2 ⟨rfl,hb⟩
   have hb:=H1.out.trans (hb.mono H1.out.size)
   have H2:=Lib.hid hb
   obtain⟨⟨c0,c1,c2,c3,c4,c5,c6⟩,_⟩:=HC.out w2 hb
   clear hb))
 go_ret
 exact⟨rfl,FIN.out _ H2.out⟩
set_option maxRecDepth 100000 in
set_option maxHeartbeats 4000000 in
theorem rtw_f5 (op tg vl:Int)(S:ByteArray)(ab:Bool)(ok os:Option Addr)(nk jk ns js:Nat)(w:World)(qA qS qN qL qD:Bool)(K:RtK w S tg vl ok os nk jk ns js qA qS qN qL qD)
 (hA:qA=true) (hab:ab=false) (hns:¬(0:Int)<(ns:Int)) (nn:op=20) (htg:tg=0) (hvl:vl=0) (hN:qN=true) (e0:(S.toList==[99,111,109,109,101,110,116])=false) (e1:(S.toList==[116,101,120,116])=false) (e2:(S.toList==[112,114,111,99,101,115,115,105,110,103,45,105,110,115,116,114,117,99,116,105,111,110])=false) (e3:(S.toList==[110,111,100,101])=false):Calls Tryz.prog 16 #[.agg #[.int .i64 op,.string S,.int .i64 tg,.int .i64 vl,.bool ab,.slice ok nk jk,.slice os ns js]] w fun e w'=>e= .returned (.bool true)∧Below w.heap.size w w':=by
 have hk:=World.alloc_heap_new w (.cells #[.int .i64 op,.string S,.int .i64 tg,.int .i64 vl,.bool ab,.slice ok nk jk,.slice os ns js] 28)
 have HC:=Lib.hid fun(W:World) (hW:Below (w.alloc (.cells #[.int .i64 op,.string S,.int .i64 tg,.int .i64 vl,.bool ab,.slice ok nk jk,.slice os ns js] 28)).heap.size (w.alloc (.cells #[.int .i64 op,.string S,.int .i64 tg,.int .i64 vl,.bool ab,.slice ok nk jk,.slice os ns js] 28)) W)=>cells7 ((hW.block w.heap.size (by simp)).trans hk)
 have HB:=Lib.hid (below_box (w:=w) (.cells #[.int .i64 op,.string S,.int .i64 tg,.int .i64 vl,.bool ab,.slice ok nk jk,.slice os ns js] 28))
 have FIN:=Lib.hid fun(W:World) (hW:Below (w.alloc (.cells #[.int .i64 op,.string S,.int .i64 tg,.int .i64 vl,.bool ab,.slice ok nk jk,.slice os ns js] 28)).heap.size (w.alloc (.cells #[.int .i64 op,.string S,.int .i64 tg,.int .i64 vl,.bool ab,.slice ok nk jk,.slice os ns js] 28)) W)=>HB.out.trans (hW.mono HB.out.size)
 clear hk
 subst hA hab nn htg hvl hN
 have hne:=fun W=>ne_dec 0 0 0 0 W
 simp only[and_self,decide_true,Bool.not_true]at hne
 have hgd:=guard_dec
 go_enter Tryz.func16,Tryz.ntmps16
 go_wp2_with (first
 |(go_at_call 36
   with_reducible refine(K.a _ HB.out).mono ?_
   rintro e w1 ⟨rfl,hb⟩
   have H1:=Lib.hid hb
   obtain⟨⟨c0,c1,c2,c3,c4,c5,c6⟩,_⟩:=HC.out w1 hb
   clear hb)
 |(go_at_call 37
   with_reducible refine(K.s _ (FIN.out _ H1.out)).mono ?_
   rintro e w2 ⟨rfl,hb⟩
   have hb:=H1.out.trans (hb.mono H1.out.size)
   have H2:=Lib.hid hb
   obtain⟨⟨c0,c1,c2,c3,c4,c5,c6⟩,_⟩:=HC.out w2 hb
   clear hb)
 |(go_at_call 38
   with_reducible refine(K.n _).mono ?_
   rintro e w2 ⟨rfl,hb⟩
   have hb:=H1.out.trans (hb.mono H1.out.size)
   have H2:=Lib.hid hb
   obtain⟨⟨c0,c1,c2,c3,c4,c5,c6⟩,_⟩:=HC.out w2 hb
   clear hb)
 |(go_at_call 39
   with_reducible refine(K.l _).mono ?_
   rintro e w2 ⟨rfl,hb⟩
   have hb:=H1.out.trans (hb.mono H1.out.size)
   have H2:=Lib.hid hb
   obtain⟨⟨c0,c1,c2,c3,c4,c5,c6⟩,_⟩:=HC.out w2 hb
   clear hb)
 |(go_at_call 40
   with_reducible refine(K.d _).mono ?_
   rintro e w2 ⟨rfl,hb⟩
   have hb:=H1.out.trans (hb.mono H1.out.size)
   have H2:=Lib.hid hb
   obtain⟨⟨c0,c1,c2,c3,c4,c5,c6⟩,_⟩:=HC.out w2 hb
   clear hb))
 go_ret
 exact⟨rfl,FIN.out _ H2.out⟩
set_option maxRecDepth 100000 in
set_option maxHeartbeats 4000000 in
theorem rtw_l1 (op tg vl:Int)(S:ByteArray)(ab:Bool)(ok os:Option Addr)(nk jk ns js:Nat)(w:World)(qA qS qN qL qD:Bool)(K:RtK w S tg vl ok os nk jk ns js qA qS qN qL qD)
 (hA:qA=true) (hab:ab=false) (hns:¬(0:Int)<(ns:Int)) (nn:op=18) (htg:tg=0) (hvl:vl=0) (k1:(0:Int)<(nk:Int)):Calls Tryz.prog 16 #[.agg #[.int .i64 op,.string S,.int .i64 tg,.int .i64 vl,.bool ab,.slice ok nk jk,.slice os ns js]] w fun e w'=>e= .returned (.bool false)∧Below w.heap.size w w':=by
 have hk:=World.alloc_heap_new w (.cells #[.int .i64 op,.string S,.int .i64 tg,.int .i64 vl,.bool ab,.slice ok nk jk,.slice os ns js] 28)
 have HC:=Lib.hid fun(W:World) (hW:Below (w.alloc (.cells #[.int .i64 op,.string S,.int .i64 tg,.int .i64 vl,.bool ab,.slice ok nk jk,.slice os ns js] 28)).heap.size (w.alloc (.cells #[.int .i64 op,.string S,.int .i64 tg,.int .i64 vl,.bool ab,.slice ok nk jk,.slice os ns js] 28)) W)=>cells7 ((hW.block w.heap.size (by simp)).trans hk)
 have HB:=Lib.hid (below_box (w:=w) (.cells #[.int .i64 op,.string S,.int .i64 tg,.int .i64 vl,.bool ab,.slice ok nk jk,.slice os ns js] 28))
 have FIN:=Lib.hid fun(W:World) (hW:Below (w.alloc (.cells #[.int .i64 op,.string S,.int .i64 tg,.int .i64 vl,.bool ab,.slice ok nk jk,.slice os ns js] 28)).heap.size (w.alloc (.cells #[.int .i64 op,.string S,.int .i64 tg,.int .i64 vl,.bool ab,.slice ok nk jk,.slice os ns js] 28)) W)=>HB.out.trans (hW.mono HB.out.size)
 clear hk
 subst hA hab nn htg hvl
 have hne:=fun W=>ne_dec 0 0 0 0 W
 simp only[and_self,decide_true,Bool.not_true]at hne
 have hgd:=guard_dec
 go_enter Tryz.func16,Tryz.ntmps16
 go_wp2_with (first
 |(go_at_call 36
   with_reducible refine(K.a _ HB.out).mono ?_
   rintro e w1 ⟨rfl,hb⟩
   have H1:=Lib.hid hb
   obtain⟨⟨c0,c1,c2,c3,c4,c5,c6⟩,_⟩:=HC.out w1 hb
   clear hb)
 |(go_at_call 37
   with_reducible refine(K.s _ (FIN.out _ H1.out)).mono ?_
   rintro e w2 ⟨rfl,hb⟩
   have hb:=H1.out.trans (hb.mono H1.out.size)
   have H2:=Lib.hid hb
   obtain⟨⟨c0,c1,c2,c3,c4,c5,c6⟩,_⟩:=HC.out w2 hb
   clear hb)
 |(go_at_call 38
   with_reducible refine(K.n _).mono ?_
   rintro e w2 ⟨rfl,hb⟩
   have hb:=H1.out.trans (hb.mono H1.out.size)
   have H2:=Lib.hid hb
   obtain⟨⟨c0,c1,c2,c3,c4,c5,c6⟩,_⟩:=HC.out w2 hb
   clear hb)
 |(go_at_call 39
   with_reducible refine(K.l _).mono ?_
   rintro e w2 ⟨rfl,hb⟩
   have hb:=H1.out.trans (hb.mono H1.out.size)
   have H2:=Lib.hid hb
   obtain⟨⟨c0,c1,c2,c3,c4,c5,c6⟩,_⟩:=HC.out w2 hb
   clear hb)
 |(go_at_call 40
   with_reducible refine(K.d _).mono ?_
   rintro e w2 ⟨rfl,hb⟩
   have hb:=H1.out.trans (hb.mono H1.out.size)
   have H2:=Lib.hid hb
   obtain⟨⟨c0,c1,c2,c3,c4,c5,c6⟩,_⟩:=HC.out w2 hb
   clear hb))
 go_ret
 exact⟨rfl,FIN.out _ H1.out⟩
set_option maxRecDepth 100000 in
set_option maxHeartbeats 4000000 in
theorem rtw_l0 (op tg vl:Int)(S:ByteArray)(ab:Bool)(ok os:Option Addr)(nk jk ns js:Nat)(w:World)(qA qS qN qL qD:Bool)(K:RtK w S tg vl ok os nk jk ns js qA qS qN qL qD)
 (hA:qA=true) (hab:ab=false) (hns:¬(0:Int)<(ns:Int)) (nn:op=18) (htg:tg=0) (hvl:vl=0) (k1:¬(0:Int)<(nk:Int)):Calls Tryz.prog 16 #[.agg #[.int .i64 op,.string S,.int .i64 tg,.int .i64 vl,.bool ab,.slice ok nk jk,.slice os ns js]] w fun e w'=>e= .returned (.bool qL)∧Below w.heap.size w w':=by
 have hk:=World.alloc_heap_new w (.cells #[.int .i64 op,.string S,.int .i64 tg,.int .i64 vl,.bool ab,.slice ok nk jk,.slice os ns js] 28)
 have HC:=Lib.hid fun(W:World) (hW:Below (w.alloc (.cells #[.int .i64 op,.string S,.int .i64 tg,.int .i64 vl,.bool ab,.slice ok nk jk,.slice os ns js] 28)).heap.size (w.alloc (.cells #[.int .i64 op,.string S,.int .i64 tg,.int .i64 vl,.bool ab,.slice ok nk jk,.slice os ns js] 28)) W)=>cells7 ((hW.block w.heap.size (by simp)).trans hk)
 have HB:=Lib.hid (below_box (w:=w) (.cells #[.int .i64 op,.string S,.int .i64 tg,.int .i64 vl,.bool ab,.slice ok nk jk,.slice os ns js] 28))
 have FIN:=Lib.hid fun(W:World) (hW:Below (w.alloc (.cells #[.int .i64 op,.string S,.int .i64 tg,.int .i64 vl,.bool ab,.slice ok nk jk,.slice os ns js] 28)).heap.size (w.alloc (.cells #[.int .i64 op,.string S,.int .i64 tg,.int .i64 vl,.bool ab,.slice ok nk jk,.slice os ns js] 28)) W)=>HB.out.trans (hW.mono HB.out.size)
 clear hk
 subst hA hab nn htg hvl
 have hne:=fun W=>ne_dec 0 0 0 0 W
 simp only[and_self,decide_true,Bool.not_true]at hne
 have hgd:=guard_dec
 go_enter Tryz.func16,Tryz.ntmps16
 go_wp2_with (first
 |(go_at_call 36
   with_reducible refine(K.a _ HB.out).mono ?_
   rintro e w1 ⟨rfl,hb⟩
   have H1:=Lib.hid hb
   obtain⟨⟨c0,c1,c2,c3,c4,c5,c6⟩,_⟩:=HC.out w1 hb
   clear hb)
 |(go_at_call 37
   with_reducible refine(K.s _ (FIN.out _ H1.out)).mono ?_
   rintro e w2 ⟨rfl,hb⟩
   have hb:=H1.out.trans (hb.mono H1.out.size)
   have H2:=Lib.hid hb
   obtain⟨⟨c0,c1,c2,c3,c4,c5,c6⟩,_⟩:=HC.out w2 hb
   clear hb)
 |(go_at_call 38
   with_reducible refine(K.n _).mono ?_
   rintro e w2 ⟨rfl,hb⟩
   have hb:=H1.out.trans (hb.mono H1.out.size)
   have H2:=Lib.hid hb
   obtain⟨⟨c0,c1,c2,c3,c4,c5,c6⟩,_⟩:=HC.out w2 hb
   clear hb)
 |(go_at_call 39
   with_reducible refine(K.l _).mono ?_
   rintro e w2 ⟨rfl,hb⟩
   have hb:=H1.out.trans (hb.mono H1.out.size)
   have H2:=Lib.hid hb
   obtain⟨⟨c0,c1,c2,c3,c4,c5,c6⟩,_⟩:=HC.out w2 hb
   clear hb)
 |(go_at_call 40
   with_reducible refine(K.d _).mono ?_
   rintro e w2 ⟨rfl,hb⟩
   have hb:=H1.out.trans (hb.mono H1.out.size)
   have H2:=Lib.hid hb
   obtain⟨⟨c0,c1,c2,c3,c4,c5,c6⟩,_⟩:=HC.out w2 hb
   clear hb))
 go_ret
 exact⟨rfl,FIN.out _ H2.out⟩
set_option maxRecDepth 100000 in
set_option maxHeartbeats 4000000 in
theorem rtw_v1 (op tg vl:Int)(S:ByteArray)(ab:Bool)(ok os:Option Addr)(nk jk ns js:Nat)(w:World)(qA qS qN qL qD:Bool)(K:RtK w S tg vl ok os nk jk ns js qA qS qN qL qD)
 (hA:qA=true) (hab:ab=false) (hns:¬(0:Int)<(ns:Int)) (nn:op=21) (htg:tg=0) (hvl:vl=0) (k1:(0:Int)<(nk:Int)):Calls Tryz.prog 16 #[.agg #[.int .i64 op,.string S,.int .i64 tg,.int .i64 vl,.bool ab,.slice ok nk jk,.slice os ns js]] w fun e w'=>e= .returned (.bool false)∧Below w.heap.size w w':=by
 have hk:=World.alloc_heap_new w (.cells #[.int .i64 op,.string S,.int .i64 tg,.int .i64 vl,.bool ab,.slice ok nk jk,.slice os ns js] 28)
 have HC:=Lib.hid fun(W:World) (hW:Below (w.alloc (.cells #[.int .i64 op,.string S,.int .i64 tg,.int .i64 vl,.bool ab,.slice ok nk jk,.slice os ns js] 28)).heap.size (w.alloc (.cells #[.int .i64 op,.string S,.int .i64 tg,.int .i64 vl,.bool ab,.slice ok nk jk,.slice os ns js] 28)) W)=>cells7 ((hW.block w.heap.size (by simp)).trans hk)
 have HB:=Lib.hid (below_box (w:=w) (.cells #[.int .i64 op,.string S,.int .i64 tg,.int .i64 vl,.bool ab,.slice ok nk jk,.slice os ns js] 28))
 have FIN:=Lib.hid fun(W:World) (hW:Below (w.alloc (.cells #[.int .i64 op,.string S,.int .i64 tg,.int .i64 vl,.bool ab,.slice ok nk jk,.slice os ns js] 28)).heap.size (w.alloc (.cells #[.int .i64 op,.string S,.int .i64 tg,.int .i64 vl,.bool ab,.slice ok nk jk,.slice os ns js] 28)) W)=>HB.out.trans (hW.mono HB.out.size)
 clear hk
 subst hA hab nn htg hvl
 have hne:=fun W=>ne_dec 0 0 0 0 W
 simp only[and_self,decide_true,Bool.not_true]at hne
 have hgd:=guard_dec
 go_enter Tryz.func16,Tryz.ntmps16
 go_wp2_with (first
 |(go_at_call 36
   with_reducible refine(K.a _ HB.out).mono ?_
   rintro e w1 ⟨rfl,hb⟩
   have H1:=Lib.hid hb
   obtain⟨⟨c0,c1,c2,c3,c4,c5,c6⟩,_⟩:=HC.out w1 hb
   clear hb)
 |(go_at_call 37
   with_reducible refine(K.s _ (FIN.out _ H1.out)).mono ?_
   rintro e w2 ⟨rfl,hb⟩
   have hb:=H1.out.trans (hb.mono H1.out.size)
   have H2:=Lib.hid hb
   obtain⟨⟨c0,c1,c2,c3,c4,c5,c6⟩,_⟩:=HC.out w2 hb
   clear hb)
 |(go_at_call 38
   with_reducible refine(K.n _).mono ?_
   rintro e w2 ⟨rfl,hb⟩
   have hb:=H1.out.trans (hb.mono H1.out.size)
   have H2:=Lib.hid hb
   obtain⟨⟨c0,c1,c2,c3,c4,c5,c6⟩,_⟩:=HC.out w2 hb
   clear hb)
 |(go_at_call 39
   with_reducible refine(K.l _).mono ?_
   rintro e w2 ⟨rfl,hb⟩
   have hb:=H1.out.trans (hb.mono H1.out.size)
   have H2:=Lib.hid hb
   obtain⟨⟨c0,c1,c2,c3,c4,c5,c6⟩,_⟩:=HC.out w2 hb
   clear hb)
 |(go_at_call 40
   with_reducible refine(K.d _).mono ?_
   rintro e w2 ⟨rfl,hb⟩
   have hb:=H1.out.trans (hb.mono H1.out.size)
   have H2:=Lib.hid hb
   obtain⟨⟨c0,c1,c2,c3,c4,c5,c6⟩,_⟩:=HC.out w2 hb
   clear hb))
 go_ret
 exact⟨rfl,FIN.out _ H1.out⟩
set_option maxRecDepth 100000 in
set_option maxHeartbeats 4000000 in
theorem rtw_v0 (op tg vl:Int)(S:ByteArray)(ab:Bool)(ok os:Option Addr)(nk jk ns js:Nat)(w:World)(qA qS qN qL qD:Bool)(K:RtK w S tg vl ok os nk jk ns js qA qS qN qL qD)
 (hA:qA=true) (hab:ab=false) (hns:¬(0:Int)<(ns:Int)) (nn:op=21) (htg:tg=0) (hvl:vl=0) (k1:¬(0:Int)<(nk:Int)):Calls Tryz.prog 16 #[.agg #[.int .i64 op,.string S,.int .i64 tg,.int .i64 vl,.bool ab,.slice ok nk jk,.slice os ns js]] w fun e w'=>e= .returned (.bool qN)∧Below w.heap.size w w':=by
 have hk:=World.alloc_heap_new w (.cells #[.int .i64 op,.string S,.int .i64 tg,.int .i64 vl,.bool ab,.slice ok nk jk,.slice os ns js] 28)
 have HC:=Lib.hid fun(W:World) (hW:Below (w.alloc (.cells #[.int .i64 op,.string S,.int .i64 tg,.int .i64 vl,.bool ab,.slice ok nk jk,.slice os ns js] 28)).heap.size (w.alloc (.cells #[.int .i64 op,.string S,.int .i64 tg,.int .i64 vl,.bool ab,.slice ok nk jk,.slice os ns js] 28)) W)=>cells7 ((hW.block w.heap.size (by simp)).trans hk)
 have HB:=Lib.hid (below_box (w:=w) (.cells #[.int .i64 op,.string S,.int .i64 tg,.int .i64 vl,.bool ab,.slice ok nk jk,.slice os ns js] 28))
 have FIN:=Lib.hid fun(W:World) (hW:Below (w.alloc (.cells #[.int .i64 op,.string S,.int .i64 tg,.int .i64 vl,.bool ab,.slice ok nk jk,.slice os ns js] 28)).heap.size (w.alloc (.cells #[.int .i64 op,.string S,.int .i64 tg,.int .i64 vl,.bool ab,.slice ok nk jk,.slice os ns js] 28)) W)=>HB.out.trans (hW.mono HB.out.size)
 clear hk
 subst hA hab nn htg hvl
 have hne:=fun W=>ne_dec 0 0 0 0 W
 simp only[and_self,decide_true,Bool.not_true]at hne
 have hgd:=guard_dec
 go_enter Tryz.func16,Tryz.ntmps16
 go_wp2_with (first
 |(go_at_call 36
   with_reducible refine(K.a _ HB.out).mono ?_
   rintro e w1 ⟨rfl,hb⟩
   have H1:=Lib.hid hb
   obtain⟨⟨c0,c1,c2,c3,c4,c5,c6⟩,_⟩:=HC.out w1 hb
   clear hb)
 |(go_at_call 37
   with_reducible refine(K.s _ (FIN.out _ H1.out)).mono ?_
   rintro e w2 ⟨rfl,hb⟩
   have hb:=H1.out.trans (hb.mono H1.out.size)
   have H2:=Lib.hid hb
   obtain⟨⟨c0,c1,c2,c3,c4,c5,c6⟩,_⟩:=HC.out w2 hb
   clear hb)
 |(go_at_call 38
   with_reducible refine(K.n _).mono ?_
   rintro e w2 ⟨rfl,hb⟩
   have hb:=H1.out.trans (hb.mono H1.out.size)
   have H2:=Lib.hid hb
   obtain⟨⟨c0,c1,c2,c3,c4,c5,c6⟩,_⟩:=HC.out w2 hb
   clear hb)
 |(go_at_call 39
   with_reducible refine(K.l _).mono ?_
   rintro e w2 ⟨rfl,hb⟩
   have hb:=H1.out.trans (hb.mono H1.out.size)
   have H2:=Lib.hid hb
   obtain⟨⟨c0,c1,c2,c3,c4,c5,c6⟩,_⟩:=HC.out w2 hb
   clear hb)
 |(go_at_call 40
   with_reducible refine(K.d _).mono ?_
   rintro e w2 ⟨rfl,hb⟩
   have hb:=H1.out.trans (hb.mono H1.out.size)
   have H2:=Lib.hid hb
   obtain⟨⟨c0,c1,c2,c3,c4,c5,c6⟩,_⟩:=HC.out w2 hb
   clear hb))
 go_ret
 exact⟨rfl,FIN.out _ H2.out⟩
set_option maxRecDepth 100000 in
set_option maxHeartbeats 4000000 in
theorem rtw_n1 (op tg vl:Int)(S:ByteArray)(ab:Bool)(ok os:Option Addr)(nk jk ns js:Nat)(w:World)(qA qS qN qL qD:Bool)(K:RtK w S tg vl ok os nk jk ns js qA qS qN qL qD)
 (hA:qA=true) (hab:ab=false) (hns:¬(0:Int)<(ns:Int)) (n19:op=19) (hs:(S.toList==[])=true) (k1:(0:Int)<(nk:Int)):Calls Tryz.prog 16 #[.agg #[.int .i64 op,.string S,.int .i64 tg,.int .i64 vl,.bool ab,.slice ok nk jk,.slice os ns js]] w fun e w'=>e= .returned (.bool false)∧Below w.heap.size w w':=by
 have hk:=World.alloc_heap_new w (.cells #[.int .i64 op,.string S,.int .i64 tg,.int .i64 vl,.bool ab,.slice ok nk jk,.slice os ns js] 28)
 have HC:=Lib.hid fun(W:World) (hW:Below (w.alloc (.cells #[.int .i64 op,.string S,.int .i64 tg,.int .i64 vl,.bool ab,.slice ok nk jk,.slice os ns js] 28)).heap.size (w.alloc (.cells #[.int .i64 op,.string S,.int .i64 tg,.int .i64 vl,.bool ab,.slice ok nk jk,.slice os ns js] 28)) W)=>cells7 ((hW.block w.heap.size (by simp)).trans hk)
 have HB:=Lib.hid (below_box (w:=w) (.cells #[.int .i64 op,.string S,.int .i64 tg,.int .i64 vl,.bool ab,.slice ok nk jk,.slice os ns js] 28))
 have FIN:=Lib.hid fun(W:World) (hW:Below (w.alloc (.cells #[.int .i64 op,.string S,.int .i64 tg,.int .i64 vl,.bool ab,.slice ok nk jk,.slice os ns js] 28)).heap.size (w.alloc (.cells #[.int .i64 op,.string S,.int .i64 tg,.int .i64 vl,.bool ab,.slice ok nk jk,.slice os ns js] 28)) W)=>HB.out.trans (hW.mono HB.out.size)
 clear hk
 subst hA hab n19
 go_enter Tryz.func16,Tryz.ntmps16
 go_wp2_with (first
 |(go_at_call 36
   with_reducible refine(K.a _ HB.out).mono ?_
   rintro e w1 ⟨rfl,hb⟩
   have H1:=Lib.hid hb
   obtain⟨⟨c0,c1,c2,c3,c4,c5,c6⟩,_⟩:=HC.out w1 hb
   clear hb)
 |(go_at_call 37
   with_reducible refine(K.s _ (FIN.out _ H1.out)).mono ?_
   rintro e w2 ⟨rfl,hb⟩
   have hb:=H1.out.trans (hb.mono H1.out.size)
   have H2:=Lib.hid hb
   obtain⟨⟨c0,c1,c2,c3,c4,c5,c6⟩,_⟩:=HC.out w2 hb
   clear hb)
 |(go_at_call 38
   with_reducible refine(K.n _).mono ?_
   rintro e w2 ⟨rfl,hb⟩
   have hb:=H1.out.trans (hb.mono H1.out.size)
   have H2:=Lib.hid hb
   obtain⟨⟨c0,c1,c2,c3,c4,c5,c6⟩,_⟩:=HC.out w2 hb
   clear hb)
 |(go_at_call 39
   with_reducible refine(K.l _).mono ?_
   rintro e w2 ⟨rfl,hb⟩
   have hb:=H1.out.trans (hb.mono H1.out.size)
   have H2:=Lib.hid hb
   obtain⟨⟨c0,c1,c2,c3,c4,c5,c6⟩,_⟩:=HC.out w2 hb
   clear hb)
 |(go_at_call 40
   with_reducible refine(K.d _).mono ?_
   rintro e w2 ⟨rfl,hb⟩
   have hb:=H1.out.trans (hb.mono H1.out.size)
   have H2:=Lib.hid hb
   obtain⟨⟨c0,c1,c2,c3,c4,c5,c6⟩,_⟩:=HC.out w2 hb
   clear hb))
 go_ret
 exact⟨rfl,FIN.out _ H1.out⟩
set_option maxRecDepth 100000 in
set_option maxHeartbeats 4000000 in
theorem rtw_n0 (op tg vl:Int)(S:ByteArray)(ab:Bool)(ok os:Option Addr)(nk jk ns js:Nat)(w:World)(qA qS qN qL qD:Bool)(K:RtK w S tg vl ok os nk jk ns js qA qS qN qL qD)
 (hA:qA=true) (hab:ab=false) (hns:¬(0:Int)<(ns:Int)) (n19:op=19) (hs:(S.toList==[])=true) (k1:¬(0:Int)<(nk:Int)) (hD:qD=false):Calls Tryz.prog 16 #[.agg #[.int .i64 op,.string S,.int .i64 tg,.int .i64 vl,.bool ab,.slice ok nk jk,.slice os ns js]] w fun e w'=>e= .returned (.bool false)∧Below w.heap.size w w':=by
 have hk:=World.alloc_heap_new w (.cells #[.int .i64 op,.string S,.int .i64 tg,.int .i64 vl,.bool ab,.slice ok nk jk,.slice os ns js] 28)
 have HC:=Lib.hid fun(W:World) (hW:Below (w.alloc (.cells #[.int .i64 op,.string S,.int .i64 tg,.int .i64 vl,.bool ab,.slice ok nk jk,.slice os ns js] 28)).heap.size (w.alloc (.cells #[.int .i64 op,.string S,.int .i64 tg,.int .i64 vl,.bool ab,.slice ok nk jk,.slice os ns js] 28)) W)=>cells7 ((hW.block w.heap.size (by simp)).trans hk)
 have HB:=Lib.hid (below_box (w:=w) (.cells #[.int .i64 op,.string S,.int .i64 tg,.int .i64 vl,.bool ab,.slice ok nk jk,.slice os ns js] 28))
 have FIN:=Lib.hid fun(W:World) (hW:Below (w.alloc (.cells #[.int .i64 op,.string S,.int .i64 tg,.int .i64 vl,.bool ab,.slice ok nk jk,.slice os ns js] 28)).heap.size (w.alloc (.cells #[.int .i64 op,.string S,.int .i64 tg,.int .i64 vl,.bool ab,.slice ok nk jk,.slice os ns js] 28)) W)=>HB.out.trans (hW.mono HB.out.size)
 clear hk
 subst hA hab n19 hD
 go_enter Tryz.func16,Tryz.ntmps16
 go_wp2_with (first
 |(go_at_call 36
   with_reducible refine(K.a _ HB.out).mono ?_
   rintro e w1 ⟨rfl,hb⟩
   have H1:=Lib.hid hb
   obtain⟨⟨c0,c1,c2,c3,c4,c5,c6⟩,_⟩:=HC.out w1 hb
   clear hb)
 |(go_at_call 37
   with_reducible refine(K.s _ (FIN.out _ H1.out)).mono ?_
   rintro e w2 ⟨rfl,hb⟩
   have hb:=H1.out.trans (hb.mono H1.out.size)
   have H2:=Lib.hid hb
   obtain⟨⟨c0,c1,c2,c3,c4,c5,c6⟩,_⟩:=HC.out w2 hb
   clear hb)
 |(go_at_call 38
   with_reducible refine(K.n _).mono ?_
   rintro e w2 ⟨rfl,hb⟩
   have hb:=H1.out.trans (hb.mono H1.out.size)
   have H2:=Lib.hid hb
   obtain⟨⟨c0,c1,c2,c3,c4,c5,c6⟩,_⟩:=HC.out w2 hb
   clear hb)
 |(go_at_call 39
   with_reducible refine(K.l _).mono ?_
   rintro e w2 ⟨rfl,hb⟩
   have hb:=H1.out.trans (hb.mono H1.out.size)
   have H2:=Lib.hid hb
   obtain⟨⟨c0,c1,c2,c3,c4,c5,c6⟩,_⟩:=HC.out w2 hb
   clear hb)
 |(go_at_call 40
   with_reducible refine(K.d _).mono ?_
   rintro e w2 ⟨rfl,hb⟩
   have hb:=H1.out.trans (hb.mono H1.out.size)
   have H2:=Lib.hid hb
   obtain⟨⟨c0,c1,c2,c3,c4,c5,c6⟩,_⟩:=HC.out w2 hb
   clear hb))
 go_ret
 exact⟨rfl,FIN.out _ H2.out⟩
set_option maxRecDepth 100000 in
set_option maxHeartbeats 4000000 in
theorem rtw_n2 (op tg vl:Int)(S:ByteArray)(ab:Bool)(ok os:Option Addr)(nk jk ns js:Nat)(w:World)(qA qS qN qL qD:Bool)(K:RtK w S tg vl ok os nk jk ns js qA qS qN qL qD)
 (hA:qA=true) (hab:ab=false) (hns:¬(0:Int)<(ns:Int)) (n19:op=19) (hs:(S.toList==[])=true) (k1:¬(0:Int)<(nk:Int)) (hD:qD=true) (ht:(tg==0)=false):Calls Tryz.prog 16 #[.agg #[.int .i64 op,.string S,.int .i64 tg,.int .i64 vl,.bool ab,.slice ok nk jk,.slice os ns js]] w fun e w'=>e= .returned (.bool false)∧Below w.heap.size w w':=by
 have hk:=World.alloc_heap_new w (.cells #[.int .i64 op,.string S,.int .i64 tg,.int .i64 vl,.bool ab,.slice ok nk jk,.slice os ns js] 28)
 have HC:=Lib.hid fun(W:World) (hW:Below (w.alloc (.cells #[.int .i64 op,.string S,.int .i64 tg,.int .i64 vl,.bool ab,.slice ok nk jk,.slice os ns js] 28)).heap.size (w.alloc (.cells #[.int .i64 op,.string S,.int .i64 tg,.int .i64 vl,.bool ab,.slice ok nk jk,.slice os ns js] 28)) W)=>cells7 ((hW.block w.heap.size (by simp)).trans hk)
 have HB:=Lib.hid (below_box (w:=w) (.cells #[.int .i64 op,.string S,.int .i64 tg,.int .i64 vl,.bool ab,.slice ok nk jk,.slice os ns js] 28))
 have FIN:=Lib.hid fun(W:World) (hW:Below (w.alloc (.cells #[.int .i64 op,.string S,.int .i64 tg,.int .i64 vl,.bool ab,.slice ok nk jk,.slice os ns js] 28)).heap.size (w.alloc (.cells #[.int .i64 op,.string S,.int .i64 tg,.int .i64 vl,.bool ab,.slice ok nk jk,.slice os ns js] 28)) W)=>HB.out.trans (hW.mono HB.out.size)
 clear hk
 subst hA hab n19 hD
 go_enter Tryz.func16,Tryz.ntmps16
 go_wp2_with (first
 |(go_at_call 36
   with_reducible refine(K.a _ HB.out).mono ?_
   rintro e w1 ⟨rfl,hb⟩
   have H1:=Lib.hid hb
   obtain⟨⟨c0,c1,c2,c3,c4,c5,c6⟩,_⟩:=HC.out w1 hb
   clear hb)
 |(go_at_call 37
   with_reducible refine(K.s _ (FIN.out _ H1.out)).mono ?_
   rintro e w2 ⟨rfl,hb⟩
   have hb:=H1.out.trans (hb.mono H1.out.size)
   have H2:=Lib.hid hb
   obtain⟨⟨c0,c1,c2,c3,c4,c5,c6⟩,_⟩:=HC.out w2 hb
   clear hb)
 |(go_at_call 38
   with_reducible refine(K.n _).mono ?_
   rintro e w2 ⟨rfl,hb⟩
   have hb:=H1.out.trans (hb.mono H1.out.size)
   have H2:=Lib.hid hb
   obtain⟨⟨c0,c1,c2,c3,c4,c5,c6⟩,_⟩:=HC.out w2 hb
   clear hb)
 |(go_at_call 39
   with_reducible refine(K.l _).mono ?_
   rintro e w2 ⟨rfl,hb⟩
   have hb:=H1.out.trans (hb.mono H1.out.size)
   have H2:=Lib.hid hb
   obtain⟨⟨c0,c1,c2,c3,c4,c5,c6⟩,_⟩:=HC.out w2 hb
   clear hb)
 |(go_at_call 40
   with_reducible refine(K.d _).mono ?_
   rintro e w2 ⟨rfl,hb⟩
   have hb:=H1.out.trans (hb.mono H1.out.size)
   have H2:=Lib.hid hb
   obtain⟨⟨c0,c1,c2,c3,c4,c5,c6⟩,_⟩:=HC.out w2 hb
   clear hb))
 go_ret
 exact⟨rfl,FIN.out _ H2.out⟩
set_option maxRecDepth 100000 in
set_option maxHeartbeats 4000000 in
theorem rtw_n3 (op tg vl:Int)(S:ByteArray)(ab:Bool)(ok os:Option Addr)(nk jk ns js:Nat)(w:World)(qA qS qN qL qD:Bool)(K:RtK w S tg vl ok os nk jk ns js qA qS qN qL qD)
 (hA:qA=true) (hab:ab=false) (hns:¬(0:Int)<(ns:Int)) (n19:op=19) (hs:(S.toList==[])=true) (k1:¬(0:Int)<(nk:Int)) (hD:qD=true) (htg:tg=0):Calls Tryz.prog 16 #[.agg #[.int .i64 op,.string S,.int .i64 tg,.int .i64 vl,.bool ab,.slice ok nk jk,.slice os ns js]] w fun e w'=>e= .returned (.bool (decide ((0:Int)≤vl)))∧Below w.heap.size w w':=by
 have hk:=World.alloc_heap_new w (.cells #[.int .i64 op,.string S,.int .i64 tg,.int .i64 vl,.bool ab,.slice ok nk jk,.slice os ns js] 28)
 have HC:=Lib.hid fun(W:World) (hW:Below (w.alloc (.cells #[.int .i64 op,.string S,.int .i64 tg,.int .i64 vl,.bool ab,.slice ok nk jk,.slice os ns js] 28)).heap.size (w.alloc (.cells #[.int .i64 op,.string S,.int .i64 tg,.int .i64 vl,.bool ab,.slice ok nk jk,.slice os ns js] 28)) W)=>cells7 ((hW.block w.heap.size (by simp)).trans hk)
 have HB:=Lib.hid (below_box (w:=w) (.cells #[.int .i64 op,.string S,.int .i64 tg,.int .i64 vl,.bool ab,.slice ok nk jk,.slice os ns js] 28))
 have FIN:=Lib.hid fun(W:World) (hW:Below (w.alloc (.cells #[.int .i64 op,.string S,.int .i64 tg,.int .i64 vl,.bool ab,.slice ok nk jk,.slice os ns js] 28)).heap.size (w.alloc (.cells #[.int .i64 op,.string S,.int .i64 tg,.int .i64 vl,.bool ab,.slice ok nk jk,.slice os ns js] 28)) W)=>HB.out.trans (hW.mono HB.out.size)
 clear hk
 subst hA hab n19 hD htg
 go_enter Tryz.func16,Tryz.ntmps16
 go_wp2_with (first
 |(go_at_call 36
   with_reducible refine(K.a _ HB.out).mono ?_
   rintro e w1 ⟨rfl,hb⟩
   have H1:=Lib.hid hb
   obtain⟨⟨c0,c1,c2,c3,c4,c5,c6⟩,_⟩:=HC.out w1 hb
   clear hb)
 |(go_at_call 37
   with_reducible refine(K.s _ (FIN.out _ H1.out)).mono ?_
   rintro e w2 ⟨rfl,hb⟩
   have hb:=H1.out.trans (hb.mono H1.out.size)
   have H2:=Lib.hid hb
   obtain⟨⟨c0,c1,c2,c3,c4,c5,c6⟩,_⟩:=HC.out w2 hb
   clear hb)
 |(go_at_call 38
   with_reducible refine(K.n _).mono ?_
   rintro e w2 ⟨rfl,hb⟩
   have hb:=H1.out.trans (hb.mono H1.out.size)
   have H2:=Lib.hid hb
   obtain⟨⟨c0,c1,c2,c3,c4,c5,c6⟩,_⟩:=HC.out w2 hb
   clear hb)
 |(go_at_call 39
   with_reducible refine(K.l _).mono ?_
   rintro e w2 ⟨rfl,hb⟩
   have hb:=H1.out.trans (hb.mono H1.out.size)
   have H2:=Lib.hid hb
   obtain⟨⟨c0,c1,c2,c3,c4,c5,c6⟩,_⟩:=HC.out w2 hb
   clear hb)
 |(go_at_call 40
   with_reducible refine(K.d _).mono ?_
   rintro e w2 ⟨rfl,hb⟩
   have hb:=H1.out.trans (hb.mono H1.out.size)
   have H2:=Lib.hid hb
   obtain⟨⟨c0,c1,c2,c3,c4,c5,c6⟩,_⟩:=HC.out w2 hb
   clear hb))
 go_ret
 exact⟨rfl,FIN.out _ H2.out⟩
end Char
end Go.Proofs.YtlmpkpjjakallaaGreatDoor
