import Derived.Test.YtlmpkpjjakallaaGreatDoorPk31
import Derived.Test.YtlmpkpjjakallaaGreatDoorPk32
namespace Go.Proofs.YtlmpkpjjakallaaGreatDoor
namespace Char
open Go.RowKit Go.Lib
open Go.Proofs.YtlmpkpjjakallaaGreatDoor.Fig (outT outV litL litX decV digB refLit_any)
def RetW (w:World)(x:Wd)(m:Int)(e:Ending)(w':World):Prop:=e= .returned (.tuple #[wdV x,.int .i64 m])∧Below w.heap.size w w'
theorem end_ret {fn:Func}{p q:Tmp}(h:fn.results= #[.cell p 89,.tmp q]){a:Act}(w w1:World)(x:Wd)(k:Int){y:Wd}(hk:w1.heap[w.heap.size]? =some (wdB y))(hb:Below w.heap.size w w1)
 (hp:a.tmps.getD p undef= .pointer (some ⟨w.heap.size,0,none⟩)) (hq:a.tmps.getD q undef= .int .i64 k) (hd:a.defers=[]):bodyPost Tryz.prog fn (RetW w x k) .ret a (set4 w1 w.heap.size x):=
 end_wd2 h _ w.heap.size (c:= .int .i64 k) (set4_at hk) hp hq hd ⟨rfl,set4_below hb (Nat.le_refl _)⟩
theorem end_retd {fn:Func}{p q:Tmp}(h:fn.results= #[.cell p 89,.tmp q]){a:Act}(w w1:World)(x:Wd)(k:Int){y:Wd}(hk:w1.heap[w.heap.size]? =some (wdB y))(hb:Below w.heap.size w w1)
 (hp:a.tmps.getD p undef= .pointer (some ⟨w.heap.size,0,none⟩)) (hq:a.tmps.getD q undef= .int .i64 k) (hd:a.defers=[]):bodyPost Tryz.prog fn (RetW w x k) .ret a (set4 w1 w.heap.size x).drew:=
 end_wd2 h _ w.heap.size (c:= .int .i64 k) (set4_at hk) hp hq hd ⟨rfl,(set4_below hb (Nat.le_refl _)).drew⟩
set_option maxRecDepth 20000 in
set_option maxHeartbeats 8000000 in
theorem one_q34_yes (l:List UInt8)(p nb:Nat)(S A:List UInt8)(q:Nat)(v:Value)(w:World)(hsz:(bs l).size=l.length)(hll:l.length≤1000)(hlt':p<(bs l).size)(hg:((bs l)[p]'hlt').toNat=nb)(_hn256:nb<256)
 (n34:((nb:Int)==34)=true)
 (hs1:∀wx,(Instr.slice 9 (.string (bs l)) (some (.int .i64 (p:Int))) (some (.int .i64 ((p:Int)+1))) none).run Tryz.prog wx= .ok (.string (bs S)) wx)
 (HF:Hid (∀W:World,Calls Tryz.prog 77 #[.string (bs l),.int .i64 ((p:Int)+1),.string (bs S)] W fun e w'=>e= .returned (.int .i64 (q:Int))∧W=w'))
 (_hq:q≤1000) (hq0:decide ((q:Int)<0)=false)
 (hs2:∀wx,(Instr.slice 9 (.string (bs l)) (some (.int .i64 ((p:Int)+1))) (some (.int .i64 (q:Int))) none).run Tryz.prog wx= .ok (.string (bs A)) wx):
 Calls Tryz.prog 52 #[.string (bs l),.int .i64 (p:Int),v] w (RetW w ⟨8,A,.num 0⟩ ((q:Int)+1)):=by
 have hp9:p<1000:=by omega
 obtain⟨W1,hW1,hb1,hk1,hl1,HW1,HKEY,HKB⟩:=wd_hd w
 have HB1:=Lib.hid (Below.refl W1.heap.size W1)
 obtain⟨⟨d0,d1,d2,d3⟩,f0,f1,f2,f3⟩:=HKEY.out W1 (Below.refl _ _)
 clear hb1 hk1 hl1 hW1
 go_enter Tryz.func52,Tryz.ntmps52
 go_upto_region 1 with fail
 rw[←HW1.out]
 clear HW1
 go_wp2_with (first
  |(go_at_call 77
    refine(HF.out _).mono ?_
    rintro e w9 ⟨rfl,rfl⟩))
 exact end_ret Tryz.results52 w W1 ⟨8,A,.num 0⟩ ((q:Int)+1) (HKB.out _ HB1.out).1 (HKB.out _ HB1.out).2 rfl rfl rfl
set_option maxRecDepth 20000 in
set_option maxHeartbeats 8000000 in
theorem one_q34_no (l:List UInt8)(p nb:Nat)(S:List UInt8)(v:Value)(w:World)(hsz:(bs l).size=l.length)(hll:l.length≤1000)(hlt':p<(bs l).size)(hg:((bs l)[p]'hlt').toNat=nb)(_hn256:nb<256)
 (n34:((nb:Int)==34)=true)
 (hs1:∀wx,(Instr.slice 9 (.string (bs l)) (some (.int .i64 (p:Int))) (some (.int .i64 ((p:Int)+1))) none).run Tryz.prog wx= .ok (.string (bs S)) wx)
 (HF:Hid (∀W:World,Calls Tryz.prog 77 #[.string (bs l),.int .i64 ((p:Int)+1),.string (bs S)] W fun e w'=>e= .returned (.int .i64 (-1))∧W=w')):
 Calls Tryz.prog 52 #[.string (bs l),.int .i64 (p:Int),v] w (RetW w wd0 0):=by
 have hp9:p<1000:=by omega
 obtain⟨W1,hW1,hb1,hk1,hl1,HW1,HKEY,HKB⟩:=wd_hd w
 have HB1:=Lib.hid (Below.refl W1.heap.size W1)
 obtain⟨⟨d0,d1,d2,d3⟩,f0,f1,f2,f3⟩:=HKEY.out W1 (Below.refl _ _)
 clear hb1 hk1 hl1 hW1
 go_enter Tryz.func52,Tryz.ntmps52
 go_upto_region 1 with fail
 rw[←HW1.out]
 clear HW1
 go_wp2_with (first
  |(go_at_call 77
    refine(HF.out _).mono ?_
    rintro e w9 ⟨rfl,rfl⟩))
 exact end_ret Tryz.results52 w W1 wd0 0 (HKB.out _ HB1.out).1 (HKB.out _ HB1.out).2 rfl rfl rfl
set_option maxRecDepth 20000 in
set_option maxHeartbeats 8000000 in
theorem one_q39_yes (l:List UInt8)(p nb:Nat)(S A:List UInt8)(q:Nat)(v:Value)(w:World)(hsz:(bs l).size=l.length)(hll:l.length≤1000)(hlt':p<(bs l).size)(hg:((bs l)[p]'hlt').toNat=nb)(_hn256:nb<256)
 (n34:((nb:Int)==34)=false)
 (n39:((nb:Int)==39)=true)
 (hs1:∀wx,(Instr.slice 9 (.string (bs l)) (some (.int .i64 (p:Int))) (some (.int .i64 ((p:Int)+1))) none).run Tryz.prog wx= .ok (.string (bs S)) wx)
 (HF:Hid (∀W:World,Calls Tryz.prog 77 #[.string (bs l),.int .i64 ((p:Int)+1),.string (bs S)] W fun e w'=>e= .returned (.int .i64 (q:Int))∧W=w'))
 (_hq:q≤1000) (hq0:decide ((q:Int)<0)=false)
 (hs2:∀wx,(Instr.slice 9 (.string (bs l)) (some (.int .i64 ((p:Int)+1))) (some (.int .i64 (q:Int))) none).run Tryz.prog wx= .ok (.string (bs A)) wx):
 Calls Tryz.prog 52 #[.string (bs l),.int .i64 (p:Int),v] w (RetW w ⟨8,A,.num 0⟩ ((q:Int)+1)):=by
 have hp9:p<1000:=by omega
 obtain⟨W1,hW1,hb1,hk1,hl1,HW1,HKEY,HKB⟩:=wd_hd w
 have HB1:=Lib.hid (Below.refl W1.heap.size W1)
 obtain⟨⟨d0,d1,d2,d3⟩,f0,f1,f2,f3⟩:=HKEY.out W1 (Below.refl _ _)
 clear hb1 hk1 hl1 hW1
 go_enter Tryz.func52,Tryz.ntmps52
 go_upto_region 1 with fail
 rw[←HW1.out]
 clear HW1
 go_wp2_with (first
  |(go_at_call 77
    refine(HF.out _).mono ?_
    rintro e w9 ⟨rfl,rfl⟩))
 exact end_ret Tryz.results52 w W1 ⟨8,A,.num 0⟩ ((q:Int)+1) (HKB.out _ HB1.out).1 (HKB.out _ HB1.out).2 rfl rfl rfl
set_option maxRecDepth 20000 in
set_option maxHeartbeats 8000000 in
theorem one_q39_no (l:List UInt8)(p nb:Nat)(S:List UInt8)(v:Value)(w:World)(hsz:(bs l).size=l.length)(hll:l.length≤1000)(hlt':p<(bs l).size)(hg:((bs l)[p]'hlt').toNat=nb)(_hn256:nb<256)
 (n34:((nb:Int)==34)=false)
 (n39:((nb:Int)==39)=true)
 (hs1:∀wx,(Instr.slice 9 (.string (bs l)) (some (.int .i64 (p:Int))) (some (.int .i64 ((p:Int)+1))) none).run Tryz.prog wx= .ok (.string (bs S)) wx)
 (HF:Hid (∀W:World,Calls Tryz.prog 77 #[.string (bs l),.int .i64 ((p:Int)+1),.string (bs S)] W fun e w'=>e= .returned (.int .i64 (-1))∧W=w')):
 Calls Tryz.prog 52 #[.string (bs l),.int .i64 (p:Int),v] w (RetW w wd0 0):=by
 have hp9:p<1000:=by omega
 obtain⟨W1,hW1,hb1,hk1,hl1,HW1,HKEY,HKB⟩:=wd_hd w
 have HB1:=Lib.hid (Below.refl W1.heap.size W1)
 obtain⟨⟨d0,d1,d2,d3⟩,f0,f1,f2,f3⟩:=HKEY.out W1 (Below.refl _ _)
 clear hb1 hk1 hl1 hW1
 go_enter Tryz.func52,Tryz.ntmps52
 go_upto_region 1 with fail
 rw[←HW1.out]
 clear HW1
 go_wp2_with (first
  |(go_at_call 77
    refine(HF.out _).mono ?_
    rintro e w9 ⟨rfl,rfl⟩))
 exact end_ret Tryz.results52 w W1 wd0 0 (HKB.out _ HB1.out).1 (HKB.out _ HB1.out).2 rfl rfl rfl
set_option maxRecDepth 20000 in
set_option maxHeartbeats 8000000 in
theorem one_nend_no (l:List UInt8)(p nb:Nat)(u:List UInt8)(t1:Nat)(T0 V:Int)(v:Value)(w:World)(hsz:(bs l).size=l.length)(hll:l.length≤1000)(hlt':p<(bs l).size)(hg:((bs l)[p]'hlt').toNat=nb)(_hn256:nb<256)
 (n34:((nb:Int)==34)=false)
 (n39:((nb:Int)==39)=false)
 (H1:Hid (∀W:World,Calls Tryz.prog 83 #[.string (bs l),.int .i64 (p:Int)] W fun e w'=>e= .returned (.int .i64 (t1:Int))∧W=w'))
 (_ht1:decide ((p:Int)<(t1:Int))=true) (_ht1n:decide (p<t1)=true) (_htl:t1≤1000)
 (_he:decide ((t1:Int)<(l.length:Int))=false) (he2:decide (t1<l.length)=false)
 (hs:∀wx,(Instr.slice 9 (.string (bs l)) (some (.int .i64 (p:Int))) (some (.int .i64 (t1:Int))) none).run Tryz.prog wx= .ok (.string (bs u)) wx)
 (HLIT:Hid (∀W:World,Calls Tryz.prog 84 #[.string (bs u)] W fun e w'=>e= .returned (.tuple #[.agg #[.int .i64 T0,.int .i64 V],.bool false])∧Below W.heap.size W w')):
 Calls Tryz.prog 52 #[.string (bs l),.int .i64 (p:Int),v] w (RetW w wd0 0):=by
 have hp9:p<1000:=by omega
 obtain⟨W1,hW1,hb1,hk1,hl1,HW1,HKEY,HKB⟩:=wd_hd w
 have HB1:=Lib.hid (Below.refl W1.heap.size W1)
 obtain⟨⟨d0,d1,d2,d3⟩,f0,f1,f2,f3⟩:=HKEY.out W1 (Below.refl _ _)
 clear hb1 hk1 hl1 hW1
 go_enter Tryz.func52,Tryz.ntmps52
 go_upto_region 1 with fail
 rw[←HW1.out]
 clear HW1
 go_wp2_with (first
  |(go_at_call 83
    refine(H1.out _).mono ?_
    rintro e w9 ⟨rfl,rfl⟩)
  |(go_at_call 84
    refine(HLIT.out _).mono ?_
    rintro e w5 ⟨rfl,hb⟩
    have ka:=fun ob=>HKEY.out _ (hb.trans ((below_box ob).mono hb.size))
    have KB:=Lib.hid fun ob=>HKB.out _ (hb.trans ((below_box ob).mono hb.size))
    clear hb HLIT d0 d1 d2 d3 f0 f1 f2 f3))
 exact end_ret Tryz.results52 w _ wd0 0 (KB.out _).1 (KB.out _).2 rfl rfl rfl
set_option maxRecDepth 20000 in
set_option maxHeartbeats 8000000 in
theorem one_nend_odd (l:List UInt8)(p nb:Nat)(u:List UInt8)(t1:Nat)(T0 V:Int)(v:Value)(w:World)(hsz:(bs l).size=l.length)(hll:l.length≤1000)(hlt':p<(bs l).size)(hg:((bs l)[p]'hlt').toNat=nb)(_hn256:nb<256)
 (n34:((nb:Int)==34)=false)
 (n39:((nb:Int)==39)=false)
 (H1:Hid (∀W:World,Calls Tryz.prog 83 #[.string (bs l),.int .i64 (p:Int)] W fun e w'=>e= .returned (.int .i64 (t1:Int))∧W=w'))
 (_ht1:decide ((p:Int)<(t1:Int))=true) (_ht1n:decide (p<t1)=true) (_htl:t1≤1000)
 (_he:decide ((t1:Int)<(l.length:Int))=false) (he2:decide (t1<l.length)=false)
 (hT:(T0 != 0)=true)
 (hs:∀wx,(Instr.slice 9 (.string (bs l)) (some (.int .i64 (p:Int))) (some (.int .i64 (t1:Int))) none).run Tryz.prog wx= .ok (.string (bs u)) wx)
 (HLIT:Hid (∀W:World,Calls Tryz.prog 84 #[.string (bs u)] W fun e w'=>e= .returned (.tuple #[.agg #[.int .i64 T0,.int .i64 V],.bool true])∧Below W.heap.size W w')):
 Calls Tryz.prog 52 #[.string (bs l),.int .i64 (p:Int),v] w (RetW w wd0 0):=by
 have hp9:p<1000:=by omega
 obtain⟨W1,hW1,hb1,hk1,hl1,HW1,HKEY,HKB⟩:=wd_hd w
 have HB1:=Lib.hid (Below.refl W1.heap.size W1)
 obtain⟨⟨d0,d1,d2,d3⟩,f0,f1,f2,f3⟩:=HKEY.out W1 (Below.refl _ _)
 clear hb1 hk1 hl1 hW1
 go_enter Tryz.func52,Tryz.ntmps52
 go_upto_region 1 with fail
 rw[←HW1.out]
 clear HW1
 go_wp2_with (first
  |(go_at_call 83
    refine(H1.out _).mono ?_
    rintro e w9 ⟨rfl,rfl⟩)
  |(go_at_call 84
    refine(HLIT.out _).mono ?_
    rintro e w5 ⟨rfl,hb⟩
    have ka:=fun ob=>HKEY.out _ (hb.trans ((below_box ob).mono hb.size))
    have KB:=Lib.hid fun ob=>HKB.out _ (hb.trans ((below_box ob).mono hb.size))
    clear hb HLIT d0 d1 d2 d3 f0 f1 f2 f3))
 exact end_ret Tryz.results52 w _ wd0 0 (KB.out _).1 (KB.out _).2 rfl rfl rfl
set_option maxRecDepth 20000 in
set_option maxHeartbeats 8000000 in
theorem one_nend_yes (l:List UInt8)(p nb:Nat)(u:List UInt8)(t1:Nat)(V:Int)(v:Value)(w:World)(hsz:(bs l).size=l.length)(hll:l.length≤1000)(hlt':p<(bs l).size)(hg:((bs l)[p]'hlt').toNat=nb)(_hn256:nb<256)
 (n34:((nb:Int)==34)=false)
 (n39:((nb:Int)==39)=false)
 (H1:Hid (∀W:World,Calls Tryz.prog 83 #[.string (bs l),.int .i64 (p:Int)] W fun e w'=>e= .returned (.int .i64 (t1:Int))∧W=w'))
 (_ht1:decide ((p:Int)<(t1:Int))=true) (_ht1n:decide (p<t1)=true) (_htl:t1≤1000)
 (_he:decide ((t1:Int)<(l.length:Int))=false) (he2:decide (t1<l.length)=false)
 (hs:∀wx,(Instr.slice 9 (.string (bs l)) (some (.int .i64 (p:Int))) (some (.int .i64 (t1:Int))) none).run Tryz.prog wx= .ok (.string (bs u)) wx)
 (HLIT:Hid (∀W:World,Calls Tryz.prog 84 #[.string (bs u)] W fun e w'=>e= .returned (.tuple #[.agg #[.int .i64 0,.int .i64 V],.bool true])∧Below W.heap.size W w')):
 Calls Tryz.prog 52 #[.string (bs l),.int .i64 (p:Int),v] w (RetW w ⟨9,u,.num V⟩ (t1:Int)):=by
 have hp9:p<1000:=by omega
 obtain⟨W1,hW1,hb1,hk1,hl1,HW1,HKEY,HKB⟩:=wd_hd w
 have HB1:=Lib.hid (Below.refl W1.heap.size W1)
 obtain⟨⟨d0,d1,d2,d3⟩,f0,f1,f2,f3⟩:=HKEY.out W1 (Below.refl _ _)
 clear hb1 hk1 hl1 hW1
 go_enter Tryz.func52,Tryz.ntmps52
 go_upto_region 1 with fail
 rw[←HW1.out]
 clear HW1
 go_wp2_with (first
  |(go_at_call 83
    refine(H1.out _).mono ?_
    rintro e w9 ⟨rfl,rfl⟩)
  |(go_at_call 84
    refine(HLIT.out _).mono ?_
    rintro e w5 ⟨rfl,hb⟩
    have ka:=fun ob=>HKEY.out _ (hb.trans ((below_box ob).mono hb.size))
    have KB:=Lib.hid fun ob=>HKB.out _ (hb.trans ((below_box ob).mono hb.size))
    clear hb HLIT d0 d1 d2 d3 f0 f1 f2 f3))
 obtain⟨⟨d0,d1,d2,d3⟩,f0,f1,f2,f3⟩:=ka (.cells #[.int .i64 0,.int .i64 V] 24)
 obtain⟨e1,e2⟩:=dec_box w5 0 V
 clear ka
 go_region
 go_wp2_with fail
 exact end_retd Tryz.results52 w _ ⟨9,u,.num V⟩ (t1:Int) (KB.out _).1 (KB.out _).2 rfl rfl rfl
set_option maxRecDepth 20000 in
set_option maxHeartbeats 8000000 in
theorem one_nnp_no (l:List UInt8)(p nb:Nat)(u:List UInt8)(t1:Nat)(n2:Nat)(T0 V:Int)(v:Value)(w:World)(hsz:(bs l).size=l.length)(hll:l.length≤1000)(hlt':p<(bs l).size)(hg:((bs l)[p]'hlt').toNat=nb)(_hn256:nb<256)
 (n34:((nb:Int)==34)=false)
 (n39:((nb:Int)==39)=false)
 (H1:Hid (∀W:World,Calls Tryz.prog 83 #[.string (bs l),.int .i64 (p:Int)] W fun e w'=>e= .returned (.int .i64 (t1:Int))∧W=w'))
 (_ht1:decide ((p:Int)<(t1:Int))=true) (_ht1n:decide (p<t1)=true) (_htl:t1≤1000)
 (_he:decide ((t1:Int)<(l.length:Int))=true) (he2:decide (t1<l.length)=true) (hlt2:t1<(bs l).size) (hg2:((bs l)[t1]'hlt2).toNat=n2) (_hn2:n2<256)
 (h46:((n2:Int)==46)=false)
 (hs:∀wx,(Instr.slice 9 (.string (bs l)) (some (.int .i64 (p:Int))) (some (.int .i64 (t1:Int))) none).run Tryz.prog wx= .ok (.string (bs u)) wx)
 (HLIT:Hid (∀W:World,Calls Tryz.prog 84 #[.string (bs u)] W fun e w'=>e= .returned (.tuple #[.agg #[.int .i64 T0,.int .i64 V],.bool false])∧Below W.heap.size W w')):
 Calls Tryz.prog 52 #[.string (bs l),.int .i64 (p:Int),v] w (RetW w wd0 0):=by
 have hp9:p<1000:=by omega
 obtain⟨W1,hW1,hb1,hk1,hl1,HW1,HKEY,HKB⟩:=wd_hd w
 have HB1:=Lib.hid (Below.refl W1.heap.size W1)
 obtain⟨⟨d0,d1,d2,d3⟩,f0,f1,f2,f3⟩:=HKEY.out W1 (Below.refl _ _)
 clear hb1 hk1 hl1 hW1
 go_enter Tryz.func52,Tryz.ntmps52
 go_upto_region 1 with fail
 rw[←HW1.out]
 clear HW1
 go_wp2_with (first
  |(go_at_call 83
    refine(H1.out _).mono ?_
    rintro e w9 ⟨rfl,rfl⟩)
  |(go_at_call 84
    refine(HLIT.out _).mono ?_
    rintro e w5 ⟨rfl,hb⟩
    have ka:=fun ob=>HKEY.out _ (hb.trans ((below_box ob).mono hb.size))
    have KB:=Lib.hid fun ob=>HKB.out _ (hb.trans ((below_box ob).mono hb.size))
    clear hb HLIT d0 d1 d2 d3 f0 f1 f2 f3))
 exact end_ret Tryz.results52 w _ wd0 0 (KB.out _).1 (KB.out _).2 rfl rfl rfl
set_option maxRecDepth 20000 in
set_option maxHeartbeats 8000000 in
theorem one_nnp_odd (l:List UInt8)(p nb:Nat)(u:List UInt8)(t1:Nat)(n2:Nat)(T0 V:Int)(v:Value)(w:World)(hsz:(bs l).size=l.length)(hll:l.length≤1000)(hlt':p<(bs l).size)(hg:((bs l)[p]'hlt').toNat=nb)(_hn256:nb<256)
 (n34:((nb:Int)==34)=false)
 (n39:((nb:Int)==39)=false)
 (H1:Hid (∀W:World,Calls Tryz.prog 83 #[.string (bs l),.int .i64 (p:Int)] W fun e w'=>e= .returned (.int .i64 (t1:Int))∧W=w'))
 (_ht1:decide ((p:Int)<(t1:Int))=true) (_ht1n:decide (p<t1)=true) (_htl:t1≤1000)
 (_he:decide ((t1:Int)<(l.length:Int))=true) (he2:decide (t1<l.length)=true) (hlt2:t1<(bs l).size) (hg2:((bs l)[t1]'hlt2).toNat=n2) (_hn2:n2<256)
 (h46:((n2:Int)==46)=false)
 (hT:(T0 != 0)=true)
 (hs:∀wx,(Instr.slice 9 (.string (bs l)) (some (.int .i64 (p:Int))) (some (.int .i64 (t1:Int))) none).run Tryz.prog wx= .ok (.string (bs u)) wx)
 (HLIT:Hid (∀W:World,Calls Tryz.prog 84 #[.string (bs u)] W fun e w'=>e= .returned (.tuple #[.agg #[.int .i64 T0,.int .i64 V],.bool true])∧Below W.heap.size W w')):
 Calls Tryz.prog 52 #[.string (bs l),.int .i64 (p:Int),v] w (RetW w wd0 0):=by
 have hp9:p<1000:=by omega
 obtain⟨W1,hW1,hb1,hk1,hl1,HW1,HKEY,HKB⟩:=wd_hd w
 have HB1:=Lib.hid (Below.refl W1.heap.size W1)
 obtain⟨⟨d0,d1,d2,d3⟩,f0,f1,f2,f3⟩:=HKEY.out W1 (Below.refl _ _)
 clear hb1 hk1 hl1 hW1
 go_enter Tryz.func52,Tryz.ntmps52
 go_upto_region 1 with fail
 rw[←HW1.out]
 clear HW1
 go_wp2_with (first
  |(go_at_call 83
    refine(H1.out _).mono ?_
    rintro e w9 ⟨rfl,rfl⟩)
  |(go_at_call 84
    refine(HLIT.out _).mono ?_
    rintro e w5 ⟨rfl,hb⟩
    have ka:=fun ob=>HKEY.out _ (hb.trans ((below_box ob).mono hb.size))
    have KB:=Lib.hid fun ob=>HKB.out _ (hb.trans ((below_box ob).mono hb.size))
    clear hb HLIT d0 d1 d2 d3 f0 f1 f2 f3))
 exact end_ret Tryz.results52 w _ wd0 0 (KB.out _).1 (KB.out _).2 rfl rfl rfl
set_option maxRecDepth 20000 in
set_option maxHeartbeats 8000000 in
theorem one_nnp_yes (l:List UInt8)(p nb:Nat)(u:List UInt8)(t1:Nat)(n2:Nat)(V:Int)(v:Value)(w:World)(hsz:(bs l).size=l.length)(hll:l.length≤1000)(hlt':p<(bs l).size)(hg:((bs l)[p]'hlt').toNat=nb)(_hn256:nb<256)
 (n34:((nb:Int)==34)=false)
 (n39:((nb:Int)==39)=false)
 (H1:Hid (∀W:World,Calls Tryz.prog 83 #[.string (bs l),.int .i64 (p:Int)] W fun e w'=>e= .returned (.int .i64 (t1:Int))∧W=w'))
 (_ht1:decide ((p:Int)<(t1:Int))=true) (_ht1n:decide (p<t1)=true) (_htl:t1≤1000)
 (_he:decide ((t1:Int)<(l.length:Int))=true) (he2:decide (t1<l.length)=true) (hlt2:t1<(bs l).size) (hg2:((bs l)[t1]'hlt2).toNat=n2) (_hn2:n2<256)
 (h46:((n2:Int)==46)=false)
 (hs:∀wx,(Instr.slice 9 (.string (bs l)) (some (.int .i64 (p:Int))) (some (.int .i64 (t1:Int))) none).run Tryz.prog wx= .ok (.string (bs u)) wx)
 (HLIT:Hid (∀W:World,Calls Tryz.prog 84 #[.string (bs u)] W fun e w'=>e= .returned (.tuple #[.agg #[.int .i64 0,.int .i64 V],.bool true])∧Below W.heap.size W w')):
 Calls Tryz.prog 52 #[.string (bs l),.int .i64 (p:Int),v] w (RetW w ⟨9,u,.num V⟩ (t1:Int)):=by
 have hp9:p<1000:=by omega
 obtain⟨W1,hW1,hb1,hk1,hl1,HW1,HKEY,HKB⟩:=wd_hd w
 have HB1:=Lib.hid (Below.refl W1.heap.size W1)
 obtain⟨⟨d0,d1,d2,d3⟩,f0,f1,f2,f3⟩:=HKEY.out W1 (Below.refl _ _)
 clear hb1 hk1 hl1 hW1
 go_enter Tryz.func52,Tryz.ntmps52
 go_upto_region 1 with fail
 rw[←HW1.out]
 clear HW1
 go_wp2_with (first
  |(go_at_call 83
    refine(H1.out _).mono ?_
    rintro e w9 ⟨rfl,rfl⟩)
  |(go_at_call 84
    refine(HLIT.out _).mono ?_
    rintro e w5 ⟨rfl,hb⟩
    have ka:=fun ob=>HKEY.out _ (hb.trans ((below_box ob).mono hb.size))
    have KB:=Lib.hid fun ob=>HKB.out _ (hb.trans ((below_box ob).mono hb.size))
    clear hb HLIT d0 d1 d2 d3 f0 f1 f2 f3))
 obtain⟨⟨d0,d1,d2,d3⟩,f0,f1,f2,f3⟩:=ka (.cells #[.int .i64 0,.int .i64 V] 24)
 obtain⟨e1,e2⟩:=dec_box w5 0 V
 clear ka
 go_region
 go_wp2_with fail
 exact end_retd Tryz.results52 w _ ⟨9,u,.num V⟩ (t1:Int) (KB.out _).1 (KB.out _).2 rfl rfl rfl
set_option maxRecDepth 20000 in
set_option maxHeartbeats 8000000 in
theorem one_npt_no (l:List UInt8)(p nb:Nat)(u:List UInt8)(t1:Nat)(n2:Nat)(t2:Nat)(T0 V:Int)(v:Value)(w:World)(hsz:(bs l).size=l.length)(hll:l.length≤1000)(hlt':p<(bs l).size)(hg:((bs l)[p]'hlt').toNat=nb)(_hn256:nb<256)
 (n34:((nb:Int)==34)=false)
 (n39:((nb:Int)==39)=false)
 (H1:Hid (∀W:World,Calls Tryz.prog 83 #[.string (bs l),.int .i64 (p:Int)] W fun e w'=>e= .returned (.int .i64 (t1:Int))∧W=w'))
 (_ht1:decide ((p:Int)<(t1:Int))=true) (_ht1n:decide (p<t1)=true) (_htl:t1≤1000)
 (_he:decide ((t1:Int)<(l.length:Int))=true) (he2:decide (t1<l.length)=true) (hlt2:t1<(bs l).size) (hg2:((bs l)[t1]'hlt2).toNat=n2) (_hn2:n2<256)
 (h46:((n2:Int)==46)=true)
 (H2:Hid (∀W:World,Calls Tryz.prog 83 #[.string (bs l),.int .i64 ((t1:Int)+1)] W fun e w'=>e= .returned (.int .i64 (t2:Int))∧W=w'))
 (_ht2:t2≤1000)
 (hs:∀wx,(Instr.slice 9 (.string (bs l)) (some (.int .i64 (p:Int))) (some (.int .i64 (t2:Int))) none).run Tryz.prog wx= .ok (.string (bs u)) wx)
 (HLIT:Hid (∀W:World,Calls Tryz.prog 84 #[.string (bs u)] W fun e w'=>e= .returned (.tuple #[.agg #[.int .i64 T0,.int .i64 V],.bool false])∧Below W.heap.size W w')):
 Calls Tryz.prog 52 #[.string (bs l),.int .i64 (p:Int),v] w (RetW w wd0 0):=by
 have hp9:p<1000:=by omega
 obtain⟨W1,hW1,hb1,hk1,hl1,HW1,HKEY,HKB⟩:=wd_hd w
 have HB1:=Lib.hid (Below.refl W1.heap.size W1)
 obtain⟨⟨d0,d1,d2,d3⟩,f0,f1,f2,f3⟩:=HKEY.out W1 (Below.refl _ _)
 clear hb1 hk1 hl1 hW1
 go_enter Tryz.func52,Tryz.ntmps52
 go_upto_region 1 with fail
 rw[←HW1.out]
 clear HW1
 go_wp2_with (first
  |(go_at_call 83
    with_reducible refine(H1.out _).mono ?_
    rintro e w9 ⟨rfl,rfl⟩)
  |(go_at_call 83
    refine(H2.out _).mono ?_
    rintro e w9 ⟨rfl,rfl⟩)
  |(go_at_call 84
    refine(HLIT.out _).mono ?_
    rintro e w5 ⟨rfl,hb⟩
    have ka:=fun ob=>HKEY.out _ (hb.trans ((below_box ob).mono hb.size))
    have KB:=Lib.hid fun ob=>HKB.out _ (hb.trans ((below_box ob).mono hb.size))
    clear hb HLIT d0 d1 d2 d3 f0 f1 f2 f3))
 exact end_ret Tryz.results52 w _ wd0 0 (KB.out _).1 (KB.out _).2 rfl rfl rfl
set_option maxRecDepth 20000 in
set_option maxHeartbeats 8000000 in
theorem one_npt_odd (l:List UInt8)(p nb:Nat)(u:List UInt8)(t1:Nat)(n2:Nat)(t2:Nat)(T0 V:Int)(v:Value)(w:World)(hsz:(bs l).size=l.length)(hll:l.length≤1000)(hlt':p<(bs l).size)(hg:((bs l)[p]'hlt').toNat=nb)(_hn256:nb<256)
 (n34:((nb:Int)==34)=false)
 (n39:((nb:Int)==39)=false)
 (H1:Hid (∀W:World,Calls Tryz.prog 83 #[.string (bs l),.int .i64 (p:Int)] W fun e w'=>e= .returned (.int .i64 (t1:Int))∧W=w'))
 (_ht1:decide ((p:Int)<(t1:Int))=true) (_ht1n:decide (p<t1)=true) (_htl:t1≤1000)
 (_he:decide ((t1:Int)<(l.length:Int))=true) (he2:decide (t1<l.length)=true) (hlt2:t1<(bs l).size) (hg2:((bs l)[t1]'hlt2).toNat=n2) (_hn2:n2<256)
 (h46:((n2:Int)==46)=true)
 (H2:Hid (∀W:World,Calls Tryz.prog 83 #[.string (bs l),.int .i64 ((t1:Int)+1)] W fun e w'=>e= .returned (.int .i64 (t2:Int))∧W=w'))
 (_ht2:t2≤1000)
 (hT:(T0 != 0)=true)
 (hs:∀wx,(Instr.slice 9 (.string (bs l)) (some (.int .i64 (p:Int))) (some (.int .i64 (t2:Int))) none).run Tryz.prog wx= .ok (.string (bs u)) wx)
 (HLIT:Hid (∀W:World,Calls Tryz.prog 84 #[.string (bs u)] W fun e w'=>e= .returned (.tuple #[.agg #[.int .i64 T0,.int .i64 V],.bool true])∧Below W.heap.size W w')):
 Calls Tryz.prog 52 #[.string (bs l),.int .i64 (p:Int),v] w (RetW w wd0 0):=by
 have hp9:p<1000:=by omega
 obtain⟨W1,hW1,hb1,hk1,hl1,HW1,HKEY,HKB⟩:=wd_hd w
 have HB1:=Lib.hid (Below.refl W1.heap.size W1)
 obtain⟨⟨d0,d1,d2,d3⟩,f0,f1,f2,f3⟩:=HKEY.out W1 (Below.refl _ _)
 clear hb1 hk1 hl1 hW1
 go_enter Tryz.func52,Tryz.ntmps52
 go_upto_region 1 with fail
 rw[←HW1.out]
 clear HW1
 go_wp2_with (first
  |(go_at_call 83
    with_reducible refine(H1.out _).mono ?_
    rintro e w9 ⟨rfl,rfl⟩)
  |(go_at_call 83
    refine(H2.out _).mono ?_
    rintro e w9 ⟨rfl,rfl⟩)
  |(go_at_call 84
    refine(HLIT.out _).mono ?_
    rintro e w5 ⟨rfl,hb⟩
    have ka:=fun ob=>HKEY.out _ (hb.trans ((below_box ob).mono hb.size))
    have KB:=Lib.hid fun ob=>HKB.out _ (hb.trans ((below_box ob).mono hb.size))
    clear hb HLIT d0 d1 d2 d3 f0 f1 f2 f3))
 exact end_ret Tryz.results52 w _ wd0 0 (KB.out _).1 (KB.out _).2 rfl rfl rfl
set_option maxRecDepth 20000 in
set_option maxHeartbeats 8000000 in
theorem one_npt_yes (l:List UInt8)(p nb:Nat)(u:List UInt8)(t1:Nat)(n2:Nat)(t2:Nat)(V:Int)(v:Value)(w:World)(hsz:(bs l).size=l.length)(hll:l.length≤1000)(hlt':p<(bs l).size)(hg:((bs l)[p]'hlt').toNat=nb)(_hn256:nb<256)
 (n34:((nb:Int)==34)=false)
 (n39:((nb:Int)==39)=false)
 (H1:Hid (∀W:World,Calls Tryz.prog 83 #[.string (bs l),.int .i64 (p:Int)] W fun e w'=>e= .returned (.int .i64 (t1:Int))∧W=w'))
 (_ht1:decide ((p:Int)<(t1:Int))=true) (_ht1n:decide (p<t1)=true) (_htl:t1≤1000)
 (_he:decide ((t1:Int)<(l.length:Int))=true) (he2:decide (t1<l.length)=true) (hlt2:t1<(bs l).size) (hg2:((bs l)[t1]'hlt2).toNat=n2) (_hn2:n2<256)
 (h46:((n2:Int)==46)=true)
 (H2:Hid (∀W:World,Calls Tryz.prog 83 #[.string (bs l),.int .i64 ((t1:Int)+1)] W fun e w'=>e= .returned (.int .i64 (t2:Int))∧W=w'))
 (_ht2:t2≤1000)
 (hs:∀wx,(Instr.slice 9 (.string (bs l)) (some (.int .i64 (p:Int))) (some (.int .i64 (t2:Int))) none).run Tryz.prog wx= .ok (.string (bs u)) wx)
 (HLIT:Hid (∀W:World,Calls Tryz.prog 84 #[.string (bs u)] W fun e w'=>e= .returned (.tuple #[.agg #[.int .i64 0,.int .i64 V],.bool true])∧Below W.heap.size W w')):
 Calls Tryz.prog 52 #[.string (bs l),.int .i64 (p:Int),v] w (RetW w ⟨9,u,.num V⟩ (t2:Int)):=by
 have hp9:p<1000:=by omega
 obtain⟨W1,hW1,hb1,hk1,hl1,HW1,HKEY,HKB⟩:=wd_hd w
 have HB1:=Lib.hid (Below.refl W1.heap.size W1)
 obtain⟨⟨d0,d1,d2,d3⟩,f0,f1,f2,f3⟩:=HKEY.out W1 (Below.refl _ _)
 clear hb1 hk1 hl1 hW1
 go_enter Tryz.func52,Tryz.ntmps52
 go_upto_region 1 with fail
 rw[←HW1.out]
 clear HW1
 go_wp2_with (first
  |(go_at_call 83
    with_reducible refine(H1.out _).mono ?_
    rintro e w9 ⟨rfl,rfl⟩)
  |(go_at_call 83
    refine(H2.out _).mono ?_
    rintro e w9 ⟨rfl,rfl⟩)
  |(go_at_call 84
    refine(HLIT.out _).mono ?_
    rintro e w5 ⟨rfl,hb⟩
    have ka:=fun ob=>HKEY.out _ (hb.trans ((below_box ob).mono hb.size))
    have KB:=Lib.hid fun ob=>HKB.out _ (hb.trans ((below_box ob).mono hb.size))
    clear hb HLIT d0 d1 d2 d3 f0 f1 f2 f3))
 obtain⟨⟨d0,d1,d2,d3⟩,f0,f1,f2,f3⟩:=ka (.cells #[.int .i64 0,.int .i64 V] 24)
 obtain⟨e1,e2⟩:=dec_box w5 0 V
 clear ka
 go_region
 go_wp2_with fail
 exact end_retd Tryz.results52 w _ ⟨9,u,.num V⟩ (t2:Int) (KB.out _).1 (KB.out _).2 rfl rfl rfl
set_option maxRecDepth 20000 in
set_option maxHeartbeats 8000000 in
theorem one_ndot_no (l:List UInt8)(p nb:Nat)(u:List UInt8)(t1:Nat)(T0 V:Int)(v:Value)(w:World)(hsz:(bs l).size=l.length)(hll:l.length≤1000)(hlt':p<(bs l).size)(hg:((bs l)[p]'hlt').toNat=nb)(_hn256:nb<256)
 (n34:((nb:Int)==34)=false)
 (n39:((nb:Int)==39)=false)
 (H1:Hid (∀W:World,Calls Tryz.prog 83 #[.string (bs l),.int .i64 (p:Int)] W fun e w'=>e= .returned (.int .i64 (p:Int))∧W=w'))
 (H2:Hid (∀W:World,Calls Tryz.prog 83 #[.string (bs l),.int .i64 ((p:Int)+1)] W fun e w'=>e= .returned (.int .i64 (t1:Int))∧W=w'))
 (h46:((nb:Int)==46)=true) (_ht1:decide ((p:Int)+1<(t1:Int))=true) (_ht1n:decide (p+1<t1)=true) (_htl:t1≤1000) (_hpl:decide ((p:Int)<(l.length:Int))=true) (hpl2:decide (p<l.length)=true)
 (hs:∀wx,(Instr.slice 9 (.string (bs l)) (some (.int .i64 (p:Int))) (some (.int .i64 (t1:Int))) none).run Tryz.prog wx= .ok (.string (bs u)) wx)
 (HLIT:Hid (∀W:World,Calls Tryz.prog 84 #[.string (bs u)] W fun e w'=>e= .returned (.tuple #[.agg #[.int .i64 T0,.int .i64 V],.bool false])∧Below W.heap.size W w')):
 Calls Tryz.prog 52 #[.string (bs l),.int .i64 (p:Int),v] w (RetW w wd0 0):=by
 have hp9:p<1000:=by omega
 obtain⟨W1,hW1,hb1,hk1,hl1,HW1,HKEY,HKB⟩:=wd_hd w
 have HB1:=Lib.hid (Below.refl W1.heap.size W1)
 obtain⟨⟨d0,d1,d2,d3⟩,f0,f1,f2,f3⟩:=HKEY.out W1 (Below.refl _ _)
 clear hb1 hk1 hl1 hW1
 go_enter Tryz.func52,Tryz.ntmps52
 go_upto_region 1 with fail
 rw[←HW1.out]
 clear HW1
 go_wp2_with (first
  |(go_at_call 83
    with_reducible refine(H1.out _).mono ?_
    rintro e w9 ⟨rfl,rfl⟩)
  |(go_at_call 83
    refine(H2.out _).mono ?_
    rintro e w9 ⟨rfl,rfl⟩)
  |(go_at_call 84
    refine(HLIT.out _).mono ?_
    rintro e w5 ⟨rfl,hb⟩
    have ka:=fun ob=>HKEY.out _ (hb.trans ((below_box ob).mono hb.size))
    have KB:=Lib.hid fun ob=>HKB.out _ (hb.trans ((below_box ob).mono hb.size))
    clear hb HLIT d0 d1 d2 d3 f0 f1 f2 f3))
 exact end_ret Tryz.results52 w _ wd0 0 (KB.out _).1 (KB.out _).2 rfl rfl rfl
set_option maxRecDepth 20000 in
set_option maxHeartbeats 8000000 in
theorem one_ndot_odd (l:List UInt8)(p nb:Nat)(u:List UInt8)(t1:Nat)(T0 V:Int)(v:Value)(w:World)(hsz:(bs l).size=l.length)(hll:l.length≤1000)(hlt':p<(bs l).size)(hg:((bs l)[p]'hlt').toNat=nb)(_hn256:nb<256)
 (n34:((nb:Int)==34)=false)
 (n39:((nb:Int)==39)=false)
 (H1:Hid (∀W:World,Calls Tryz.prog 83 #[.string (bs l),.int .i64 (p:Int)] W fun e w'=>e= .returned (.int .i64 (p:Int))∧W=w'))
 (H2:Hid (∀W:World,Calls Tryz.prog 83 #[.string (bs l),.int .i64 ((p:Int)+1)] W fun e w'=>e= .returned (.int .i64 (t1:Int))∧W=w'))
 (h46:((nb:Int)==46)=true) (_ht1:decide ((p:Int)+1<(t1:Int))=true) (_ht1n:decide (p+1<t1)=true) (_htl:t1≤1000) (_hpl:decide ((p:Int)<(l.length:Int))=true) (hpl2:decide (p<l.length)=true)
 (hT:(T0 != 0)=true)
 (hs:∀wx,(Instr.slice 9 (.string (bs l)) (some (.int .i64 (p:Int))) (some (.int .i64 (t1:Int))) none).run Tryz.prog wx= .ok (.string (bs u)) wx)
 (HLIT:Hid (∀W:World,Calls Tryz.prog 84 #[.string (bs u)] W fun e w'=>e= .returned (.tuple #[.agg #[.int .i64 T0,.int .i64 V],.bool true])∧Below W.heap.size W w')):
 Calls Tryz.prog 52 #[.string (bs l),.int .i64 (p:Int),v] w (RetW w wd0 0):=by
 have hp9:p<1000:=by omega
 obtain⟨W1,hW1,hb1,hk1,hl1,HW1,HKEY,HKB⟩:=wd_hd w
 have HB1:=Lib.hid (Below.refl W1.heap.size W1)
 obtain⟨⟨d0,d1,d2,d3⟩,f0,f1,f2,f3⟩:=HKEY.out W1 (Below.refl _ _)
 clear hb1 hk1 hl1 hW1
 go_enter Tryz.func52,Tryz.ntmps52
 go_upto_region 1 with fail
 rw[←HW1.out]
 clear HW1
 go_wp2_with (first
  |(go_at_call 83
    with_reducible refine(H1.out _).mono ?_
    rintro e w9 ⟨rfl,rfl⟩)
  |(go_at_call 83
    refine(H2.out _).mono ?_
    rintro e w9 ⟨rfl,rfl⟩)
  |(go_at_call 84
    refine(HLIT.out _).mono ?_
    rintro e w5 ⟨rfl,hb⟩
    have ka:=fun ob=>HKEY.out _ (hb.trans ((below_box ob).mono hb.size))
    have KB:=Lib.hid fun ob=>HKB.out _ (hb.trans ((below_box ob).mono hb.size))
    clear hb HLIT d0 d1 d2 d3 f0 f1 f2 f3))
 exact end_ret Tryz.results52 w _ wd0 0 (KB.out _).1 (KB.out _).2 rfl rfl rfl
set_option maxRecDepth 20000 in
set_option maxHeartbeats 8000000 in
theorem one_ndot_yes (l:List UInt8)(p nb:Nat)(u:List UInt8)(t1:Nat)(V:Int)(v:Value)(w:World)(hsz:(bs l).size=l.length)(hll:l.length≤1000)(hlt':p<(bs l).size)(hg:((bs l)[p]'hlt').toNat=nb)(_hn256:nb<256)
 (n34:((nb:Int)==34)=false)
 (n39:((nb:Int)==39)=false)
 (H1:Hid (∀W:World,Calls Tryz.prog 83 #[.string (bs l),.int .i64 (p:Int)] W fun e w'=>e= .returned (.int .i64 (p:Int))∧W=w'))
 (H2:Hid (∀W:World,Calls Tryz.prog 83 #[.string (bs l),.int .i64 ((p:Int)+1)] W fun e w'=>e= .returned (.int .i64 (t1:Int))∧W=w'))
 (h46:((nb:Int)==46)=true) (_ht1:decide ((p:Int)+1<(t1:Int))=true) (_ht1n:decide (p+1<t1)=true) (_htl:t1≤1000) (_hpl:decide ((p:Int)<(l.length:Int))=true) (hpl2:decide (p<l.length)=true)
 (hs:∀wx,(Instr.slice 9 (.string (bs l)) (some (.int .i64 (p:Int))) (some (.int .i64 (t1:Int))) none).run Tryz.prog wx= .ok (.string (bs u)) wx)
 (HLIT:Hid (∀W:World,Calls Tryz.prog 84 #[.string (bs u)] W fun e w'=>e= .returned (.tuple #[.agg #[.int .i64 0,.int .i64 V],.bool true])∧Below W.heap.size W w')):
 Calls Tryz.prog 52 #[.string (bs l),.int .i64 (p:Int),v] w (RetW w ⟨9,u,.num V⟩ (t1:Int)):=by
 have hp9:p<1000:=by omega
 obtain⟨W1,hW1,hb1,hk1,hl1,HW1,HKEY,HKB⟩:=wd_hd w
 have HB1:=Lib.hid (Below.refl W1.heap.size W1)
 obtain⟨⟨d0,d1,d2,d3⟩,f0,f1,f2,f3⟩:=HKEY.out W1 (Below.refl _ _)
 clear hb1 hk1 hl1 hW1
 go_enter Tryz.func52,Tryz.ntmps52
 go_upto_region 1 with fail
 rw[←HW1.out]
 clear HW1
 go_wp2_with (first
  |(go_at_call 83
    with_reducible refine(H1.out _).mono ?_
    rintro e w9 ⟨rfl,rfl⟩)
  |(go_at_call 83
    refine(H2.out _).mono ?_
    rintro e w9 ⟨rfl,rfl⟩)
  |(go_at_call 84
    refine(HLIT.out _).mono ?_
    rintro e w5 ⟨rfl,hb⟩
    have ka:=fun ob=>HKEY.out _ (hb.trans ((below_box ob).mono hb.size))
    have KB:=Lib.hid fun ob=>HKB.out _ (hb.trans ((below_box ob).mono hb.size))
    clear hb HLIT d0 d1 d2 d3 f0 f1 f2 f3))
 obtain⟨⟨d0,d1,d2,d3⟩,f0,f1,f2,f3⟩:=ka (.cells #[.int .i64 0,.int .i64 V] 24)
 obtain⟨e1,e2⟩:=dec_box w5 0 V
 clear ka
 go_region
 go_wp2_with fail
 exact end_retd Tryz.results52 w _ ⟨9,u,.num V⟩ (t1:Int) (KB.out _).1 (KB.out _).2 rfl rfl rfl
set_option maxRecDepth 20000 in
set_option maxHeartbeats 8000000 in
theorem one_signd (l:List UInt8)(p nb:Nat)(k:Nat)(t:List UInt8)(v:Value)(w:World)(hsz:(bs l).size=l.length)(hll:l.length≤1000)(hlt':p<(bs l).size)(hg:((bs l)[p]'hlt').toNat=nb)(_hn256:nb<256)
 (n34:((nb:Int)==34)=false)
 (n39:((nb:Int)==39)=false)
 (H1:Hid (∀W:World,Calls Tryz.prog 83 #[.string (bs l),.int .i64 (p:Int)] W fun e w'=>e= .returned (.int .i64 (p:Int))∧W=w'))
 (h46:((nb:Int)==46)=true)
 (H2:Hid (∀W:World,Calls Tryz.prog 83 #[.string (bs l),.int .i64 ((p:Int)+1)] W fun e w'=>e= .returned (.int .i64 ((p:Int)+1))∧W=w'))
 (HSG:Hid (∀W:World,Below w.heap.size w W→Calls Tryz.prog 85 #[.string (bs l),.int .i64 (p:Int)] W fun e w'=>e= .returned (.tuple #[.int .i64 (k:Int),.string (bs t)])∧Below W.heap.size W w'))
 (_hk:decide ((0:Int)<(k:Int))=true) (hkn:decide (0<k)=true) (_htl:(bs t).size=t.length) (htl2:t.length≤3):
 Calls Tryz.prog 52 #[.string (bs l),.int .i64 (p:Int),v] w (RetW w ⟨k,t,.num 0⟩ ((p:Int)+(t.length:Int))):=by
 have hp9:p<1000:=by omega
 obtain⟨W1,hW1,hb1,hk1,hl1,HW1,HKEY,HKB⟩:=wd_hd w
 have HB1:=Lib.hid (Below.refl W1.heap.size W1)
 obtain⟨⟨d0,d1,d2,d3⟩,f0,f1,f2,f3⟩:=HKEY.out W1 (Below.refl _ _)
 clear hb1 hk1 hl1 hW1
 go_enter Tryz.func52,Tryz.ntmps52
 go_upto_region 1 with fail
 rw[←HW1.out]
 clear HW1
 go_wp2_with (first
  |(go_at_call 83
    with_reducible refine(H1.out _).mono ?_
    rintro e w9 ⟨rfl,rfl⟩)
  |(go_at_call 83
    refine(H2.out _).mono ?_
    rintro e w9 ⟨rfl,rfl⟩)
  |(go_at_call 85
    refine(HSG.out _ (HKB.out _ HB1.out).2).mono ?_
    rintro e w3 ⟨rfl,hb⟩
    have hb:=HB1.out.trans (hb.mono HB1.out.size)
    have HB3:=Lib.hid hb
    clear d0 d1 d2 d3 f0 f1 f2 f3
    obtain⟨⟨d0,d1,d2,d3⟩,f0,f1,f2,f3⟩:=HKEY.out w3 hb
    clear hb))
 exact end_ret Tryz.results52 w w3 ⟨k,t,.num 0⟩ _ (HKB.out _ HB3.out).1 (HKB.out _ HB3.out).2 rfl rfl rfl
set_option maxRecDepth 20000 in
set_option maxHeartbeats 8000000 in
theorem one_sign (l:List UInt8)(p nb:Nat)(k:Nat)(t:List UInt8)(v:Value)(w:World)(hsz:(bs l).size=l.length)(hll:l.length≤1000)(hlt':p<(bs l).size)(hg:((bs l)[p]'hlt').toNat=nb)(_hn256:nb<256)
 (n34:((nb:Int)==34)=false)
 (n39:((nb:Int)==39)=false)
 (H1:Hid (∀W:World,Calls Tryz.prog 83 #[.string (bs l),.int .i64 (p:Int)] W fun e w'=>e= .returned (.int .i64 (p:Int))∧W=w'))
 (h46:((nb:Int)==46)=false)
 (HSG:Hid (∀W:World,Below w.heap.size w W→Calls Tryz.prog 85 #[.string (bs l),.int .i64 (p:Int)] W fun e w'=>e= .returned (.tuple #[.int .i64 (k:Int),.string (bs t)])∧Below W.heap.size W w'))
 (_hk:decide ((0:Int)<(k:Int))=true) (hkn:decide (0<k)=true) (_htl:(bs t).size=t.length) (htl2:t.length≤3):
 Calls Tryz.prog 52 #[.string (bs l),.int .i64 (p:Int),v] w (RetW w ⟨k,t,.num 0⟩ ((p:Int)+(t.length:Int))):=by
 have hp9:p<1000:=by omega
 obtain⟨W1,hW1,hb1,hk1,hl1,HW1,HKEY,HKB⟩:=wd_hd w
 have HB1:=Lib.hid (Below.refl W1.heap.size W1)
 obtain⟨⟨d0,d1,d2,d3⟩,f0,f1,f2,f3⟩:=HKEY.out W1 (Below.refl _ _)
 clear hb1 hk1 hl1 hW1
 go_enter Tryz.func52,Tryz.ntmps52
 go_upto_region 1 with fail
 rw[←HW1.out]
 clear HW1
 go_wp2_with (first
  |(go_at_call 83
    with_reducible refine(H1.out _).mono ?_
    rintro e w9 ⟨rfl,rfl⟩)
  |(go_at_call 85
    refine(HSG.out _ (HKB.out _ HB1.out).2).mono ?_
    rintro e w3 ⟨rfl,hb⟩
    have hb:=HB1.out.trans (hb.mono HB1.out.size)
    have HB3:=Lib.hid hb
    clear d0 d1 d2 d3 f0 f1 f2 f3
    obtain⟨⟨d0,d1,d2,d3⟩,f0,f1,f2,f3⟩:=HKEY.out w3 hb
    clear hb))
 exact end_ret Tryz.results52 w w3 ⟨k,t,.num 0⟩ _ (HKB.out _ HB3.out).1 (HKB.out _ HB3.out).2 rfl rfl rfl
set_option maxRecDepth 20000 in
set_option maxHeartbeats 8000000 in
theorem one_star_true (l:List UInt8)(p nb:Nat)(v:Value)(w:World)(hsz:(bs l).size=l.length)(hll:l.length≤1000)(hlt':p<(bs l).size)(hg:((bs l)[p]'hlt').toNat=nb)(_hn256:nb<256)
 (n34:((nb:Int)==34)=false)
 (n39:((nb:Int)==39)=false)
 (H1:Hid (∀W:World,Calls Tryz.prog 83 #[.string (bs l),.int .i64 (p:Int)] W fun e w'=>e= .returned (.int .i64 (p:Int))∧W=w'))
 (h46:((nb:Int)==46)=false)
 (HSG:Hid (∀W:World,Below w.heap.size w W→Calls Tryz.prog 85 #[.string (bs l),.int .i64 (p:Int)] W fun e w'=>e= .returned (.tuple #[.int .i64 0,.string ⟨#[]⟩])∧Below W.heap.size W w'))
 (h42:((nb:Int)==42)=true)
 (HE:Hid (∀W:World,Below w.heap.size w W→Calls Tryz.prog 86 #[v] W fun e w'=>e= .returned (.bool true)∧Below W.heap.size W w')):
 Calls Tryz.prog 52 #[.string (bs l),.int .i64 (p:Int),v] w (RetW w ⟨5,[42],.num 0⟩ ((p:Int)+1)):=by
 have hp9:p<1000:=by omega
 obtain⟨W1,hW1,hb1,hk1,hl1,HW1,HKEY,HKB⟩:=wd_hd w
 have HB1:=Lib.hid (Below.refl W1.heap.size W1)
 obtain⟨⟨d0,d1,d2,d3⟩,f0,f1,f2,f3⟩:=HKEY.out W1 (Below.refl _ _)
 clear hb1 hk1 hl1 hW1
 go_enter Tryz.func52,Tryz.ntmps52
 go_upto_region 1 with fail
 rw[←HW1.out]
 clear HW1
 go_wp2_with (first
  |(go_at_call 83
    with_reducible refine(H1.out _).mono ?_
    rintro e w9 ⟨rfl,rfl⟩)
  |(go_at_call 85
    refine(HSG.out _ (HKB.out _ HB1.out).2).mono ?_
    rintro e w3 ⟨rfl,hb⟩
    have hb:=HB1.out.trans (hb.mono HB1.out.size)
    have HB3:=Lib.hid hb
    clear d0 d1 d2 d3 f0 f1 f2 f3
    obtain⟨⟨d0,d1,d2,d3⟩,f0,f1,f2,f3⟩:=HKEY.out w3 hb
    clear hb)
  |(go_at_call 86
    refine(HE.out _ (HKB.out _ HB3.out).2).mono ?_
    rintro e w4 ⟨rfl,hb⟩
    have hb:=HB3.out.trans (hb.mono HB3.out.size)
    have HB4:=Lib.hid hb
    clear d0 d1 d2 d3 f0 f1 f2 f3
    obtain⟨⟨d0,d1,d2,d3⟩,f0,f1,f2,f3⟩:=HKEY.out w4 hb
    clear hb))
 exact end_ret Tryz.results52 w w4 ⟨5,[42],.num 0⟩ _ (HKB.out _ HB4.out).1 (HKB.out _ HB4.out).2 rfl rfl rfl
set_option maxRecDepth 20000 in
set_option maxHeartbeats 8000000 in
theorem one_star_false (l:List UInt8)(p nb:Nat)(v:Value)(w:World)(hsz:(bs l).size=l.length)(hll:l.length≤1000)(hlt':p<(bs l).size)(hg:((bs l)[p]'hlt').toNat=nb)(_hn256:nb<256)
 (n34:((nb:Int)==34)=false)
 (n39:((nb:Int)==39)=false)
 (H1:Hid (∀W:World,Calls Tryz.prog 83 #[.string (bs l),.int .i64 (p:Int)] W fun e w'=>e= .returned (.int .i64 (p:Int))∧W=w'))
 (h46:((nb:Int)==46)=false)
 (HSG:Hid (∀W:World,Below w.heap.size w W→Calls Tryz.prog 85 #[.string (bs l),.int .i64 (p:Int)] W fun e w'=>e= .returned (.tuple #[.int .i64 0,.string ⟨#[]⟩])∧Below W.heap.size W w'))
 (h42:((nb:Int)==42)=true)
 (HE:Hid (∀W:World,Below w.heap.size w W→Calls Tryz.prog 86 #[v] W fun e w'=>e= .returned (.bool false)∧Below W.heap.size W w')):
 Calls Tryz.prog 52 #[.string (bs l),.int .i64 (p:Int),v] w (RetW w ⟨3,[42],.num 0⟩ ((p:Int)+1)):=by
 have hp9:p<1000:=by omega
 obtain⟨W1,hW1,hb1,hk1,hl1,HW1,HKEY,HKB⟩:=wd_hd w
 have HB1:=Lib.hid (Below.refl W1.heap.size W1)
 obtain⟨⟨d0,d1,d2,d3⟩,f0,f1,f2,f3⟩:=HKEY.out W1 (Below.refl _ _)
 clear hb1 hk1 hl1 hW1
 go_enter Tryz.func52,Tryz.ntmps52
 go_upto_region 1 with fail
 rw[←HW1.out]
 clear HW1
 go_wp2_with (first
  |(go_at_call 83
    with_reducible refine(H1.out _).mono ?_
    rintro e w9 ⟨rfl,rfl⟩)
  |(go_at_call 85
    refine(HSG.out _ (HKB.out _ HB1.out).2).mono ?_
    rintro e w3 ⟨rfl,hb⟩
    have hb:=HB1.out.trans (hb.mono HB1.out.size)
    have HB3:=Lib.hid hb
    clear d0 d1 d2 d3 f0 f1 f2 f3
    obtain⟨⟨d0,d1,d2,d3⟩,f0,f1,f2,f3⟩:=HKEY.out w3 hb
    clear hb)
  |(go_at_call 86
    refine(HE.out _ (HKB.out _ HB3.out).2).mono ?_
    rintro e w4 ⟨rfl,hb⟩
    have hb:=HB3.out.trans (hb.mono HB3.out.size)
    have HB4:=Lib.hid hb
    clear d0 d1 d2 d3 f0 f1 f2 f3
    obtain⟨⟨d0,d1,d2,d3⟩,f0,f1,f2,f3⟩:=HKEY.out w4 hb
    clear hb))
 exact end_ret Tryz.results52 w w4 ⟨3,[42],.num 0⟩ _ (HKB.out _ HB4.out).1 (HKB.out _ HB4.out).2 rfl rfl rfl
set_option maxRecDepth 20000 in
set_option maxHeartbeats 8000000 in
theorem one_var_true (l:List UInt8)(p nb:Nat)(q:Nat)(N:List UInt8)(v:Value)(w:World)(hsz:(bs l).size=l.length)(hll:l.length≤1000)(hlt':p<(bs l).size)(hg:((bs l)[p]'hlt').toNat=nb)(_hn256:nb<256)
 (n34:((nb:Int)==34)=false)
 (n39:((nb:Int)==39)=false)
 (H1:Hid (∀W:World,Calls Tryz.prog 83 #[.string (bs l),.int .i64 (p:Int)] W fun e w'=>e= .returned (.int .i64 (p:Int))∧W=w'))
 (h46:((nb:Int)==46)=false)
 (HSG:Hid (∀W:World,Below w.heap.size w W→Calls Tryz.prog 85 #[.string (bs l),.int .i64 (p:Int)] W fun e w'=>e= .returned (.tuple #[.int .i64 0,.string ⟨#[]⟩])∧Below W.heap.size W w'))
 (h42:((nb:Int)==42)=false) (h36:((nb:Int)==36)=true) (_hq:q≤1000)
 (HR:Hid (∀W:World,Below w.heap.size w W→Calls Tryz.prog 87 #[.string (bs l),.int .i64 ((p:Int)+1)] W fun e w'=>e= .returned (.int .i64 (q:Int))∧Below W.heap.size W w'))
 (hs:∀wx,(Instr.slice 9 (.string (bs l)) (some (.int .i64 ((p:Int)+1))) (some (.int .i64 (q:Int))) none).run Tryz.prog wx= .ok (.string (bs N)) wx)
 (HN:Hid (∀W:World,Below w.heap.size w W→Calls Tryz.prog 38 #[.string (bs N)] W fun e w'=>e= .returned (.bool true)∧Below W.heap.size W w')):
 Calls Tryz.prog 52 #[.string (bs l),.int .i64 (p:Int),v] w (RetW w ⟨10,N,.num 0⟩ (q:Int)):=by
 have hp9:p<1000:=by omega
 obtain⟨W1,hW1,hb1,hk1,hl1,HW1,HKEY,HKB⟩:=wd_hd w
 have HB1:=Lib.hid (Below.refl W1.heap.size W1)
 obtain⟨⟨d0,d1,d2,d3⟩,f0,f1,f2,f3⟩:=HKEY.out W1 (Below.refl _ _)
 clear hb1 hk1 hl1 hW1
 go_enter Tryz.func52,Tryz.ntmps52
 go_upto_region 1 with fail
 rw[←HW1.out]
 clear HW1
 go_wp2_with (first
  |(go_at_call 83
    with_reducible refine(H1.out _).mono ?_
    rintro e w9 ⟨rfl,rfl⟩)
  |(go_at_call 85
    refine(HSG.out _ (HKB.out _ HB1.out).2).mono ?_
    rintro e w3 ⟨rfl,hb⟩
    have hb:=HB1.out.trans (hb.mono HB1.out.size)
    have HB3:=Lib.hid hb
    clear d0 d1 d2 d3 f0 f1 f2 f3
    obtain⟨⟨d0,d1,d2,d3⟩,f0,f1,f2,f3⟩:=HKEY.out w3 hb
    clear hb)
  |(go_at_call 87
    refine(HR.out _ (HKB.out _ HB3.out).2).mono ?_
    rintro e w4 ⟨rfl,hb⟩
    have hb:=HB3.out.trans (hb.mono HB3.out.size)
    have HB4:=Lib.hid hb
    clear d0 d1 d2 d3 f0 f1 f2 f3
    obtain⟨⟨d0,d1,d2,d3⟩,f0,f1,f2,f3⟩:=HKEY.out w4 hb
    clear hb)
  |(go_at_call 38
    refine(HN.out _ (HKB.out _ HB4.out).2).mono ?_
    rintro e w5 ⟨rfl,hb⟩
    have hb:=HB4.out.trans (hb.mono HB4.out.size)
    have HB5:=Lib.hid hb
    clear d0 d1 d2 d3 f0 f1 f2 f3
    obtain⟨⟨d0,d1,d2,d3⟩,f0,f1,f2,f3⟩:=HKEY.out w5 hb
    clear hb))
 exact end_ret Tryz.results52 w w5 ⟨10,N,.num 0⟩ (q:Int) (HKB.out _ HB5.out).1 (HKB.out _ HB5.out).2 rfl rfl rfl
set_option maxRecDepth 20000 in
set_option maxHeartbeats 8000000 in
theorem one_var_false (l:List UInt8)(p nb:Nat)(q:Nat)(N:List UInt8)(v:Value)(w:World)(hsz:(bs l).size=l.length)(hll:l.length≤1000)(hlt':p<(bs l).size)(hg:((bs l)[p]'hlt').toNat=nb)(_hn256:nb<256)
 (n34:((nb:Int)==34)=false)
 (n39:((nb:Int)==39)=false)
 (H1:Hid (∀W:World,Calls Tryz.prog 83 #[.string (bs l),.int .i64 (p:Int)] W fun e w'=>e= .returned (.int .i64 (p:Int))∧W=w'))
 (h46:((nb:Int)==46)=false)
 (HSG:Hid (∀W:World,Below w.heap.size w W→Calls Tryz.prog 85 #[.string (bs l),.int .i64 (p:Int)] W fun e w'=>e= .returned (.tuple #[.int .i64 0,.string ⟨#[]⟩])∧Below W.heap.size W w'))
 (h42:((nb:Int)==42)=false) (h36:((nb:Int)==36)=true) (_hq:q≤1000)
 (HR:Hid (∀W:World,Below w.heap.size w W→Calls Tryz.prog 87 #[.string (bs l),.int .i64 ((p:Int)+1)] W fun e w'=>e= .returned (.int .i64 (q:Int))∧Below W.heap.size W w'))
 (hs:∀wx,(Instr.slice 9 (.string (bs l)) (some (.int .i64 ((p:Int)+1))) (some (.int .i64 (q:Int))) none).run Tryz.prog wx= .ok (.string (bs N)) wx)
 (HN:Hid (∀W:World,Below w.heap.size w W→Calls Tryz.prog 38 #[.string (bs N)] W fun e w'=>e= .returned (.bool false)∧Below W.heap.size W w')):
 Calls Tryz.prog 52 #[.string (bs l),.int .i64 (p:Int),v] w (RetW w wd0 0):=by
 have hp9:p<1000:=by omega
 obtain⟨W1,hW1,hb1,hk1,hl1,HW1,HKEY,HKB⟩:=wd_hd w
 have HB1:=Lib.hid (Below.refl W1.heap.size W1)
 obtain⟨⟨d0,d1,d2,d3⟩,f0,f1,f2,f3⟩:=HKEY.out W1 (Below.refl _ _)
 clear hb1 hk1 hl1 hW1
 go_enter Tryz.func52,Tryz.ntmps52
 go_upto_region 1 with fail
 rw[←HW1.out]
 clear HW1
 go_wp2_with (first
  |(go_at_call 83
    with_reducible refine(H1.out _).mono ?_
    rintro e w9 ⟨rfl,rfl⟩)
  |(go_at_call 85
    refine(HSG.out _ (HKB.out _ HB1.out).2).mono ?_
    rintro e w3 ⟨rfl,hb⟩
    have hb:=HB1.out.trans (hb.mono HB1.out.size)
    have HB3:=Lib.hid hb
    clear d0 d1 d2 d3 f0 f1 f2 f3
    obtain⟨⟨d0,d1,d2,d3⟩,f0,f1,f2,f3⟩:=HKEY.out w3 hb
    clear hb)
  |(go_at_call 87
    refine(HR.out _ (HKB.out _ HB3.out).2).mono ?_
    rintro e w4 ⟨rfl,hb⟩
    have hb:=HB3.out.trans (hb.mono HB3.out.size)
    have HB4:=Lib.hid hb
    clear d0 d1 d2 d3 f0 f1 f2 f3
    obtain⟨⟨d0,d1,d2,d3⟩,f0,f1,f2,f3⟩:=HKEY.out w4 hb
    clear hb)
  |(go_at_call 38
    refine(HN.out _ (HKB.out _ HB4.out).2).mono ?_
    rintro e w5 ⟨rfl,hb⟩
    have hb:=HB4.out.trans (hb.mono HB4.out.size)
    have HB5:=Lib.hid hb
    clear d0 d1 d2 d3 f0 f1 f2 f3
    obtain⟨⟨d0,d1,d2,d3⟩,f0,f1,f2,f3⟩:=HKEY.out w5 hb
    clear hb))
 exact end_ret Tryz.results52 w w5 wd0 0 (HKB.out _ HB5.out).1 (HKB.out _ HB5.out).2 rfl rfl rfl
set_option maxRecDepth 20000 in
set_option maxHeartbeats 8000000 in
theorem one_name_true (l:List UInt8)(p nb:Nat)(q:Nat)(x:Wd)(v:Value)(w:World)(hsz:(bs l).size=l.length)(hll:l.length≤1000)(hlt':p<(bs l).size)(hg:((bs l)[p]'hlt').toNat=nb)(_hn256:nb<256)
 (n34:((nb:Int)==34)=false)
 (n39:((nb:Int)==39)=false)
 (H1:Hid (∀W:World,Calls Tryz.prog 83 #[.string (bs l),.int .i64 (p:Int)] W fun e w'=>e= .returned (.int .i64 (p:Int))∧W=w'))
 (h46:((nb:Int)==46)=false)
 (HSG:Hid (∀W:World,Below w.heap.size w W→Calls Tryz.prog 85 #[.string (bs l),.int .i64 (p:Int)] W fun e w'=>e= .returned (.tuple #[.int .i64 0,.string ⟨#[]⟩])∧Below W.heap.size W w'))
 (h42:((nb:Int)==42)=false) (h36:((nb:Int)==36)=false) (_hq:q≤1000)
 (HR:Hid (∀W:World,Below w.heap.size w W→Calls Tryz.prog 87 #[.string (bs l),.int .i64 (p:Int)] W fun e w'=>e= .returned (.int .i64 (q:Int))∧Below W.heap.size W w'))
 (HM:Hid (∀W:World,Below w.heap.size w W→Calls Tryz.prog 88 #[.string (bs l),.int .i64 (p:Int),.int .i64 (q:Int),v] W fun e w'=>(∃y,y=x∧e= .returned (.tuple #[wdV y,.bool true]))∧Below W.heap.size W w')):
 Calls Tryz.prog 52 #[.string (bs l),.int .i64 (p:Int),v] w (RetW w x (q:Int)):=by
 have hp9:p<1000:=by omega
 obtain⟨W1,hW1,hb1,hk1,hl1,HW1,HKEY,HKB⟩:=wd_hd w
 have HB1:=Lib.hid (Below.refl W1.heap.size W1)
 obtain⟨⟨d0,d1,d2,d3⟩,f0,f1,f2,f3⟩:=HKEY.out W1 (Below.refl _ _)
 clear hb1 hk1 hl1 hW1
 go_enter Tryz.func52,Tryz.ntmps52
 go_upto_region 1 with fail
 rw[←HW1.out]
 clear HW1
 go_wp2_with (first
  |(go_at_call 83
    with_reducible refine(H1.out _).mono ?_
    rintro e w9 ⟨rfl,rfl⟩)
  |(go_at_call 85
    refine(HSG.out _ (HKB.out _ HB1.out).2).mono ?_
    rintro e w3 ⟨rfl,hb⟩
    have hb:=HB1.out.trans (hb.mono HB1.out.size)
    have HB3:=Lib.hid hb
    clear d0 d1 d2 d3 f0 f1 f2 f3
    obtain⟨⟨d0,d1,d2,d3⟩,f0,f1,f2,f3⟩:=HKEY.out w3 hb
    clear hb)
  |(go_at_call 87
    refine(HR.out _ (HKB.out _ HB3.out).2).mono ?_
    rintro e w4 ⟨rfl,hb⟩
    have hb:=HB3.out.trans (hb.mono HB3.out.size)
    have HB4:=Lib.hid hb
    clear d0 d1 d2 d3 f0 f1 f2 f3
    obtain⟨⟨d0,d1,d2,d3⟩,f0,f1,f2,f3⟩:=HKEY.out w4 hb
    clear hb)
  |(go_at_call 88
    refine(HM.out _ (HKB.out _ HB4.out).2).mono ?_
    rintro e w5 ⟨⟨y,rfl,rfl⟩,hb⟩
    unfold wdV
    have hb:=HB4.out.trans (hb.mono HB4.out.size)
    clear d0 d1 d2 d3 f0 f1 f2 f3
    have ka:=fun ob=>HKEY.out _ (hb.trans ((below_box ob).mono hb.size))
    have KB:=Lib.hid fun ob=>HKB.out _ (hb.trans ((below_box ob).mono hb.size))
    clear hb))
 exact end_ret Tryz.results52 w _ y (q:Int) (KB.out _).1 (KB.out _).2 rfl rfl rfl
set_option maxRecDepth 20000 in
set_option maxHeartbeats 8000000 in
theorem one_name_false (l:List UInt8)(p nb:Nat)(q:Nat)(v:Value)(w:World)(hsz:(bs l).size=l.length)(hll:l.length≤1000)(hlt':p<(bs l).size)(hg:((bs l)[p]'hlt').toNat=nb)(_hn256:nb<256)
 (n34:((nb:Int)==34)=false)
 (n39:((nb:Int)==39)=false)
 (H1:Hid (∀W:World,Calls Tryz.prog 83 #[.string (bs l),.int .i64 (p:Int)] W fun e w'=>e= .returned (.int .i64 (p:Int))∧W=w'))
 (h46:((nb:Int)==46)=false)
 (HSG:Hid (∀W:World,Below w.heap.size w W→Calls Tryz.prog 85 #[.string (bs l),.int .i64 (p:Int)] W fun e w'=>e= .returned (.tuple #[.int .i64 0,.string ⟨#[]⟩])∧Below W.heap.size W w'))
 (h42:((nb:Int)==42)=false) (h36:((nb:Int)==36)=false) (_hq:q≤1000)
 (HR:Hid (∀W:World,Below w.heap.size w W→Calls Tryz.prog 87 #[.string (bs l),.int .i64 (p:Int)] W fun e w'=>e= .returned (.int .i64 (q:Int))∧Below W.heap.size W w'))
 (HM:Hid (∀W:World,Below w.heap.size w W→Calls Tryz.prog 88 #[.string (bs l),.int .i64 (p:Int),.int .i64 (q:Int),v] W fun e w'=>(∃y,e= .returned (.tuple #[wdV y,.bool false]))∧Below W.heap.size W w')):
 Calls Tryz.prog 52 #[.string (bs l),.int .i64 (p:Int),v] w (RetW w wd0 0):=by
 have hp9:p<1000:=by omega
 obtain⟨W1,hW1,hb1,hk1,hl1,HW1,HKEY,HKB⟩:=wd_hd w
 have HB1:=Lib.hid (Below.refl W1.heap.size W1)
 obtain⟨⟨d0,d1,d2,d3⟩,f0,f1,f2,f3⟩:=HKEY.out W1 (Below.refl _ _)
 clear hb1 hk1 hl1 hW1
 go_enter Tryz.func52,Tryz.ntmps52
 go_upto_region 1 with fail
 rw[←HW1.out]
 clear HW1
 go_wp2_with (first
  |(go_at_call 83
    with_reducible refine(H1.out _).mono ?_
    rintro e w9 ⟨rfl,rfl⟩)
  |(go_at_call 85
    refine(HSG.out _ (HKB.out _ HB1.out).2).mono ?_
    rintro e w3 ⟨rfl,hb⟩
    have hb:=HB1.out.trans (hb.mono HB1.out.size)
    have HB3:=Lib.hid hb
    clear d0 d1 d2 d3 f0 f1 f2 f3
    obtain⟨⟨d0,d1,d2,d3⟩,f0,f1,f2,f3⟩:=HKEY.out w3 hb
    clear hb)
  |(go_at_call 87
    refine(HR.out _ (HKB.out _ HB3.out).2).mono ?_
    rintro e w4 ⟨rfl,hb⟩
    have hb:=HB3.out.trans (hb.mono HB3.out.size)
    have HB4:=Lib.hid hb
    clear d0 d1 d2 d3 f0 f1 f2 f3
    obtain⟨⟨d0,d1,d2,d3⟩,f0,f1,f2,f3⟩:=HKEY.out w4 hb
    clear hb)
  |(go_at_call 88
    refine(HM.out _ (HKB.out _ HB4.out).2).mono ?_
    rintro e w5 ⟨⟨y,rfl⟩,hb⟩
    unfold wdV
    have hb:=HB4.out.trans (hb.mono HB4.out.size)
    clear d0 d1 d2 d3 f0 f1 f2 f3
    have ka:=fun ob=>HKEY.out _ (hb.trans ((below_box ob).mono hb.size))
    have KB:=Lib.hid fun ob=>HKB.out _ (hb.trans ((below_box ob).mono hb.size))
    clear hb))
 exact end_ret Tryz.results52 w _ wd0 0 (KB.out _).1 (KB.out _).2 rfl rfl rfl
end Char
end Go.Proofs.YtlmpkpjjakallaaGreatDoor
