import Derived.Test.YtlmpkpjjakallaaGreatDoorPk30
import Derived.Test.YtlmpkpjjakallaaGreatDoorPk29
namespace Go.Proofs.YtlmpkpjjakallaaGreatDoor
namespace Char
open Go.RowKit Go.Lib
theorem wd_keep {w W:World}(hb:Below w.heap.size w W){g:Nat}{x:Wd}(h:w.heap[g]? =some (wdB x)):W.heap[g]? =some (wdB x):=(hb.block g (Array.getElem?_eq_some_iff.1 h).1).trans h
theorem wd_new (w:World)(k:Int)(N:List UInt8)(hk:k=2):(w.alloc (.cells #[.int .i64 k,.string (bs N),.int .i64 0,.int .i64 0] 89)).heap[w.heap.size]? =some (wdB ⟨2,N,.num 0⟩):=by rw[hk];exact World.alloc_heap_new w _
set_option maxHeartbeats 8000000 in
theorem named_bad (l N:List UInt8)(ended:Bool)(w:World)
 (HR:Hid (∀W:World,Calls Tryz.prog 150 #[.string (bs l)] W fun e w'=>e= .returned (.string (bs N))∧Below W.heap.size W w'))
 (HN:Hid (∀W:World,Below w.heap.size w W→Calls Tryz.prog 69 #[.string (bs N)] W fun e w'=>e= .returned (.bool false)∧Below W.heap.size W w')):
 Calls Tryz.prog 113 #[.string (bs l),.bool ended] w (WdPost w (none)):=by
 obtain⟨W1,hW1,hb1,hk1,hl1,HW1,HKEY,HKB⟩:=wd_hd w
 clear hb1 hk1 hl1 hW1
 go_enter Tryz.func113,Tryz.ntmps113
 go_upto_region 1 with fail
 rw[←HW1.out]
 clear HW1
 go_wp2_with (first
  |(go_at_call 150
    refine(HR.out _).mono ?_
    rintro e w3 ⟨rfl,hb3⟩
    have HB3:=Lib.hid hb3
    have HN3:=Lib.hid (HN.out w3 (HKB.out w3 hb3).2)
    clear hb3 HR)
  |(go_at_call 69
    refine HN3.out.mono ?_
    rintro e w4 ⟨rfl,hb4⟩
    have hb:=HB3.out.trans (hb4.mono HB3.out.size)
    obtain⟨⟨d0,d1,d2,d3⟩,f0,f1,f2,f3⟩:=HKEY.out w4 hb
    have HKB4:=Lib.hid (HKB.out w4 hb)
    clear hb hb4 HN3))
 exact end_word Tryz.results113 w w4 none (x:=wd0) HKB4.out.1 HKB4.out.2 (by rfl) (by rfl) rfl rfl rfl
set_option maxHeartbeats 8000000 in
theorem named_nojoin (l N:List UInt8)(w:World)
 (HR:Hid (∀W:World,Calls Tryz.prog 150 #[.string (bs l)] W fun e w'=>e= .returned (.string (bs N))∧Below W.heap.size W w'))
 (HN:Hid (∀W:World,Below w.heap.size w W→Calls Tryz.prog 69 #[.string (bs N)] W fun e w'=>e= .returned (.bool true)∧Below W.heap.size W w'))
 (HJ:Hid (∀W:World,Calls Tryz.prog 151 #[.string (bs N)] W fun e w'=>e= .returned (.bool false)∧w'=W)):
 Calls Tryz.prog 113 #[.string (bs l),.bool true] w (WdPost w (none)):=by
 obtain⟨W1,hW1,hb1,hk1,hl1,HW1,HKEY,HKB⟩:=wd_hd w
 clear hb1 hk1 hl1 hW1
 go_enter Tryz.func113,Tryz.ntmps113
 go_upto_region 1 with fail
 rw[←HW1.out]
 clear HW1
 go_wp2_with (first
  |(go_at_call 150
    refine(HR.out _).mono ?_
    rintro e w3 ⟨rfl,hb3⟩
    have HB3:=Lib.hid hb3
    have HN3:=Lib.hid (HN.out w3 (HKB.out w3 hb3).2)
    clear hb3 HR)
  |(go_at_call 69
    refine HN3.out.mono ?_
    rintro e w4 ⟨rfl,hb4⟩
    have hb:=HB3.out.trans (hb4.mono HB3.out.size)
    obtain⟨⟨d0,d1,d2,d3⟩,f0,f1,f2,f3⟩:=HKEY.out w4 hb
    have HKB4:=Lib.hid (HKB.out w4 hb)
    clear hb hb4 HN3)
  |(go_at_call 151
    refine(HJ.out _).mono ?_
    rintro e w5 ⟨rfl,hw⟩
    have hw:=hw.symm
    subst hw
    clear HJ))
 exact end_word Tryz.results113 w w4 none (x:=wd0) HKB4.out.1 HKB4.out.2 (by rfl) (by rfl) rfl rfl rfl
set_option maxHeartbeats 8000000 in
theorem named_op (l N t nx:List UInt8)(n:Nat)(w:World)
 (hN:(bs N).size=n) (hsl:∀wx,(Instr.slice 9 (.string (bs l)) (some (.int .i64 (n:Int))) none none).run Tryz.prog wx= .ok (.string (bs t)) wx)
 (HR:Hid (∀W:World,Calls Tryz.prog 150 #[.string (bs l)] W fun e w'=>e= .returned (.string (bs N))∧Below W.heap.size W w'))
 (HN:Hid (∀W:World,Below w.heap.size w W→Calls Tryz.prog 69 #[.string (bs N)] W fun e w'=>e= .returned (.bool true)∧Below W.heap.size W w'))
 (HJ:Hid (∀W:World,Calls Tryz.prog 151 #[.string (bs N)] W fun e w'=>e= .returned (.bool true)∧w'=W))
 (HS:Hid (∀W:World,Calls Tryz.prog 98 #[.string (bs t),.func (.func 99) #[] #[]] W fun e w'=>e= .returned (.string (bs nx))∧Below W.heap.size W w')):
 Calls Tryz.prog 113 #[.string (bs l),.bool true] w (WdPost w (some (⟨5,N,.num 0⟩,n))):=by
 obtain⟨W1,hW1,hb1,hk1,hl1,HW1,HKEY,HKB⟩:=wd_hd w
 clear hb1 hk1 hl1 hW1
 go_enter Tryz.func113,Tryz.ntmps113
 go_upto_region 1 with fail
 rw[←HW1.out]
 clear HW1
 go_wp2_with (first
  |(go_at_call 150
    refine(HR.out _).mono ?_
    rintro e w3 ⟨rfl,hb3⟩
    have HB3:=Lib.hid hb3
    have HN3:=Lib.hid (HN.out w3 (HKB.out w3 hb3).2)
    clear hb3 HR)
  |(go_at_call 69
    refine HN3.out.mono ?_
    rintro e w4 ⟨rfl,hb4⟩
    have hb:=HB3.out.trans (hb4.mono HB3.out.size)
    obtain⟨⟨d0,d1,d2,d3⟩,f0,f1,f2,f3⟩:=HKEY.out w4 hb
    have HKB4:=Lib.hid (HKB.out w4 hb)
    clear hb hb4 HN3)
  |(go_at_call 151
    refine(HJ.out _).mono ?_
    rintro e w5 ⟨rfl,hw⟩
    have hw:=hw.symm
    subst hw
    clear HJ)
  |(go_at_call 98
    refine(HS.out _).mono ?_
    rintro e w6 ⟨rfl,hb6⟩
    have hq:=wd_keep hb6 (wd_new w4 2 N rfl)
    have hp:=wd_keep hb6 ((((below_box _).block _ (Array.getElem?_eq_some_iff.1 HKB4.out.1).1)).trans HKB4.out.1)
    have hB6:=HKB4.out.2.trans (((below_box _).trans (hb6.mono (below_box _).size)).mono HKB4.out.2.size)
    clear d0 d1 d2 d3 f0 f1 f2 f3
    obtain⟨⟨d0,d1,d2,d3⟩,f0,f1,f2,f3⟩:=wd0_at hp
    obtain⟨⟨c0,c1,c2,c3⟩,g⟩:=wd_blk hq
    obtain⟨g0,g1,g2,g3⟩:_∧_∧_∧_:=⟨g 0,g 1,g 2,g 3⟩
    obtain⟨⟨h0,h1,h2,h3⟩,j0,j1,j2,j3⟩:=wd0_at ((heap_set_ne (a:=⟨w4.heap.size,0,none⟩) (u:= .int .i64 5) (Nat.ne_of_lt (Array.getElem?_eq_some_iff.1 HKB4.out.1).1)).trans hp)
    have hne:w.heap.size≠w4.heap.size:=Nat.ne_of_lt (Array.getElem?_eq_some_iff.1 HKB4.out.1).1
    have HP6:=Lib.hid hp
    have HB6:=Lib.hid hB6
    have HNE:=Lib.hid hne
    clear hb6 hq hp hB6 g HS hne))
 exact end_word Tryz.results113 w _ (some (⟨5,N,.num 0⟩,n)) (x:=⟨5,N,.num 0⟩) ((heap_set_ne (a:=⟨w4.heap.size,0,none⟩) HNE.out).trans HP6.out) (HB6.out.setCell (p:=⟨w4.heap.size,0,none⟩) (Nat.le_of_lt (Nat.lt_of_le_of_ne HKB4.out.2.size HNE.out)) _) (by rfl) (by rfl) rfl rfl rfl
set_option maxHeartbeats 8000000 in
theorem named_type (l N t nx:List UInt8)(n:Nat)(w:World)
 (hN:(bs N).size=n) (hsl:∀wx,(Instr.slice 9 (.string (bs l)) (some (.int .i64 (n:Int))) none none).run Tryz.prog wx= .ok (.string (bs t)) wx)
 (HR:Hid (∀W:World,Calls Tryz.prog 150 #[.string (bs l)] W fun e w'=>e= .returned (.string (bs N))∧Below W.heap.size W w'))
 (HN:Hid (∀W:World,Below w.heap.size w W→Calls Tryz.prog 69 #[.string (bs N)] W fun e w'=>e= .returned (.bool true)∧Below W.heap.size W w'))
 (HS:Hid (∀W:World,Calls Tryz.prog 98 #[.string (bs t),.func (.func 99) #[] #[]] W fun e w'=>e= .returned (.string (bs nx))∧Below W.heap.size W w'))
 (HO:Hid (∀W:World,Calls Tryz.prog 152 #[.string (bs nx),.string ⟨#[40]⟩] W fun e w'=>e= .returned (.bool true)∧w'=W))
 (HK:Hid (∀W:World,Calls Tryz.prog 153 #[.string (bs N)] W fun e w'=>e= .returned (.bool true)∧w'=W)):
 Calls Tryz.prog 113 #[.string (bs l),.bool false] w (WdPost w (some (⟨4,N,.num 0⟩,n))):=by
 obtain⟨W1,hW1,hb1,hk1,hl1,HW1,HKEY,HKB⟩:=wd_hd w
 clear hb1 hk1 hl1 hW1
 go_enter Tryz.func113,Tryz.ntmps113
 go_upto_region 1 with fail
 rw[←HW1.out]
 clear HW1
 go_wp2_with (first
  |(go_at_call 150
    refine(HR.out _).mono ?_
    rintro e w3 ⟨rfl,hb3⟩
    have HB3:=Lib.hid hb3
    have HN3:=Lib.hid (HN.out w3 (HKB.out w3 hb3).2)
    clear hb3 HR)
  |(go_at_call 69
    refine HN3.out.mono ?_
    rintro e w4 ⟨rfl,hb4⟩
    have hb:=HB3.out.trans (hb4.mono HB3.out.size)
    obtain⟨⟨d0,d1,d2,d3⟩,f0,f1,f2,f3⟩:=HKEY.out w4 hb
    have HKB4:=Lib.hid (HKB.out w4 hb)
    clear hb hb4 HN3)
  |(go_at_call 98
    refine(HS.out _).mono ?_
    rintro e w6 ⟨rfl,hb6⟩
    have hq:=wd_keep hb6 (wd_new w4 2 N rfl)
    have hp:=wd_keep hb6 ((((below_box _).block _ (Array.getElem?_eq_some_iff.1 HKB4.out.1).1)).trans HKB4.out.1)
    have hB6:=HKB4.out.2.trans (((below_box _).trans (hb6.mono (below_box _).size)).mono HKB4.out.2.size)
    clear d0 d1 d2 d3 f0 f1 f2 f3
    obtain⟨⟨d0,d1,d2,d3⟩,f0,f1,f2,f3⟩:=wd0_at hp
    obtain⟨⟨c0,c1,c2,c3⟩,g⟩:=wd_blk hq
    obtain⟨g0,g1,g2,g3⟩:_∧_∧_∧_:=⟨g 0,g 1,g 2,g 3⟩
    obtain⟨⟨h0,h1,h2,h3⟩,j0,j1,j2,j3⟩:=wd0_at ((heap_set_ne (a:=⟨w4.heap.size,0,none⟩) (u:= .int .i64 4) (Nat.ne_of_lt (Array.getElem?_eq_some_iff.1 HKB4.out.1).1)).trans hp)
    have hne:w.heap.size≠w4.heap.size:=Nat.ne_of_lt (Array.getElem?_eq_some_iff.1 HKB4.out.1).1
    have HP6:=Lib.hid hp
    have HB6:=Lib.hid hB6
    have HNE:=Lib.hid hne
    clear hb6 hq hp hB6 g HS hne)
  |(go_at_call 152
    have CC:=HO.out w6
    with_reducible refine CC.mono ?_
    clear CC
    rintro e w7 ⟨rfl,hw⟩
    have hw:=hw.symm
    subst hw)
  |(go_at_call 153
    refine(HK.out _).mono ?_
    rintro e w7 ⟨rfl,hw⟩
    have hw:=hw.symm
    subst hw))
 exact end_word Tryz.results113 w _ (some (⟨4,N,.num 0⟩,n)) (x:=⟨4,N,.num 0⟩) ((heap_set_ne (a:=⟨w4.heap.size,0,none⟩) HNE.out).trans HP6.out) (HB6.out.setCell (p:=⟨w4.heap.size,0,none⟩) (Nat.le_of_lt (Nat.lt_of_le_of_ne HKB4.out.2.size HNE.out)) _) (by rfl) (by rfl) rfl rfl rfl
set_option maxHeartbeats 8000000 in
theorem named_func (l N t nx:List UInt8)(n:Nat)(w:World)
 (hN:(bs N).size=n) (hsl:∀wx,(Instr.slice 9 (.string (bs l)) (some (.int .i64 (n:Int))) none none).run Tryz.prog wx= .ok (.string (bs t)) wx)
 (HR:Hid (∀W:World,Calls Tryz.prog 150 #[.string (bs l)] W fun e w'=>e= .returned (.string (bs N))∧Below W.heap.size W w'))
 (HN:Hid (∀W:World,Below w.heap.size w W→Calls Tryz.prog 69 #[.string (bs N)] W fun e w'=>e= .returned (.bool true)∧Below W.heap.size W w'))
 (HS:Hid (∀W:World,Calls Tryz.prog 98 #[.string (bs t),.func (.func 99) #[] #[]] W fun e w'=>e= .returned (.string (bs nx))∧Below W.heap.size W w'))
 (HO:Hid (∀W:World,Calls Tryz.prog 152 #[.string (bs nx),.string ⟨#[40]⟩] W fun e w'=>e= .returned (.bool true)∧w'=W))
 (HK:Hid (∀W:World,Calls Tryz.prog 153 #[.string (bs N)] W fun e w'=>e= .returned (.bool false)∧w'=W)):
 Calls Tryz.prog 113 #[.string (bs l),.bool false] w (WdPost w (some (⟨6,N,.num 0⟩,n))):=by
 obtain⟨W1,hW1,hb1,hk1,hl1,HW1,HKEY,HKB⟩:=wd_hd w
 clear hb1 hk1 hl1 hW1
 go_enter Tryz.func113,Tryz.ntmps113
 go_upto_region 1 with fail
 rw[←HW1.out]
 clear HW1
 go_wp2_with (first
  |(go_at_call 150
    refine(HR.out _).mono ?_
    rintro e w3 ⟨rfl,hb3⟩
    have HB3:=Lib.hid hb3
    have HN3:=Lib.hid (HN.out w3 (HKB.out w3 hb3).2)
    clear hb3 HR)
  |(go_at_call 69
    refine HN3.out.mono ?_
    rintro e w4 ⟨rfl,hb4⟩
    have hb:=HB3.out.trans (hb4.mono HB3.out.size)
    obtain⟨⟨d0,d1,d2,d3⟩,f0,f1,f2,f3⟩:=HKEY.out w4 hb
    have HKB4:=Lib.hid (HKB.out w4 hb)
    clear hb hb4 HN3)
  |(go_at_call 98
    refine(HS.out _).mono ?_
    rintro e w6 ⟨rfl,hb6⟩
    have hq:=wd_keep hb6 (wd_new w4 2 N rfl)
    have hp:=wd_keep hb6 ((((below_box _).block _ (Array.getElem?_eq_some_iff.1 HKB4.out.1).1)).trans HKB4.out.1)
    have hB6:=HKB4.out.2.trans (((below_box _).trans (hb6.mono (below_box _).size)).mono HKB4.out.2.size)
    clear d0 d1 d2 d3 f0 f1 f2 f3
    obtain⟨⟨d0,d1,d2,d3⟩,f0,f1,f2,f3⟩:=wd0_at hp
    obtain⟨⟨c0,c1,c2,c3⟩,g⟩:=wd_blk hq
    obtain⟨g0,g1,g2,g3⟩:_∧_∧_∧_:=⟨g 0,g 1,g 2,g 3⟩
    obtain⟨⟨h0,h1,h2,h3⟩,j0,j1,j2,j3⟩:=wd0_at ((heap_set_ne (a:=⟨w4.heap.size,0,none⟩) (u:= .int .i64 6) (Nat.ne_of_lt (Array.getElem?_eq_some_iff.1 HKB4.out.1).1)).trans hp)
    have hne:w.heap.size≠w4.heap.size:=Nat.ne_of_lt (Array.getElem?_eq_some_iff.1 HKB4.out.1).1
    have HP6:=Lib.hid hp
    have HB6:=Lib.hid hB6
    have HNE:=Lib.hid hne
    clear hb6 hq hp hB6 g HS hne)
  |(go_at_call 152
    have CC:=HO.out w6
    with_reducible refine CC.mono ?_
    clear CC
    rintro e w7 ⟨rfl,hw⟩
    have hw:=hw.symm
    subst hw)
  |(go_at_call 153
    refine(HK.out _).mono ?_
    rintro e w7 ⟨rfl,hw⟩
    have hw:=hw.symm
    subst hw))
 exact end_word Tryz.results113 w _ (some (⟨6,N,.num 0⟩,n)) (x:=⟨6,N,.num 0⟩) ((heap_set_ne (a:=⟨w4.heap.size,0,none⟩) HNE.out).trans HP6.out) (HB6.out.setCell (p:=⟨w4.heap.size,0,none⟩) (Nat.le_of_lt (Nat.lt_of_le_of_ne HKB4.out.2.size HNE.out)) _) (by rfl) (by rfl) rfl rfl rfl
set_option maxHeartbeats 8000000 in
theorem named_axis (l N t nx:List UInt8)(n:Nat)(w:World)
 (hN:(bs N).size=n) (hsl:∀wx,(Instr.slice 9 (.string (bs l)) (some (.int .i64 (n:Int))) none none).run Tryz.prog wx= .ok (.string (bs t)) wx)
 (HR:Hid (∀W:World,Calls Tryz.prog 150 #[.string (bs l)] W fun e w'=>e= .returned (.string (bs N))∧Below W.heap.size W w'))
 (HN:Hid (∀W:World,Below w.heap.size w W→Calls Tryz.prog 69 #[.string (bs N)] W fun e w'=>e= .returned (.bool true)∧Below W.heap.size W w'))
 (HS:Hid (∀W:World,Calls Tryz.prog 98 #[.string (bs t),.func (.func 99) #[] #[]] W fun e w'=>e= .returned (.string (bs nx))∧Below W.heap.size W w'))
 (HO:Hid (∀W:World,Calls Tryz.prog 152 #[.string (bs nx),.string ⟨#[40]⟩] W fun e w'=>e= .returned (.bool false)∧w'=W))
 (HA:Hid (∀W:World,Calls Tryz.prog 152 #[.string (bs nx),.string ⟨#[58,58]⟩] W fun e w'=>e= .returned (.bool true)∧w'=W)):
 Calls Tryz.prog 113 #[.string (bs l),.bool false] w (WdPost w (some (⟨7,N,.num 0⟩,n))):=by
 obtain⟨W1,hW1,hb1,hk1,hl1,HW1,HKEY,HKB⟩:=wd_hd w
 clear hb1 hk1 hl1 hW1
 go_enter Tryz.func113,Tryz.ntmps113
 go_upto_region 1 with fail
 rw[←HW1.out]
 clear HW1
 go_wp2_with (first
  |(go_at_call 150
    refine(HR.out _).mono ?_
    rintro e w3 ⟨rfl,hb3⟩
    have HB3:=Lib.hid hb3
    have HN3:=Lib.hid (HN.out w3 (HKB.out w3 hb3).2)
    clear hb3 HR)
  |(go_at_call 69
    refine HN3.out.mono ?_
    rintro e w4 ⟨rfl,hb4⟩
    have hb:=HB3.out.trans (hb4.mono HB3.out.size)
    obtain⟨⟨d0,d1,d2,d3⟩,f0,f1,f2,f3⟩:=HKEY.out w4 hb
    have HKB4:=Lib.hid (HKB.out w4 hb)
    clear hb hb4 HN3)
  |(go_at_call 98
    refine(HS.out _).mono ?_
    rintro e w6 ⟨rfl,hb6⟩
    have hq:=wd_keep hb6 (wd_new w4 2 N rfl)
    have hp:=wd_keep hb6 ((((below_box _).block _ (Array.getElem?_eq_some_iff.1 HKB4.out.1).1)).trans HKB4.out.1)
    have hB6:=HKB4.out.2.trans (((below_box _).trans (hb6.mono (below_box _).size)).mono HKB4.out.2.size)
    clear d0 d1 d2 d3 f0 f1 f2 f3
    obtain⟨⟨d0,d1,d2,d3⟩,f0,f1,f2,f3⟩:=wd0_at hp
    obtain⟨⟨c0,c1,c2,c3⟩,g⟩:=wd_blk hq
    obtain⟨g0,g1,g2,g3⟩:_∧_∧_∧_:=⟨g 0,g 1,g 2,g 3⟩
    obtain⟨⟨h0,h1,h2,h3⟩,j0,j1,j2,j3⟩:=wd0_at ((heap_set_ne (a:=⟨w4.heap.size,0,none⟩) (u:= .int .i64 7) (Nat.ne_of_lt (Array.getElem?_eq_some_iff.1 HKB4.out.1).1)).trans hp)
    have hne:w.heap.size≠w4.heap.size:=Nat.ne_of_lt (Array.getElem?_eq_some_iff.1 HKB4.out.1).1
    have HP6:=Lib.hid hp
    have HB6:=Lib.hid hB6
    have HNE:=Lib.hid hne
    clear hb6 hq hp hB6 g HS hne)
  |(go_at_call 152
    have CC:=HO.out w6
    with_reducible refine CC.mono ?_
    clear CC
    rintro e w7 ⟨rfl,hw⟩
    have hw:=hw.symm
    subst hw)
  |(go_at_call 152
    have CC:=HA.out w6
    with_reducible refine CC.mono ?_
    clear CC
    rintro e w7 ⟨rfl,hw⟩
    have hw:=hw.symm
    subst hw))
 exact end_word Tryz.results113 w _ (some (⟨7,N,.num 0⟩,n)) (x:=⟨7,N,.num 0⟩) ((heap_set_ne (a:=⟨w4.heap.size,0,none⟩) HNE.out).trans HP6.out) (HB6.out.setCell (p:=⟨w4.heap.size,0,none⟩) (Nat.le_of_lt (Nat.lt_of_le_of_ne HKB4.out.2.size HNE.out)) _) (by rfl) (by rfl) rfl rfl rfl
set_option maxHeartbeats 8000000 in
theorem named_name (l N t nx:List UInt8)(n:Nat)(w:World)
 (hN:(bs N).size=n) (hsl:∀wx,(Instr.slice 9 (.string (bs l)) (some (.int .i64 (n:Int))) none none).run Tryz.prog wx= .ok (.string (bs t)) wx)
 (HR:Hid (∀W:World,Calls Tryz.prog 150 #[.string (bs l)] W fun e w'=>e= .returned (.string (bs N))∧Below W.heap.size W w'))
 (HN:Hid (∀W:World,Below w.heap.size w W→Calls Tryz.prog 69 #[.string (bs N)] W fun e w'=>e= .returned (.bool true)∧Below W.heap.size W w'))
 (HS:Hid (∀W:World,Calls Tryz.prog 98 #[.string (bs t),.func (.func 99) #[] #[]] W fun e w'=>e= .returned (.string (bs nx))∧Below W.heap.size W w'))
 (HO:Hid (∀W:World,Calls Tryz.prog 152 #[.string (bs nx),.string ⟨#[40]⟩] W fun e w'=>e= .returned (.bool false)∧w'=W))
 (HA:Hid (∀W:World,Calls Tryz.prog 152 #[.string (bs nx),.string ⟨#[58,58]⟩] W fun e w'=>e= .returned (.bool false)∧w'=W)):
 Calls Tryz.prog 113 #[.string (bs l),.bool false] w (WdPost w (some (⟨2,N,.num 0⟩,n))):=by
 obtain⟨W1,hW1,hb1,hk1,hl1,HW1,HKEY,HKB⟩:=wd_hd w
 clear hb1 hk1 hl1 hW1
 go_enter Tryz.func113,Tryz.ntmps113
 go_upto_region 1 with fail
 rw[←HW1.out]
 clear HW1
 go_wp2_with (first
  |(go_at_call 150
    refine(HR.out _).mono ?_
    rintro e w3 ⟨rfl,hb3⟩
    have HB3:=Lib.hid hb3
    have HN3:=Lib.hid (HN.out w3 (HKB.out w3 hb3).2)
    clear hb3 HR)
  |(go_at_call 69
    refine HN3.out.mono ?_
    rintro e w4 ⟨rfl,hb4⟩
    have hb:=HB3.out.trans (hb4.mono HB3.out.size)
    obtain⟨⟨d0,d1,d2,d3⟩,f0,f1,f2,f3⟩:=HKEY.out w4 hb
    have HKB4:=Lib.hid (HKB.out w4 hb)
    clear hb hb4 HN3)
  |(go_at_call 98
    refine(HS.out _).mono ?_
    rintro e w6 ⟨rfl,hb6⟩
    have hq:=wd_keep hb6 (wd_new w4 2 N rfl)
    have hp:=wd_keep hb6 ((((below_box _).block _ (Array.getElem?_eq_some_iff.1 HKB4.out.1).1)).trans HKB4.out.1)
    have hB6:=HKB4.out.2.trans (((below_box _).trans (hb6.mono (below_box _).size)).mono HKB4.out.2.size)
    clear d0 d1 d2 d3 f0 f1 f2 f3
    obtain⟨⟨d0,d1,d2,d3⟩,f0,f1,f2,f3⟩:=wd0_at hp
    obtain⟨⟨c0,c1,c2,c3⟩,g⟩:=wd_blk hq
    obtain⟨g0,g1,g2,g3⟩:_∧_∧_∧_:=⟨g 0,g 1,g 2,g 3⟩
    have hne:w.heap.size≠w4.heap.size:=Nat.ne_of_lt (Array.getElem?_eq_some_iff.1 HKB4.out.1).1
    have HP6:=Lib.hid hp
    have HB6:=Lib.hid hB6
    have HNE:=Lib.hid hne
    clear hb6 hq hp hB6 g HS hne)
  |(go_at_call 152
    have CC:=HO.out w6
    with_reducible refine CC.mono ?_
    clear CC
    rintro e w7 ⟨rfl,hw⟩
    have hw:=hw.symm
    subst hw)
  |(go_at_call 152
    have CC:=HA.out w6
    with_reducible refine CC.mono ?_
    clear CC
    rintro e w7 ⟨rfl,hw⟩
    have hw:=hw.symm
    subst hw))
 exact end_word Tryz.results113 w w6 (some (⟨2,N,.num 0⟩,n)) (x:=⟨2,N,.num 0⟩) HP6.out HB6.out (by rfl) (by rfl) rfl rfl rfl
theorem named_any (l:List UInt8)(ended:Bool)(w:World)(hl:l.length≤1000)(ht:txD l=true)(hG:Gl w):Calls Tryz.prog 113 #[.string (bs l),.bool ended] w (WdPost w (nameW ended l)):=by
 have hr:=run_le _ l (Nat.le_refl _)
 have hNl:(l.take (runL l)).length=runL l:=by rw[List.length_take];exact Nat.min_eq_left hr
 have hN:(bs (l.take (runL l))).size=runL l:=by rw[bs_size];exact hNl
 have hsl:=slice_from l (runL l) hr
 have HR:=Lib.hid fun(W:World)=>lexRun_any l W (by omega) ht
 have hNm:∀W:World,Below w.heap.size w W→_:=fun(W:World) (hb:Below w.heap.size w W)=>chName_any (bs (l.take (runL l))) W (by omega) (hG.below hb).1
 have HS:=Lib.hid fun(W:World)=>behindS_any (l.drop (runL l)) W
 have HJ:∀W:World,_:=fun(W:World)=>joins_any (l.take (runL l)) W
 have HK:∀W:World,_:=fun(W:World)=>kindOf_any (l.take (runL l)) W
 have HO:∀W:World,_:=fun(W:World)=>hasp_any (dropS (l.drop (runL l))) [40] W
 have HA:∀W:World,_:=fun(W:World)=>hasp_any (dropS (l.drop (runL l))) [58,58] W
 cases hE:nmD (bs (l.take (runL l))) with
 |false=>
  rw[hE]at hNm
  have e:nameW ended l=none:=by unfold nameW;rw[hE];rfl
  rw[e]
  exact named_bad l _ ended w HR (Lib.hid hNm)
 |true=>
  rw[hE]at hNm
  cases ended with
  |true=>
   cases hj:joinsL.contains (l.take (runL l)) with
   |false=>
    rw[hj]at HJ
    have e:nameW true l=none:=by unfold nameW;rw[hE,hj];rfl
    rw[e]
    exact named_nojoin l _ w HR (Lib.hid hNm) (Lib.hid HJ)
   |true=>
    rw[hj]at HJ
    have e:nameW true l=some (⟨5,l.take (runL l),.num 0⟩,runL l):=by unfold nameW;rw[hE,hj];rfl
    rw[e]
    exact named_op l _ _ _ _ w hN hsl HR (Lib.hid hNm) (Lib.hid HJ) HS
  |false=>
   have e0:nameW false l=some (⟨kindN false (l.take (runL l)) (nx0 (dropS (l.drop (runL l)))),l.take (runL l),.num 0⟩,runL l):=by unfold nameW;rw[hE];rfl
   rw[e0]
   unfold nx0
   cases h1:([40]:List UInt8).isPrefixOf (dropS (l.drop (runL l))) with
   |true=>
    rw[h1]at HO
    cases h2:typesL.contains (l.take (runL l)) with
    |true=>
     rw[h2]at HK
     have e:kindN false (l.take (runL l)) (if true=true then 1 else if ([58,58]:List UInt8).isPrefixOf (dropS (l.drop (runL l)))=true then 2 else 0)=4:=by unfold kindN;rw[h2];rfl
     rw[e]
     exact named_type l _ _ _ _ w hN hsl HR (Lib.hid hNm) HS (Lib.hid HO) (Lib.hid HK)
    |false=>
     rw[h2]at HK
     have e:kindN false (l.take (runL l)) (if true=true then 1 else if ([58,58]:List UInt8).isPrefixOf (dropS (l.drop (runL l)))=true then 2 else 0)=6:=by unfold kindN;rw[h2];rfl
     rw[e]
     exact named_func l _ _ _ _ w hN hsl HR (Lib.hid hNm) HS (Lib.hid HO) (Lib.hid HK)
   |false=>
    rw[h1]at HO
    cases h2:([58,58]:List UInt8).isPrefixOf (dropS (l.drop (runL l))) with
    |true=>
     rw[h2]at HA
     exact named_axis l _ _ _ _ w hN hsl HR (Lib.hid hNm) HS (Lib.hid HO) (Lib.hid HA)
    |false=>
     rw[h2]at HA
     exact named_name l _ _ _ _ w hN hsl HR (Lib.hid hNm) HS (Lib.hid HO) (Lib.hid HA)
end Char
namespace Char
open Go.RowKit Go.Lib
open Go.Proofs.YtlmpkpjjakallaaGreatDoor.Fig (outT outV)
def NmPost (w:World)(o:Option Wd)(e:Ending)(w':World):Prop:=(∃y,(∀x,o=some x→y=x)∧e= .returned (.tuple #[wdV y,.bool o.isSome]))∧Below w.heap.size w w'
theorem end_nm {fn:Func}{p q:Tmp}(h:fn.results= #[.cell p 89,.tmp q]){a:Act}(w w1:World)(o:Option Wd){x y:Wd}{k:Bool}(hk:w1.heap[w.heap.size]? =some (wdB y))(hb:Below w.heap.size w w1)
 (hx:∀z,o=some z→x=z) (hn:o.isSome=k)
 (hp:a.tmps.getD p undef= .pointer (some ⟨w.heap.size,0,none⟩)) (hq:a.tmps.getD q undef= .bool k) (hd:a.defers=[]):bodyPost Tryz.prog fn (NmPost w o) .ret a (set4 w1 w.heap.size x):=
 end_wd2 h _ w.heap.size (c:= .bool k) (set4_at hk) hp hq hd ⟨⟨x,hx,by rw[hn]⟩,set4_below hb (Nat.le_refl _)⟩
theorem types_new (w4:World)(N:List UInt8):((w4.alloc (.cells #[.int .i64 6,.string (bs N),.int .i64 0,.int .i64 0] 89)).alloc (.cells #[.string ⟨#[99,111,109,109,101,110,116]⟩,.string ⟨#[116,101,120,116]⟩,.string ⟨#[112,114,111,99,101,115,115,105,110,103,45,105,110,115,116,114,117,99,116,105,111,110]⟩,.string ⟨#[110,111,100,101]⟩] 9)).heap[w4.heap.size+1]? =some (.cells (typesL.map fun s=>Value.string (bs s)).toArray 9 (0,0)):=by
 have h:=World.alloc_heap_new (w4.alloc (.cells #[.int .i64 6,.string (bs N),.int .i64 0,.int .i64 0] 89)) (.cells #[.string ⟨#[99,111,109,109,101,110,116]⟩,.string ⟨#[116,101,120,116]⟩,.string ⟨#[112,114,111,99,101,115,115,105,110,103,45,105,110,115,116,114,117,99,116,105,111,110]⟩,.string ⟨#[110,111,100,101]⟩] 9)
 rwa [World.size_alloc]at h
set_option maxHeartbeats 8000000 in
theorem nm12_bad (l N:List UInt8)(p q:Nat)(v:Value)(w:World)
 (hsl:∀wx,(Instr.slice 9 (.string (bs l)) (some (.int .i64 (p:Int))) (some (.int .i64 (q:Int))) none).run Tryz.prog wx= .ok (.string (bs N)) wx)
 (HN:Hid (∀W:World,Below w.heap.size w W→Calls Tryz.prog 38 #[.string (bs N)] W fun e w'=>e= .returned (.bool false)∧Below W.heap.size W w')):
 Calls Tryz.prog 88 #[.string (bs l),.int .i64 (p:Int),.int .i64 (q:Int),v] w (NmPost w none):=by
 obtain⟨W1,hW1,hb1,hk1,hl1,HW1,HKEY,HKB⟩:=wd_hd w
 have HN1:=Lib.hid (HN.out W1 hb1)
 clear hb1 hk1 hl1 hW1 HN
 go_enter Tryz.func88,Tryz.ntmps88
 go_upto_region 1 with fail
 rw[←HW1.out]
 clear HW1
 go_wp2_with (first
  |(go_at_call 38
    refine HN1.out.mono ?_
    rintro e w3 ⟨rfl,hb3⟩
    have HB3:=Lib.hid hb3
    have HKB3:=Lib.hid (HKB.out w3 hb3)
    obtain⟨⟨d0,d1,d2,d3⟩,f0,f1,f2,f3⟩:=HKEY.out w3 hb3
    clear hb3 HN1))
 exact end_nm Tryz.results88 w w3 none (x:=wd0) HKB3.out.1 HKB3.out.2 (fun z h=>by cases h) rfl rfl rfl rfl
set_option maxHeartbeats 8000000 in
theorem nm12_op (l N:List UInt8)(p q:Nat)(v:Value)(w:World)
 (hsl:∀wx,(Instr.slice 9 (.string (bs l)) (some (.int .i64 (p:Int))) (some (.int .i64 (q:Int))) none).run Tryz.prog wx= .ok (.string (bs N)) wx)
 (HN:Hid (∀W:World,Below w.heap.size w W→Calls Tryz.prog 38 #[.string (bs N)] W fun e w'=>e= .returned (.bool true)∧Below W.heap.size W w'))
 (HE:Hid (∀W:World,Below w.heap.size w W→Calls Tryz.prog 86 #[v] W fun e w'=>e= .returned (.bool true)∧Below W.heap.size W w'))
 (HI:Hid (∀(W:World) (g:Nat),(∀i (h:i<joinsL.length),W.cell? ⟨g,i,none⟩=some (.string (bs joinsL[i])))→Calls Tryz.prog 136 #[.string (bs N),.slice (some ⟨g,0,none⟩) 4 4] W fun e w'=>e= .returned (.bool true)∧W=w')):
 Calls Tryz.prog 88 #[.string (bs l),.int .i64 (p:Int),.int .i64 (q:Int),v] w (NmPost w (some ⟨5,N,.num 0⟩)):=by
 obtain⟨W1,hW1,hb1,hk1,hl1,HW1,HKEY,HKB⟩:=wd_hd w
 have HN1:=Lib.hid (HN.out W1 hb1)
 clear hb1 hk1 hl1 hW1 HN
 go_enter Tryz.func88,Tryz.ntmps88
 go_upto_region 1 with fail
 rw[←HW1.out]
 clear HW1
 go_wp2_with (first
  |(go_at_call 38
    refine HN1.out.mono ?_
    rintro e w3 ⟨rfl,hb3⟩
    have HB3:=Lib.hid hb3
    have HKB3:=Lib.hid (HKB.out w3 hb3)
    obtain⟨⟨d0,d1,d2,d3⟩,f0,f1,f2,f3⟩:=HKEY.out w3 hb3
    clear hb3 HN1)
  |(go_at_call 86
    refine(HE.out _ HKB3.out.2).mono ?_
    rintro e w4 ⟨rfl,hb4⟩
    have hb:=HB3.out.trans (hb4.mono HB3.out.size)
    clear d0 d1 d2 d3 f0 f1 f2 f3
    obtain⟨⟨d0,d1,d2,d3⟩,f0,f1,f2,f3⟩:=HKEY.out w4 hb
    have HKB4:=Lib.hid (HKB.out w4 hb)
    have hb5:=hb.trans ((below_box (.cells #[.string ⟨#[97,110,100]⟩,.string ⟨#[111,114]⟩,.string ⟨#[109,111,100]⟩,.string ⟨#[100,105,118]⟩] 9)).mono hb.size)
    obtain⟨⟨g0,g1,g2,g3⟩,k0,k1,k2,k3⟩:=HKEY.out _ hb5
    have HKB5:=Lib.hid (HKB.out _ hb5)
    clear hb hb4 hb5 HE)
  |(go_at_call 136
    refine(HI.out (w4.alloc (.cells #[.string ⟨#[97,110,100]⟩,.string ⟨#[111,114]⟩,.string ⟨#[109,111,100]⟩,.string ⟨#[100,105,118]⟩] 9)) w4.heap.size (strs_at joinsL (T:=9) (World.alloc_heap_new w4 _))).mono ?_
    rintro e w5 ⟨rfl,rfl⟩
    clear HI))
 exact end_nm Tryz.results88 w _ (some ⟨5,N,.num 0⟩) (x:=⟨5,N,.num 0⟩) HKB5.out.1 HKB5.out.2 (fun z h=>by cases h;rfl) rfl rfl rfl rfl
set_option maxHeartbeats 8000000 in
theorem nm12_nojoin (l N:List UInt8)(p q:Nat)(v:Value)(w:World)
 (hsl:∀wx,(Instr.slice 9 (.string (bs l)) (some (.int .i64 (p:Int))) (some (.int .i64 (q:Int))) none).run Tryz.prog wx= .ok (.string (bs N)) wx)
 (HN:Hid (∀W:World,Below w.heap.size w W→Calls Tryz.prog 38 #[.string (bs N)] W fun e w'=>e= .returned (.bool true)∧Below W.heap.size W w'))
 (HE:Hid (∀W:World,Below w.heap.size w W→Calls Tryz.prog 86 #[v] W fun e w'=>e= .returned (.bool true)∧Below W.heap.size W w'))
 (HI:Hid (∀(W:World) (g:Nat),(∀i (h:i<joinsL.length),W.cell? ⟨g,i,none⟩=some (.string (bs joinsL[i])))→Calls Tryz.prog 136 #[.string (bs N),.slice (some ⟨g,0,none⟩) 4 4] W fun e w'=>e= .returned (.bool false)∧W=w')):
 Calls Tryz.prog 88 #[.string (bs l),.int .i64 (p:Int),.int .i64 (q:Int),v] w (NmPost w none):=by
 obtain⟨W1,hW1,hb1,hk1,hl1,HW1,HKEY,HKB⟩:=wd_hd w
 have HN1:=Lib.hid (HN.out W1 hb1)
 clear hb1 hk1 hl1 hW1 HN
 go_enter Tryz.func88,Tryz.ntmps88
 go_upto_region 1 with fail
 rw[←HW1.out]
 clear HW1
 go_wp2_with (first
  |(go_at_call 38
    refine HN1.out.mono ?_
    rintro e w3 ⟨rfl,hb3⟩
    have HB3:=Lib.hid hb3
    have HKB3:=Lib.hid (HKB.out w3 hb3)
    obtain⟨⟨d0,d1,d2,d3⟩,f0,f1,f2,f3⟩:=HKEY.out w3 hb3
    clear hb3 HN1)
  |(go_at_call 86
    refine(HE.out _ HKB3.out.2).mono ?_
    rintro e w4 ⟨rfl,hb4⟩
    have hb:=HB3.out.trans (hb4.mono HB3.out.size)
    clear d0 d1 d2 d3 f0 f1 f2 f3
    obtain⟨⟨d0,d1,d2,d3⟩,f0,f1,f2,f3⟩:=HKEY.out w4 hb
    have HKB4:=Lib.hid (HKB.out w4 hb)
    have hb5:=hb.trans ((below_box (.cells #[.string ⟨#[97,110,100]⟩,.string ⟨#[111,114]⟩,.string ⟨#[109,111,100]⟩,.string ⟨#[100,105,118]⟩] 9)).mono hb.size)
    obtain⟨⟨g0,g1,g2,g3⟩,k0,k1,k2,k3⟩:=HKEY.out _ hb5
    have HKB5:=Lib.hid (HKB.out _ hb5)
    clear hb hb4 hb5 HE)
  |(go_at_call 136
    refine(HI.out (w4.alloc (.cells #[.string ⟨#[97,110,100]⟩,.string ⟨#[111,114]⟩,.string ⟨#[109,111,100]⟩,.string ⟨#[100,105,118]⟩] 9)) w4.heap.size (strs_at joinsL (T:=9) (World.alloc_heap_new w4 _))).mono ?_
    rintro e w5 ⟨rfl,rfl⟩
    clear HI))
 exact end_nm Tryz.results88 w _ none (x:=⟨5,N,.num 0⟩) HKB5.out.1 HKB5.out.2 (fun z h=>by cases h) rfl rfl rfl rfl
set_option maxHeartbeats 8000000 in
theorem nm12_type (l N:List UInt8)(p q r:Nat)(v:Value)(w:World)
 (hsl:∀wx,(Instr.slice 9 (.string (bs l)) (some (.int .i64 (p:Int))) (some (.int .i64 (q:Int))) none).run Tryz.prog wx= .ok (.string (bs N)) wx)
 (HN:Hid (∀W:World,Below w.heap.size w W→Calls Tryz.prog 38 #[.string (bs N)] W fun e w'=>e= .returned (.bool true)∧Below W.heap.size W w'))
 (HE:Hid (∀W:World,Below w.heap.size w W→Calls Tryz.prog 86 #[v] W fun e w'=>e= .returned (.bool false)∧Below W.heap.size W w'))
 (HS:Hid (∀W:World,Calls Tryz.prog 51 #[.string (bs l),.int .i64 (q:Int)] W fun e w'=>e= .returned (.int .i64 (r:Int))∧W=w'))
 (HO:Hid (∀W:World,Calls Tryz.prog 135 #[.string (bs l),.int .i64 (r:Int),.string ⟨#[40]⟩] W fun e w'=>e= .returned (.bool true)∧W=w'))
 (HC:Hid (∀W:World,Calls Tryz.prog 135 #[.string (bs l),.int .i64 (r:Int),.string ⟨#[58,58]⟩] W fun e w'=>e= .returned (.bool false)∧W=w'))
 (HI:Hid (∀(W:World) (g:Nat),(∀i (h:i<typesL.length),W.cell? ⟨g,i,none⟩=some (.string (bs typesL[i])))→Calls Tryz.prog 136 #[.string (bs N),.slice (some ⟨g,0,none⟩) 4 4] W fun e w'=>e= .returned (.bool true)∧W=w')):
 Calls Tryz.prog 88 #[.string (bs l),.int .i64 (p:Int),.int .i64 (q:Int),v] w (NmPost w (some ⟨4,N,.num 0⟩)):=by
 obtain⟨W1,hW1,hb1,hk1,hl1,HW1,HKEY,HKB⟩:=wd_hd w
 have HN1:=Lib.hid (HN.out W1 hb1)
 clear hb1 hk1 hl1 hW1 HN
 go_enter Tryz.func88,Tryz.ntmps88
 go_upto_region 1 with fail
 rw[←HW1.out]
 clear HW1
 go_wp2_with (first
  |(go_at_call 38
    refine HN1.out.mono ?_
    rintro e w3 ⟨rfl,hb3⟩
    have HB3:=Lib.hid hb3
    have HKB3:=Lib.hid (HKB.out w3 hb3)
    obtain⟨⟨d0,d1,d2,d3⟩,f0,f1,f2,f3⟩:=HKEY.out w3 hb3
    clear hb3 HN1)
  |(go_at_call 86
    refine(HE.out _ HKB3.out.2).mono ?_
    rintro e w4 ⟨rfl,hb4⟩
    have hb:=HB3.out.trans (hb4.mono HB3.out.size)
    clear d0 d1 d2 d3 f0 f1 f2 f3
    obtain⟨⟨d0,d1,d2,d3⟩,f0,f1,f2,f3⟩:=HKEY.out w4 hb
    have HKB4:=Lib.hid (HKB.out w4 hb)
    have ka:=fun ob=>HKEY.out (w4.alloc ob) (hb.trans ((below_box ob).mono hb.size))
    have KB:=Lib.hid fun ob=>HKB.out (w4.alloc ob) (hb.trans ((below_box ob).mono hb.size))
    have kaa:=fun ob ob2=>HKEY.out ((w4.alloc ob).alloc ob2) ((hb.trans ((below_box ob).mono hb.size)).trans ((below_box ob2).mono (hb.trans ((below_box ob).mono hb.size)).size))
    have KBB:=Lib.hid fun ob ob2=>HKB.out ((w4.alloc ob).alloc ob2) ((hb.trans ((below_box ob).mono hb.size)).trans ((below_box ob2).mono (hb.trans ((below_box ob).mono hb.size)).size))
    clear hb hb4 HE d0 d1 d2 d3 f0 f1 f2 f3)
  |(go_at_call 51
    refine(HS.out _).mono ?_
    rintro e w5 ⟨rfl,rfl⟩
    clear HS)
  |(go_at_call 135
    have CC:=HC.out (w4.alloc (.cells #[.int .i64 2,.string (bs N),.int .i64 0,.int .i64 0] 89))
    with_reducible refine CC.mono ?_
    clear CC
    rintro e w6 ⟨rfl,rfl⟩)
  |(go_at_call 135
    refine(HO.out _).mono ?_
    rintro e w6 ⟨rfl,rfl⟩)
  |(go_at_call 136
    refine(HI.out ((w4.alloc (.cells #[.int .i64 6,.string (bs N),.int .i64 0,.int .i64 0] 89)).alloc (.cells #[.string ⟨#[99,111,109,109,101,110,116]⟩,.string ⟨#[116,101,120,116]⟩,.string ⟨#[112,114,111,99,101,115,115,105,110,103,45,105,110,115,116,114,117,99,116,105,111,110]⟩,.string ⟨#[110,111,100,101]⟩] 9)) (w4.heap.size+1) (strs_at typesL (T:=9) (types_new w4 N))).mono ?_
    rintro e w7 ⟨rfl,rfl⟩))
 exact end_nm Tryz.results88 w _ (some ⟨4,N,.num 0⟩) (x:=⟨4,N,.num 0⟩) (KBB.out _ _).1 (KBB.out _ _).2 (fun z h=>by cases h;rfl) rfl rfl rfl rfl
set_option maxHeartbeats 8000000 in
theorem nm12_func (l N:List UInt8)(p q r:Nat)(v:Value)(w:World)
 (hsl:∀wx,(Instr.slice 9 (.string (bs l)) (some (.int .i64 (p:Int))) (some (.int .i64 (q:Int))) none).run Tryz.prog wx= .ok (.string (bs N)) wx)
 (HN:Hid (∀W:World,Below w.heap.size w W→Calls Tryz.prog 38 #[.string (bs N)] W fun e w'=>e= .returned (.bool true)∧Below W.heap.size W w'))
 (HE:Hid (∀W:World,Below w.heap.size w W→Calls Tryz.prog 86 #[v] W fun e w'=>e= .returned (.bool false)∧Below W.heap.size W w'))
 (HS:Hid (∀W:World,Calls Tryz.prog 51 #[.string (bs l),.int .i64 (q:Int)] W fun e w'=>e= .returned (.int .i64 (r:Int))∧W=w'))
 (HO:Hid (∀W:World,Calls Tryz.prog 135 #[.string (bs l),.int .i64 (r:Int),.string ⟨#[40]⟩] W fun e w'=>e= .returned (.bool true)∧W=w'))
 (HC:Hid (∀W:World,Calls Tryz.prog 135 #[.string (bs l),.int .i64 (r:Int),.string ⟨#[58,58]⟩] W fun e w'=>e= .returned (.bool false)∧W=w'))
 (HI:Hid (∀(W:World) (g:Nat),(∀i (h:i<typesL.length),W.cell? ⟨g,i,none⟩=some (.string (bs typesL[i])))→Calls Tryz.prog 136 #[.string (bs N),.slice (some ⟨g,0,none⟩) 4 4] W fun e w'=>e= .returned (.bool false)∧W=w')):
 Calls Tryz.prog 88 #[.string (bs l),.int .i64 (p:Int),.int .i64 (q:Int),v] w (NmPost w (some ⟨6,N,.num 0⟩)):=by
 obtain⟨W1,hW1,hb1,hk1,hl1,HW1,HKEY,HKB⟩:=wd_hd w
 have HN1:=Lib.hid (HN.out W1 hb1)
 clear hb1 hk1 hl1 hW1 HN
 go_enter Tryz.func88,Tryz.ntmps88
 go_upto_region 1 with fail
 rw[←HW1.out]
 clear HW1
 go_wp2_with (first
  |(go_at_call 38
    refine HN1.out.mono ?_
    rintro e w3 ⟨rfl,hb3⟩
    have HB3:=Lib.hid hb3
    have HKB3:=Lib.hid (HKB.out w3 hb3)
    obtain⟨⟨d0,d1,d2,d3⟩,f0,f1,f2,f3⟩:=HKEY.out w3 hb3
    clear hb3 HN1)
  |(go_at_call 86
    refine(HE.out _ HKB3.out.2).mono ?_
    rintro e w4 ⟨rfl,hb4⟩
    have hb:=HB3.out.trans (hb4.mono HB3.out.size)
    clear d0 d1 d2 d3 f0 f1 f2 f3
    obtain⟨⟨d0,d1,d2,d3⟩,f0,f1,f2,f3⟩:=HKEY.out w4 hb
    have HKB4:=Lib.hid (HKB.out w4 hb)
    have ka:=fun ob=>HKEY.out (w4.alloc ob) (hb.trans ((below_box ob).mono hb.size))
    have KB:=Lib.hid fun ob=>HKB.out (w4.alloc ob) (hb.trans ((below_box ob).mono hb.size))
    have kaa:=fun ob ob2=>HKEY.out ((w4.alloc ob).alloc ob2) ((hb.trans ((below_box ob).mono hb.size)).trans ((below_box ob2).mono (hb.trans ((below_box ob).mono hb.size)).size))
    have KBB:=Lib.hid fun ob ob2=>HKB.out ((w4.alloc ob).alloc ob2) ((hb.trans ((below_box ob).mono hb.size)).trans ((below_box ob2).mono (hb.trans ((below_box ob).mono hb.size)).size))
    clear hb hb4 HE d0 d1 d2 d3 f0 f1 f2 f3)
  |(go_at_call 51
    refine(HS.out _).mono ?_
    rintro e w5 ⟨rfl,rfl⟩
    clear HS)
  |(go_at_call 135
    have CC:=HC.out (w4.alloc (.cells #[.int .i64 2,.string (bs N),.int .i64 0,.int .i64 0] 89))
    with_reducible refine CC.mono ?_
    clear CC
    rintro e w6 ⟨rfl,rfl⟩)
  |(go_at_call 135
    refine(HO.out _).mono ?_
    rintro e w6 ⟨rfl,rfl⟩)
  |(go_at_call 136
    refine(HI.out ((w4.alloc (.cells #[.int .i64 6,.string (bs N),.int .i64 0,.int .i64 0] 89)).alloc (.cells #[.string ⟨#[99,111,109,109,101,110,116]⟩,.string ⟨#[116,101,120,116]⟩,.string ⟨#[112,114,111,99,101,115,115,105,110,103,45,105,110,115,116,114,117,99,116,105,111,110]⟩,.string ⟨#[110,111,100,101]⟩] 9)) (w4.heap.size+1) (strs_at typesL (T:=9) (types_new w4 N))).mono ?_
    rintro e w7 ⟨rfl,rfl⟩))
 exact end_nm Tryz.results88 w _ (some ⟨6,N,.num 0⟩) (x:=⟨6,N,.num 0⟩) (KBB.out _ _).1 (KBB.out _ _).2 (fun z h=>by cases h;rfl) rfl rfl rfl rfl
set_option maxHeartbeats 8000000 in
theorem nm12_axis (l N:List UInt8)(p q r:Nat)(v:Value)(w:World)
 (hsl:∀wx,(Instr.slice 9 (.string (bs l)) (some (.int .i64 (p:Int))) (some (.int .i64 (q:Int))) none).run Tryz.prog wx= .ok (.string (bs N)) wx)
 (HN:Hid (∀W:World,Below w.heap.size w W→Calls Tryz.prog 38 #[.string (bs N)] W fun e w'=>e= .returned (.bool true)∧Below W.heap.size W w'))
 (HE:Hid (∀W:World,Below w.heap.size w W→Calls Tryz.prog 86 #[v] W fun e w'=>e= .returned (.bool false)∧Below W.heap.size W w'))
 (HS:Hid (∀W:World,Calls Tryz.prog 51 #[.string (bs l),.int .i64 (q:Int)] W fun e w'=>e= .returned (.int .i64 (r:Int))∧W=w'))
 (HO:Hid (∀W:World,Calls Tryz.prog 135 #[.string (bs l),.int .i64 (r:Int),.string ⟨#[40]⟩] W fun e w'=>e= .returned (.bool false)∧W=w'))
 (HC:Hid (∀W:World,Calls Tryz.prog 135 #[.string (bs l),.int .i64 (r:Int),.string ⟨#[58,58]⟩] W fun e w'=>e= .returned (.bool true)∧W=w')):
 Calls Tryz.prog 88 #[.string (bs l),.int .i64 (p:Int),.int .i64 (q:Int),v] w (NmPost w (some ⟨7,N,.num 0⟩)):=by
 obtain⟨W1,hW1,hb1,hk1,hl1,HW1,HKEY,HKB⟩:=wd_hd w
 have HN1:=Lib.hid (HN.out W1 hb1)
 clear hb1 hk1 hl1 hW1 HN
 go_enter Tryz.func88,Tryz.ntmps88
 go_upto_region 1 with fail
 rw[←HW1.out]
 clear HW1
 go_wp2_with (first
  |(go_at_call 38
    refine HN1.out.mono ?_
    rintro e w3 ⟨rfl,hb3⟩
    have HB3:=Lib.hid hb3
    have HKB3:=Lib.hid (HKB.out w3 hb3)
    obtain⟨⟨d0,d1,d2,d3⟩,f0,f1,f2,f3⟩:=HKEY.out w3 hb3
    clear hb3 HN1)
  |(go_at_call 86
    refine(HE.out _ HKB3.out.2).mono ?_
    rintro e w4 ⟨rfl,hb4⟩
    have hb:=HB3.out.trans (hb4.mono HB3.out.size)
    clear d0 d1 d2 d3 f0 f1 f2 f3
    obtain⟨⟨d0,d1,d2,d3⟩,f0,f1,f2,f3⟩:=HKEY.out w4 hb
    have HKB4:=Lib.hid (HKB.out w4 hb)
    have ka:=fun ob=>HKEY.out (w4.alloc ob) (hb.trans ((below_box ob).mono hb.size))
    have KB:=Lib.hid fun ob=>HKB.out (w4.alloc ob) (hb.trans ((below_box ob).mono hb.size))
    have kaa:=fun ob ob2=>HKEY.out ((w4.alloc ob).alloc ob2) ((hb.trans ((below_box ob).mono hb.size)).trans ((below_box ob2).mono (hb.trans ((below_box ob).mono hb.size)).size))
    have KBB:=Lib.hid fun ob ob2=>HKB.out ((w4.alloc ob).alloc ob2) ((hb.trans ((below_box ob).mono hb.size)).trans ((below_box ob2).mono (hb.trans ((below_box ob).mono hb.size)).size))
    clear hb hb4 HE d0 d1 d2 d3 f0 f1 f2 f3)
  |(go_at_call 51
    refine(HS.out _).mono ?_
    rintro e w5 ⟨rfl,rfl⟩
    clear HS)
  |(go_at_call 135
    have CC:=HC.out (w4.alloc (.cells #[.int .i64 2,.string (bs N),.int .i64 0,.int .i64 0] 89))
    with_reducible refine CC.mono ?_
    clear CC
    rintro e w6 ⟨rfl,rfl⟩)
  |(go_at_call 135
    refine(HO.out _).mono ?_
    rintro e w6 ⟨rfl,rfl⟩))
 exact end_nm Tryz.results88 w _ (some ⟨7,N,.num 0⟩) (x:=⟨7,N,.num 0⟩) (KB.out _).1 (KB.out _).2 (fun z h=>by cases h;rfl) rfl rfl rfl rfl
set_option maxHeartbeats 8000000 in
theorem nm12_name (l N:List UInt8)(p q r:Nat)(v:Value)(w:World)
 (hsl:∀wx,(Instr.slice 9 (.string (bs l)) (some (.int .i64 (p:Int))) (some (.int .i64 (q:Int))) none).run Tryz.prog wx= .ok (.string (bs N)) wx)
 (HN:Hid (∀W:World,Below w.heap.size w W→Calls Tryz.prog 38 #[.string (bs N)] W fun e w'=>e= .returned (.bool true)∧Below W.heap.size W w'))
 (HE:Hid (∀W:World,Below w.heap.size w W→Calls Tryz.prog 86 #[v] W fun e w'=>e= .returned (.bool false)∧Below W.heap.size W w'))
 (HS:Hid (∀W:World,Calls Tryz.prog 51 #[.string (bs l),.int .i64 (q:Int)] W fun e w'=>e= .returned (.int .i64 (r:Int))∧W=w'))
 (HO:Hid (∀W:World,Calls Tryz.prog 135 #[.string (bs l),.int .i64 (r:Int),.string ⟨#[40]⟩] W fun e w'=>e= .returned (.bool false)∧W=w'))
 (HC:Hid (∀W:World,Calls Tryz.prog 135 #[.string (bs l),.int .i64 (r:Int),.string ⟨#[58,58]⟩] W fun e w'=>e= .returned (.bool false)∧W=w')):
 Calls Tryz.prog 88 #[.string (bs l),.int .i64 (p:Int),.int .i64 (q:Int),v] w (NmPost w (some ⟨2,N,.num 0⟩)):=by
 obtain⟨W1,hW1,hb1,hk1,hl1,HW1,HKEY,HKB⟩:=wd_hd w
 have HN1:=Lib.hid (HN.out W1 hb1)
 clear hb1 hk1 hl1 hW1 HN
 go_enter Tryz.func88,Tryz.ntmps88
 go_upto_region 1 with fail
 rw[←HW1.out]
 clear HW1
 go_wp2_with (first
  |(go_at_call 38
    refine HN1.out.mono ?_
    rintro e w3 ⟨rfl,hb3⟩
    have HB3:=Lib.hid hb3
    have HKB3:=Lib.hid (HKB.out w3 hb3)
    obtain⟨⟨d0,d1,d2,d3⟩,f0,f1,f2,f3⟩:=HKEY.out w3 hb3
    clear hb3 HN1)
  |(go_at_call 86
    refine(HE.out _ HKB3.out.2).mono ?_
    rintro e w4 ⟨rfl,hb4⟩
    have hb:=HB3.out.trans (hb4.mono HB3.out.size)
    clear d0 d1 d2 d3 f0 f1 f2 f3
    obtain⟨⟨d0,d1,d2,d3⟩,f0,f1,f2,f3⟩:=HKEY.out w4 hb
    have HKB4:=Lib.hid (HKB.out w4 hb)
    have ka:=fun ob=>HKEY.out (w4.alloc ob) (hb.trans ((below_box ob).mono hb.size))
    have KB:=Lib.hid fun ob=>HKB.out (w4.alloc ob) (hb.trans ((below_box ob).mono hb.size))
    have kaa:=fun ob ob2=>HKEY.out ((w4.alloc ob).alloc ob2) ((hb.trans ((below_box ob).mono hb.size)).trans ((below_box ob2).mono (hb.trans ((below_box ob).mono hb.size)).size))
    have KBB:=Lib.hid fun ob ob2=>HKB.out ((w4.alloc ob).alloc ob2) ((hb.trans ((below_box ob).mono hb.size)).trans ((below_box ob2).mono (hb.trans ((below_box ob).mono hb.size)).size))
    clear hb hb4 HE d0 d1 d2 d3 f0 f1 f2 f3)
  |(go_at_call 51
    refine(HS.out _).mono ?_
    rintro e w5 ⟨rfl,rfl⟩
    clear HS)
  |(go_at_call 135
    have CC:=HC.out (w4.alloc (.cells #[.int .i64 2,.string (bs N),.int .i64 0,.int .i64 0] 89))
    with_reducible refine CC.mono ?_
    clear CC
    rintro e w6 ⟨rfl,rfl⟩)
  |(go_at_call 135
    refine(HO.out _).mono ?_
    rintro e w6 ⟨rfl,rfl⟩))
 exact end_nm Tryz.results88 w _ (some ⟨2,N,.num 0⟩) (x:=⟨2,N,.num 0⟩) (KB.out _).1 (KB.out _).2 (fun z h=>by cases h;rfl) rfl rfl rfl rfl
theorem named12_any (l:List UInt8)(p B:Nat)(v:Value)(xs:List Wd)(w:World)(hl:l.length≤1000)(hp:p≤l.length)(ho:OwnsWd B w v xs)(hxl:xs.length≤1000):
 Calls Tryz.prog 88 #[.string (bs l),.int .i64 (p:Int),.int .i64 ((p+runL (l.drop p):Nat):Int),v] w (NmPost w ((nameW (lastE false xs) (l.drop p)).map (·.1))):=by
 obtain⟨L,hL⟩:∃L,l.drop p=L:=⟨_,rfl⟩
 have hr:=run_le _ L (Nat.le_refl _)
 have hLl:L.length=l.length-p:=by rw[←hL,List.length_drop]
 rw[hL]
 obtain⟨q,hq⟩:∃q,p+runL L=q:=⟨_,rfl⟩
 have hql:q≤l.length:=by omega
 have hsl:=slice_mid6 l p q (by omega) hql
 rw[hL,show q-p=runL L by omega]at hsl
 have hNl:(L.take (runL L)).length≤1000:=by rw[List.length_take];omega
 have hN:(bs (L.take (runL L))).size≤1000:=by rw[bs_size];exact hNl
 have hNm:∀W:World,Below w.heap.size w W→_:=fun(W:World) (_:Below w.heap.size w W)=>refName_any (bs (L.take (runL L))) W (by omega)
 have hE:∀W:World,Below w.heap.size w W→_:=fun(W:World) (hb:Below w.heap.size w W)=>ends12_any B v xs W (ho.below hb) hxl
 have hdq:l.drop q=L.drop (runL L):=by rw[←hq,←hL,List.drop_drop]
 have HS:=Lib.hid fun(W:World)=>spaces_any l q W (by omega) hql
 obtain⟨r,hrr⟩:∃r,q+spcL (l.drop q)=r:=⟨_,rfl⟩
 rw[hrr]at HS
 have hsp:=spc_le (l.drop q)
 rw[List.length_drop]at hsp
 have hrl:r≤l.length:=by omega
 have hdr:l.drop r=dropS (L.drop (runL L)):=by rw[←hrr,←hdq];unfold dropS;rw[List.drop_drop]
 have hO:∀W:World,_:=fun(W:World)=>begins_at l [40] r W (by omega) hrl (by decide) hdr
 have hC:∀W:World,_:=fun(W:World)=>begins_at l [58,58] r W (by omega) hrl (by decide) hdr
 have hIj:∀(W:World) (g:Nat),(∀i (h:i<joinsL.length),W.cell? ⟨g,i,none⟩=some (.string (bs joinsL[i])))→_:=fun(W:World) (g:Nat) (hc:∀i (h:i<joinsL.length),W.cell? ⟨g,i,none⟩=some (.string (bs joinsL[i])))=>in12_any joinsL (L.take (runL L)) g W hc (by decide)
 have hIt:∀(W:World) (g:Nat),(∀i (h:i<typesL.length),W.cell? ⟨g,i,none⟩=some (.string (bs typesL[i])))→_:=fun(W:World) (g:Nat) (hc:∀i (h:i<typesL.length),W.cell? ⟨g,i,none⟩=some (.string (bs typesL[i])))=>in12_any typesL (L.take (runL L)) g W hc (by decide)
 rw[hq]
 generalize lastE false xs=ended at *
 cases hE1:nmD (bs (L.take (runL L))) with
 |false=>
  rw[hE1]at hNm
  have e:nameW ended L=none:=by unfold nameW;rw[hE1];rfl
  rw[e]
  exact nm12_bad l _ p q v w hsl (Lib.hid hNm)
 |true=>
  rw[hE1]at hNm
  cases ended with
  |true=>
   cases hj:joinsL.contains (L.take (runL L)) with
   |false=>
    rw[hj]at hIj
    have e:nameW true L=none:=by unfold nameW;rw[hE1,hj];rfl
    rw[e]
    exact nm12_nojoin l _ p q v w hsl (Lib.hid hNm) (Lib.hid hE) (Lib.hid hIj)
   |true=>
    rw[hj]at hIj
    have e:nameW true L=some (⟨5,L.take (runL L),.num 0⟩,runL L):=by unfold nameW;rw[hE1,hj];rfl
    rw[e]
    exact nm12_op l _ p q v w hsl (Lib.hid hNm) (Lib.hid hE) (Lib.hid hIj)
  |false=>
   have e0:nameW false L=some (⟨kindN false (L.take (runL L)) (nx0 (dropS (L.drop (runL L)))),L.take (runL L),.num 0⟩,runL L):=by unfold nameW;rw[hE1];rfl
   rw[e0]
   unfold nx0
   cases h1:([40]:List UInt8).isPrefixOf (dropS (L.drop (runL L))) with
   |true=>
    rw[h1]at hO
    have h2:([58,58]:List UInt8).isPrefixOf (dropS (L.drop (runL L)))=false:=by
     obtain⟨t,ht⟩:=List.isPrefixOf_iff_prefix.1 h1
     rw[←ht]
     rfl
    rw[h2]at hC
    cases h3:typesL.contains (L.take (runL L)) with
    |true=>
     rw[h3]at hIt
     have e:kindN false (L.take (runL L)) (if true=true then 1 else if ([58,58]:List UInt8).isPrefixOf (dropS (L.drop (runL L)))=true then 2 else 0)=4:=by unfold kindN;rw[h3];rfl
     rw[e]
     exact nm12_type l _ p q r v w hsl (Lib.hid hNm) (Lib.hid hE) HS (Lib.hid hO) (Lib.hid hC) (Lib.hid hIt)
    |false=>
     rw[h3]at hIt
     have e:kindN false (L.take (runL L)) (if true=true then 1 else if ([58,58]:List UInt8).isPrefixOf (dropS (L.drop (runL L)))=true then 2 else 0)=6:=by unfold kindN;rw[h3];rfl
     rw[e]
     exact nm12_func l _ p q r v w hsl (Lib.hid hNm) (Lib.hid hE) HS (Lib.hid hO) (Lib.hid hC) (Lib.hid hIt)
   |false=>
    rw[h1]at hO
    cases h2:([58,58]:List UInt8).isPrefixOf (dropS (L.drop (runL L))) with
    |true=>
     rw[h2]at hC
     exact nm12_axis l _ p q r v w hsl (Lib.hid hNm) (Lib.hid hE) HS (Lib.hid hO) (Lib.hid hC)
    |false=>
     rw[h2]at hC
     exact nm12_name l _ p q r v w hsl (Lib.hid hNm) (Lib.hid hE) HS (Lib.hid hO) (Lib.hid hC)
end Char
end Go.Proofs.YtlmpkpjjakallaaGreatDoor
