import Derived.Test.YtlmpkpjjakallaaGreatDoorPt20
namespace Go.Proofs.YtlmpkpjjakallaaGreatDoor
namespace Char
open Go.RowKit Go.Lib
theorem wd_keep {w W:World}(hb:Below w.heap.size w W){g:Nat}{x:Wd}(h:w.heap[g]? =some (wdB x)):W.heap[g]? =some (wdB x):=(hb.block g (Array.getElem?_eq_some_iff.1 h).1).trans h
theorem wd_new (w:World)(k:Int)(N:List UInt8)(hk:k=2):(w.alloc (.cells #[.int .i64 k,.string (bs N),.int .i64 0,.int .i64 0] 89)).heap[w.heap.size]? =some (wdB ⟨2,N,.num 0⟩):=by rw[hk];exact World.alloc_heap_new w _
set_option maxHeartbeats 8000000 in
theorem named_bad (l N:List UInt8)(ended:Bool)(w:World)
 (HR:Hid (∀W:World,Calls Tryz.prog 150 #[.string (bs l)] W fun e w'=>e= .returned (.string (bs N))∧Below W.heap.size W w'))
 (HN:Hid (∀W:World,Below w.heap.size w W→Calls Tryz.prog 69 #[.string (bs N)] W fun e w'=>e= .returned (.bool false)∧Below W.heap.size W w')):
 Calls Tryz.prog 113 #[.string (bs l),.bool ended] w (WdPost w (none)):=by
 obtain⟨W1,hW1,hb1,hk1,hl1,HW1,HKEY,HKB⟩:=wd_hd w
 clear hb1 hk1 hl1 hW1
 go_enter Tryz.func113,Tryz.ntmps113
 go_upto_region 1 with fail
 rw[←HW1.out]
 clear HW1
 go_wp2_with (first
  |(go_at_call 150
    refine(HR.out _).mono ?_
    rintro e w3 ⟨rfl,hb3⟩
    have HB3:=Lib.hid hb3
    have HN3:=Lib.hid (HN.out w3 (HKB.out w3 hb3).2)
    clear hb3 HR)
  |(go_at_call 69
    refine HN3.out.mono ?_
    rintro e w4 ⟨rfl,hb4⟩
    have hb:=HB3.out.trans (hb4.mono HB3.out.size)
    obtain⟨⟨d0,d1,d2,d3⟩,f0,f1,f2,f3⟩:=HKEY.out w4 hb
    have HKB4:=Lib.hid (HKB.out w4 hb)
    clear hb hb4 HN3))
 exact end_word Tryz.results113 w w4 none (x:=wd0) HKB4.out.1 HKB4.out.2 (by rfl) (by rfl) rfl rfl rfl
set_option maxHeartbeats 8000000 in
theorem named_nojoin (l N:List UInt8)(w:World)
 (HR:Hid (∀W:World,Calls Tryz.prog 150 #[.string (bs l)] W fun e w'=>e= .returned (.string (bs N))∧Below W.heap.size W w'))
 (HN:Hid (∀W:World,Below w.heap.size w W→Calls Tryz.prog 69 #[.string (bs N)] W fun e w'=>e= .returned (.bool true)∧Below W.heap.size W w'))
 (HJ:Hid (∀W:World,Calls Tryz.prog 151 #[.string (bs N)] W fun e w'=>e= .returned (.bool false)∧w'=W)):
 Calls Tryz.prog 113 #[.string (bs l),.bool true] w (WdPost w (none)):=by
 obtain⟨W1,hW1,hb1,hk1,hl1,HW1,HKEY,HKB⟩:=wd_hd w
 clear hb1 hk1 hl1 hW1
 go_enter Tryz.func113,Tryz.ntmps113
 go_upto_region 1 with fail
 rw[←HW1.out]
 clear HW1
 go_wp2_with (first
  |(go_at_call 150
    refine(HR.out _).mono ?_
    rintro e w3 ⟨rfl,hb3⟩
    have HB3:=Lib.hid hb3
    have HN3:=Lib.hid (HN.out w3 (HKB.out w3 hb3).2)
    clear hb3 HR)
  |(go_at_call 69
    refine HN3.out.mono ?_
    rintro e w4 ⟨rfl,hb4⟩
    have hb:=HB3.out.trans (hb4.mono HB3.out.size)
    obtain⟨⟨d0,d1,d2,d3⟩,f0,f1,f2,f3⟩:=HKEY.out w4 hb
    have HKB4:=Lib.hid (HKB.out w4 hb)
    clear hb hb4 HN3)
  |(go_at_call 151
    refine(HJ.out _).mono ?_
    rintro e w5 ⟨rfl,hw⟩
    have hw:=hw.symm
    subst hw
    clear HJ))
 exact end_word Tryz.results113 w w4 none (x:=wd0) HKB4.out.1 HKB4.out.2 (by rfl) (by rfl) rfl rfl rfl
set_option maxHeartbeats 8000000 in
theorem named_op (l N t nx:List UInt8)(n:Nat)(w:World)
 (hN:(bs N).size=n) (hsl:∀wx,(Instr.slice 9 (.string (bs l)) (some (.int .i64 (n:Int))) none none).run Tryz.prog wx= .ok (.string (bs t)) wx)
 (HR:Hid (∀W:World,Calls Tryz.prog 150 #[.string (bs l)] W fun e w'=>e= .returned (.string (bs N))∧Below W.heap.size W w'))
 (HN:Hid (∀W:World,Below w.heap.size w W→Calls Tryz.prog 69 #[.string (bs N)] W fun e w'=>e= .returned (.bool true)∧Below W.heap.size W w'))
 (HJ:Hid (∀W:World,Calls Tryz.prog 151 #[.string (bs N)] W fun e w'=>e= .returned (.bool true)∧w'=W))
 (HS:Hid (∀W:World,Calls Tryz.prog 98 #[.string (bs t),.func (.func 99) #[] #[]] W fun e w'=>e= .returned (.string (bs nx))∧Below W.heap.size W w')):
 Calls Tryz.prog 113 #[.string (bs l),.bool true] w (WdPost w (some (⟨5,N,.num 0⟩,n))):=by
 obtain⟨W1,hW1,hb1,hk1,hl1,HW1,HKEY,HKB⟩:=wd_hd w
 clear hb1 hk1 hl1 hW1
 go_enter Tryz.func113,Tryz.ntmps113
 go_upto_region 1 with fail
 rw[←HW1.out]
 clear HW1
 go_wp2_with (first
  |(go_at_call 150
    refine(HR.out _).mono ?_
    rintro e w3 ⟨rfl,hb3⟩
    have HB3:=Lib.hid hb3
    have HN3:=Lib.hid (HN.out w3 (HKB.out w3 hb3).2)
    clear hb3 HR)
  |(go_at_call 69
    refine HN3.out.mono ?_
    rintro e w4 ⟨rfl,hb4⟩
    have hb:=HB3.out.trans (hb4.mono HB3.out.size)
    obtain⟨⟨d0,d1,d2,d3⟩,f0,f1,f2,f3⟩:=HKEY.out w4 hb
    have HKB4:=Lib.hid (HKB.out w4 hb)
    clear hb hb4 HN3)
  |(go_at_call 151
    refine(HJ.out _).mono ?_
    rintro e w5 ⟨rfl,hw⟩
    have hw:=hw.symm
    subst hw
    clear HJ)
  |(go_at_call 98
    refine(HS.out _).mono ?_
    rintro e w6 ⟨rfl,hb6⟩
    have hq:=wd_keep hb6 (wd_new w4 2 N rfl)
    have hp:=wd_keep hb6 ((((below_box _).block _ (Array.getElem?_eq_some_iff.1 HKB4.out.1).1)).trans HKB4.out.1)
    have hB6:=HKB4.out.2.trans (((below_box _).trans (hb6.mono (below_box _).size)).mono HKB4.out.2.size)
    clear d0 d1 d2 d3 f0 f1 f2 f3
    obtain⟨⟨d0,d1,d2,d3⟩,f0,f1,f2,f3⟩:=wd0_at hp
    obtain⟨⟨c0,c1,c2,c3⟩,g⟩:=wd_blk hq
    obtain⟨g0,g1,g2,g3⟩:_∧_∧_∧_:=⟨g 0,g 1,g 2,g 3⟩
    obtain⟨⟨h0,h1,h2,h3⟩,j0,j1,j2,j3⟩:=wd0_at ((heap_set_ne (a:=⟨w4.heap.size,0,none⟩) (u:= .int .i64 5) (Nat.ne_of_lt (Array.getElem?_eq_some_iff.1 HKB4.out.1).1)).trans hp)
    have hne:w.heap.size≠w4.heap.size:=Nat.ne_of_lt (Array.getElem?_eq_some_iff.1 HKB4.out.1).1
    have HP6:=Lib.hid hp
    have HB6:=Lib.hid hB6
    have HNE:=Lib.hid hne
    clear hb6 hq hp hB6 g HS hne))
 exact end_word Tryz.results113 w _ (some (⟨5,N,.num 0⟩,n)) (x:=⟨5,N,.num 0⟩) ((heap_set_ne (a:=⟨w4.heap.size,0,none⟩) HNE.out).trans HP6.out) (HB6.out.setCell (p:=⟨w4.heap.size,0,none⟩) (Nat.le_of_lt (Nat.lt_of_le_of_ne HKB4.out.2.size HNE.out)) _) (by rfl) (by rfl) rfl rfl rfl
set_option maxHeartbeats 8000000 in
theorem named_type (l N t nx:List UInt8)(n:Nat)(w:World)
 (hN:(bs N).size=n) (hsl:∀wx,(Instr.slice 9 (.string (bs l)) (some (.int .i64 (n:Int))) none none).run Tryz.prog wx= .ok (.string (bs t)) wx)
 (HR:Hid (∀W:World,Calls Tryz.prog 150 #[.string (bs l)] W fun e w'=>e= .returned (.string (bs N))∧Below W.heap.size W w'))
 (HN:Hid (∀W:World,Below w.heap.size w W→Calls Tryz.prog 69 #[.string (bs N)] W fun e w'=>e= .returned (.bool true)∧Below W.heap.size W w'))
 (HS:Hid (∀W:World,Calls Tryz.prog 98 #[.string (bs t),.func (.func 99) #[] #[]] W fun e w'=>e= .returned (.string (bs nx))∧Below W.heap.size W w'))
 (HO:Hid (∀W:World,Calls Tryz.prog 152 #[.string (bs nx),.string ⟨#[40]⟩] W fun e w'=>e= .returned (.bool true)∧w'=W))
 (HK:Hid (∀W:World,Calls Tryz.prog 153 #[.string (bs N)] W fun e w'=>e= .returned (.bool true)∧w'=W)):
 Calls Tryz.prog 113 #[.string (bs l),.bool false] w (WdPost w (some (⟨4,N,.num 0⟩,n))):=by
 obtain⟨W1,hW1,hb1,hk1,hl1,HW1,HKEY,HKB⟩:=wd_hd w
 clear hb1 hk1 hl1 hW1
 go_enter Tryz.func113,Tryz.ntmps113
 go_upto_region 1 with fail
 rw[←HW1.out]
 clear HW1
 go_wp2_with (first
  |(go_at_call 150
    refine(HR.out _).mono ?_
    rintro e w3 ⟨rfl,hb3⟩
    have HB3:=Lib.hid hb3
    have HN3:=Lib.hid (HN.out w3 (HKB.out w3 hb3).2)
    clear hb3 HR)
  |(go_at_call 69
    refine HN3.out.mono ?_
    rintro e w4 ⟨rfl,hb4⟩
    have hb:=HB3.out.trans (hb4.mono HB3.out.size)
    obtain⟨⟨d0,d1,d2,d3⟩,f0,f1,f2,f3⟩:=HKEY.out w4 hb
    have HKB4:=Lib.hid (HKB.out w4 hb)
    clear hb hb4 HN3)
  |(go_at_call 98
    refine(HS.out _).mono ?_
    rintro e w6 ⟨rfl,hb6⟩
    have hq:=wd_keep hb6 (wd_new w4 2 N rfl)
    have hp:=wd_keep hb6 ((((below_box _).block _ (Array.getElem?_eq_some_iff.1 HKB4.out.1).1)).trans HKB4.out.1)
    have hB6:=HKB4.out.2.trans (((below_box _).trans (hb6.mono (below_box _).size)).mono HKB4.out.2.size)
    clear d0 d1 d2 d3 f0 f1 f2 f3
    obtain⟨⟨d0,d1,d2,d3⟩,f0,f1,f2,f3⟩:=wd0_at hp
    obtain⟨⟨c0,c1,c2,c3⟩,g⟩:=wd_blk hq
    obtain⟨g0,g1,g2,g3⟩:_∧_∧_∧_:=⟨g 0,g 1,g 2,g 3⟩
    obtain⟨⟨h0,h1,h2,h3⟩,j0,j1,j2,j3⟩:=wd0_at ((heap_set_ne (a:=⟨w4.heap.size,0,none⟩) (u:= .int .i64 4) (Nat.ne_of_lt (Array.getElem?_eq_some_iff.1 HKB4.out.1).1)).trans hp)
    have hne:w.heap.size≠w4.heap.size:=Nat.ne_of_lt (Array.getElem?_eq_some_iff.1 HKB4.out.1).1
    have HP6:=Lib.hid hp
    have HB6:=Lib.hid hB6
    have HNE:=Lib.hid hne
    clear hb6 hq hp hB6 g HS hne)
  |(go_at_call 152
    have CC:=HO.out w6
    with_reducible refine CC.mono ?_
    clear CC
    rintro e w7 ⟨rfl,hw⟩
    have hw:=hw.symm
    subst hw)
  |(go_at_call 153
    refine(HK.out _).mono ?_
    rintro e w7 ⟨rfl,hw⟩
    have hw:=hw.symm
    subst hw))
 exact end_word Tryz.results113 w _ (some (⟨4,N,.num 0⟩,n)) (x:=⟨4,N,.num 0⟩) ((heap_set_ne (a:=⟨w4.heap.size,0,none⟩) HNE.out).trans HP6.out) (HB6.out.setCell (p:=⟨w4.heap.size,0,none⟩) (Nat.le_of_lt (Nat.lt_of_le_of_ne HKB4.out.2.size HNE.out)) _) (by rfl) (by rfl) rfl rfl rfl
set_option maxHeartbeats 8000000 in
theorem named_func (l N t nx:List UInt8)(n:Nat)(w:World)
 (hN:(bs N).size=n) (hsl:∀wx,(Instr.slice 9 (.string (bs l)) (some (.int .i64 (n:Int))) none none).run Tryz.prog wx= .ok (.string (bs t)) wx)
 (HR:Hid (∀W:World,Calls Tryz.prog 150 #[.string (bs l)] W fun e w'=>e= .returned (.string (bs N))∧Below W.heap.size W w'))
 (HN:Hid (∀W:World,Below w.heap.size w W→Calls Tryz.prog 69 #[.string (bs N)] W fun e w'=>e= .returned (.bool true)∧Below W.heap.size W w'))
 (HS:Hid (∀W:World,Calls Tryz.prog 98 #[.string (bs t),.func (.func 99) #[] #[]] W fun e w'=>e= .returned (.string (bs nx))∧Below W.heap.size W w'))
 (HO:Hid (∀W:World,Calls Tryz.prog 152 #[.string (bs nx),.string ⟨#[40]⟩] W fun e w'=>e= .returned (.bool true)∧w'=W))
 (HK:Hid (∀W:World,Calls Tryz.prog 153 #[.string (bs N)] W fun e w'=>e= .returned (.bool false)∧w'=W)):
 Calls Tryz.prog 113 #[.string (bs l),.bool false] w (WdPost w (some (⟨6,N,.num 0⟩,n))):=by
 obtain⟨W1,hW1,hb1,hk1,hl1,HW1,HKEY,HKB⟩:=wd_hd w
 clear hb1 hk1 hl1 hW1
 go_enter Tryz.func113,Tryz.ntmps113
 go_upto_region 1 with fail
 rw[←HW1.out]
 clear HW1
 go_wp2_with (first
  |(go_at_call 150
    refine(HR.out _).mono ?_
    rintro e w3 ⟨rfl,hb3⟩
    have HB3:=Lib.hid hb3
    have HN3:=Lib.hid (HN.out w3 (HKB.out w3 hb3).2)
    clear hb3 HR)
  |(go_at_call 69
    refine HN3.out.mono ?_
    rintro e w4 ⟨rfl,hb4⟩
    have hb:=HB3.out.trans (hb4.mono HB3.out.size)
    obtain⟨⟨d0,d1,d2,d3⟩,f0,f1,f2,f3⟩:=HKEY.out w4 hb
    have HKB4:=Lib.hid (HKB.out w4 hb)
    clear hb hb4 HN3)
  |(go_at_call 98
    refine(HS.out _).mono ?_
    rintro e w6 ⟨rfl,hb6⟩
    have hq:=wd_keep hb6 (wd_new w4 2 N rfl)
    have hp:=wd_keep hb6 ((((below_box _).block _ (Array.getElem?_eq_some_iff.1 HKB4.out.1).1)).trans HKB4.out.1)
    have hB6:=HKB4.out.2.trans (((below_box _).trans (hb6.mono (below_box _).size)).mono HKB4.out.2.size)
    clear d0 d1 d2 d3 f0 f1 f2 f3
    obtain⟨⟨d0,d1,d2,d3⟩,f0,f1,f2,f3⟩:=wd0_at hp
    obtain⟨⟨c0,c1,c2,c3⟩,g⟩:=wd_blk hq
    obtain⟨g0,g1,g2,g3⟩:_∧_∧_∧_:=⟨g 0,g 1,g 2,g 3⟩
    obtain⟨⟨h0,h1,h2,h3⟩,j0,j1,j2,j3⟩:=wd0_at ((heap_set_ne (a:=⟨w4.heap.size,0,none⟩) (u:= .int .i64 6) (Nat.ne_of_lt (Array.getElem?_eq_some_iff.1 HKB4.out.1).1)).trans hp)
    have hne:w.heap.size≠w4.heap.size:=Nat.ne_of_lt (Array.getElem?_eq_some_iff.1 HKB4.out.1).1
    have HP6:=Lib.hid hp
    have HB6:=Lib.hid hB6
    have HNE:=Lib.hid hne
    clear hb6 hq hp hB6 g HS hne)
  |(go_at_call 152
    have CC:=HO.out w6
    with_reducible refine CC.mono ?_
    clear CC
    rintro e w7 ⟨rfl,hw⟩
    have hw:=hw.symm
    subst hw)
  |(go_at_call 153
    refine(HK.out _).mono ?_
    rintro e w7 ⟨rfl,hw⟩
    have hw:=hw.symm
    subst hw))
 exact end_word Tryz.results113 w _ (some (⟨6,N,.num 0⟩,n)) (x:=⟨6,N,.num 0⟩) ((heap_set_ne (a:=⟨w4.heap.size,0,none⟩) HNE.out).trans HP6.out) (HB6.out.setCell (p:=⟨w4.heap.size,0,none⟩) (Nat.le_of_lt (Nat.lt_of_le_of_ne HKB4.out.2.size HNE.out)) _) (by rfl) (by rfl) rfl rfl rfl
set_option maxHeartbeats 8000000 in
theorem named_axis (l N t nx:List UInt8)(n:Nat)(w:World)
 (hN:(bs N).size=n) (hsl:∀wx,(Instr.slice 9 (.string (bs l)) (some (.int .i64 (n:Int))) none none).run Tryz.prog wx= .ok (.string (bs t)) wx)
 (HR:Hid (∀W:World,Calls Tryz.prog 150 #[.string (bs l)] W fun e w'=>e= .returned (.string (bs N))∧Below W.heap.size W w'))
 (HN:Hid (∀W:World,Below w.heap.size w W→Calls Tryz.prog 69 #[.string (bs N)] W fun e w'=>e= .returned (.bool true)∧Below W.heap.size W w'))
 (HS:Hid (∀W:World,Calls Tryz.prog 98 #[.string (bs t),.func (.func 99) #[] #[]] W fun e w'=>e= .returned (.string (bs nx))∧Below W.heap.size W w'))
 (HO:Hid (∀W:World,Calls Tryz.prog 152 #[.string (bs nx),.string ⟨#[40]⟩] W fun e w'=>e= .returned (.bool false)∧w'=W))
 (HA:Hid (∀W:World,Calls Tryz.prog 152 #[.string (bs nx),.string ⟨#[58,58]⟩] W fun e w'=>e= .returned (.bool true)∧w'=W)):
 Calls Tryz.prog 113 #[.string (bs l),.bool false] w (WdPost w (some (⟨7,N,.num 0⟩,n))):=by
 obtain⟨W1,hW1,hb1,hk1,hl1,HW1,HKEY,HKB⟩:=wd_hd w
 clear hb1 hk1 hl1 hW1
 go_enter Tryz.func113,Tryz.ntmps113
 go_upto_region 1 with fail
 rw[←HW1.out]
 clear HW1
 go_wp2_with (first
  |(go_at_call 150
    refine(HR.out _).mono ?_
    rintro e w3 ⟨rfl,hb3⟩
    have HB3:=Lib.hid hb3
    have HN3:=Lib.hid (HN.out w3 (HKB.out w3 hb3).2)
    clear hb3 HR)
  |(go_at_call 69
    refine HN3.out.mono ?_
    rintro e w4 ⟨rfl,hb4⟩
    have hb:=HB3.out.trans (hb4.mono HB3.out.size)
    obtain⟨⟨d0,d1,d2,d3⟩,f0,f1,f2,f3⟩:=HKEY.out w4 hb
    have HKB4:=Lib.hid (HKB.out w4 hb)
    clear hb hb4 HN3)
  |(go_at_call 98
    refine(HS.out _).mono ?_
    rintro e w6 ⟨rfl,hb6⟩
    have hq:=wd_keep hb6 (wd_new w4 2 N rfl)
    have hp:=wd_keep hb6 ((((below_box _).block _ (Array.getElem?_eq_some_iff.1 HKB4.out.1).1)).trans HKB4.out.1)
    have hB6:=HKB4.out.2.trans (((below_box _).trans (hb6.mono (below_box _).size)).mono HKB4.out.2.size)
    clear d0 d1 d2 d3 f0 f1 f2 f3
    obtain⟨⟨d0,d1,d2,d3⟩,f0,f1,f2,f3⟩:=wd0_at hp
    obtain⟨⟨c0,c1,c2,c3⟩,g⟩:=wd_blk hq
    obtain⟨g0,g1,g2,g3⟩:_∧_∧_∧_:=⟨g 0,g 1,g 2,g 3⟩
    obtain⟨⟨h0,h1,h2,h3⟩,j0,j1,j2,j3⟩:=wd0_at ((heap_set_ne (a:=⟨w4.heap.size,0,none⟩) (u:= .int .i64 7) (Nat.ne_of_lt (Array.getElem?_eq_some_iff.1 HKB4.out.1).1)).trans hp)
    have hne:w.heap.size≠w4.heap.size:=Nat.ne_of_lt (Array.getElem?_eq_some_iff.1 HKB4.out.1).1
    have HP6:=Lib.hid hp
    have HB6:=Lib.hid hB6
    have HNE:=Lib.hid hne
    clear hb6 hq hp hB6 g HS hne)
  |(go_at_call 152
    have CC:=HO.out w6
    with_reducible refine CC.mono ?_
    clear CC
    rintro e w7 ⟨rfl,hw⟩
    have hw:=hw.symm
    subst hw)
  |(go_at_call 152
    have CC:=HA.out w6
    with_reducible refine CC.mono ?_
    clear CC
    rintro e w7 ⟨rfl,hw⟩
    have hw:=hw.symm
    subst hw))
 exact end_word Tryz.results113 w _ (some (⟨7,N,.num 0⟩,n)) (x:=⟨7,N,.num 0⟩) ((heap_set_ne (a:=⟨w4.heap.size,0,none⟩) HNE.out).trans HP6.out) (HB6.out.setCell (p:=⟨w4.heap.size,0,none⟩) (Nat.le_of_lt (Nat.lt_of_le_of_ne HKB4.out.2.size HNE.out)) _) (by rfl) (by rfl) rfl rfl rfl
set_option maxHeartbeats 8000000 in
theorem named_name (l N t nx:List UInt8)(n:Nat)(w:World)
 (hN:(bs N).size=n) (hsl:∀wx,(Instr.slice 9 (.string (bs l)) (some (.int .i64 (n:Int))) none none).run Tryz.prog wx= .ok (.string (bs t)) wx)
 (HR:Hid (∀W:World,Calls Tryz.prog 150 #[.string (bs l)] W fun e w'=>e= .returned (.string (bs N))∧Below W.heap.size W w'))
 (HN:Hid (∀W:World,Below w.heap.size w W→Calls Tryz.prog 69 #[.string (bs N)] W fun e w'=>e= .returned (.bool true)∧Below W.heap.size W w'))
 (HS:Hid (∀W:World,Calls Tryz.prog 98 #[.string (bs t),.func (.func 99) #[] #[]] W fun e w'=>e= .returned (.string (bs nx))∧Below W.heap.size W w'))
 (HO:Hid (∀W:World,Calls Tryz.prog 152 #[.string (bs nx),.string ⟨#[40]⟩] W fun e w'=>e= .returned (.bool false)∧w'=W))
 (HA:Hid (∀W:World,Calls Tryz.prog 152 #[.string (bs nx),.string ⟨#[58,58]⟩] W fun e w'=>e= .returned (.bool false)∧w'=W)):
 Calls Tryz.prog 113 #[.string (bs l),.bool false] w (WdPost w (some (⟨2,N,.num 0⟩,n))):=by
 obtain⟨W1,hW1,hb1,hk1,hl1,HW1,HKEY,HKB⟩:=wd_hd w
 clear hb1 hk1 hl1 hW1
 go_enter Tryz.func113,Tryz.ntmps113
 go_upto_region 1 with fail
 rw[←HW1.out]
 clear HW1
 go_wp2_with (first
  |(go_at_call 150
    refine(HR.out _).mono ?_
    rintro e w3 ⟨rfl,hb3⟩
    have HB3:=Lib.hid hb3
    have HN3:=Lib.hid (HN.out w3 (HKB.out w3 hb3).2)
    clear hb3 HR)
  |(go_at_call 69
    refine HN3.out.mono ?_
    rintro e w4 ⟨rfl,hb4⟩
    have hb:=HB3.out.trans (hb4.mono HB3.out.size)
    obtain⟨⟨d0,d1,d2,d3⟩,f0,f1,f2,f3⟩:=HKEY.out w4 hb
    have HKB4:=Lib.hid (HKB.out w4 hb)
    clear hb hb4 HN3)
  |(go_at_call 98
    refine(HS.out _).mono ?_
    rintro e w6 ⟨rfl,hb6⟩
    have hq:=wd_keep hb6 (wd_new w4 2 N rfl)
    have hp:=wd_keep hb6 ((((below_box _).block _ (Array.getElem?_eq_some_iff.1 HKB4.out.1).1)).trans HKB4.out.1)
    have hB6:=HKB4.out.2.trans (((below_box _).trans (hb6.mono (below_box _).size)).mono HKB4.out.2.size)
    clear d0 d1 d2 d3 f0 f1 f2 f3
    obtain⟨⟨d0,d1,d2,d3⟩,f0,f1,f2,f3⟩:=wd0_at hp
    obtain⟨⟨c0,c1,c2,c3⟩,g⟩:=wd_blk hq
    obtain⟨g0,g1,g2,g3⟩:_∧_∧_∧_:=⟨g 0,g 1,g 2,g 3⟩
    have hne:w.heap.size≠w4.heap.size:=Nat.ne_of_lt (Array.getElem?_eq_some_iff.1 HKB4.out.1).1
    have HP6:=Lib.hid hp
    have HB6:=Lib.hid hB6
    have HNE:=Lib.hid hne
    clear hb6 hq hp hB6 g HS hne)
  |(go_at_call 152
    have CC:=HO.out w6
    with_reducible refine CC.mono ?_
    clear CC
    rintro e w7 ⟨rfl,hw⟩
    have hw:=hw.symm
    subst hw)
  |(go_at_call 152
    have CC:=HA.out w6
    with_reducible refine CC.mono ?_
    clear CC
    rintro e w7 ⟨rfl,hw⟩
    have hw:=hw.symm
    subst hw))
 exact end_word Tryz.results113 w w6 (some (⟨2,N,.num 0⟩,n)) (x:=⟨2,N,.num 0⟩) HP6.out HB6.out (by rfl) (by rfl) rfl rfl rfl
theorem named_any (l:List UInt8)(ended:Bool)(w:World)(hl:l.length≤1000)(ht:txD l=true)(hG:Gl w):Calls Tryz.prog 113 #[.string (bs l),.bool ended] w (WdPost w (nameW ended l)):=by
 have hr:=run_le _ l (Nat.le_refl _)
 have hNl:(l.take (runL l)).length=runL l:=by rw[List.length_take];exact Nat.min_eq_left hr
 have hN:(bs (l.take (runL l))).size=runL l:=by rw[bs_size];exact hNl
 have hsl:=slice_from l (runL l) hr
 have HR:=Lib.hid fun(W:World)=>lexRun_any l W (by omega) ht
 have hNm:∀W:World,Below w.heap.size w W→_:=fun(W:World) (hb:Below w.heap.size w W)=>chName_any (bs (l.take (runL l))) W (by omega) (hG.below hb).1
 have HS:=Lib.hid fun(W:World)=>behindS_any (l.drop (runL l)) W
 have HJ:∀W:World,_:=fun(W:World)=>joins_any (l.take (runL l)) W
 have HK:∀W:World,_:=fun(W:World)=>kindOf_any (l.take (runL l)) W
 have HO:∀W:World,_:=fun(W:World)=>hasp_any (dropS (l.drop (runL l))) [40] W
 have HA:∀W:World,_:=fun(W:World)=>hasp_any (dropS (l.drop (runL l))) [58,58] W
 cases hE:nmD (bs (l.take (runL l))) with
 |false=>
  rw[hE]at hNm
  have e:nameW ended l=none:=by unfold nameW;rw[hE];rfl
  rw[e]
  exact named_bad l _ ended w HR (Lib.hid hNm)
 |true=>
  rw[hE]at hNm
  cases ended with
  |true=>
   cases hj:joinsL.contains (l.take (runL l)) with
   |false=>
    rw[hj]at HJ
    have e:nameW true l=none:=by unfold nameW;rw[hE,hj];rfl
    rw[e]
    exact named_nojoin l _ w HR (Lib.hid hNm) (Lib.hid HJ)
   |true=>
    rw[hj]at HJ
    have e:nameW true l=some (⟨5,l.take (runL l),.num 0⟩,runL l):=by unfold nameW;rw[hE,hj];rfl
    rw[e]
    exact named_op l _ _ _ _ w hN hsl HR (Lib.hid hNm) (Lib.hid HJ) HS
  |false=>
   have e0:nameW false l=some (⟨kindN false (l.take (runL l)) (nx0 (dropS (l.drop (runL l)))),l.take (runL l),.num 0⟩,runL l):=by unfold nameW;rw[hE];rfl
   rw[e0]
   unfold nx0
   cases h1:([40]:List UInt8).isPrefixOf (dropS (l.drop (runL l))) with
   |true=>
    rw[h1]at HO
    cases h2:typesL.contains (l.take (runL l)) with
    |true=>
     rw[h2]at HK
     have e:kindN false (l.take (runL l)) (if true=true then 1 else if ([58,58]:List UInt8).isPrefixOf (dropS (l.drop (runL l)))=true then 2 else 0)=4:=by unfold kindN;rw[h2];rfl
     rw[e]
     exact named_type l _ _ _ _ w hN hsl HR (Lib.hid hNm) HS (Lib.hid HO) (Lib.hid HK)
    |false=>
     rw[h2]at HK
     have e:kindN false (l.take (runL l)) (if true=true then 1 else if ([58,58]:List UInt8).isPrefixOf (dropS (l.drop (runL l)))=true then 2 else 0)=6:=by unfold kindN;rw[h2];rfl
     rw[e]
     exact named_func l _ _ _ _ w hN hsl HR (Lib.hid hNm) HS (Lib.hid HO) (Lib.hid HK)
   |false=>
    rw[h1]at HO
    cases h2:([58,58]:List UInt8).isPrefixOf (dropS (l.drop (runL l))) with
    |true=>
     rw[h2]at HA
     exact named_axis l _ _ _ _ w hN hsl HR (Lib.hid hNm) HS (Lib.hid HO) (Lib.hid HA)
    |false=>
     rw[h2]at HA
     exact named_name l _ _ _ _ w hN hsl HR (Lib.hid hNm) HS (Lib.hid HO) (Lib.hid HA)
end Char
namespace Char
open Go.RowKit Go.Lib
open Go.Proofs.YtlmpkpjjakallaaGreatDoor.Fig (outT outV)
theorem wdPost_out {w:World}{o:Option (Wd×Nat)}{e:Ending}{w':World}(h:WdPost w o e w'):∃x n,o.getD (wd0,0)=(x,n)∧e= .returned (.tuple #[.agg #[.int .i64 (x.k:Int),.string (bs x.s),.int .i64 (outT x.n),.int .i64 (outV x.n)],.int .i64 (n:Int)])∧Below w.heap.size w w':=by
 obtain⟨h1,h2⟩:=h
 exact⟨(o.getD (wd0,0)).1,(o.getD (wd0,0)).2,rfl,h1,h2⟩
set_option maxHeartbeats 4000000 in
theorem clos1_any (l:List UInt8)(b:Nat)(o:Option (Wd×Nat))(w:World)(hc:w.cell? ⟨b,0,none⟩=some (.string (bs l)))
 (HC:Hid (∀W:World,Below w.heap.size w W→Calls Tryz.prog 101 #[.string (bs l)] W (WdPost W o))):Calls Tryz.prog 100 #[.pointer (some ⟨b,0,none⟩)] w (WdPost w o):=by
 obtain⟨W1,hW1⟩:∃W1,W1=w.alloc (.cells #[.int .i64 0,.string ⟨#[]⟩,.int .i64 0,.int .i64 0] 89):=⟨_,rfl⟩
 have hb1:Below w.heap.size w W1:=by rw[hW1];exact below_box _
 have hk1:W1.heap[w.heap.size]? =some (wdB wd0):=by rw[hW1];exact World.alloc_heap_new w _
 have hl1:w.heap.size<W1.heap.size:=(Array.getElem?_eq_some_iff.1 hk1).1
 have hc1:W1.cell? ⟨b,0,none⟩=some (.string (bs l)):=(hb1.cell (cell_lt hc)).trans hc
 have HC1:=Lib.hid (HC.out W1 hb1)
 have HW1:=Lib.hid hW1
 have HKEY:=Lib.hid fun(w3:World) (hb3:Below W1.heap.size W1 w3)=>wd0_at ((hb3.block _ hl1).trans hk1)
 have HKB:=Lib.hid fun(w3:World) (hb3:Below W1.heap.size W1 w3)=>And.intro ((hb3.block _ hl1).trans hk1) (hb1.trans (hb3.mono hb1.size))
 clear hb1 hk1 hl1 hW1 HC hc
 go_enter Tryz.func100,Tryz.ntmps100
 go_upto_region 1 with fail
 rw[←HW1.out]
 clear HW1
 go_wp2_with (
  refine HC1.out.mono ?_
  intro e w3 hz
  obtain⟨x,n,hx,rfl,hb3⟩:=wdPost_out hz
  obtain⟨⟨d0,d1,d2,d3⟩,f0,f1,f2,f3⟩:=HKEY.out w3 hb3
  have HKB3:=Lib.hid (HKB.out w3 hb3)
  have HX:=Lib.hid hx
  clear hb3 hz hx HC1)
 exact end_word Tryz.results100 w w3 o (x:=x) HKB3.out.1 HKB3.out.2 (by rw[HX.out]) (by rw[HX.out]) rfl rfl rfl
set_option maxHeartbeats 4000000 in
theorem clos2_any (l:List UInt8)(b:Nat)(o:Option (Wd×Nat))(w:World)(hc:w.cell? ⟨b,0,none⟩=some (.string (bs l)))
 (HC:Hid (∀W:World,Below w.heap.size w W→Calls Tryz.prog 103 #[.string (bs l)] W (WdPost W o))):Calls Tryz.prog 102 #[.pointer (some ⟨b,0,none⟩)] w (WdPost w o):=by
 obtain⟨W1,hW1⟩:∃W1,W1=w.alloc (.cells #[.int .i64 0,.string ⟨#[]⟩,.int .i64 0,.int .i64 0] 89):=⟨_,rfl⟩
 have hb1:Below w.heap.size w W1:=by rw[hW1];exact below_box _
 have hk1:W1.heap[w.heap.size]? =some (wdB wd0):=by rw[hW1];exact World.alloc_heap_new w _
 have hl1:w.heap.size<W1.heap.size:=(Array.getElem?_eq_some_iff.1 hk1).1
 have hc1:W1.cell? ⟨b,0,none⟩=some (.string (bs l)):=(hb1.cell (cell_lt hc)).trans hc
 have HC1:=Lib.hid (HC.out W1 hb1)
 have HW1:=Lib.hid hW1
 have HKEY:=Lib.hid fun(w3:World) (hb3:Below W1.heap.size W1 w3)=>wd0_at ((hb3.block _ hl1).trans hk1)
 have HKB:=Lib.hid fun(w3:World) (hb3:Below W1.heap.size W1 w3)=>And.intro ((hb3.block _ hl1).trans hk1) (hb1.trans (hb3.mono hb1.size))
 clear hb1 hk1 hl1 hW1 HC hc
 go_enter Tryz.func102,Tryz.ntmps102
 go_upto_region 1 with fail
 rw[←HW1.out]
 clear HW1
 go_wp2_with (
  refine HC1.out.mono ?_
  intro e w3 hz
  obtain⟨x,n,hx,rfl,hb3⟩:=wdPost_out hz
  obtain⟨⟨d0,d1,d2,d3⟩,f0,f1,f2,f3⟩:=HKEY.out w3 hb3
  have HKB3:=Lib.hid (HKB.out w3 hb3)
  have HX:=Lib.hid hx
  clear hb3 hz hx HC1)
 exact end_word Tryz.results102 w w3 o (x:=x) HKB3.out.1 HKB3.out.2 (by rw[HX.out]) (by rw[HX.out]) rfl rfl rfl
set_option maxHeartbeats 4000000 in
theorem clos3_any (l:List UInt8)(b:Nat)(o:Option (Wd×Nat))(w:World)(hc:w.cell? ⟨b,0,none⟩=some (.string (bs l)))
 (HC:Hid (∀W:World,Below w.heap.size w W→Calls Tryz.prog 105 #[.string (bs l)] W (WdPost W o))):Calls Tryz.prog 104 #[.pointer (some ⟨b,0,none⟩)] w (WdPost w o):=by
 obtain⟨W1,hW1⟩:∃W1,W1=w.alloc (.cells #[.int .i64 0,.string ⟨#[]⟩,.int .i64 0,.int .i64 0] 89):=⟨_,rfl⟩
 have hb1:Below w.heap.size w W1:=by rw[hW1];exact below_box _
 have hk1:W1.heap[w.heap.size]? =some (wdB wd0):=by rw[hW1];exact World.alloc_heap_new w _
 have hl1:w.heap.size<W1.heap.size:=(Array.getElem?_eq_some_iff.1 hk1).1
 have hc1:W1.cell? ⟨b,0,none⟩=some (.string (bs l)):=(hb1.cell (cell_lt hc)).trans hc
 have HC1:=Lib.hid (HC.out W1 hb1)
 have HW1:=Lib.hid hW1
 have HKEY:=Lib.hid fun(w3:World) (hb3:Below W1.heap.size W1 w3)=>wd0_at ((hb3.block _ hl1).trans hk1)
 have HKB:=Lib.hid fun(w3:World) (hb3:Below W1.heap.size W1 w3)=>And.intro ((hb3.block _ hl1).trans hk1) (hb1.trans (hb3.mono hb1.size))
 clear hb1 hk1 hl1 hW1 HC hc
 go_enter Tryz.func104,Tryz.ntmps104
 go_upto_region 1 with fail
 rw[←HW1.out]
 clear HW1
 go_wp2_with (
  refine HC1.out.mono ?_
  intro e w3 hz
  obtain⟨x,n,hx,rfl,hb3⟩:=wdPost_out hz
  obtain⟨⟨d0,d1,d2,d3⟩,f0,f1,f2,f3⟩:=HKEY.out w3 hb3
  have HKB3:=Lib.hid (HKB.out w3 hb3)
  have HX:=Lib.hid hx
  clear hb3 hz hx HC1)
 exact end_word Tryz.results104 w w3 o (x:=x) HKB3.out.1 HKB3.out.2 (by rw[HX.out]) (by rw[HX.out]) rfl rfl rfl
set_option maxHeartbeats 4000000 in
theorem clos4_any (l:List UInt8)(b:Nat)(o:Option (Wd×Nat))(w:World)(hc:w.cell? ⟨b,0,none⟩=some (.string (bs l)))
 (HC:Hid (∀W:World,Below w.heap.size w W→Calls Tryz.prog 107 #[.string (bs l)] W (WdPost W o))):Calls Tryz.prog 106 #[.pointer (some ⟨b,0,none⟩)] w (WdPost w o):=by
 obtain⟨W1,hW1⟩:∃W1,W1=w.alloc (.cells #[.int .i64 0,.string ⟨#[]⟩,.int .i64 0,.int .i64 0] 89):=⟨_,rfl⟩
 have hb1:Below w.heap.size w W1:=by rw[hW1];exact below_box _
 have hk1:W1.heap[w.heap.size]? =some (wdB wd0):=by rw[hW1];exact World.alloc_heap_new w _
 have hl1:w.heap.size<W1.heap.size:=(Array.getElem?_eq_some_iff.1 hk1).1
 have hc1:W1.cell? ⟨b,0,none⟩=some (.string (bs l)):=(hb1.cell (cell_lt hc)).trans hc
 have HC1:=Lib.hid (HC.out W1 hb1)
 have HW1:=Lib.hid hW1
 have HKEY:=Lib.hid fun(w3:World) (hb3:Below W1.heap.size W1 w3)=>wd0_at ((hb3.block _ hl1).trans hk1)
 have HKB:=Lib.hid fun(w3:World) (hb3:Below W1.heap.size W1 w3)=>And.intro ((hb3.block _ hl1).trans hk1) (hb1.trans (hb3.mono hb1.size))
 clear hb1 hk1 hl1 hW1 HC hc
 go_enter Tryz.func106,Tryz.ntmps106
 go_upto_region 1 with fail
 rw[←HW1.out]
 clear HW1
 go_wp2_with (
  refine HC1.out.mono ?_
  intro e w3 hz
  obtain⟨x,n,hx,rfl,hb3⟩:=wdPost_out hz
  obtain⟨⟨d0,d1,d2,d3⟩,f0,f1,f2,f3⟩:=HKEY.out w3 hb3
  have HKB3:=Lib.hid (HKB.out w3 hb3)
  have HX:=Lib.hid hx
  clear hb3 hz hx HC1)
 exact end_word Tryz.results106 w w3 o (x:=x) HKB3.out.1 HKB3.out.2 (by rw[HX.out]) (by rw[HX.out]) rfl rfl rfl
set_option maxHeartbeats 4000000 in
theorem clos5_any (l:List UInt8)(ended:Bool)(b c:Nat)(o:Option (Wd×Nat))(w:World)(hc:w.cell? ⟨b,0,none⟩=some (.string (bs l)))(hd:w.cell? ⟨c,0,none⟩=some (.bool ended))
 (HC:Hid (∀W:World,Below w.heap.size w W→Calls Tryz.prog 109 #[.string (bs l),.bool ended] W (WdPost W o))):Calls Tryz.prog 108 #[.pointer (some ⟨b,0,none⟩),.pointer (some ⟨c,0,none⟩)] w (WdPost w o):=by
 obtain⟨W1,hW1⟩:∃W1,W1=w.alloc (.cells #[.int .i64 0,.string ⟨#[]⟩,.int .i64 0,.int .i64 0] 89):=⟨_,rfl⟩
 have hb1:Below w.heap.size w W1:=by rw[hW1];exact below_box _
 have hk1:W1.heap[w.heap.size]? =some (wdB wd0):=by rw[hW1];exact World.alloc_heap_new w _
 have hl1:w.heap.size<W1.heap.size:=(Array.getElem?_eq_some_iff.1 hk1).1
 have hc1:W1.cell? ⟨b,0,none⟩=some (.string (bs l)):=(hb1.cell (cell_lt hc)).trans hc
 have hd1:W1.cell? ⟨c,0,none⟩=some (.bool ended):=(hb1.cell (cell_lt hd)).trans hd
 have HC1:=Lib.hid (HC.out W1 hb1)
 have HW1:=Lib.hid hW1
 have HKEY:=Lib.hid fun(w3:World) (hb3:Below W1.heap.size W1 w3)=>wd0_at ((hb3.block _ hl1).trans hk1)
 have HKB:=Lib.hid fun(w3:World) (hb3:Below W1.heap.size W1 w3)=>And.intro ((hb3.block _ hl1).trans hk1) (hb1.trans (hb3.mono hb1.size))
 clear hb1 hk1 hl1 hW1 HC hc hd
 go_enter Tryz.func108,Tryz.ntmps108
 go_upto_region 1 with fail
 rw[←HW1.out]
 clear HW1
 go_wp2_with (
  refine HC1.out.mono ?_
  intro e w3 hz
  obtain⟨x,n,hx,rfl,hb3⟩:=wdPost_out hz
  obtain⟨⟨d0,d1,d2,d3⟩,f0,f1,f2,f3⟩:=HKEY.out w3 hb3
  have HKB3:=Lib.hid (HKB.out w3 hb3)
  have HX:=Lib.hid hx
  clear hb3 hz hx HC1)
 exact end_word Tryz.results108 w w3 o (x:=x) HKB3.out.1 HKB3.out.2 (by rw[HX.out]) (by rw[HX.out]) rfl rfl rfl
set_option maxHeartbeats 4000000 in
theorem clos6_any (l:List UInt8)(b:Nat)(o:Option (Wd×Nat))(w:World)(hc:w.cell? ⟨b,0,none⟩=some (.string (bs l)))
 (HC:Hid (∀W:World,Below w.heap.size w W→Calls Tryz.prog 111 #[.string (bs l)] W (WdPost W o))):Calls Tryz.prog 110 #[.pointer (some ⟨b,0,none⟩)] w (WdPost w o):=by
 obtain⟨W1,hW1⟩:∃W1,W1=w.alloc (.cells #[.int .i64 0,.string ⟨#[]⟩,.int .i64 0,.int .i64 0] 89):=⟨_,rfl⟩
 have hb1:Below w.heap.size w W1:=by rw[hW1];exact below_box _
 have hk1:W1.heap[w.heap.size]? =some (wdB wd0):=by rw[hW1];exact World.alloc_heap_new w _
 have hl1:w.heap.size<W1.heap.size:=(Array.getElem?_eq_some_iff.1 hk1).1
 have hc1:W1.cell? ⟨b,0,none⟩=some (.string (bs l)):=(hb1.cell (cell_lt hc)).trans hc
 have HC1:=Lib.hid (HC.out W1 hb1)
 have HW1:=Lib.hid hW1
 have HKEY:=Lib.hid fun(w3:World) (hb3:Below W1.heap.size W1 w3)=>wd0_at ((hb3.block _ hl1).trans hk1)
 have HKB:=Lib.hid fun(w3:World) (hb3:Below W1.heap.size W1 w3)=>And.intro ((hb3.block _ hl1).trans hk1) (hb1.trans (hb3.mono hb1.size))
 clear hb1 hk1 hl1 hW1 HC hc
 go_enter Tryz.func110,Tryz.ntmps110
 go_upto_region 1 with fail
 rw[←HW1.out]
 clear HW1
 go_wp2_with (
  refine HC1.out.mono ?_
  intro e w3 hz
  obtain⟨x,n,hx,rfl,hb3⟩:=wdPost_out hz
  obtain⟨⟨d0,d1,d2,d3⟩,f0,f1,f2,f3⟩:=HKEY.out w3 hb3
  have HKB3:=Lib.hid (HKB.out w3 hb3)
  have HX:=Lib.hid hx
  clear hb3 hz hx HC1)
 exact end_word Tryz.results110 w w3 o (x:=x) HKB3.out.1 HKB3.out.2 (by rw[HX.out]) (by rw[HX.out]) rfl rfl rfl
set_option maxHeartbeats 4000000 in
theorem clos7_any (l:List UInt8)(ended:Bool)(b c:Nat)(o:Option (Wd×Nat))(w:World)(hc:w.cell? ⟨b,0,none⟩=some (.string (bs l)))(hd:w.cell? ⟨c,0,none⟩=some (.bool ended))
 (HC:Hid (∀W:World,Below w.heap.size w W→Calls Tryz.prog 113 #[.string (bs l),.bool ended] W (WdPost W o))):Calls Tryz.prog 112 #[.pointer (some ⟨b,0,none⟩),.pointer (some ⟨c,0,none⟩)] w (WdPost w o):=by
 obtain⟨W1,hW1⟩:∃W1,W1=w.alloc (.cells #[.int .i64 0,.string ⟨#[]⟩,.int .i64 0,.int .i64 0] 89):=⟨_,rfl⟩
 have hb1:Below w.heap.size w W1:=by rw[hW1];exact below_box _
 have hk1:W1.heap[w.heap.size]? =some (wdB wd0):=by rw[hW1];exact World.alloc_heap_new w _
 have hl1:w.heap.size<W1.heap.size:=(Array.getElem?_eq_some_iff.1 hk1).1
 have hc1:W1.cell? ⟨b,0,none⟩=some (.string (bs l)):=(hb1.cell (cell_lt hc)).trans hc
 have hd1:W1.cell? ⟨c,0,none⟩=some (.bool ended):=(hb1.cell (cell_lt hd)).trans hd
 have HC1:=Lib.hid (HC.out W1 hb1)
 have HW1:=Lib.hid hW1
 have HKEY:=Lib.hid fun(w3:World) (hb3:Below W1.heap.size W1 w3)=>wd0_at ((hb3.block _ hl1).trans hk1)
 have HKB:=Lib.hid fun(w3:World) (hb3:Below W1.heap.size W1 w3)=>And.intro ((hb3.block _ hl1).trans hk1) (hb1.trans (hb3.mono hb1.size))
 clear hb1 hk1 hl1 hW1 HC hc hd
 go_enter Tryz.func112,Tryz.ntmps112
 go_upto_region 1 with fail
 rw[←HW1.out]
 clear HW1
 go_wp2_with (
  refine HC1.out.mono ?_
  intro e w3 hz
  obtain⟨x,n,hx,rfl,hb3⟩:=wdPost_out hz
  obtain⟨⟨d0,d1,d2,d3⟩,f0,f1,f2,f3⟩:=HKEY.out w3 hb3
  have HKB3:=Lib.hid (HKB.out w3 hb3)
  have HX:=Lib.hid hx
  clear hb3 hz hx HC1)
 exact end_word Tryz.results112 w w3 o (x:=x) HKB3.out.1 HKB3.out.2 (by rw[HX.out]) (by rw[HX.out]) rfl rfl rfl
end Char
namespace Char
open Go.RowKit Go.Lib
open Go.Proofs.YtlmpkpjjakallaaGreatDoor.Fig (outT outV)
def kdW:Nat→List UInt8→Bool→Option (Wd×Nat)
 |0,l,_=>litW l
 |1,l,_=>numW l
 |2,l,_=>signW 1 marksL l
 |3,l,_=>signW 5 opsL l
 |4,l,e=>signW (starK e) [[42]] l
 |5,l,_=>varW l
 |_,l,e=>nameW e l
def orAt:Nat→List UInt8→Bool→Option (Wd×Nat)
 |0,l,e=>wdL l e
 |1,l,e=>orW (numW l) (orW (signW 1 marksL l) (orW (signW 5 opsL l) (orW (signW (starK e) [[42]] l) (orW (varW l) (nameW e l)))))
 |2,l,e=>orW (signW 1 marksL l) (orW (signW 5 opsL l) (orW (signW (starK e) [[42]] l) (orW (varW l) (nameW e l))))
 |3,l,e=>orW (signW 5 opsL l) (orW (signW (starK e) [[42]] l) (orW (varW l) (nameW e l)))
 |4,l,e=>orW (signW (starK e) [[42]] l) (orW (varW l) (nameW e l))
 |5,l,e=>orW (varW l) (nameW e l)
 |6,l,e=>nameW e l
 |_,_,_=>none
theorem orAt_step (k:Nat)(hk:k<7)(l:List UInt8)(e:Bool):orAt k l e=orW (kdW k l e) (orAt (k+1) l e):=by
 match k,hk with
 |0,_=>rfl
 |1,_=>rfl
 |2,_=>rfl
 |3,_=>rfl
 |4,_=>rfl
 |5,_=>rfl
 |6,_=>show nameW e l=orW (nameW e l) none;cases nameW e l<;>rfl
def fnK (L:Nat):Nat→Value
 |0=> .func (.func 100) #[] #[.pointer (some ⟨L,0,none⟩)]
 |1=> .func (.func 102) #[] #[.pointer (some ⟨L,0,none⟩)]
 |2=> .func (.func 104) #[] #[.pointer (some ⟨L,0,none⟩)]
 |3=> .func (.func 106) #[] #[.pointer (some ⟨L,0,none⟩)]
 |4=> .func (.func 108) #[] #[.pointer (some ⟨L,0,none⟩),.pointer (some ⟨L+1,0,none⟩)]
 |5=> .func (.func 110) #[] #[.pointer (some ⟨L,0,none⟩)]
 |_=> .func (.func 112) #[] #[.pointer (some ⟨L,0,none⟩),.pointer (some ⟨L+1,0,none⟩)]
theorem kd_call (k:Nat)(hk:k<7)(L:Nat)(l:List UInt8)(e:Bool)(w:World)(hl:l.length≤400)(hne:l≠[])(ht:txD l=true)(hG:Gl w)
 (hc:w.cell? ⟨L,0,none⟩=some (.string (bs l))) (hd:w.cell? ⟨L+1,0,none⟩=some (.bool e)):
 ∃g cs,fnK L k= .func (.func g) #[] cs∧(∀args w,(callFunc g args).run Tryz.prog w= .ok (.enter g args) w)∧Calls Tryz.prog g cs w (WdPost w (kdW k l e)):=by
 match k,hk with
 |0,_=>
  refine⟨_,_,rfl,enters_of Tryz.func100 (by kernel_rfl) rfl,clos1_any l L _ w hc (Lib.hid fun W hb=> ?_)⟩
  match l,hne,hl with
  |c::t,_,hl=>exact literal_any c t W (by rw[List.length_cons]at hl;omega) (hG.below hb).2
 |1,_=>exact⟨_,_,rfl,enters_of Tryz.func102 (by kernel_rfl) rfl,clos2_any l L _ w hc (Lib.hid fun W _=>number_any l W (by omega))⟩
 |2,_=>exact⟨_,_,rfl,enters_of Tryz.func104 (by kernel_rfl) rfl,clos3_any l L _ w hc (Lib.hid fun W _=>mark_any l W)⟩
 |3,_=>exact⟨_,_,rfl,enters_of Tryz.func106 (by kernel_rfl) rfl,clos4_any l L _ w hc (Lib.hid fun W _=>operator_any l W)⟩
 |4,_=>exact⟨_,_,rfl,enters_of Tryz.func108 (by kernel_rfl) rfl,clos5_any l e L (L+1) _ w hc hd (Lib.hid fun W _=>star_any l e W)⟩
 |5,_=>exact⟨_,_,rfl,enters_of Tryz.func110 (by kernel_rfl) rfl,clos6_any l L _ w hc (Lib.hid fun W hb=>variable_any l W (by omega) ht (hG.below hb))⟩
 |6,_=>exact⟨_,_,rfl,enters_of Tryz.func112 (by kernel_rfl) rfl,clos7_any l e L (L+1) _ w hc hd (Lib.hid fun W hb=>named_any l e W (by omega) ht (hG.below hb))⟩
def fnV (L:Nat):Value:= .agg #[fnK L 0,fnK L 1,fnK L 2,fnK L 3,fnK L 4,fnK L 5,fnK L 6]
def fnB (L:Nat):Obj:= .cells #[fnK L 0,fnK L 1,fnK L 2,fnK L 3,fnK L 4,fnK L 5,fnK L 6] 136
structure Env (n L:Nat)(w W:World)(l:List UInt8)(e:Bool):Prop where
 hb:Below n w W
 hL:n≤L
 ll:W.cell? ⟨L,0,none⟩=some (.string (bs l))
 lf:W.frozen? ⟨L,0,none⟩=false
 el:W.cell? ⟨L+1,0,none⟩=some (.bool e)
 ef:W.frozen? ⟨L+1,0,none⟩=false
 kb:W.heap[L+1+1]? =some (fnB L)
theorem Env.lt {n L:Nat}{w W:World}{l:List UInt8}{e:Bool}(h:Env n L w W l e):L+3≤W.heap.size:=(Array.getElem?_eq_some_iff.1 h.kb).1
theorem Env.low {n L:Nat}{w W W':World}{l:List UInt8}{e:Bool}(h:Env n L w W l e)(hb:Below (L+3) W W'):Env n L w W' l e:=
 ⟨h.hb.trans (hb.mono (by have :=h.hL;omega)),h.hL,(hb.cell (by show L<_;omega)).trans h.ll,(hb.frozen (by show L<_;omega)).trans h.lf,(hb.cell (by show L+1<_;omega)).trans h.el,(hb.frozen (by show L+1<_;omega)).trans h.ef,(hb.block _ (by omega)).trans h.kb⟩
theorem Env.below {n L:Nat}{w W W':World}{l:List UInt8}{e:Bool}(h:Env n L w W l e)(hb:Below W.heap.size W W'):Env n L w W' l e:=h.low (hb.mono h.lt)
theorem Env.set {n L:Nat}{w W:World}{l:List UInt8}{e:Bool}(h:Env n L w W l e)(l2:List UInt8)(e2:Bool):Env n L w ((W.setCell ⟨L,0,none⟩ (.string (bs l2))).setCell ⟨L+1,0,none⟩ (.bool e2)) l2 e2:=by
 have ne:(⟨L,0,none⟩:Addr)≠⟨L+1,0,none⟩:=fun e=>by injection e;omega
 refine⟨(h.hb.setCell (p:=⟨L,0,none⟩) h.hL _).setCell (p:=⟨L+1,0,none⟩) (Nat.le_succ_of_le h.hL) _,h.hL,?_,?_,?_,?_,?_⟩
 ·rw[World.cell?_setCell_other _ _ _ _ (Ne.symm ne)];exact World.cell?_setCell_same _ _ _ h.ll
 ·rw[World.frozen?_setCell,World.frozen?_setCell];exact h.lf
 ·exact World.cell?_setCell_same _ _ _ (by rw[World.cell?_setCell_other _ _ _ _ ne];exact h.el)
 ·rw[World.frozen?_setCell,World.frozen?_setCell];exact h.ef
 ·rw[heap_set_ne (a:=⟨L+1,0,none⟩) (by show L+1+1≠L+1;omega),heap_set_ne (a:=⟨L,0,none⟩) (by show L+1+1≠L;omega)];exact h.kb
theorem Env.fns {n L:Nat}{w W:World}{l:List UInt8}{e:Bool}(h:Env n L w W l e):W.cell? ⟨L+1+1,0,none⟩=some (fnK L 0)∧W.cell? ⟨L+1+1,1,none⟩=some (fnK L 1)∧W.cell? ⟨L+1+1,2,none⟩=some (fnK L 2)∧W.cell? ⟨L+1+1,3,none⟩=some (fnK L 3)∧W.cell? ⟨L+1+1,4,none⟩=some (fnK L 4)∧W.cell? ⟨L+1+1,5,none⟩=some (fnK L 5)∧W.cell? ⟨L+1+1,6,none⟩=some (fnK L 6):=by
 have hk:=h.kb
 unfold fnB at hk
 exact⟨by simp only[World.cell?,hk];rfl,by simp only[World.cell?,hk];rfl,by simp only[World.cell?,hk];rfl,by simp only[World.cell?,hk];rfl,by simp only[World.cell?,hk];rfl,by simp only[World.cell?,hk];rfl,by simp only[World.cell?,hk];rfl⟩
theorem index_fn (L k:Nat)(hk:k<7)(wx:World):(Instr.index 136 (.agg #[fnK L 0,fnK L 1,fnK L 2,fnK L 3,fnK L 4,fnK L 5,fnK L 6]) (.int .i64 (k:Int))).run Tryz.prog wx= .ok (fnK L k) wx:=by
 have h:=Tryz.underlying136
 rcases (by omega:k=0∨k=1∨k=2∨k=3∨k=4∨k=5∨k=6) with rfl|rfl|rfl|rfl|rfl|rfl|rfl<;>simp[Instr.index,run_underlying h,asIntOf,go_sem]
def WordsPost (w:World)(R:Nat ⊕ List Wd)(e:Ending)(w':World):Prop:=Below w.heap.size w w'∧match R with
 | .inl x=>e= .returned (.tuple #[.slice none 0 0,.int .i64 (x:Int)])
 | .inr ws=>∃v,e= .returned (.tuple #[v,.int .i64 0])∧OwnsWd w.heap.size w' v ws
end Char
end Go.Proofs.YtlmpkpjjakallaaGreatDoor
