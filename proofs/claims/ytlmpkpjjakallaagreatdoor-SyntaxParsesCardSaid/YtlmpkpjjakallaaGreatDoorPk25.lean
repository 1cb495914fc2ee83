import Derived.Test.YtlmpkpjjakallaaGreatDoorPk24
namespace Go.Proofs.YtlmpkpjjakallaaGreatDoor
namespace Char
open Go.RowKit Go.Lib
open Go.Proofs.YtlmpkpjjakallaaGreatDoor.Fig (outT outV)
set_option maxRecDepth 100000 in
set_option maxHeartbeats 2000000 in
theorem refOr_n1 (w:World)(g off:Nat)(n c r L:Nat)(os:List (List UInt8))(hr6:r<6)(hops:∀W,Calls Tryz.prog 63 #[.int .i64 (r:Int)] W fun e w'=>∃g2,e= .returned (.slice (some ⟨g2,0,none⟩) L L)∧StSl w' g2 os∧Below W.heap.size W w')(v:Int)(hla:∀g2 W,Below w.heap.size w W→StSl W g2 os→Calls Tryz.prog 62 #[.slice (some ⟨g,off,none⟩) n c,.slice (some ⟨g2,0,none⟩) L L] W fun e w'=>e= .returned (.int .i64 v)∧Below W.heap.size W w')(k:Nat)(hv:v=(k:Int))(hk:k<n)(hB:n≤400)(xs:List UInt8)(hxs:∀W,Below w.heap.size w W→g<W.heap.size∧W.cell? ⟨g,off+k*4+1,none⟩=some (.string (bs xs)))(o8 o9:Option Addr)(hs1:∀wx,(Instr.slice 38 (.slice (some ⟨g,off,none⟩) n c) none (some (.int .i64 (k:Int))) none).run Tryz.prog wx= .ok (.slice o8 k c) wx)(hs2:∀wx,(Instr.slice 38 (.slice (some ⟨g,off,none⟩) n c) (some (.int .i64 ((k:Int)+1))) none none).run Tryz.prog wx= .ok (.slice o9 (n-(k+1)) (c-(k+1))) wx)(q1 q2:Option Ex)(ho1:∀W,Below w.heap.size w W→Calls Tryz.prog 29 #[.slice o8 k c,.int .i64 (r:Int)] W (OrP W q1))(ho2:∀W,Below w.heap.size w W→Calls Tryz.prog 29 #[.slice o9 (n-(k+1)) (c-(k+1)),.int .i64 ((r:Int)+1)] W (OrP W q2))(h1:q1=none)(q:Option Ex)(hq:q=none):
 Calls Tryz.prog 29 #[.slice (some ⟨g,off,none⟩) n c,.int .i64 (r:Int)] w (OrP w q):=by
 subst h1
 have HQ:=Lib.hid hq
 clear hq
 have HOPS:=Lib.hid hops
 have HLA:=Lib.hid hla
 have r60:((r:Int)==6)=false:=by rw[beq_eq_false_iff_ne];omega
 clear hops hla
 have HU:=Lib.hid ho1
 have HP:=Lib.hid ho2
 have HXS:=Lib.hid hxs
 subst hv
 have v0:decide ((k:Int)<0)=false:=decide_eq_false (by omega)
 have k1:(k:Int)<(n:Int):=by omega
 clear ho1 ho2 hxs
 go_enter Tryz.func29,Tryz.ntmps29
 go_upto_region 8 with(first
  |(go_at_call 63
    refine(HOPS.out _).mono ?_
    rintro e w0 ⟨g2,rfl,hst,hb⟩
    have A0:=Lib.hid ((RB.new w).call hb)
    have HST:=Lib.hid hst
    clear HOPS hb hst)
  |(go_at_call 62
    refine(HLA.out g2 w0 A0.out.2 HST.out).mono ?_
    rintro e w1 ⟨rfl,hb⟩
    have A1:=Lib.hid (A0.out.call hb)
    obtain⟨⟨r0,r1,r2,r3,r4,r5,r6⟩,rf,rl⟩:=A1.out.facts
    clear HLA hb)
  |(go_at_call 29
    refine(HU.out _ A1.out.2).mono ?_
    intro e w2 h
    obtain⟨y,o1,o2,j1,j2,rfl,ho,hb⟩:=OrP.noX h
    unfold exV
    have hr1:=A1.out.call hb
    have A2:=Lib.hid (Q1.new hr1.1 hr1.2 (ho.low (Nat.succ_le_of_lt A1.out.lt)))
    clear r0 r1 r2 r3 r4 r5 r6 rf rl
    obtain⟨⟨r0,r1,r2,r3,r4,r5,r6⟩,rf,rl⟩:=hr1.facts
    clear HU h ho hb hr1)
  |(go_at_call 29
    refine(HP.out _ A2.out.bel).mono ?_
    intro e w3 h
    obtain⟨z,o3,o4,j3,j4,b,rfl,ho,hr2,hb⟩:=OrP.any h
    clear hr2
    unfold exV
    have A3:=Lib.hid (A2.out.call hb)
    have HZ:=Lib.hid (ho.low (by have :=A2.out.lt;have :=A2.out.sz;omega:w.heap.size+1≤_))
    clear r0 r1 r2 r3 r4 r5 r6 rf rl
    obtain⟨⟨r0,r1,r2,r3,r4,r5,r6⟩,rf,⟨d0,d1,d2,d3,d4,d5,d6⟩,df,dl,rl,be⟩:=A3.out.facts
    clear HP h ho hb))
 obtain⟨W5,hW5⟩:∃W5,W5=w3.alloc (boxEx z (.slice o3 z.ks.length j3) (.slice o4 z.ss.length j4)):=⟨_,rfl⟩
 have hb5:Below w3.heap.size w3 W5:=by rw[hW5];exact below_box _
 have hn5:W5.heap[w3.heap.size]? =some (boxEx z (.slice o3 z.ks.length j3) (.slice o4 z.ss.length j4)):=by rw[hW5];exact World.alloc_heap_new w3 _
 have A5:=Lib.hid (A3.out.call hb5)
 have HZ5:=Lib.hid (HZ.out.below hb5)
 have hS:(OrS g (off+k*4+1) xs w2.heap.size w3.heap.size y z (.slice o1 y.ks.length j1) (.slice o2 y.ss.length j2) (.slice o3 z.ks.length j3) (.slice o4 z.ss.length j4)) W5:=⟨(HXS.out W5 A5.out.bel).2,(boxEx_blk A5.out.box).1,(boxEx_blk hn5).1⟩
 have HS5:=Lib.hid hS
 have hlt5:w3.heap.size<W5.heap.size:=(Array.getElem?_eq_some_iff.1 hn5).1
 have HLT:=Lib.hid (And.intro (HXS.out w (Below.refl _ _)).1 (And.intro (And.intro A3.out.lt A3.out.sz) hlt5))
 unfold boxEx at hW5
 rw[←hW5]
 clear hW5 hb5 hn5 hS d0 d1 d2 d3 d4 d5 d6 df dl r0 r1 r2 r3 r4 r5 r6 rf rl be hlt5
 refine wp_region_held (S:=(OrS g (off+k*4+1) xs w2.heap.size w3.heap.size y z (.slice o1 y.ks.length j1) (.slice o2 y.ss.length j2) (.slice o3 z.ks.length j3) (.slice o4 z.ss.length j4))) (by kernel_rfl) ?_
 change wpAnyH _ _ _ _ _ _ _ _ W5.drew
 have hH0:(OrS g (off+k*4+1) xs w2.heap.size w3.heap.size y z (.slice o1 y.ks.length j1) (.slice o2 y.ss.length j2) (.slice o3 z.ks.length j3) (.slice o4 z.ss.length j4)) W5.drew:=HS5.out
 refine wpAnyH_take (i:=0) (oi:=_) (v:=(.slice (some ⟨g,off,none⟩) n c)) rfl (by kernel_rfl) (by kernel_rfl) (by kernel_rfl) (fun _ _ _ h=>h) (Or.inl ⟨by rfl,fun W hSw=>by unfold OrS Cells7 at hSw;go_simp⟩) hH0 ?_
 simp only[Act.put,List.setIfInBounds_toArray]
 refine wpAnyH_take (i:=1) (oi:=_) (v:=(.int .i64 (k:Int))) rfl (by kernel_rfl) (by kernel_rfl) (by kernel_rfl) (fun _ _ _ h=>h) (Or.inl ⟨by rfl,fun W hSw=>by unfold OrS Cells7 at hSw;go_simp⟩) hH0 ?_
 simp only[Act.put]
 refine wpAnyH_take (i:=2) (oi:=_) (v:=(.pointer (some ⟨g,off+k*4,none⟩))) rfl (by kernel_rfl) (by kernel_rfl) (by kernel_rfl) (fun _ _ _ h=>h) (Or.inl ⟨by rfl,fun W hSw=>by unfold OrS Cells7 at hSw;go_simp⟩) hH0 ?_
 simp only[Act.put]
 refine wpAnyH_take (i:=3) (oi:=_) (v:=(.pointer (some ⟨g,off+k*4+1,none⟩))) rfl (by kernel_rfl) (by kernel_rfl) (by kernel_rfl) (fun _ _ _ h=>h) (Or.inl ⟨by rfl,fun W hSw=>by unfold OrS Cells7 at hSw;go_simp⟩) hH0 ?_
 simp only[Act.put]
 refine wpAnyH_take (i:=4) (oi:=_) (v:=(.string (bs xs))) rfl (by kernel_rfl) (by kernel_rfl) (by kernel_rfl) (fun _ _ _ h=>h) (Or.inl ⟨by rfl,fun W hSw=>by unfold OrS Cells7 at hSw;go_simp⟩) hH0 ?_
 simp only[Act.put]
 refine wpAnyH_take (i:=6) (oi:=_) (v:=(.agg #[.int .i64 y.op,.string (bs y.s),.int .i64 y.tg,.int .i64 y.vl,.bool y.abs,.slice o1 y.ks.length j1,.slice o2 y.ss.length j2])) rfl (by kernel_rfl) (by kernel_rfl) (by kernel_rfl) (fun _ _ _ h=>h) (Or.inl ⟨by rfl,fun W hSw=>by unfold OrS Cells7 at hSw;go_simp⟩) hH0 ?_
 simp only[Act.put]
 refine wpAnyH_take (i:=7) (oi:=_) (v:=(.agg #[.int .i64 z.op,.string (bs z.s),.int .i64 z.tg,.int .i64 z.vl,.bool z.abs,.slice o3 z.ks.length j3,.slice o4 z.ss.length j4])) rfl (by kernel_rfl) (by kernel_rfl) (by kernel_rfl) (fun _ _ _ h=>h) (Or.inl ⟨by rfl,fun W hSw=>by unfold OrS Cells7 at hSw;go_simp⟩) hH0 ?_
 simp only[Act.put]
 refine wpAnyH_take (i:=10) (oi:=_) (v:=(.bool false)) rfl (by kernel_rfl) (by kernel_rfl) (by kernel_rfl) (fun _ _ _ h=>h) (Or.inl ⟨by rfl,fun W hSw=>by unfold OrS Cells7 at hSw;go_simp⟩) hH0 ?_
 simp only[Act.put]
 have HH0:=Lib.hid hH0
 clear hH0
 refine wpAnyH_ready (rs:=[5,8]) (by kernel_rfl) (by simp) ?_
 refine AllReadyH.cons rfl (fun K hK=> ?_) (AllReadyH.cons rfl (fun K hK=> ?_) AllReadyH.nil)
 ·go_simp
  refine(kind_any xs _).mono ?_
  rintro e w4 ⟨rfl,hb4⟩
  have hb45:Below W5.heap.size W5 w4:=(below_drew W5).trans hb4
  have hs4:=HS5.out.call (Nat.lt_of_lt_of_le HLT.out.1 A5.out.bel.size) (Nat.lt_trans HLT.out.2.1.2 HLT.out.2.2) HLT.out.2.2 hb45
  have A6:=Lib.hid (A5.out.call hb45)
  have HZ6:=Lib.hid (HZ5.out.below hb45)
  have hlt6:w3.heap.size<w4.heap.size:=Nat.lt_of_lt_of_le HLT.out.2.2 hb45.size
  have HS6:=Lib.hid hs4
  clear hb4 hb45
  refine hK.out _ _ hs4 (fun hH1=> ?_)
  clear hK K hs4
  refine wpAnyH_take (i:=11) (oi:=_) (v:=(.bool false)) rfl (by kernel_rfl) (by kernel_rfl) (by kernel_rfl) (fun _ _ _ h=>h) (Or.inl ⟨by rfl,fun W hSw=>by unfold OrS Cells7 at hSw;go_simp⟩) hH1 ?_
  simp only[Act.put]
  refine wpAnyH_take (i:=12) (oi:=_) (v:=(undef)) rfl (by kernel_rfl) (by kernel_rfl) (by kernel_rfl) (fun _ _ _ h=>h) (Or.inr ⟨by rfl,rfl⟩) hH1 ?_
  simp only[Act.put]
  refine wpAnyH_take (i:=13) (oi:=_) (v:=(.bool false)) rfl (by kernel_rfl) (by kernel_rfl) (by kernel_rfl) (fun _ _ _ h=>h) (Or.inl ⟨by rfl,fun W hSw=>by unfold OrS Cells7 at hSw;go_simp⟩) hH1 ?_
  simp only[Act.put]
  clear hH1
  refine wpAnyH_ready (rs:=[8]) (by kernel_rfl) (by simp) ?_
  refine AllReadyH.cons rfl (fun K hK=> ?_) (AllReadyH.nil)
  go_simp
  have hs7:=HS6.out.call (W':=w4.alloc (row2 y z (.slice o1 y.ks.length j1) (.slice o2 y.ss.length j2) (.slice o3 z.ks.length j3) (.slice o4 z.ss.length j4))) (Nat.lt_of_lt_of_le HLT.out.1 A6.out.bel.size) A6.out.sz hlt6 (below_box _)
  refine hK.out _ _ hs7 (fun hH2=> ?_)
  clear hK K hs7
  obtain⟨⟨r0,r1,r2,r3,r4,r5,r6⟩,rf,⟨d0,d1,d2,d3,d4,d5,d6⟩,df,dl,rl,be⟩:=A6.out.facts
  have HS8:=Lib.hid (OrS.call (W':=(setEx w4 w.heap.size (.mk (kdD xs) [] 0 0 false [y,z] []) (.slice (some ⟨w4.heap.size,0,none⟩) 2 2) (.slice none 0 0)).alloc (row2 y z (.slice o1 y.ks.length j1) (.slice o2 y.ss.length j2) (.slice o3 z.ks.length j3) (.slice o4 z.ss.length j4))) (HS6.out.set (b:=w.heap.size) (x:= .mk (kdD xs) [] 0 0 false [y,z] []) (vk:= .slice (some ⟨w4.heap.size,0,none⟩) 2 2) (vs:= .slice none 0 0) (by have :=HLT.out;omega) (by have :=HLT.out;omega) (by have :=HLT.out;omega)) (by rw[setEx_size];have :=HLT.out;omega) (by rw[setEx_size];have :=HLT.out;omega) (by rw[setEx_size];omega) (below_box _))
  refine wpAnyH_take (i:=9) (oi:=_) (v:=(.agg #[.int .i64 (kdD xs),.string ⟨#[]⟩,.int .i64 0,.int .i64 0,.bool false,.slice (some ⟨w4.heap.size,0,none⟩) 2 2,.slice none 0 0])) rfl (by kernel_rfl) (by kernel_rfl) (by kernel_rfl) (fun _ _ _ h=>h) (Or.inl ⟨by rfl,fun W hSw=>by unfold OrS Cells7 at hSw;go_simp⟩) hH2 ?_
  simp only[Act.put]
  clear hH2
  refine wpAnyH_ready (rs:=[14]) (by kernel_rfl) (by simp) ?_
  refine AllReadyH.cons rfl (fun K hK=> ?_) (AllReadyH.nil)
  go_simp
  refine hK.out _ _ (HS8.out) (fun hH9=> ?_)
  clear hK K
  refine wpAnyH_ready (rs:=[15]) (by kernel_rfl) (by simp) ?_
  refine AllReadyH.cons rfl (fun K hK=> ?_) (AllReadyH.nil)
  go_simp
  refine hK.out _ _ hH9 (fun _=> ?_)
  clear hK K hH9
  refine wpAnyH_done (by kernel_rfl) ?_ _
  go_wp2_with fail
  exact two_endK Tryz.results29 w4 (kdD xs) false ⟨A6.out.res,A6.out.bel⟩ (ExOn.move (fun _ _ hF=>⟨hF.1,rfl⟩) _ _ _ A6.out.on) HZ6.out HQ.out (by first|rfl|simp[Act.put]) (by first|rfl|simp[Act.put]) rfl
 ·go_simp
  have hb45:Below W5.heap.size W5 (W5.drew.alloc (row2 y z (.slice o1 y.ks.length j1) (.slice o2 y.ss.length j2) (.slice o3 z.ks.length j3) (.slice o4 z.ss.length j4))):=(below_drew W5).alloc (Nat.le_refl _) _
  have hs4:=HS5.out.call (Nat.lt_of_lt_of_le HLT.out.1 A5.out.bel.size) (Nat.lt_trans HLT.out.2.1.2 HLT.out.2.2) HLT.out.2.2 hb45
  have hkd:=row2_kd (w:=W5.drew) (F:=fun b=>w.heap.size+1≤b) (ExOn.move (w:=W5) (w':=W5.drew) (F':=fun b=>w.heap.size+1≤b) (fun _ _ hF=>⟨hF.1,rfl⟩) _ _ _ A5.out.on) (ExOn.move (w:=W5) (w':=W5.drew) (F':=fun b=>w.heap.size+1≤b) (fun _ _ hF=>⟨hF,rfl⟩) _ _ _ HZ5.out) (by show w.heap.size+1≤W5.heap.size;have :=HLT.out;omega)
  refine hK.out _ _ hs4 (fun hH1=> ?_)
  clear hK K hH1
  have A6:=Lib.hid (A5.out.call hb45)
  have HK6:=Lib.hid hkd
  have HS6:=Lib.hid hs4
  clear hkd hs4 hb45
  refine wpAnyH_ready (rs:=[5]) (by kernel_rfl) (by simp) ?_
  refine AllReadyH.cons rfl (fun K hK=> ?_) (AllReadyH.nil)
  go_simp
  refine(kind_any xs _).mono ?_
  rintro e w4 ⟨rfl,hb4⟩
  have hs7:=HS6.out.call (Nat.lt_of_lt_of_le HLT.out.1 A6.out.bel.size) A6.out.sz (by show w3.heap.size<(W5.drew.alloc _).heap.size;rw[World.size_alloc];exact Nat.lt_succ_of_lt HLT.out.2.2) hb4
  have A7:=Lib.hid (A6.out.call hb4)
  have HK7:=Lib.hid (HK6.out.move fun b hb hF=>⟨hF,hb4.block b hb⟩)
  have HS7:=Lib.hid hs7
  clear hb4
  refine hK.out _ _ hs7 (fun hH2=> ?_)
  clear hK K hs7
  refine wpAnyH_take (i:=11) (oi:=_) (v:=(.bool false)) rfl (by kernel_rfl) (by kernel_rfl) (by kernel_rfl) (fun _ _ _ h=>h) (Or.inl ⟨by rfl,fun W hSw=>by unfold OrS Cells7 at hSw;go_simp⟩) hH2 ?_
  simp only[Act.put]
  refine wpAnyH_take (i:=12) (oi:=_) (v:=(undef)) rfl (by kernel_rfl) (by kernel_rfl) (by kernel_rfl) (fun _ _ _ h=>h) (Or.inr ⟨by rfl,rfl⟩) hH2 ?_
  simp only[Act.put]
  refine wpAnyH_take (i:=13) (oi:=_) (v:=(.bool false)) rfl (by kernel_rfl) (by kernel_rfl) (by kernel_rfl) (fun _ _ _ h=>h) (Or.inl ⟨by rfl,fun W hSw=>by unfold OrS Cells7 at hSw;go_simp⟩) hH2 ?_
  simp only[Act.put]
  obtain⟨⟨r0,r1,r2,r3,r4,r5,r6⟩,rf,⟨d0,d1,d2,d3,d4,d5,d6⟩,df,dl,rl,be⟩:=A7.out.facts
  have HS8:=Lib.hid (HS7.out.set (b:=w.heap.size) (x:= .mk (kdD xs) [] 0 0 false [y,z] []) (vk:= .slice (some ⟨W5.heap.size,0,none⟩) 2 2) (vs:= .slice none 0 0) (by have :=HLT.out;omega) (by have :=HLT.out;omega) (by have :=HLT.out;omega))
  refine wpAnyH_take (i:=9) (oi:=_) (v:=(.agg #[.int .i64 (kdD xs),.string ⟨#[]⟩,.int .i64 0,.int .i64 0,.bool false,.slice (some ⟨W5.heap.size,0,none⟩) 2 2,.slice none 0 0])) rfl (by kernel_rfl) (by kernel_rfl) (by kernel_rfl) (fun _ _ _ h=>h) (Or.inl ⟨by rfl,fun W hSw=>by unfold OrS Cells7 at hSw;go_simp⟩) hH2 ?_
  simp only[Act.put]
  clear hH2
  refine wpAnyH_ready (rs:=[14]) (by kernel_rfl) (by simp) ?_
  refine AllReadyH.cons rfl (fun K hK=> ?_) (AllReadyH.nil)
  go_simp
  refine hK.out _ _ (HS8.out) (fun hH9=> ?_)
  clear hK K
  refine wpAnyH_ready (rs:=[15]) (by kernel_rfl) (by simp) ?_
  refine AllReadyH.cons rfl (fun K hK=> ?_) (AllReadyH.nil)
  go_simp
  refine hK.out _ _ hH9 (fun _=> ?_)
  clear hK K hH9
  refine wpAnyH_done (by kernel_rfl) ?_ _
  go_wp2_with fail
  exact two_endH Tryz.results29 w4 (kdD xs) false ⟨A7.out.res,A7.out.bel⟩ HK7.out HQ.out (by first|rfl|simp[Act.put]) (by first|rfl|simp[Act.put]) rfl
set_option maxRecDepth 100000 in
set_option maxHeartbeats 2000000 in
theorem refOr_n2 (w:World)(g off:Nat)(n c r L:Nat)(os:List (List UInt8))(hr6:r<6)(hops:∀W,Calls Tryz.prog 63 #[.int .i64 (r:Int)] W fun e w'=>∃g2,e= .returned (.slice (some ⟨g2,0,none⟩) L L)∧StSl w' g2 os∧Below W.heap.size W w')(v:Int)(hla:∀g2 W,Below w.heap.size w W→StSl W g2 os→Calls Tryz.prog 62 #[.slice (some ⟨g,off,none⟩) n c,.slice (some ⟨g2,0,none⟩) L L] W fun e w'=>e= .returned (.int .i64 v)∧Below W.heap.size W w')(k:Nat)(hv:v=(k:Int))(hk:k<n)(hB:n≤400)(xs:List UInt8)(hxs:∀W,Below w.heap.size w W→g<W.heap.size∧W.cell? ⟨g,off+k*4+1,none⟩=some (.string (bs xs)))(o8 o9:Option Addr)(hs1:∀wx,(Instr.slice 38 (.slice (some ⟨g,off,none⟩) n c) none (some (.int .i64 (k:Int))) none).run Tryz.prog wx= .ok (.slice o8 k c) wx)(hs2:∀wx,(Instr.slice 38 (.slice (some ⟨g,off,none⟩) n c) (some (.int .i64 ((k:Int)+1))) none none).run Tryz.prog wx= .ok (.slice o9 (n-(k+1)) (c-(k+1))) wx)(q1 q2:Option Ex)(ho1:∀W,Below w.heap.size w W→Calls Tryz.prog 29 #[.slice o8 k c,.int .i64 (r:Int)] W (OrP W q1))(ho2:∀W,Below w.heap.size w W→Calls Tryz.prog 29 #[.slice o9 (n-(k+1)) (c-(k+1)),.int .i64 ((r:Int)+1)] W (OrP W q2))(y:Ex)(h1:q1=some y)(h2:q2=none)(q:Option Ex)(hq:q=none):
 Calls Tryz.prog 29 #[.slice (some ⟨g,off,none⟩) n c,.int .i64 (r:Int)] w (OrP w q):=by
 subst h1 h2
 have HQ:=Lib.hid hq
 clear hq
 have HOPS:=Lib.hid hops
 have HLA:=Lib.hid hla
 have r60:((r:Int)==6)=false:=by rw[beq_eq_false_iff_ne];omega
 clear hops hla
 have HU:=Lib.hid ho1
 have HP:=Lib.hid ho2
 have HXS:=Lib.hid hxs
 subst hv
 have v0:decide ((k:Int)<0)=false:=decide_eq_false (by omega)
 have k1:(k:Int)<(n:Int):=by omega
 clear ho1 ho2 hxs
 go_enter Tryz.func29,Tryz.ntmps29
 go_upto_region 8 with(first
  |(go_at_call 63
    refine(HOPS.out _).mono ?_
    rintro e w0 ⟨g2,rfl,hst,hb⟩
    have A0:=Lib.hid ((RB.new w).call hb)
    have HST:=Lib.hid hst
    clear HOPS hb hst)
  |(go_at_call 62
    refine(HLA.out g2 w0 A0.out.2 HST.out).mono ?_
    rintro e w1 ⟨rfl,hb⟩
    have A1:=Lib.hid (A0.out.call hb)
    obtain⟨⟨r0,r1,r2,r3,r4,r5,r6⟩,rf,rl⟩:=A1.out.facts
    clear HLA hb)
  |(go_at_call 29
    refine(HU.out _ A1.out.2).mono ?_
    intro e w2 h
    obtain⟨o1,o2,j1,j2,rfl,ho,hb⟩:=OrP.yesX h
    unfold exV
    have hr1:=A1.out.call hb
    have A2:=Lib.hid (Q1.new hr1.1 hr1.2 (ho.low (Nat.succ_le_of_lt A1.out.lt)))
    clear r0 r1 r2 r3 r4 r5 r6 rf rl
    obtain⟨⟨r0,r1,r2,r3,r4,r5,r6⟩,rf,rl⟩:=hr1.facts
    clear HU h ho hb hr1)
  |(go_at_call 29
    refine(HP.out _ A2.out.bel).mono ?_
    intro e w3 h
    obtain⟨z,o3,o4,j3,j4,rfl,ho,hb⟩:=OrP.noX h
    unfold exV
    have A3:=Lib.hid (A2.out.call hb)
    have HZ:=Lib.hid (ho.low (by have :=A2.out.lt;have :=A2.out.sz;omega:w.heap.size+1≤_))
    clear r0 r1 r2 r3 r4 r5 r6 rf rl
    obtain⟨⟨r0,r1,r2,r3,r4,r5,r6⟩,rf,⟨d0,d1,d2,d3,d4,d5,d6⟩,df,dl,rl,be⟩:=A3.out.facts
    clear HP h ho hb))
 obtain⟨W5,hW5⟩:∃W5,W5=w3.alloc (boxEx z (.slice o3 z.ks.length j3) (.slice o4 z.ss.length j4)):=⟨_,rfl⟩
 have hb5:Below w3.heap.size w3 W5:=by rw[hW5];exact below_box _
 have hn5:W5.heap[w3.heap.size]? =some (boxEx z (.slice o3 z.ks.length j3) (.slice o4 z.ss.length j4)):=by rw[hW5];exact World.alloc_heap_new w3 _
 have A5:=Lib.hid (A3.out.call hb5)
 have HZ5:=Lib.hid (HZ.out.below hb5)
 have hS:(OrS g (off+k*4+1) xs w2.heap.size w3.heap.size y z (.slice o1 y.ks.length j1) (.slice o2 y.ss.length j2) (.slice o3 z.ks.length j3) (.slice o4 z.ss.length j4)) W5:=⟨(HXS.out W5 A5.out.bel).2,(boxEx_blk A5.out.box).1,(boxEx_blk hn5).1⟩
 have HS5:=Lib.hid hS
 have hlt5:w3.heap.size<W5.heap.size:=(Array.getElem?_eq_some_iff.1 hn5).1
 have HLT:=Lib.hid (And.intro (HXS.out w (Below.refl _ _)).1 (And.intro (And.intro A3.out.lt A3.out.sz) hlt5))
 unfold boxEx at hW5
 rw[←hW5]
 clear hW5 hb5 hn5 hS d0 d1 d2 d3 d4 d5 d6 df dl r0 r1 r2 r3 r4 r5 r6 rf rl be hlt5
 refine wp_region_held (S:=(OrS g (off+k*4+1) xs w2.heap.size w3.heap.size y z (.slice o1 y.ks.length j1) (.slice o2 y.ss.length j2) (.slice o3 z.ks.length j3) (.slice o4 z.ss.length j4))) (by kernel_rfl) ?_
 change wpAnyH _ _ _ _ _ _ _ _ W5.drew
 have hH0:(OrS g (off+k*4+1) xs w2.heap.size w3.heap.size y z (.slice o1 y.ks.length j1) (.slice o2 y.ss.length j2) (.slice o3 z.ks.length j3) (.slice o4 z.ss.length j4)) W5.drew:=HS5.out
 refine wpAnyH_take (i:=0) (oi:=_) (v:=(.slice (some ⟨g,off,none⟩) n c)) rfl (by kernel_rfl) (by kernel_rfl) (by kernel_rfl) (fun _ _ _ h=>h) (Or.inl ⟨by rfl,fun W hSw=>by unfold OrS Cells7 at hSw;go_simp⟩) hH0 ?_
 simp only[Act.put,List.setIfInBounds_toArray]
 refine wpAnyH_take (i:=1) (oi:=_) (v:=(.int .i64 (k:Int))) rfl (by kernel_rfl) (by kernel_rfl) (by kernel_rfl) (fun _ _ _ h=>h) (Or.inl ⟨by rfl,fun W hSw=>by unfold OrS Cells7 at hSw;go_simp⟩) hH0 ?_
 simp only[Act.put]
 refine wpAnyH_take (i:=2) (oi:=_) (v:=(.pointer (some ⟨g,off+k*4,none⟩))) rfl (by kernel_rfl) (by kernel_rfl) (by kernel_rfl) (fun _ _ _ h=>h) (Or.inl ⟨by rfl,fun W hSw=>by unfold OrS Cells7 at hSw;go_simp⟩) hH0 ?_
 simp only[Act.put]
 refine wpAnyH_take (i:=3) (oi:=_) (v:=(.pointer (some ⟨g,off+k*4+1,none⟩))) rfl (by kernel_rfl) (by kernel_rfl) (by kernel_rfl) (fun _ _ _ h=>h) (Or.inl ⟨by rfl,fun W hSw=>by unfold OrS Cells7 at hSw;go_simp⟩) hH0 ?_
 simp only[Act.put]
 refine wpAnyH_take (i:=4) (oi:=_) (v:=(.string (bs xs))) rfl (by kernel_rfl) (by kernel_rfl) (by kernel_rfl) (fun _ _ _ h=>h) (Or.inl ⟨by rfl,fun W hSw=>by unfold OrS Cells7 at hSw;go_simp⟩) hH0 ?_
 simp only[Act.put]
 refine wpAnyH_take (i:=6) (oi:=_) (v:=(.agg #[.int .i64 y.op,.string (bs y.s),.int .i64 y.tg,.int .i64 y.vl,.bool y.abs,.slice o1 y.ks.length j1,.slice o2 y.ss.length j2])) rfl (by kernel_rfl) (by kernel_rfl) (by kernel_rfl) (fun _ _ _ h=>h) (Or.inl ⟨by rfl,fun W hSw=>by unfold OrS Cells7 at hSw;go_simp⟩) hH0 ?_
 simp only[Act.put]
 refine wpAnyH_take (i:=7) (oi:=_) (v:=(.agg #[.int .i64 z.op,.string (bs z.s),.int .i64 z.tg,.int .i64 z.vl,.bool z.abs,.slice o3 z.ks.length j3,.slice o4 z.ss.length j4])) rfl (by kernel_rfl) (by kernel_rfl) (by kernel_rfl) (fun _ _ _ h=>h) (Or.inl ⟨by rfl,fun W hSw=>by unfold OrS Cells7 at hSw;go_simp⟩) hH0 ?_
 simp only[Act.put]
 refine wpAnyH_take (i:=10) (oi:=_) (v:=(.bool true)) rfl (by kernel_rfl) (by kernel_rfl) (by kernel_rfl) (fun _ _ _ h=>h) (Or.inl ⟨by rfl,fun W hSw=>by unfold OrS Cells7 at hSw;go_simp⟩) hH0 ?_
 simp only[Act.put]
 have HH0:=Lib.hid hH0
 clear hH0
 refine wpAnyH_ready (rs:=[5,8]) (by kernel_rfl) (by simp) ?_
 refine AllReadyH.cons rfl (fun K hK=> ?_) (AllReadyH.cons rfl (fun K hK=> ?_) AllReadyH.nil)
 ·go_simp
  refine(kind_any xs _).mono ?_
  rintro e w4 ⟨rfl,hb4⟩
  have hb45:Below W5.heap.size W5 w4:=(below_drew W5).trans hb4
  have hs4:=HS5.out.call (Nat.lt_of_lt_of_le HLT.out.1 A5.out.bel.size) (Nat.lt_trans HLT.out.2.1.2 HLT.out.2.2) HLT.out.2.2 hb45
  have A6:=Lib.hid (A5.out.call hb45)
  have HZ6:=Lib.hid (HZ5.out.below hb45)
  have hlt6:w3.heap.size<w4.heap.size:=Nat.lt_of_lt_of_le HLT.out.2.2 hb45.size
  have HS6:=Lib.hid hs4
  clear hb4 hb45
  refine hK.out _ _ hs4 (fun hH1=> ?_)
  clear hK K hs4
  refine wpAnyH_take (i:=11) (oi:=_) (v:=(.bool true)) rfl (by kernel_rfl) (by kernel_rfl) (by kernel_rfl) (fun _ _ _ h=>h) (Or.inl ⟨by rfl,fun W hSw=>by unfold OrS Cells7 at hSw;go_simp⟩) hH1 ?_
  simp only[Act.put]
  refine wpAnyH_take (i:=12) (oi:=_) (v:=(.bool false)) rfl (by kernel_rfl) (by kernel_rfl) (by kernel_rfl) (fun _ _ _ h=>h) (Or.inl ⟨by rfl,fun W hSw=>by unfold OrS Cells7 at hSw;go_simp⟩) hH1 ?_
  simp only[Act.put]
  refine wpAnyH_take (i:=13) (oi:=_) (v:=(.bool false)) rfl (by kernel_rfl) (by kernel_rfl) (by kernel_rfl) (fun _ _ _ h=>h) (Or.inl ⟨by rfl,fun W hSw=>by unfold OrS Cells7 at hSw;go_simp⟩) hH1 ?_
  simp only[Act.put]
  clear hH1
  refine wpAnyH_ready (rs:=[8]) (by kernel_rfl) (by simp) ?_
  refine AllReadyH.cons rfl (fun K hK=> ?_) (AllReadyH.nil)
  go_simp
  have hs7:=HS6.out.call (W':=w4.alloc (row2 y z (.slice o1 y.ks.length j1) (.slice o2 y.ss.length j2) (.slice o3 z.ks.length j3) (.slice o4 z.ss.length j4))) (Nat.lt_of_lt_of_le HLT.out.1 A6.out.bel.size) A6.out.sz hlt6 (below_box _)
  refine hK.out _ _ hs7 (fun hH2=> ?_)
  clear hK K hs7
  obtain⟨⟨r0,r1,r2,r3,r4,r5,r6⟩,rf,⟨d0,d1,d2,d3,d4,d5,d6⟩,df,dl,rl,be⟩:=A6.out.facts
  have HS8:=Lib.hid (OrS.call (W':=(setEx w4 w.heap.size (.mk (kdD xs) [] 0 0 false [y,z] []) (.slice (some ⟨w4.heap.size,0,none⟩) 2 2) (.slice none 0 0)).alloc (row2 y z (.slice o1 y.ks.length j1) (.slice o2 y.ss.length j2) (.slice o3 z.ks.length j3) (.slice o4 z.ss.length j4))) (HS6.out.set (b:=w.heap.size) (x:= .mk (kdD xs) [] 0 0 false [y,z] []) (vk:= .slice (some ⟨w4.heap.size,0,none⟩) 2 2) (vs:= .slice none 0 0) (by have :=HLT.out;omega) (by have :=HLT.out;omega) (by have :=HLT.out;omega)) (by rw[setEx_size];have :=HLT.out;omega) (by rw[setEx_size];have :=HLT.out;omega) (by rw[setEx_size];omega) (below_box _))
  refine wpAnyH_take (i:=9) (oi:=_) (v:=(.agg #[.int .i64 (kdD xs),.string ⟨#[]⟩,.int .i64 0,.int .i64 0,.bool false,.slice (some ⟨w4.heap.size,0,none⟩) 2 2,.slice none 0 0])) rfl (by kernel_rfl) (by kernel_rfl) (by kernel_rfl) (fun _ _ _ h=>h) (Or.inl ⟨by rfl,fun W hSw=>by unfold OrS Cells7 at hSw;go_simp⟩) hH2 ?_
  simp only[Act.put]
  clear hH2
  refine wpAnyH_ready (rs:=[14]) (by kernel_rfl) (by simp) ?_
  refine AllReadyH.cons rfl (fun K hK=> ?_) (AllReadyH.nil)
  go_simp
  refine hK.out _ _ (HS8.out) (fun hH9=> ?_)
  clear hK K
  refine wpAnyH_ready (rs:=[15]) (by kernel_rfl) (by simp) ?_
  refine AllReadyH.cons rfl (fun K hK=> ?_) (AllReadyH.nil)
  go_simp
  refine hK.out _ _ hH9 (fun _=> ?_)
  clear hK K hH9
  refine wpAnyH_done (by kernel_rfl) ?_ _
  go_wp2_with fail
  exact two_endK Tryz.results29 w4 (kdD xs) false ⟨A6.out.res,A6.out.bel⟩ (ExOn.move (fun _ _ hF=>⟨hF.1,rfl⟩) _ _ _ A6.out.on) HZ6.out HQ.out (by first|rfl|simp[Act.put]) (by first|rfl|simp[Act.put]) rfl
 ·go_simp
  have hb45:Below W5.heap.size W5 (W5.drew.alloc (row2 y z (.slice o1 y.ks.length j1) (.slice o2 y.ss.length j2) (.slice o3 z.ks.length j3) (.slice o4 z.ss.length j4))):=(below_drew W5).alloc (Nat.le_refl _) _
  have hs4:=HS5.out.call (Nat.lt_of_lt_of_le HLT.out.1 A5.out.bel.size) (Nat.lt_trans HLT.out.2.1.2 HLT.out.2.2) HLT.out.2.2 hb45
  have hkd:=row2_kd (w:=W5.drew) (F:=fun b=>w.heap.size+1≤b) (ExOn.move (w:=W5) (w':=W5.drew) (F':=fun b=>w.heap.size+1≤b) (fun _ _ hF=>⟨hF.1,rfl⟩) _ _ _ A5.out.on) (ExOn.move (w:=W5) (w':=W5.drew) (F':=fun b=>w.heap.size+1≤b) (fun _ _ hF=>⟨hF,rfl⟩) _ _ _ HZ5.out) (by show w.heap.size+1≤W5.heap.size;have :=HLT.out;omega)
  refine hK.out _ _ hs4 (fun hH1=> ?_)
  clear hK K hH1
  have A6:=Lib.hid (A5.out.call hb45)
  have HK6:=Lib.hid hkd
  have HS6:=Lib.hid hs4
  clear hkd hs4 hb45
  refine wpAnyH_ready (rs:=[5]) (by kernel_rfl) (by simp) ?_
  refine AllReadyH.cons rfl (fun K hK=> ?_) (AllReadyH.nil)
  go_simp
  refine(kind_any xs _).mono ?_
  rintro e w4 ⟨rfl,hb4⟩
  have hs7:=HS6.out.call (Nat.lt_of_lt_of_le HLT.out.1 A6.out.bel.size) A6.out.sz (by show w3.heap.size<(W5.drew.alloc _).heap.size;rw[World.size_alloc];exact Nat.lt_succ_of_lt HLT.out.2.2) hb4
  have A7:=Lib.hid (A6.out.call hb4)
  have HK7:=Lib.hid (HK6.out.move fun b hb hF=>⟨hF,hb4.block b hb⟩)
  have HS7:=Lib.hid hs7
  clear hb4
  refine hK.out _ _ hs7 (fun hH2=> ?_)
  clear hK K hs7
  refine wpAnyH_take (i:=11) (oi:=_) (v:=(.bool true)) rfl (by kernel_rfl) (by kernel_rfl) (by kernel_rfl) (fun _ _ _ h=>h) (Or.inl ⟨by rfl,fun W hSw=>by unfold OrS Cells7 at hSw;go_simp⟩) hH2 ?_
  simp only[Act.put]
  refine wpAnyH_take (i:=12) (oi:=_) (v:=(.bool false)) rfl (by kernel_rfl) (by kernel_rfl) (by kernel_rfl) (fun _ _ _ h=>h) (Or.inl ⟨by rfl,fun W hSw=>by unfold OrS Cells7 at hSw;go_simp⟩) hH2 ?_
  simp only[Act.put]
  refine wpAnyH_take (i:=13) (oi:=_) (v:=(.bool false)) rfl (by kernel_rfl) (by kernel_rfl) (by kernel_rfl) (fun _ _ _ h=>h) (Or.inl ⟨by rfl,fun W hSw=>by unfold OrS Cells7 at hSw;go_simp⟩) hH2 ?_
  simp only[Act.put]
  obtain⟨⟨r0,r1,r2,r3,r4,r5,r6⟩,rf,⟨d0,d1,d2,d3,d4,d5,d6⟩,df,dl,rl,be⟩:=A7.out.facts
  have HS8:=Lib.hid (HS7.out.set (b:=w.heap.size) (x:= .mk (kdD xs) [] 0 0 false [y,z] []) (vk:= .slice (some ⟨W5.heap.size,0,none⟩) 2 2) (vs:= .slice none 0 0) (by have :=HLT.out;omega) (by have :=HLT.out;omega) (by have :=HLT.out;omega))
  refine wpAnyH_take (i:=9) (oi:=_) (v:=(.agg #[.int .i64 (kdD xs),.string ⟨#[]⟩,.int .i64 0,.int .i64 0,.bool false,.slice (some ⟨W5.heap.size,0,none⟩) 2 2,.slice none 0 0])) rfl (by kernel_rfl) (by kernel_rfl) (by kernel_rfl) (fun _ _ _ h=>h) (Or.inl ⟨by rfl,fun W hSw=>by unfold OrS Cells7 at hSw;go_simp⟩) hH2 ?_
  simp only[Act.put]
  clear hH2
  refine wpAnyH_ready (rs:=[14]) (by kernel_rfl) (by simp) ?_
  refine AllReadyH.cons rfl (fun K hK=> ?_) (AllReadyH.nil)
  go_simp
  refine hK.out _ _ (HS8.out) (fun hH9=> ?_)
  clear hK K
  refine wpAnyH_ready (rs:=[15]) (by kernel_rfl) (by simp) ?_
  refine AllReadyH.cons rfl (fun K hK=> ?_) (AllReadyH.nil)
  go_simp
  refine hK.out _ _ hH9 (fun _=> ?_)
  clear hK K hH9
  refine wpAnyH_done (by kernel_rfl) ?_ _
  go_wp2_with fail
  exact two_endH Tryz.results29 w4 (kdD xs) false ⟨A7.out.res,A7.out.bel⟩ HK7.out HQ.out (by first|rfl|simp[Act.put]) (by first|rfl|simp[Act.put]) rfl
set_option maxRecDepth 100000 in
set_option maxHeartbeats 2000000 in
theorem refOr_ok (w:World)(g off:Nat)(n c r L:Nat)(os:List (List UInt8))(hr6:r<6)(hops:∀W,Calls Tryz.prog 63 #[.int .i64 (r:Int)] W fun e w'=>∃g2,e= .returned (.slice (some ⟨g2,0,none⟩) L L)∧StSl w' g2 os∧Below W.heap.size W w')(v:Int)(hla:∀g2 W,Below w.heap.size w W→StSl W g2 os→Calls Tryz.prog 62 #[.slice (some ⟨g,off,none⟩) n c,.slice (some ⟨g2,0,none⟩) L L] W fun e w'=>e= .returned (.int .i64 v)∧Below W.heap.size W w')(k:Nat)(hv:v=(k:Int))(hk:k<n)(hB:n≤400)(xs:List UInt8)(hxs:∀W,Below w.heap.size w W→g<W.heap.size∧W.cell? ⟨g,off+k*4+1,none⟩=some (.string (bs xs)))(o8 o9:Option Addr)(hs1:∀wx,(Instr.slice 38 (.slice (some ⟨g,off,none⟩) n c) none (some (.int .i64 (k:Int))) none).run Tryz.prog wx= .ok (.slice o8 k c) wx)(hs2:∀wx,(Instr.slice 38 (.slice (some ⟨g,off,none⟩) n c) (some (.int .i64 ((k:Int)+1))) none none).run Tryz.prog wx= .ok (.slice o9 (n-(k+1)) (c-(k+1))) wx)(q1 q2:Option Ex)(ho1:∀W,Below w.heap.size w W→Calls Tryz.prog 29 #[.slice o8 k c,.int .i64 (r:Int)] W (OrP W q1))(ho2:∀W,Below w.heap.size w W→Calls Tryz.prog 29 #[.slice o9 (n-(k+1)) (c-(k+1)),.int .i64 ((r:Int)+1)] W (OrP W q2))(y z:Ex)(h1:q1=some y)(h2:q2=some z)(q:Option Ex)(hq:q=some (.mk (kdD xs) [] 0 0 false [y,z] [])):
 Calls Tryz.prog 29 #[.slice (some ⟨g,off,none⟩) n c,.int .i64 (r:Int)] w (OrP w q):=by
 subst h1 h2
 have HQ:=Lib.hid hq
 clear hq
 have HOPS:=Lib.hid hops
 have HLA:=Lib.hid hla
 have r60:((r:Int)==6)=false:=by rw[beq_eq_false_iff_ne];omega
 clear hops hla
 have HU:=Lib.hid ho1
 have HP:=Lib.hid ho2
 have HXS:=Lib.hid hxs
 subst hv
 have v0:decide ((k:Int)<0)=false:=decide_eq_false (by omega)
 have k1:(k:Int)<(n:Int):=by omega
 clear ho1 ho2 hxs
 go_enter Tryz.func29,Tryz.ntmps29
 go_upto_region 8 with(first
  |(go_at_call 63
    refine(HOPS.out _).mono ?_
    rintro e w0 ⟨g2,rfl,hst,hb⟩
    have A0:=Lib.hid ((RB.new w).call hb)
    have HST:=Lib.hid hst
    clear HOPS hb hst)
  |(go_at_call 62
    refine(HLA.out g2 w0 A0.out.2 HST.out).mono ?_
    rintro e w1 ⟨rfl,hb⟩
    have A1:=Lib.hid (A0.out.call hb)
    obtain⟨⟨r0,r1,r2,r3,r4,r5,r6⟩,rf,rl⟩:=A1.out.facts
    clear HLA hb)
  |(go_at_call 29
    refine(HU.out _ A1.out.2).mono ?_
    intro e w2 h
    obtain⟨o1,o2,j1,j2,rfl,ho,hb⟩:=OrP.yesX h
    unfold exV
    have hr1:=A1.out.call hb
    have A2:=Lib.hid (Q1.new hr1.1 hr1.2 (ho.low (Nat.succ_le_of_lt A1.out.lt)))
    clear r0 r1 r2 r3 r4 r5 r6 rf rl
    obtain⟨⟨r0,r1,r2,r3,r4,r5,r6⟩,rf,rl⟩:=hr1.facts
    clear HU h ho hb hr1)
  |(go_at_call 29
    refine(HP.out _ A2.out.bel).mono ?_
    intro e w3 h
    obtain⟨o3,o4,j3,j4,rfl,ho,hb⟩:=OrP.yesX h
    unfold exV
    have A3:=Lib.hid (A2.out.call hb)
    have HZ:=Lib.hid (ho.low (by have :=A2.out.lt;have :=A2.out.sz;omega:w.heap.size+1≤_))
    clear r0 r1 r2 r3 r4 r5 r6 rf rl
    obtain⟨⟨r0,r1,r2,r3,r4,r5,r6⟩,rf,⟨d0,d1,d2,d3,d4,d5,d6⟩,df,dl,rl,be⟩:=A3.out.facts
    clear HP h ho hb))
 obtain⟨W5,hW5⟩:∃W5,W5=w3.alloc (boxEx z (.slice o3 z.ks.length j3) (.slice o4 z.ss.length j4)):=⟨_,rfl⟩
 have hb5:Below w3.heap.size w3 W5:=by rw[hW5];exact below_box _
 have hn5:W5.heap[w3.heap.size]? =some (boxEx z (.slice o3 z.ks.length j3) (.slice o4 z.ss.length j4)):=by rw[hW5];exact World.alloc_heap_new w3 _
 have A5:=Lib.hid (A3.out.call hb5)
 have HZ5:=Lib.hid (HZ.out.below hb5)
 have hS:(OrS g (off+k*4+1) xs w2.heap.size w3.heap.size y z (.slice o1 y.ks.length j1) (.slice o2 y.ss.length j2) (.slice o3 z.ks.length j3) (.slice o4 z.ss.length j4)) W5:=⟨(HXS.out W5 A5.out.bel).2,(boxEx_blk A5.out.box).1,(boxEx_blk hn5).1⟩
 have HS5:=Lib.hid hS
 have hlt5:w3.heap.size<W5.heap.size:=(Array.getElem?_eq_some_iff.1 hn5).1
 have HLT:=Lib.hid (And.intro (HXS.out w (Below.refl _ _)).1 (And.intro (And.intro A3.out.lt A3.out.sz) hlt5))
 unfold boxEx at hW5
 rw[←hW5]
 clear hW5 hb5 hn5 hS d0 d1 d2 d3 d4 d5 d6 df dl r0 r1 r2 r3 r4 r5 r6 rf rl be hlt5
 refine wp_region_held (S:=(OrS g (off+k*4+1) xs w2.heap.size w3.heap.size y z (.slice o1 y.ks.length j1) (.slice o2 y.ss.length j2) (.slice o3 z.ks.length j3) (.slice o4 z.ss.length j4))) (by kernel_rfl) ?_
 change wpAnyH _ _ _ _ _ _ _ _ W5.drew
 have hH0:(OrS g (off+k*4+1) xs w2.heap.size w3.heap.size y z (.slice o1 y.ks.length j1) (.slice o2 y.ss.length j2) (.slice o3 z.ks.length j3) (.slice o4 z.ss.length j4)) W5.drew:=HS5.out
 refine wpAnyH_take (i:=0) (oi:=_) (v:=(.slice (some ⟨g,off,none⟩) n c)) rfl (by kernel_rfl) (by kernel_rfl) (by kernel_rfl) (fun _ _ _ h=>h) (Or.inl ⟨by rfl,fun W hSw=>by unfold OrS Cells7 at hSw;go_simp⟩) hH0 ?_
 simp only[Act.put,List.setIfInBounds_toArray]
 refine wpAnyH_take (i:=1) (oi:=_) (v:=(.int .i64 (k:Int))) rfl (by kernel_rfl) (by kernel_rfl) (by kernel_rfl) (fun _ _ _ h=>h) (Or.inl ⟨by rfl,fun W hSw=>by unfold OrS Cells7 at hSw;go_simp⟩) hH0 ?_
 simp only[Act.put]
 refine wpAnyH_take (i:=2) (oi:=_) (v:=(.pointer (some ⟨g,off+k*4,none⟩))) rfl (by kernel_rfl) (by kernel_rfl) (by kernel_rfl) (fun _ _ _ h=>h) (Or.inl ⟨by rfl,fun W hSw=>by unfold OrS Cells7 at hSw;go_simp⟩) hH0 ?_
 simp only[Act.put]
 refine wpAnyH_take (i:=3) (oi:=_) (v:=(.pointer (some ⟨g,off+k*4+1,none⟩))) rfl (by kernel_rfl) (by kernel_rfl) (by kernel_rfl) (fun _ _ _ h=>h) (Or.inl ⟨by rfl,fun W hSw=>by unfold OrS Cells7 at hSw;go_simp⟩) hH0 ?_
 simp only[Act.put]
 refine wpAnyH_take (i:=4) (oi:=_) (v:=(.string (bs xs))) rfl (by kernel_rfl) (by kernel_rfl) (by kernel_rfl) (fun _ _ _ h=>h) (Or.inl ⟨by rfl,fun W hSw=>by unfold OrS Cells7 at hSw;go_simp⟩) hH0 ?_
 simp only[Act.put]
 refine wpAnyH_take (i:=6) (oi:=_) (v:=(.agg #[.int .i64 y.op,.string (bs y.s),.int .i64 y.tg,.int .i64 y.vl,.bool y.abs,.slice o1 y.ks.length j1,.slice o2 y.ss.length j2])) rfl (by kernel_rfl) (by kernel_rfl) (by kernel_rfl) (fun _ _ _ h=>h) (Or.inl ⟨by rfl,fun W hSw=>by unfold OrS Cells7 at hSw;go_simp⟩) hH0 ?_
 simp only[Act.put]
 refine wpAnyH_take (i:=7) (oi:=_) (v:=(.agg #[.int .i64 z.op,.string (bs z.s),.int .i64 z.tg,.int .i64 z.vl,.bool z.abs,.slice o3 z.ks.length j3,.slice o4 z.ss.length j4])) rfl (by kernel_rfl) (by kernel_rfl) (by kernel_rfl) (fun _ _ _ h=>h) (Or.inl ⟨by rfl,fun W hSw=>by unfold OrS Cells7 at hSw;go_simp⟩) hH0 ?_
 simp only[Act.put]
 refine wpAnyH_take (i:=10) (oi:=_) (v:=(.bool true)) rfl (by kernel_rfl) (by kernel_rfl) (by kernel_rfl) (fun _ _ _ h=>h) (Or.inl ⟨by rfl,fun W hSw=>by unfold OrS Cells7 at hSw;go_simp⟩) hH0 ?_
 simp only[Act.put]
 have HH0:=Lib.hid hH0
 clear hH0
 refine wpAnyH_ready (rs:=[5,8]) (by kernel_rfl) (by simp) ?_
 refine AllReadyH.cons rfl (fun K hK=> ?_) (AllReadyH.cons rfl (fun K hK=> ?_) AllReadyH.nil)
 ·go_simp
  refine(kind_any xs _).mono ?_
  rintro e w4 ⟨rfl,hb4⟩
  have hb45:Below W5.heap.size W5 w4:=(below_drew W5).trans hb4
  have hs4:=HS5.out.call (Nat.lt_of_lt_of_le HLT.out.1 A5.out.bel.size) (Nat.lt_trans HLT.out.2.1.2 HLT.out.2.2) HLT.out.2.2 hb45
  have A6:=Lib.hid (A5.out.call hb45)
  have HZ6:=Lib.hid (HZ5.out.below hb45)
  have hlt6:w3.heap.size<w4.heap.size:=Nat.lt_of_lt_of_le HLT.out.2.2 hb45.size
  have HS6:=Lib.hid hs4
  clear hb4 hb45
  refine hK.out _ _ hs4 (fun hH1=> ?_)
  clear hK K hs4
  refine wpAnyH_take (i:=11) (oi:=_) (v:=(.bool true)) rfl (by kernel_rfl) (by kernel_rfl) (by kernel_rfl) (fun _ _ _ h=>h) (Or.inl ⟨by rfl,fun W hSw=>by unfold OrS Cells7 at hSw;go_simp⟩) hH1 ?_
  simp only[Act.put]
  refine wpAnyH_take (i:=12) (oi:=_) (v:=(.bool true)) rfl (by kernel_rfl) (by kernel_rfl) (by kernel_rfl) (fun _ _ _ h=>h) (Or.inl ⟨by rfl,fun W hSw=>by unfold OrS Cells7 at hSw;go_simp⟩) hH1 ?_
  simp only[Act.put]
  refine wpAnyH_take (i:=13) (oi:=_) (v:=(.bool true)) rfl (by kernel_rfl) (by kernel_rfl) (by kernel_rfl) (fun _ _ _ h=>h) (Or.inl ⟨by rfl,fun W hSw=>by unfold OrS Cells7 at hSw;go_simp⟩) hH1 ?_
  simp only[Act.put]
  clear hH1
  refine wpAnyH_ready (rs:=[8]) (by kernel_rfl) (by simp) ?_
  refine AllReadyH.cons rfl (fun K hK=> ?_) (AllReadyH.nil)
  go_simp
  have hs7:=HS6.out.call (W':=w4.alloc (row2 y z (.slice o1 y.ks.length j1) (.slice o2 y.ss.length j2) (.slice o3 z.ks.length j3) (.slice o4 z.ss.length j4))) (Nat.lt_of_lt_of_le HLT.out.1 A6.out.bel.size) A6.out.sz hlt6 (below_box _)
  refine hK.out _ _ hs7 (fun hH2=> ?_)
  clear hK K hs7
  obtain⟨⟨r0,r1,r2,r3,r4,r5,r6⟩,rf,⟨d0,d1,d2,d3,d4,d5,d6⟩,df,dl,rl,be⟩:=A6.out.facts
  have HS8:=Lib.hid (OrS.call (W':=(setEx w4 w.heap.size (.mk (kdD xs) [] 0 0 false [y,z] []) (.slice (some ⟨w4.heap.size,0,none⟩) 2 2) (.slice none 0 0)).alloc (row2 y z (.slice o1 y.ks.length j1) (.slice o2 y.ss.length j2) (.slice o3 z.ks.length j3) (.slice o4 z.ss.length j4))) (HS6.out.set (b:=w.heap.size) (x:= .mk (kdD xs) [] 0 0 false [y,z] []) (vk:= .slice (some ⟨w4.heap.size,0,none⟩) 2 2) (vs:= .slice none 0 0) (by have :=HLT.out;omega) (by have :=HLT.out;omega) (by have :=HLT.out;omega)) (by rw[setEx_size];have :=HLT.out;omega) (by rw[setEx_size];have :=HLT.out;omega) (by rw[setEx_size];omega) (below_box _))
  refine wpAnyH_take (i:=9) (oi:=_) (v:=(.agg #[.int .i64 (kdD xs),.string ⟨#[]⟩,.int .i64 0,.int .i64 0,.bool false,.slice (some ⟨w4.heap.size,0,none⟩) 2 2,.slice none 0 0])) rfl (by kernel_rfl) (by kernel_rfl) (by kernel_rfl) (fun _ _ _ h=>h) (Or.inl ⟨by rfl,fun W hSw=>by unfold OrS Cells7 at hSw;go_simp⟩) hH2 ?_
  simp only[Act.put]
  clear hH2
  refine wpAnyH_ready (rs:=[14]) (by kernel_rfl) (by simp) ?_
  refine AllReadyH.cons rfl (fun K hK=> ?_) (AllReadyH.nil)
  go_simp
  refine hK.out _ _ (HS8.out) (fun hH9=> ?_)
  clear hK K
  refine wpAnyH_ready (rs:=[15]) (by kernel_rfl) (by simp) ?_
  refine AllReadyH.cons rfl (fun K hK=> ?_) (AllReadyH.nil)
  go_simp
  refine hK.out _ _ hH9 (fun _=> ?_)
  clear hK K hH9
  refine wpAnyH_done (by kernel_rfl) ?_ _
  go_wp2_with fail
  exact two_endK Tryz.results29 w4 (kdD xs) true ⟨A6.out.res,A6.out.bel⟩ (ExOn.move (fun _ _ hF=>⟨hF.1,rfl⟩) _ _ _ A6.out.on) HZ6.out HQ.out (by first|rfl|simp[Act.put]) (by first|rfl|simp[Act.put]) rfl
 ·go_simp
  have hb45:Below W5.heap.size W5 (W5.drew.alloc (row2 y z (.slice o1 y.ks.length j1) (.slice o2 y.ss.length j2) (.slice o3 z.ks.length j3) (.slice o4 z.ss.length j4))):=(below_drew W5).alloc (Nat.le_refl _) _
  have hs4:=HS5.out.call (Nat.lt_of_lt_of_le HLT.out.1 A5.out.bel.size) (Nat.lt_trans HLT.out.2.1.2 HLT.out.2.2) HLT.out.2.2 hb45
  have hkd:=row2_kd (w:=W5.drew) (F:=fun b=>w.heap.size+1≤b) (ExOn.move (w:=W5) (w':=W5.drew) (F':=fun b=>w.heap.size+1≤b) (fun _ _ hF=>⟨hF.1,rfl⟩) _ _ _ A5.out.on) (ExOn.move (w:=W5) (w':=W5.drew) (F':=fun b=>w.heap.size+1≤b) (fun _ _ hF=>⟨hF,rfl⟩) _ _ _ HZ5.out) (by show w.heap.size+1≤W5.heap.size;have :=HLT.out;omega)
  refine hK.out _ _ hs4 (fun hH1=> ?_)
  clear hK K hH1
  have A6:=Lib.hid (A5.out.call hb45)
  have HK6:=Lib.hid hkd
  have HS6:=Lib.hid hs4
  clear hkd hs4 hb45
  refine wpAnyH_ready (rs:=[5]) (by kernel_rfl) (by simp) ?_
  refine AllReadyH.cons rfl (fun K hK=> ?_) (AllReadyH.nil)
  go_simp
  refine(kind_any xs _).mono ?_
  rintro e w4 ⟨rfl,hb4⟩
  have hs7:=HS6.out.call (Nat.lt_of_lt_of_le HLT.out.1 A6.out.bel.size) A6.out.sz (by show w3.heap.size<(W5.drew.alloc _).heap.size;rw[World.size_alloc];exact Nat.lt_succ_of_lt HLT.out.2.2) hb4
  have A7:=Lib.hid (A6.out.call hb4)
  have HK7:=Lib.hid (HK6.out.move fun b hb hF=>⟨hF,hb4.block b hb⟩)
  have HS7:=Lib.hid hs7
  clear hb4
  refine hK.out _ _ hs7 (fun hH2=> ?_)
  clear hK K hs7
  refine wpAnyH_take (i:=11) (oi:=_) (v:=(.bool true)) rfl (by kernel_rfl) (by kernel_rfl) (by kernel_rfl) (fun _ _ _ h=>h) (Or.inl ⟨by rfl,fun W hSw=>by unfold OrS Cells7 at hSw;go_simp⟩) hH2 ?_
  simp only[Act.put]
  refine wpAnyH_take (i:=12) (oi:=_) (v:=(.bool true)) rfl (by kernel_rfl) (by kernel_rfl) (by kernel_rfl) (fun _ _ _ h=>h) (Or.inl ⟨by rfl,fun W hSw=>by unfold OrS Cells7 at hSw;go_simp⟩) hH2 ?_
  simp only[Act.put]
  refine wpAnyH_take (i:=13) (oi:=_) (v:=(.bool true)) rfl (by kernel_rfl) (by kernel_rfl) (by kernel_rfl) (fun _ _ _ h=>h) (Or.inl ⟨by rfl,fun W hSw=>by unfold OrS Cells7 at hSw;go_simp⟩) hH2 ?_
  simp only[Act.put]
  obtain⟨⟨r0,r1,r2,r3,r4,r5,r6⟩,rf,⟨d0,d1,d2,d3,d4,d5,d6⟩,df,dl,rl,be⟩:=A7.out.facts
  have HS8:=Lib.hid (HS7.out.set (b:=w.heap.size) (x:= .mk (kdD xs) [] 0 0 false [y,z] []) (vk:= .slice (some ⟨W5.heap.size,0,none⟩) 2 2) (vs:= .slice none 0 0) (by have :=HLT.out;omega) (by have :=HLT.out;omega) (by have :=HLT.out;omega))
  refine wpAnyH_take (i:=9) (oi:=_) (v:=(.agg #[.int .i64 (kdD xs),.string ⟨#[]⟩,.int .i64 0,.int .i64 0,.bool false,.slice (some ⟨W5.heap.size,0,none⟩) 2 2,.slice none 0 0])) rfl (by kernel_rfl) (by kernel_rfl) (by kernel_rfl) (fun _ _ _ h=>h) (Or.inl ⟨by rfl,fun W hSw=>by unfold OrS Cells7 at hSw;go_simp⟩) hH2 ?_
  simp only[Act.put]
  clear hH2
  refine wpAnyH_ready (rs:=[14]) (by kernel_rfl) (by simp) ?_
  refine AllReadyH.cons rfl (fun K hK=> ?_) (AllReadyH.nil)
  go_simp
  refine hK.out _ _ (HS8.out) (fun hH9=> ?_)
  clear hK K
  refine wpAnyH_ready (rs:=[15]) (by kernel_rfl) (by simp) ?_
  refine AllReadyH.cons rfl (fun K hK=> ?_) (AllReadyH.nil)
  go_simp
  refine hK.out _ _ hH9 (fun _=> ?_)
  clear hK K hH9
  refine wpAnyH_done (by kernel_rfl) ?_ _
  go_wp2_with fail
  exact two_endH Tryz.results29 w4 (kdD xs) true ⟨A7.out.res,A7.out.bel⟩ HK7.out HQ.out (by first|rfl|simp[Act.put]) (by first|rfl|simp[Act.put]) rfl
end Char
end Go.Proofs.YtlmpkpjjakallaaGreatDoor
