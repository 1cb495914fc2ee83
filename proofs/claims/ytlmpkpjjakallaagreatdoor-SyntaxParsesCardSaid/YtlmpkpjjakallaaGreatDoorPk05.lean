import Derived.Test.YtlmpkpjjakallaaGreatDoorPk04
import Derived.Test.YtlmpkpjjakallaaGreatDoorPk02
import Derived.Deep.WholeRow
import Derived.Great.BuildSlice
import Derived.WalkLawsBesides
namespace Go.Proofs.YtlmpkpjjakallaaGreatDoor
namespace Char
open Go.RowKit Go.Lib
open Go.Proofs.YtlmpkpjjakallaaGreatDoor.Fig (outT outV)
def boxEx (x:Ex)(vk vs:Value):Obj:= .cells #[(.int .i64 x.op),(.string (bs x.s)),(.int .i64 x.tg),(.int .i64 x.vl),(.bool x.abs),vk,vs] 28
theorem boxEx_blk {w:World}{b:Nat}{x:Ex}{vk vs:Value}(h:w.heap[b]? =some (boxEx x vk vs)):
 (w.cell? ⟨b,0,none⟩=some (.int .i64 x.op)∧w.cell? ⟨b,1,none⟩=some (.string (bs x.s))∧w.cell? ⟨b,2,none⟩=some (.int .i64 x.tg)∧w.cell? ⟨b,3,none⟩=some (.int .i64 x.vl)∧w.cell? ⟨b,4,none⟩=some (.bool x.abs)∧w.cell? ⟨b,5,none⟩=some vk∧w.cell? ⟨b,6,none⟩=some vs)∧∀i,w.frozen? ⟨b,i,none⟩=false:=by
 unfold boxEx at h
 exact⟨⟨by simp[World.cell?,h],by simp[World.cell?,h],by simp[World.cell?,h],by simp[World.cell?,h],by simp[World.cell?,h],by simp[World.cell?,h],by simp[World.cell?,h]⟩,fun i=>by simp[World.frozen?,h]⟩
def setEx (w:World)(b:Nat)(x:Ex)(vk vs:Value):World:=((((((w.setCell ⟨b,0,none⟩ (.int .i64 x.op)).setCell ⟨b,1,none⟩ (.string (bs x.s))).setCell ⟨b,2,none⟩ (.int .i64 x.tg)).setCell ⟨b,3,none⟩ (.int .i64 x.vl)).setCell ⟨b,4,none⟩ (.bool x.abs)).setCell ⟨b,5,none⟩ vk).setCell ⟨b,6,none⟩ vs
theorem setEx_at {w:World}{b:Nat}{x:Ex}{vk vs:Value}{x':Ex}{vk' vs':Value}(h:w.heap[b]? =some (boxEx x' vk' vs')):(setEx w b x vk vs).heap[b]? =some (boxEx x vk vs):=by
 unfold setEx
 unfold boxEx at h ⊢
 have h1:=heap_set_at (i:=0) (u:=(.int .i64 x.op)) h
 have h2:=heap_set_at (i:=1) (u:=(.string (bs x.s))) h1
 have h3:=heap_set_at (i:=2) (u:=(.int .i64 x.tg)) h2
 have h4:=heap_set_at (i:=3) (u:=(.int .i64 x.vl)) h3
 have h5:=heap_set_at (i:=4) (u:=(.bool x.abs)) h4
 have h6:=heap_set_at (i:=5) (u:=vk) h5
 have h7:=heap_set_at (i:=6) (u:=vs) h6
 exact h7.trans (by simp)
theorem setEx_ne {w:World}{b k:Nat}{x:Ex}{vk vs:Value}(h:k≠b):(setEx w b x vk vs).heap[k]? =w.heap[k]? :=by
 unfold setEx
 rw[heap_set_ne (a:=⟨b,6,none⟩) h,heap_set_ne (a:=⟨b,5,none⟩) h,heap_set_ne (a:=⟨b,4,none⟩) h,heap_set_ne (a:=⟨b,3,none⟩) h,heap_set_ne (a:=⟨b,2,none⟩) h,heap_set_ne (a:=⟨b,1,none⟩) h,heap_set_ne (a:=⟨b,0,none⟩) h]
theorem setEx_size {w:World}{b:Nat}{x:Ex}{vk vs:Value}:(setEx w b x vk vs).heap.size=w.heap.size:=by simp[setEx]
theorem setEx_below {B b:Nat}{w w':World}{x:Ex}{vk vs:Value}(h:Below B w w')(hb:B≤b):Below B w (setEx w' b x vk vs):=
 ((((((h.setCell (p:=⟨b,0,none⟩) hb _).setCell (p:=⟨b,1,none⟩) hb _).setCell (p:=⟨b,2,none⟩) hb _).setCell (p:=⟨b,3,none⟩) hb _).setCell (p:=⟨b,4,none⟩) hb _).setCell (p:=⟨b,5,none⟩) hb _).setCell (p:=⟨b,6,none⟩) hb _
theorem endEx {fn:Func}{p:Tmp}(h:fn.results= #[.cell p 28]){a:Act}{R:Ending→World→Prop}(w1:World)(g:Nat){x:Ex}{vk vs:Value}(hk:w1.heap[g]? =some (boxEx x vk vs))
 (hp:a.tmps.getD p undef= .pointer (some ⟨g,0,none⟩)) (hd:a.defers=[]) (hR:R (.returned (.agg #[(.int .i64 x.op),(.string (bs x.s)),(.int .i64 x.tg),(.int .i64 x.vl),(.bool x.abs),vk,vs])) w1):bodyPost Tryz.prog fn R .ret a w1:=by
 have hp':a.tmps[p]?.getD undef= .pointer (some ⟨g,0,none⟩):=by simpa using hp
 obtain⟨⟨a0,a1,a2,a3,a4,a5,a6⟩,_⟩:=boxEx_blk hk
 exact bodyPost_ret (by simp[results,h,hp',go_sem,a0,a1,a2,a3,a4,a5,a6]) hd hR
def boxSt (x:St)(vp:Value):Obj:= .cells #[(.int .i64 x.ax),(.int .i64 x.tk),(.string (bs x.nm)),(.bool x.has),vp] 62
theorem boxSt_blk {w:World}{b:Nat}{x:St}{vp:Value}(h:w.heap[b]? =some (boxSt x vp)):
 (w.cell? ⟨b,0,none⟩=some (.int .i64 x.ax)∧w.cell? ⟨b,1,none⟩=some (.int .i64 x.tk)∧w.cell? ⟨b,2,none⟩=some (.string (bs x.nm))∧w.cell? ⟨b,3,none⟩=some (.bool x.has)∧w.cell? ⟨b,4,none⟩=some vp)∧∀i,w.frozen? ⟨b,i,none⟩=false:=by
 unfold boxSt at h
 exact⟨⟨by simp[World.cell?,h],by simp[World.cell?,h],by simp[World.cell?,h],by simp[World.cell?,h],by simp[World.cell?,h]⟩,fun i=>by simp[World.frozen?,h]⟩
def setSt (w:World)(b:Nat)(x:St)(vp:Value):World:=((((w.setCell ⟨b,0,none⟩ (.int .i64 x.ax)).setCell ⟨b,1,none⟩ (.int .i64 x.tk)).setCell ⟨b,2,none⟩ (.string (bs x.nm))).setCell ⟨b,3,none⟩ (.bool x.has)).setCell ⟨b,4,none⟩ vp
theorem setSt_at {w:World}{b:Nat}{x:St}{vp:Value}{x':St}{vp':Value}(h:w.heap[b]? =some (boxSt x' vp')):(setSt w b x vp).heap[b]? =some (boxSt x vp):=by
 unfold setSt
 unfold boxSt at h ⊢
 have h1:=heap_set_at (i:=0) (u:=(.int .i64 x.ax)) h
 have h2:=heap_set_at (i:=1) (u:=(.int .i64 x.tk)) h1
 have h3:=heap_set_at (i:=2) (u:=(.string (bs x.nm))) h2
 have h4:=heap_set_at (i:=3) (u:=(.bool x.has)) h3
 have h5:=heap_set_at (i:=4) (u:=vp) h4
 exact h5.trans (by simp)
theorem setSt_ne {w:World}{b k:Nat}{x:St}{vp:Value}(h:k≠b):(setSt w b x vp).heap[k]? =w.heap[k]? :=by
 unfold setSt
 rw[heap_set_ne (a:=⟨b,4,none⟩) h,heap_set_ne (a:=⟨b,3,none⟩) h,heap_set_ne (a:=⟨b,2,none⟩) h,heap_set_ne (a:=⟨b,1,none⟩) h,heap_set_ne (a:=⟨b,0,none⟩) h]
theorem setSt_size {w:World}{b:Nat}{x:St}{vp:Value}:(setSt w b x vp).heap.size=w.heap.size:=by simp[setSt]
theorem setSt_below {B b:Nat}{w w':World}{x:St}{vp:Value}(h:Below B w w')(hb:B≤b):Below B w (setSt w' b x vp):=
 ((((h.setCell (p:=⟨b,0,none⟩) hb _).setCell (p:=⟨b,1,none⟩) hb _).setCell (p:=⟨b,2,none⟩) hb _).setCell (p:=⟨b,3,none⟩) hb _).setCell (p:=⟨b,4,none⟩) hb _
theorem endCSt {fn:Func}{p:Tmp}(h:fn.results= #[.cell p 62]){a:Act}{R:Ending→World→Prop}{w1:World}(g:Nat){c0 c1 c2 c3 c4:Value}(hk:w1.heap[g]? =some (.cells #[c0,c1,c2,c3,c4] 62 (0,0)))
 (hp:a.tmps.getD p undef= .pointer (some ⟨g,0,none⟩)) (hd:a.defers=[]) (hR:R (.returned (.agg #[c0,c1,c2,c3,c4])) w1):bodyPost Tryz.prog fn R .ret a w1:=by
 have hp':a.tmps[p]?.getD undef= .pointer (some ⟨g,0,none⟩):=by simpa using hp
 have hc:∀i u,(#[c0,c1,c2,c3,c4]:Array Value)[i]? =some u→w1.cell? ⟨g,i,none⟩=some u:=fun i u hu=>by simp[World.cell?,hk,hu]
 have a0:=hc 0 c0 rfl;have a1:=hc 1 c1 rfl;have a2:=hc 2 c2 rfl;have a3:=hc 3 c3 rfl;have a4:=hc 4 c4 rfl
 exact bodyPost_ret (by simp[results,h,hp',go_sem,a0,a1,a2,a3,a4]) hd hR
theorem endSt {fn:Func}{p:Tmp}(h:fn.results= #[.cell p 62]){a:Act}{R:Ending→World→Prop}(w1:World)(g:Nat){x:St}{vp:Value}(hk:w1.heap[g]? =some (boxSt x vp))
 (hp:a.tmps.getD p undef= .pointer (some ⟨g,0,none⟩)) (hd:a.defers=[]) (hR:R (.returned (.agg #[(.int .i64 x.ax),(.int .i64 x.tk),(.string (bs x.nm)),(.bool x.has),vp])) w1):bodyPost Tryz.prog fn R .ret a w1:=by
 have hp':a.tmps[p]?.getD undef= .pointer (some ⟨g,0,none⟩):=by simpa using hp
 obtain⟨⟨a0,a1,a2,a3,a4⟩,_⟩:=boxSt_blk hk
 exact bodyPost_ret (by simp[results,h,hp',go_sem,a0,a1,a2,a3,a4]) hd hR
def boxTe (kd:Int)(nm:List UInt8)(hs:Bool):Obj:= .cells #[(.int .i64 kd),(.string (bs nm)),(.bool hs)] 60
theorem boxTe_blk {w:World}{b:Nat}{kd:Int}{nm:List UInt8}{hs:Bool}(h:w.heap[b]? =some (boxTe kd nm hs)):
 (w.cell? ⟨b,0,none⟩=some (.int .i64 kd)∧w.cell? ⟨b,1,none⟩=some (.string (bs nm))∧w.cell? ⟨b,2,none⟩=some (.bool hs))∧∀i,w.frozen? ⟨b,i,none⟩=false:=by
 unfold boxTe at h
 exact⟨⟨by simp[World.cell?,h],by simp[World.cell?,h],by simp[World.cell?,h]⟩,fun i=>by simp[World.frozen?,h]⟩
def setTe (w:World)(b:Nat)(kd:Int)(nm:List UInt8)(hs:Bool):World:=((w.setCell ⟨b,0,none⟩ (.int .i64 kd)).setCell ⟨b,1,none⟩ (.string (bs nm))).setCell ⟨b,2,none⟩ (.bool hs)
theorem setTe_at {w:World}{b:Nat}{kd:Int}{nm:List UInt8}{hs:Bool}{kd':Int}{nm':List UInt8}{hs':Bool}(h:w.heap[b]? =some (boxTe kd' nm' hs')):(setTe w b kd nm hs).heap[b]? =some (boxTe kd nm hs):=by
 unfold setTe
 unfold boxTe at h ⊢
 have h1:=heap_set_at (i:=0) (u:=(.int .i64 kd)) h
 have h2:=heap_set_at (i:=1) (u:=(.string (bs nm))) h1
 have h3:=heap_set_at (i:=2) (u:=(.bool hs)) h2
 exact h3.trans (by simp)
theorem setTe_ne {w:World}{b k:Nat}{kd:Int}{nm:List UInt8}{hs:Bool}(h:k≠b):(setTe w b kd nm hs).heap[k]? =w.heap[k]? :=by
 unfold setTe
 rw[heap_set_ne (a:=⟨b,2,none⟩) h,heap_set_ne (a:=⟨b,1,none⟩) h,heap_set_ne (a:=⟨b,0,none⟩) h]
theorem setTe_size {w:World}{b:Nat}{kd:Int}{nm:List UInt8}{hs:Bool}:(setTe w b kd nm hs).heap.size=w.heap.size:=by simp[setTe]
theorem setTe_below {B b:Nat}{w w':World}{kd:Int}{nm:List UInt8}{hs:Bool}(h:Below B w w')(hb:B≤b):Below B w (setTe w' b kd nm hs):=
 ((h.setCell (p:=⟨b,0,none⟩) hb _).setCell (p:=⟨b,1,none⟩) hb _).setCell (p:=⟨b,2,none⟩) hb _
theorem endTe {fn:Func}{p:Tmp}(h:fn.results= #[.cell p 60]){a:Act}{R:Ending→World→Prop}(w1:World)(g:Nat){kd:Int}{nm:List UInt8}{hs:Bool}(hk:w1.heap[g]? =some (boxTe kd nm hs))
 (hp:a.tmps.getD p undef= .pointer (some ⟨g,0,none⟩)) (hd:a.defers=[]) (hR:R (.returned (.agg #[(.int .i64 kd),(.string (bs nm)),(.bool hs)])) w1):bodyPost Tryz.prog fn R .ret a w1:=by
 have hp':a.tmps[p]?.getD undef= .pointer (some ⟨g,0,none⟩):=by simpa using hp
 obtain⟨⟨a0,a1,a2⟩,_⟩:=boxTe_blk hk
 exact bodyPost_ret (by simp[results,h,hp',go_sem,a0,a1,a2]) hd hR
def boxWd (x:Wd):Obj:= .cells #[(.int .i64 (x.k:Int)),(.string (bs x.s)),(.int .i64 (outT x.n)),(.int .i64 (outV x.n))] 89
theorem boxWd_blk {w:World}{b:Nat}{x:Wd}(h:w.heap[b]? =some (boxWd x)):
 (w.cell? ⟨b,0,none⟩=some (.int .i64 (x.k:Int))∧w.cell? ⟨b,1,none⟩=some (.string (bs x.s))∧w.cell? ⟨b,2,none⟩=some (.int .i64 (outT x.n))∧w.cell? ⟨b,3,none⟩=some (.int .i64 (outV x.n)))∧∀i,w.frozen? ⟨b,i,none⟩=false:=by
 unfold boxWd at h
 exact⟨⟨by simp[World.cell?,h],by simp[World.cell?,h],by simp[World.cell?,h],by simp[World.cell?,h]⟩,fun i=>by simp[World.frozen?,h]⟩
theorem endCWd {fn:Func}{p:Tmp}(h:fn.results= #[.cell p 89]){a:Act}{R:Ending→World→Prop}{w1:World}(g:Nat){c0 c1 c2 c3:Value}(hk:w1.heap[g]? =some (.cells #[c0,c1,c2,c3] 89 (0,0)))
 (hp:a.tmps.getD p undef= .pointer (some ⟨g,0,none⟩)) (hd:a.defers=[]) (hR:R (.returned (.agg #[c0,c1,c2,c3])) w1):bodyPost Tryz.prog fn R .ret a w1:=by
 have hp':a.tmps[p]?.getD undef= .pointer (some ⟨g,0,none⟩):=by simpa using hp
 have hc:∀i u,(#[c0,c1,c2,c3]:Array Value)[i]? =some u→w1.cell? ⟨g,i,none⟩=some u:=fun i u hu=>by simp[World.cell?,hk,hu]
 have a0:=hc 0 c0 rfl;have a1:=hc 1 c1 rfl;have a2:=hc 2 c2 rfl;have a3:=hc 3 c3 rfl
 exact bodyPost_ret (by simp[results,h,hp',go_sem,a0,a1,a2,a3]) hd hR
theorem But.box {R:Nat}{w w':World}(h:But R w w')(hR:R<w.heap.size)(o:Obj):But R w (w'.alloc o):=h.trans (But.of (below_box o) (Nat.lt_of_lt_of_le hR h.size))
theorem LfB.box {R:Nat}{ts:List Wd}{w:World}(h:LfB R ts w)(o:Obj):LfB R ts (w.alloc o):=h.below (below_box o)
theorem heap_box2 (w:World)(o o2:Obj):((w.alloc o).alloc o2).heap[w.heap.size]? =some o:=by
 rw[Below.heap_alloc _ _ _ (by simp)]
 exact World.alloc_heap_new w o
end Char
namespace Char
open Go.RowKit Go.Lib
open Go.Proofs.YtlmpkpjjakallaaGreatDoor.Fig (outT outV)
set_option maxHeartbeats 4000000 in
theorem next_ok (R:Nat)(x:Wd)(r:List Wd)(w:World)(h:LfB R (x::r) w):Calls Tryz.prog 228 #[.pointer (some ⟨R,0,none⟩)] w (TkP R (wdV x) r w):=by
 have hlt:=h.lt
 obtain⟨g,off,c,h1,h2,⟨x0,x1,x2,x3⟩,o',hs,h3⟩:=h.cons
 have hg:=cell_lt x0
 dsimp only at hg
 unfold TkP wdV
 have hpos:((r.length+1:Nat):Int)≠0:=by omega
 have hpos2:(0:Int)<((r.length+1:Nat):Int):=by omega
 have k0:(((r.length+1:Nat):Int)==0)=false:=by rw[beq_eq_false_iff_ne];exact hpos
 have H3:=Lib.hid h3
 clear h h3
 generalize r.length+1=n at *
 generalize (x.k:Int)=c0 at *
 generalize bs x.s=c1 at *
 generalize outT x.n=c2 at *
 generalize outV x.n=c3 at *
 go_enter Tryz.func228,Tryz.ntmps228
 go_wp2_with fail
 refine endCWd Tryz.results228 w.heap.size ?_ rfl rfl ⟨rfl,(H3.out.box _).box _,((But.set R 0 w _).box hlt _).box hlt _⟩
 simpa using heap_box2 (w.setCell ⟨R,0,none⟩ (.slice o' r.length (c-1))) _ _
def priL (ts:List Wd):Bool:=atL 10 ts||atL 8 ts||atL 9 ts||atL 6 ts||aheadL 1 [40] ts
def stpL (ts:List Wd):Bool:=atL 2 ts||atL 3 ts||atL 4 ts||atL 7 ts||aheadL 1 [46] ts||aheadL 1 [46,46] ts||aheadL 1 [64] ts
set_option maxHeartbeats 4000000 in
theorem atPrimary_any (R:Nat)(ts:List Wd)(w:World)(h:LfB R ts w):Calls Tryz.prog 197 #[.pointer (some ⟨R,0,none⟩)] w fun e w'=>e= .returned (.bool (priL ts))∧w'=w:=by
 have A0:=Lib.hid (at_any R 10 ts w h)
 have A1:=Lib.hid (at_any R 8 ts w h)
 have A2:=Lib.hid (at_any R 9 ts w h)
 have A3:=Lib.hid (at_any R 6 ts w h)
 have a4:Calls Tryz.prog 196 #[.pointer (some ⟨R,0,none⟩),.int .i64 1,.string ⟨#[40]⟩] w (fun e w'=>e= .returned (.bool (aheadL 1 [40] ts))∧w'=w):=ahead_any R 1 [40] ts w h
 have A4:=Lib.hid a4
 clear a4
 unfold priL
 generalize atL 10 ts=b0 at *
 generalize atL 8 ts=b1 at *
 generalize atL 9 ts=b2 at *
 generalize atL 6 ts=b3 at *
 generalize aheadL 1 [40] ts=b4 at *
 clear h
 have hcs:(b0=true)∨(b0=false∧b1=true)∨(b0=false∧b1=false∧b2=true)∨(b0=false∧b1=false∧b2=false∧b3=true)∨(b0=false∧b1=false∧b2=false∧b3=false):=by cases b0<;>cases b1<;>cases b2<;>cases b3<;>simp
 rcases hcs with rfl|⟨rfl,rfl⟩|⟨rfl,rfl,rfl⟩|⟨rfl,rfl,rfl,rfl⟩|⟨rfl,rfl,rfl,rfl⟩
 all_goals
  go_enter Tryz.func197,Tryz.ntmps197
  go_wp2_with (first
   |(go_at_call 214
     first
      |(with_reducible refine A0.out.mono ?_)
      |(with_reducible refine A1.out.mono ?_)
      |(with_reducible refine A2.out.mono ?_)
      |(with_reducible refine A3.out.mono ?_)
     rintro e w1 ⟨rfl,rfl⟩)
   |(go_at_call 196
     refine A4.out.mono ?_
     rintro e w1 ⟨rfl,rfl⟩))
  go_ret
  exact⟨rfl,rfl⟩
set_option maxHeartbeats 4000000 in
theorem atStep_any (R:Nat)(ts:List Wd)(w:World)(h:LfB R ts w):Calls Tryz.prog 215 #[.pointer (some ⟨R,0,none⟩)] w fun e w'=>e= .returned (.bool (stpL ts))∧w'=w:=by
 have A0:=Lib.hid (at_any R 2 ts w h)
 have A1:=Lib.hid (at_any R 3 ts w h)
 have A2:=Lib.hid (at_any R 4 ts w h)
 have A3:=Lib.hid (at_any R 7 ts w h)
 have a4:Calls Tryz.prog 196 #[.pointer (some ⟨R,0,none⟩),.int .i64 1,.string ⟨#[46]⟩] w (fun e w'=>e= .returned (.bool (aheadL 1 [46] ts))∧w'=w):=ahead_any R 1 [46] ts w h
 have A4:=Lib.hid a4
 clear a4
 have a5:Calls Tryz.prog 196 #[.pointer (some ⟨R,0,none⟩),.int .i64 1,.string ⟨#[46,46]⟩] w (fun e w'=>e= .returned (.bool (aheadL 1 [46,46] ts))∧w'=w):=ahead_any R 1 [46,46] ts w h
 have A5:=Lib.hid a5
 clear a5
 have a6:Calls Tryz.prog 196 #[.pointer (some ⟨R,0,none⟩),.int .i64 1,.string ⟨#[64]⟩] w (fun e w'=>e= .returned (.bool (aheadL 1 [64] ts))∧w'=w):=ahead_any R 1 [64] ts w h
 have A6:=Lib.hid a6
 clear a6
 unfold stpL
 generalize atL 2 ts=b0 at *
 generalize atL 3 ts=b1 at *
 generalize atL 4 ts=b2 at *
 generalize atL 7 ts=b3 at *
 generalize aheadL 1 [46] ts=b4 at *
 generalize aheadL 1 [46,46] ts=b5 at *
 generalize aheadL 1 [64] ts=b6 at *
 clear h
 have hcs:(b0=true)∨(b0=false∧b1=true)∨(b0=false∧b1=false∧b2=true)∨(b0=false∧b1=false∧b2=false∧b3=true)∨(b0=false∧b1=false∧b2=false∧b3=false∧b4=true)∨(b0=false∧b1=false∧b2=false∧b3=false∧b4=false∧b5=true)∨(b0=false∧b1=false∧b2=false∧b3=false∧b4=false∧b5=false):=by cases b0<;>cases b1<;>cases b2<;>cases b3<;>cases b4<;>cases b5<;>simp
 rcases hcs with rfl|⟨rfl,rfl⟩|⟨rfl,rfl,rfl⟩|⟨rfl,rfl,rfl,rfl⟩|⟨rfl,rfl,rfl,rfl,rfl⟩|⟨rfl,rfl,rfl,rfl,rfl,rfl⟩|⟨rfl,rfl,rfl,rfl,rfl,rfl⟩
 all_goals
  go_enter Tryz.func215,Tryz.ntmps215
  go_wp2_with (first
   |(go_at_call 214
     first
      |(with_reducible refine A0.out.mono ?_)
      |(with_reducible refine A1.out.mono ?_)
      |(with_reducible refine A2.out.mono ?_)
      |(with_reducible refine A3.out.mono ?_)
     rintro e w1 ⟨rfl,rfl⟩)
   |(go_at_call 196
     first
      |(with_reducible refine A4.out.mono ?_)
      |(with_reducible refine A5.out.mono ?_)
      |(with_reducible refine A6.out.mono ?_)
     rintro e w1 ⟨rfl,rfl⟩))
  go_ret
  exact⟨rfl,rfl⟩
set_option maxHeartbeats 4000000 in
theorem anyNode_any (a:Int)(w:World):Calls Tryz.prog 219 #[.int .i64 a] w fun e w'=>e= .returned (stpV (.mk a 3 [] false []) (.slice none 0 0))∧Below w.heap.size w w':=by
 unfold stpV
 go_enter Tryz.func219,Tryz.ntmps219
 go_wp2_with fail
 exact endCSt Tryz.results219 w.heap.size (World.alloc_heap_new w _) rfl rfl ⟨rfl,below_box _⟩
end Char
namespace Char
open Go.RowKit Go.Lib
def nmAx:List (List UInt8):=[[],[99,104,105,108,100],[100,101,115,99,101,110,100,97,110,116],[112,97,114,101,110,116],[97,110,99,101,115,116,111,114],[102,111,108,108,111,119,105,110,103,45,115,105,98,108,105,110,103],[112,114,101,99,101,100,105,110,103,45,115,105,98,108,105,110,103],[102,111,108,108,111,119,105,110,103],[112,114,101,99,101,100,105,110,103],[97,116,116,114,105,98,117,116,101],[115,101,108,102],[100,101,115,99,101,110,100,97,110,116,45,111,114,45,115,101,108,102],[97,110,99,101,115,116,111,114,45,111,114,45,115,101,108,102]]
def nmX (a:Int):List UInt8:=if a<0 then [] else nmAx.getD a.toNat []
def nmCx:Array Value:=(nmAx.map fun l=>Value.string (bs l)).toArray
def nmDx:Array Value:=(nmAx.tail.map fun l=>Value.string (bs l)).toArray
theorem nmX_no {a:Int}(h:a<0∨13≤a):nmX a=[]:=by
 unfold nmX
 split
 ·rfl
 ·rw[List.getD_eq_getElem?_getD,List.getElem?_eq_none (by show 13≤_;omega)]
  rfl
theorem nmCx_at {a:Int}(h0:0≤a)(h1:a<13):nmCx[a.toNat]? =some (.string (bs (nmX a))):=by
 have hl:a.toNat<nmAx.length:=by show _<13;omega
 unfold nmCx nmX
 rw[if_neg (by omega),List.getElem?_toArray,List.getElem?_map,List.getElem?_eq_getElem hl,List.getD_eq_getElem?_getD,List.getElem?_eq_getElem hl]
 rfl
theorem nmDx_at {a:Int}(h0:1≤a)(h1:a≤12):nmDx[(a-1).toNat]? =some (.string (bs (nmX a))):=by
 have hl:a.toNat<nmAx.length:=by show _<13;omega
 have ht:(a-1).toNat+1=a.toNat:=by omega
 unfold nmDx nmX
 rw[if_neg (by omega),List.getElem?_toArray,List.getElem?_map,List.getElem?_tail,ht,List.getElem?_eq_getElem hl,List.getD_eq_getElem?_getD,List.getElem?_eq_getElem hl]
 rfl
set_option maxRecDepth 100000 in
set_option maxHeartbeats 4000000 in
theorem nameX_any (a:Int)(w:World):
 Calls Tryz.prog 71 #[.int .i64 a] w fun e w'=>e= .returned (.string (bs (nmX a)))∧Below w.heap.size w w':=by
 have hb:=(Below.refl w.heap.size w).alloc (Nat.le_refl _) (.cells nmCx 141)
 have HB:=Lib.hid hb
 clear hb
 by_cases h0:a<0
 ·have k0:decide (a<0)=true:=decide_eq_true h0
  have HX:=Lib.hid (nmX_no (.inl h0))
  go_enter Tryz.func71,Tryz.ntmps71
  go_wp2_with (first
   |((with_reducible refine wpList_buildTo rfl 141 _ rfl _ rfl nmCx (by kernel_rfl) ?_))
   |((with_reducible refine wpList_store_row rfl 141 _ _ rfl w.heap.size nmCx rfl rfl 141 _ (heap_alloc_last w _) (by kernel_rfl) rfl (by kernel_rfl) ?_);rw[World.setRow_alloc_new]))
  go_ret
  exact⟨by rw[HX.out];rfl,HB.out⟩
 ·have k0:decide (a<0)=false:=decide_eq_false h0
  by_cases h1:13≤a
  ·have k1:decide (13≤a)=true:=decide_eq_true h1
   have HX:=Lib.hid (nmX_no (.inr h1))
   go_enter Tryz.func71,Tryz.ntmps71
   go_wp2_with (first
    |((with_reducible refine wpList_buildTo rfl 141 _ rfl _ rfl nmCx (by kernel_rfl) ?_))
    |((with_reducible refine wpList_store_row rfl 141 _ _ rfl w.heap.size nmCx rfl rfl 141 _ (heap_alloc_last w _) (by kernel_rfl) rfl (by kernel_rfl) ?_);rw[World.setRow_alloc_new]))
   go_ret
   exact⟨by rw[HX.out];rfl,HB.out⟩
  ·have k1:decide (13≤a)=false:=decide_eq_false h1
   have hc:(w.alloc (.cells nmCx 141)).cell? ⟨w.heap.size,a.toNat,none⟩=some (.string (bs (nmX a))):=by
    rw[World.cell?_alloc_new]
    exact nmCx_at (by omega) (by omega)
   have hz:0≤a:=by omega
   have hz1:a<13:=by omega
   generalize nmX a=X at *
   go_enter Tryz.func71,Tryz.ntmps71
   go_wp2_with (first
    |((with_reducible refine wpList_buildTo rfl 141 _ rfl _ rfl nmCx (by kernel_rfl) ?_))
    |((with_reducible refine wpList_store_row rfl 141 _ _ rfl w.heap.size nmCx rfl rfl 141 _ (heap_alloc_last w _) (by kernel_rfl) rfl (by kernel_rfl) ?_);rw[World.setRow_alloc_new]))
   go_ret
   exact⟨rfl,HB.out⟩
end Char
namespace Char
open Go.RowKit Go.Lib
theorem bs_eqv (a b:List UInt8)(v:Bool)(h:decide (a=b)=v):((bs a).toList==(bs b).toList)=v:=by
 rw[bs_tl,bs_tl,←h,Bool.eq_iff_iff,beq_iff_eq,decide_eq_true_eq]
def ofF (s:List UInt8):Nat→Nat→Nat
 |0,_=>0
 |n+1,a=>if nmX a=s then a else ofF s n (a+1)
def ofX (s:List UInt8):Nat:=ofF s 12 1
set_option maxRecDepth 100000 in
set_option maxHeartbeats 4000000 in
theorem ofX_any (s:List UInt8)(w:World):
 Calls Tryz.prog 232 #[.string (bs s)] w fun e w'=>e= .returned (.int .i64 (ofX s:Int))∧Below w.heap.size w w':=by
 obtain⟨R,hR⟩:∃R,ofX s=R:=⟨_,rfl⟩
 rw[hR]
 have HR:=Lib.hid hR
 clear hR
 have HB:=Lib.hid (Below.refl w.heap.size w)
 go_enter Tryz.func232,Tryz.ntmps232
 go_wp2_with fail
 go_loopw [3] (fun v wr=>∃k:Nat,v= .int .i64 (k:Int)∧1≤k∧k≤13∧Hid (R=ofF s (13-k) k∧Below w.heap.size w wr)) (fun v _=>13-(RowKit.intOf v).toNat)
 case atStart=>exact⟨1,rfl,by omega,by omega,Lib.hid ⟨HR.out.symm,HB.out⟩⟩
 case round=>
  obtain⟨k,rfl,hk1,hk13,HI⟩:=hrel
  by_cases hlt:k≤12
  ·have k0:decide ((k:Int)≤12)=true:=decide_eq_true (by omega)
   have HN:=Lib.hid (nameX_any (k:Int) wr)
   have hstep:ofF s (13-k) k=if nmX (k:Int)=s then k else ofF s (13-(k+1)) (k+1):=by
    rw[show 13-k=(13-(k+1))+1 by omega]
    rfl
   have HS:=Lib.hid hstep
   clear hstep
   cases he:decide (nmX (k:Int)=s) with
   |true=>
    have hq:=bs_eqv _ _ _ he
    have HE:=Lib.hid (of_decide_eq_true he)
    clear he
    generalize nmX (k:Int)=X at *
    go_wp2_with (first
     |(go_at_call 71
       refine HN.out.mono ?_
       rintro e w2 ⟨rfl,q2⟩))
    go_ret
    refine⟨?_,HI.out.2.trans (q2.mono HI.out.2.size)⟩
    rw[HI.out.1,HS.out,if_pos HE.out];rfl
   |false=>
    have hq:=bs_eqv _ _ _ he
    have HE:=Lib.hid (of_decide_eq_false he)
    clear he
    generalize nmX (k:Int)=X at *
    go_wp2_with (first
     |(go_at_call 71
       refine HN.out.mono ?_
       rintro e w2 ⟨rfl,q2⟩))
    go_roundw
    case rel=>exact⟨k+1,by go_num,by omega,by omega,Lib.hid ⟨by rw[HI.out.1,HS.out,if_neg HE.out],HI.out.2.trans (q2.mono HI.out.2.size)⟩⟩
    case measure=>simp[RowKit.intOf];omega
  ·have e:k=13:=by omega
   subst e
   have k0:decide ((13:Int)≤12)=false:=by decide
   go_wp2_with fail
   go_ret
   exact⟨by rw[HI.out.1];rfl,HI.out.2⟩
end Char
namespace Char
open Go.RowKit Go.Lib
open Go.Proofs.YtlmpkpjjakallaaGreatDoor.Fig (outT outV)
set_option maxRecDepth 100000 in
theorem word_fd (c0 c1 c2 c3:Value)(w:World):(Instr.field 89 (.agg #[c0,c1,c2,c3]) 1).run Tryz.prog w= .ok c1 w:=by kernel_rfl
def axisL (ts:List Wd):Option (Int×List Wd):=
 if aheadL 1 [64] ts then some (9,ts.tail) else if atL 7 ts then (match ts with
  |[]=>none
  |x::r=>if ofX x.s=0 then none else (mustW [58,58] r).map fun t=>((ofX x.s:Int),t)) else some (1,ts)
def AxP (R:Nat)(x:Option (Int×List Wd))(w:World)(e:Ending)(w':World):Prop:=match x with
 |none=>PaP R w e w'
 |some (a,t)=>TkP R (.int .i64 a) t w e w'
set_option maxHeartbeats 4000000 in
set_option maxRecDepth 100000 in
theorem axis_any (R:Nat)(ts:List Wd)(w:World)(h:LfB R ts w):Calls Tryz.prog 226 #[.pointer (some ⟨R,0,none⟩)] w (AxP R (axisL ts) w):=by
 have hlt:=h.lt
 have HT:=Lib.hid (take_any R 1 [64] ts w h)
 unfold axisL
 unfold takeL TkP at HT
 cases h1:aheadL 1 [64] ts with
 |true=>
  rw[h1]at HT
  rw[if_pos rfl]at HT ⊢
  unfold AxP TkP
  clear h h1
  go_enter Tryz.func226,Tryz.ntmps226
  go_wp2_with (first
   |(go_at_call 180
     refine HT.out.mono ?_
     rintro e w1 ⟨rfl,q1,q2⟩
     have Q1:=Lib.hid q1
     have Q2:=Lib.hid q2
     clear q1 q2 HT))
  go_ret
  exact⟨rfl,Q1.out,Q2.out⟩
 |false=>
  rw[h1]at HT
  rw[if_neg (by simp)]at HT ⊢
  have HA:=Lib.hid fun(W:World) (hl:LfB R ts W)=>at_any R 7 ts W hl
  cases h2:atL 7 ts with
  |false=>
   rw[h2]at HA
   rw[if_neg (by simp)]
   unfold AxP TkP
   clear h h1 h2
   go_enter Tryz.func226,Tryz.ntmps226
   go_wp2_with (first
    |(go_at_call 180
      refine HT.out.mono ?_
      rintro e w1 ⟨rfl,q1,q2⟩
      have Q1:=Lib.hid q1
      have Q2:=Lib.hid q2
      clear q1 q2 HT)
    |(go_at_call 214
      refine(HA.out _ Q1.out).mono ?_
      rintro e w2 ⟨rfl,rfl⟩))
   go_ret
   exact⟨rfl,Q1.out,Q2.out⟩
  |true=>
   rw[h2]at HA
   rw[if_pos rfl]
   cases ts with
   |nil=>cases h2
   |cons x r=>
    have HN:=Lib.hid fun(W:World) (hl:LfB R (x::r) W)=>next_ok R x r W hl
    have HO:=Lib.hid fun(W:World)=>ofX_any x.s W
    have HM:=Lib.hid fun(W:World) (hl:LfB R r W)=>must_any R [58,58] r W hl
    unfold TkP wdV at HN
    dsimp only
    clear h h1 h2
    obtain⟨a,ha⟩:∃a,ofX x.s=a:=⟨_,rfl⟩
    rw[ha]at HO ⊢
    clear ha
    generalize (x.k:Int)=c0 at *
    generalize bs x.s=c1 at *
    generalize outT x.n=c2 at *
    generalize outV x.n=c3 at *
    obtain⟨y,hy⟩:∃y,mustW [58,58] r=y:=⟨_,rfl⟩
    rw[hy]at HM ⊢
    clear hy
    have hfd:=word_fd (.int .i64 c0) (.string c1) (.int .i64 c2) (.int .i64 c3)
    by_cases h0:a=0
    ·subst h0
     rw[if_pos rfl]
     unfold AxP PaP
     go_enter Tryz.func226,Tryz.ntmps226
     go_wp2_with (first
      |(go_at_call 180
        refine HT.out.mono ?_
        rintro e w1 ⟨rfl,q1,q2⟩
        have Q1:=Lib.hid q1
        have Q2:=Lib.hid q2
        clear q1 q2 HT)
      |(go_at_call 214
        refine(HA.out _ Q1.out).mono ?_
        rintro e w2 ⟨rfl,rfl⟩)
      |(go_at_call 228
        refine(HN.out _ Q1.out).mono ?_
        rintro e w2 ⟨rfl,q1,q2⟩
        have Q3:=Lib.hid (Q2.out.trans q2)
        clear q1 q2 HN)
      |(go_at_call 232
        refine(HO.out _).mono ?_
        rintro e w3 ⟨rfl,q1⟩
        have Q4:=Lib.hid (Q3.out.trans (But.of q1 (Nat.lt_of_lt_of_le hlt Q3.out.size)))
        clear q1 HO))
     exact⟨rfl,rfl,Q4.out⟩
    ·rw[if_neg h0]
     have k0:((a:Int)==0)=false:=by rw[beq_eq_false_iff_ne];omega
     cases y with
     |none=>
      unfold MuP PaP at HM
      show Calls _ _ _ _ (PaP R w)
      unfold PaP
      clear h0
      go_enter Tryz.func226,Tryz.ntmps226
      go_wp2_with (first
       |(go_at_call 180
         refine HT.out.mono ?_
         rintro e w1 ⟨rfl,q1,q2⟩
         have Q1:=Lib.hid q1
         have Q2:=Lib.hid q2
         clear q1 q2 HT)
       |(go_at_call 214
         refine(HA.out _ Q1.out).mono ?_
         rintro e w2 ⟨rfl,rfl⟩)
       |(go_at_call 228
         refine(HN.out _ Q1.out).mono ?_
         rintro e w2 ⟨rfl,q1,q2⟩
         have Q3:=Lib.hid (Q2.out.trans q2)
         have Q5:=Lib.hid q1
         clear q1 q2 HN)
       |(go_at_call 232
         refine(HO.out _).mono ?_
         rintro e w3 ⟨rfl,q1⟩
         have Q4:=Lib.hid (Q3.out.trans (But.of q1 (Nat.lt_of_lt_of_le hlt Q3.out.size)))
         have Q6:=Lib.hid (Q5.out.below q1)
         clear q1 HO)
       |(go_at_call 230
         refine(HM.out _ Q6.out).mono ?_
         rintro e w4 ⟨rfl,q1⟩
         have Q7:=Lib.hid (Q4.out.trans q1)
         clear q1 HM
         unfold pan31))
      exact⟨rfl,rfl,Q7.out⟩
     |some t=>
      unfold MuP TkP at HM
      show Calls _ _ _ _ (TkP R (.int .i64 (a:Int)) t w)
      unfold TkP
      clear h0
      go_enter Tryz.func226,Tryz.ntmps226
      go_wp2_with (first
       |(go_at_call 180
         refine HT.out.mono ?_
         rintro e w1 ⟨rfl,q1,q2⟩
         have Q1:=Lib.hid q1
         have Q2:=Lib.hid q2
         clear q1 q2 HT)
       |(go_at_call 214
         refine(HA.out _ Q1.out).mono ?_
         rintro e w2 ⟨rfl,rfl⟩)
       |(go_at_call 228
         refine(HN.out _ Q1.out).mono ?_
         rintro e w2 ⟨rfl,q1,q2⟩
         have Q3:=Lib.hid (Q2.out.trans q2)
         have Q5:=Lib.hid q1
         clear q1 q2 HN)
       |(go_at_call 232
         refine(HO.out _).mono ?_
         rintro e w3 ⟨rfl,q1⟩
         have Q4:=Lib.hid (Q3.out.trans (But.of q1 (Nat.lt_of_lt_of_le hlt Q3.out.size)))
         have Q6:=Lib.hid (Q5.out.below q1)
         clear q1 HO)
       |(go_at_call 230
         refine(HM.out _ Q6.out).mono ?_
         rintro e w4 ⟨rfl,q0,q1⟩
         have Q7:=Lib.hid (Q4.out.trans q1)
         have Q8:=Lib.hid q0
         clear q0 q1 HM))
      go_ret
      exact⟨rfl,Q8.out,Q7.out⟩
end Char
namespace Char
open Go.RowKit Go.Lib
def ExP (R:Nat)(w:World)(x:Option (Ex×List Wd))(e:Ending)(w':World):Prop:=match x with
 |none=>PaP R w e w'
 |some (x,ts)=>∃vk vs,e= .returned (exV x vk vs)∧ExOn w' (w.heap.size≤ ·) x vk vs∧LfB R ts w'∧But R w w'
def StP (R:Nat)(w:World)(x:Option (St×List Wd))(e:Ending)(w':World):Prop:=match x with
 |none=>PaP R w e w'
 |some (x,ts)=>∃vp,e= .returned (stpV x vp)∧StOn w' (w.heap.size≤ ·) x vp∧LfB R ts w'∧But R w w'
def EsP (R:Nat)(w:World)(x:Option (List Ex×List Wd))(e:Ending)(w':World):Prop:=match x with
 |none=>PaP R w e w'
 |some (xs,ts)=>∃v ys,e= .returned v∧ys.map (·.1)=xs∧RowEx w.heap.size w' v ys∧LfB R ts w'∧But R w w'
theorem LfB.set_ex {R b:Nat}{ts:List Wd}{w:World}{x:Ex}{vk vs:Value}(h:LfB R ts w)(hb:R<b):LfB R ts (setEx w b x vk vs):=
 h.keep (fun k hk=>setEx_ne (by omega)) (Nat.le_of_eq setEx_size.symm)
theorem LfB.set_st {R b:Nat}{ts:List Wd}{w:World}{x:St}{vp:Value}(h:LfB R ts w)(hb:R<b):LfB R ts (setSt w b x vp):=
 h.keep (fun k hk=>setSt_ne (by omega)) (Nat.le_of_eq setSt_size.symm)
theorem LfB.set_te {R b:Nat}{ts:List Wd}{w:World}{kd:Int}{nm:List UInt8}{hs:Bool}(h:LfB R ts w)(hb:R<b):LfB R ts (setTe w b kd nm hs):=
 h.keep (fun k hk=>setTe_ne (by omega)) (Nat.le_of_eq setTe_size.symm)
theorem But.up {R:Nat}{w w1 w2:World}(h:But R w w1)(hb:Below w.heap.size w1 w2)(hR:R<w.heap.size):But R w w2:=
 ⟨h.1.trans (hb.mono (by omega)),fun k hk hr=>(hb.block k hk).trans (h.2 k hk hr)⟩
theorem endExP {fn:Func}{p:Tmp}(h:fn.results= #[.cell p 28]){a:Act}{R:Nat}{w w3:World}{x:Ex}{ts:List Wd}{vk vs:Value}{o:Ex}{ok os:Value}(hk:w3.heap[w.heap.size]? =some (boxEx o ok os))(hl:LfB R ts w3)(hb:But R w w3)(ho:ExOn w3 (w.heap.size+1≤ ·) x vk vs)(hR:R<w.heap.size)
 (hp:a.tmps.getD p undef= .pointer (some ⟨w.heap.size,0,none⟩)) (hd:a.defers=[]):bodyPost Tryz.prog fn (ExP R w (some (x,ts))) .ret a (setEx w3 w.heap.size x vk vs):=
 endEx h _ w.heap.size (setEx_at hk) hp hd ⟨vk,vs,rfl,ExOn.move (fun b _ hF=>⟨Nat.le_of_succ_le hF,setEx_ne (by omega)⟩) _ _ _ ho,hl.set_ex hR,hb.up (setEx_below (Below.refl _ _) (Nat.le_refl _)) hR⟩
theorem endStP {fn:Func}{p:Tmp}(h:fn.results= #[.cell p 62]){a:Act}{R:Nat}{w w3:World}{x:St}{ts:List Wd}{vp:Value}{o:St}{ok:Value}(hk:w3.heap[w.heap.size]? =some (boxSt o ok))(hl:LfB R ts w3)(hb:But R w w3)(ho:StOn w3 (w.heap.size+1≤ ·) x vp)(hR:R<w.heap.size)
 (hp:a.tmps.getD p undef= .pointer (some ⟨w.heap.size,0,none⟩)) (hd:a.defers=[]):bodyPost Tryz.prog fn (StP R w (some (x,ts))) .ret a (setSt w3 w.heap.size x vp):=
 endSt h _ w.heap.size (setSt_at hk) hp hd ⟨vp,rfl,StOn.move (fun b _ hF=>⟨Nat.le_of_succ_le hF,setSt_ne (by omega)⟩) _ _ ho,hl.set_st hR,hb.up (setSt_below (Below.refl _ _) (Nat.le_refl _)) hR⟩
abbrev Te3:=Int×List UInt8×Bool
def teV (t:Te3):Value:= .agg #[.int .i64 t.1,.string (bs t.2.1),.bool t.2.2]
def TeP (R:Nat)(w:World)(x:Option (Te3×List Wd))(e:Ending)(w':World):Prop:=match x with
 |none=>PaP R w e w'
 |some (x,ts)=>e= .returned (teV x)∧LfB R ts w'∧But R w w'
theorem endTeP {fn:Func}{p:Tmp}(h:fn.results= #[.cell p 60]){a:Act}{R:Nat}{w w3:World}{x:Te3}{ts:List Wd}{o:Int}{on:List UInt8}{os:Bool}(hk:w3.heap[w.heap.size]? =some (boxTe o on os))(hl:LfB R ts w3)(hb:But R w w3)(hR:R<w.heap.size)
 (hp:a.tmps.getD p undef= .pointer (some ⟨w.heap.size,0,none⟩)) (hd:a.defers=[]):bodyPost Tryz.prog fn (TeP R w (some (x,ts))) .ret a (setTe w3 w.heap.size x.1 x.2.1 x.2.2):=
 endTe h _ w.heap.size (setTe_at hk) hp hd ⟨rfl,hl.set_te hR,hb.up (setTe_below (Below.refl _ _) (Nat.le_refl _)) hR⟩
end Char
namespace Char
open Go.RowKit Go.Lib
def Bx (R b:Nat)(o:Obj)(w:World):Prop:=R<b∧w.heap[b]? =some o
theorem Bx.lt {R b:Nat}{o:Obj}{w:World}(h:Bx R b o w):b<w.heap.size:=(Array.getElem?_eq_some_iff.1 h.2).1
theorem Bx.next {R b:Nat}{o:Obj}{w w':World}(h:Bx R b o w)(hb:But R w w'):Bx R b o w':=⟨h.1,(hb.2 b h.lt (by have :=h.1;omega)).trans h.2⟩
theorem Bx.below {R b:Nat}{o:Obj}{w w':World}(h:Bx R b o w)(hb:Below w.heap.size w w'):Bx R b o w':=⟨h.1,(hb.block b h.lt).trans h.2⟩
theorem Bx.box {R b:Nat}{o:Obj}{w:World}(h:Bx R b o w)(o2:Obj):Bx R b o (w.alloc o2):=h.below (below_box _)
theorem Bx.new {R:Nat}{w:World}(h:R<w.heap.size)(o:Obj):Bx R w.heap.size o (w.alloc o):=⟨h,World.alloc_heap_new w o⟩
theorem Bx.new1 {R:Nat}{w:World}(h:R<w.heap.size)(o o2:Obj):Bx R (w.heap.size+1) o2 ((w.alloc o).alloc o2):=⟨by omega,by simpa using World.alloc_heap_new (w.alloc o) o2⟩
theorem But.new (R:Nat)(w:World)(h:R<w.heap.size)(o:Obj):But R w (w.alloc o):=(But.refl R w).box h o
def putTe (w:World)(b:Nat)(nm:List UInt8):World:=(w.setCell ⟨b,1,none⟩ (.string (bs nm))).setCell ⟨b,2,none⟩ (.bool true)
theorem putTe_ne {w:World}{b k:Nat}{nm:List UInt8}(h:k≠b):(putTe w b nm).heap[k]? =w.heap[k]? :=by
 unfold putTe
 rw[heap_set_ne (a:=⟨b,2,none⟩) h,heap_set_ne (a:=⟨b,1,none⟩) h]
theorem LfB.put_te {R b:Nat}{ts:List Wd}{w:World}(h:LfB R ts w)(nm:List UInt8)(hb:R<b):LfB R ts (putTe w b nm):=
 h.keep (fun k hk=>putTe_ne (by omega)) (by simp[putTe])
theorem But.put_te {R b:Nat}{w w1:World}(h:But R w w1)(nm:List UInt8)(hR:R<w.heap.size)(hb:w.heap.size≤b):But R w (putTe w1 b nm):=
 h.up (((Below.refl _ _).setCell (p:=⟨b,1,none⟩) hb _).setCell (p:=⟨b,2,none⟩) hb _) hR
theorem Bx.put_te {R b c:Nat}{o:Obj}{w:World}(h:Bx R b o w)(nm:List UInt8)(hb:b≠c):Bx R b o (putTe w c nm):=⟨h.1,(putTe_ne hb).trans h.2⟩
theorem Bx.at_te {R b:Nat}{w:World}{kd:Int}{nm':List UInt8}{hs':Bool}(h:Bx R b (boxTe kd nm' hs') w)(nm:List UInt8):Bx R b (boxTe kd nm true) (putTe w b nm):=by
 refine⟨h.1,?_⟩
 have h0:=h.2
 unfold boxTe at h0 ⊢
 have h1:=heap_set_at (i:=1) (u:= .string (bs nm)) h0
 have h2:=heap_set_at (i:=2) (u:= .bool true) h1
 exact h2.trans (by simp)
theorem endTePb {fn:Func}{p:Tmp}(h:fn.results= #[.cell p 60]){a:Act}{R:Nat}{w w3:World}{x:Te3}{ts:List Wd}{o:Int}{on:List UInt8}{os:Bool}(b:Obj)(hk:w3.heap[w.heap.size]? =some (boxTe o on os))(hl:LfB R ts w3)(hb:But R w w3)(hR:R<w.heap.size)
 (hp:a.tmps.getD p undef= .pointer (some ⟨w.heap.size,0,none⟩)) (hd:a.defers=[]):bodyPost Tryz.prog fn (TeP R w (some (x,ts))) .ret a ((setTe w3 w.heap.size x.1 x.2.1 x.2.2).alloc b):=by
 have hs:(setTe w3 w.heap.size x.1 x.2.1 x.2.2).heap[w.heap.size]? =_:=setTe_at hk
 exact endTe h _ w.heap.size ((Below.heap_alloc _ _ _ (Array.getElem?_eq_some_iff.1 hs).1).trans hs) hp hd ⟨rfl,(hl.set_te hR).box _,(hb.up (setTe_below (Below.refl _ _) (Nat.le_refl _)) hR).box hR _⟩
theorem endExPb {fn:Func}{p:Tmp}(h:fn.results= #[.cell p 28]){a:Act}{R:Nat}{w w3:World}{x:Ex}{ts:List Wd}{vk vs:Value}{o:Ex}{ok os:Value}(b:Obj)(hk:w3.heap[w.heap.size]? =some (boxEx o ok os))(hl:LfB R ts w3)(hb:But R w w3)(ho:ExOn w3 (w.heap.size+1≤ ·) x vk vs)(hR:R<w.heap.size)
 (hp:a.tmps.getD p undef= .pointer (some ⟨w.heap.size,0,none⟩)) (hd:a.defers=[]):bodyPost Tryz.prog fn (ExP R w (some (x,ts))) .ret a ((setEx w3 w.heap.size x vk vs).alloc b):=by
 have hs:(setEx w3 w.heap.size x vk vs).heap[w.heap.size]? =_:=setEx_at hk
 refine endEx h _ w.heap.size ((Below.heap_alloc _ _ _ (Array.getElem?_eq_some_iff.1 hs).1).trans hs) hp hd ⟨vk,vs,rfl,ExOn.move (fun b hb hF=>⟨Nat.le_of_succ_le hF,?_⟩) _ _ _ ho,(hl.set_ex hR).box _,(hb.up (setEx_below (Below.refl _ _) (Nat.le_refl _)) hR).box hR _⟩
 exact(Below.heap_alloc _ _ _ (by rw[setEx_size];exact hb)).trans (setEx_ne (by omega))
end Char
end Go.Proofs.YtlmpkpjjakallaaGreatDoor
