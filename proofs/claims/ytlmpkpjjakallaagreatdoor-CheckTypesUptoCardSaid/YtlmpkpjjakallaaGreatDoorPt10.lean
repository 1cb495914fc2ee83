import Derived.Test.YtlmpkpjjakallaaGreatDoorPt09
import Derived.Test.YtlmpkpjjakallaaGreatDoorPt05
import Derived.Test.YtlmpkpjjakallaaGreatDoorPt04
import Derived.Laws.StructEq
import Derived.Shelf.Strings.Search3
import Derived.Shelf.Vars
import Derived.Test.YtlmpkpjjakallaaGreatDoorPt02
namespace Go.Proofs.YtlmpkpjjakallaaGreatDoor
namespace Char
open Go.RowKit Go.Lib
open Go.Proofs.YtlmpkpjjakallaaGreatDoor.Fig (outT outV)
set_option maxRecDepth 100000 in
theorem word_fd (c0 c1 c2 c3:Value)(w:World):(Instr.field 89 (.agg #[c0,c1,c2,c3]) 1).run Tryz.prog w= .ok c1 w:=by kernel_rfl
def axisL (ts:List Wd):Option (Int×List Wd):=
 if aheadL 1 [64] ts then some (9,ts.tail) else if atL 7 ts then (match ts with
  |[]=>none
  |x::r=>if ofX x.s=0 then none else (mustW [58,58] r).map fun t=>((ofX x.s:Int),t)) else some (1,ts)
def AxP (R:Nat)(x:Option (Int×List Wd))(w:World)(e:Ending)(w':World):Prop:=match x with
 |none=>PaP R w e w'
 |some (a,t)=>TkP R (.int .i64 a) t w e w'
set_option maxHeartbeats 4000000 in
set_option maxRecDepth 100000 in
theorem axis_any (R:Nat)(ts:List Wd)(w:World)(h:LfB R ts w):Calls Tryz.prog 226 #[.pointer (some ⟨R,0,none⟩)] w (AxP R (axisL ts) w):=by
 have hlt:=h.lt
 have HT:=Lib.hid (take_any R 1 [64] ts w h)
 unfold axisL
 unfold takeL TkP at HT
 cases h1:aheadL 1 [64] ts with
 |true=>
  rw[h1]at HT
  rw[if_pos rfl]at HT ⊢
  unfold AxP TkP
  clear h h1
  go_enter Tryz.func226,Tryz.ntmps226
  go_wp2_with (first
   |(go_at_call 180
     refine HT.out.mono ?_
     rintro e w1 ⟨rfl,q1,q2⟩
     have Q1:=Lib.hid q1
     have Q2:=Lib.hid q2
     clear q1 q2 HT))
  go_ret
  exact⟨rfl,Q1.out,Q2.out⟩
 |false=>
  rw[h1]at HT
  rw[if_neg (by simp)]at HT ⊢
  have HA:=Lib.hid fun(W:World) (hl:LfB R ts W)=>at_any R 7 ts W hl
  cases h2:atL 7 ts with
  |false=>
   rw[h2]at HA
   rw[if_neg (by simp)]
   unfold AxP TkP
   clear h h1 h2
   go_enter Tryz.func226,Tryz.ntmps226
   go_wp2_with (first
    |(go_at_call 180
      refine HT.out.mono ?_
      rintro e w1 ⟨rfl,q1,q2⟩
      have Q1:=Lib.hid q1
      have Q2:=Lib.hid q2
      clear q1 q2 HT)
    |(go_at_call 214
      refine(HA.out _ Q1.out).mono ?_
      rintro e w2 ⟨rfl,rfl⟩))
   go_ret
   exact⟨rfl,Q1.out,Q2.out⟩
  |true=>
   rw[h2]at HA
   rw[if_pos rfl]
   cases ts with
   |nil=>cases h2
   |cons x r=>
    have HN:=Lib.hid fun(W:World) (hl:LfB R (x::r) W)=>next_ok R x r W hl
    have HO:=Lib.hid fun(W:World)=>ofX_any x.s W
    have HM:=Lib.hid fun(W:World) (hl:LfB R r W)=>must_any R [58,58] r W hl
    unfold TkP wdV at HN
    dsimp only
    clear h h1 h2
    obtain⟨a,ha⟩:∃a,ofX x.s=a:=⟨_,rfl⟩
    rw[ha]at HO ⊢
    clear ha
    generalize (x.k:Int)=c0 at *
    generalize bs x.s=c1 at *
    generalize outT x.n=c2 at *
    generalize outV x.n=c3 at *
    obtain⟨y,hy⟩:∃y,mustW [58,58] r=y:=⟨_,rfl⟩
    rw[hy]at HM ⊢
    clear hy
    have hfd:=word_fd (.int .i64 c0) (.string c1) (.int .i64 c2) (.int .i64 c3)
    by_cases h0:a=0
    ·subst h0
     rw[if_pos rfl]
     unfold AxP PaP
     go_enter Tryz.func226,Tryz.ntmps226
     go_wp2_with (first
      |(go_at_call 180
        refine HT.out.mono ?_
        rintro e w1 ⟨rfl,q1,q2⟩
        have Q1:=Lib.hid q1
        have Q2:=Lib.hid q2
        clear q1 q2 HT)
      |(go_at_call 214
        refine(HA.out _ Q1.out).mono ?_
        rintro e w2 ⟨rfl,rfl⟩)
      |(go_at_call 228
        refine(HN.out _ Q1.out).mono ?_
        rintro e w2 ⟨rfl,q1,q2⟩
        have Q3:=Lib.hid (Q2.out.trans q2)
        clear q1 q2 HN)
      |(go_at_call 232
        refine(HO.out _).mono ?_
        rintro e w3 ⟨rfl,q1⟩
        have Q4:=Lib.hid (Q3.out.trans (But.of q1 (Nat.lt_of_lt_of_le hlt Q3.out.size)))
        clear q1 HO))
     exact⟨rfl,rfl,Q4.out⟩
    ·rw[if_neg h0]
     have k0:((a:Int)==0)=false:=by rw[beq_eq_false_iff_ne];omega
     cases y with
     |none=>
      unfold MuP PaP at HM
      show Calls _ _ _ _ (PaP R w)
      unfold PaP
      clear h0
      go_enter Tryz.func226,Tryz.ntmps226
      go_wp2_with (first
       |(go_at_call 180
         refine HT.out.mono ?_
         rintro e w1 ⟨rfl,q1,q2⟩
         have Q1:=Lib.hid q1
         have Q2:=Lib.hid q2
         clear q1 q2 HT)
       |(go_at_call 214
         refine(HA.out _ Q1.out).mono ?_
         rintro e w2 ⟨rfl,rfl⟩)
       |(go_at_call 228
         refine(HN.out _ Q1.out).mono ?_
         rintro e w2 ⟨rfl,q1,q2⟩
         have Q3:=Lib.hid (Q2.out.trans q2)
         have Q5:=Lib.hid q1
         clear q1 q2 HN)
       |(go_at_call 232
         refine(HO.out _).mono ?_
         rintro e w3 ⟨rfl,q1⟩
         have Q4:=Lib.hid (Q3.out.trans (But.of q1 (Nat.lt_of_lt_of_le hlt Q3.out.size)))
         have Q6:=Lib.hid (Q5.out.below q1)
         clear q1 HO)
       |(go_at_call 230
         refine(HM.out _ Q6.out).mono ?_
         rintro e w4 ⟨rfl,q1⟩
         have Q7:=Lib.hid (Q4.out.trans q1)
         clear q1 HM
         unfold pan31))
      exact⟨rfl,rfl,Q7.out⟩
     |some t=>
      unfold MuP TkP at HM
      show Calls _ _ _ _ (TkP R (.int .i64 (a:Int)) t w)
      unfold TkP
      clear h0
      go_enter Tryz.func226,Tryz.ntmps226
      go_wp2_with (first
       |(go_at_call 180
         refine HT.out.mono ?_
         rintro e w1 ⟨rfl,q1,q2⟩
         have Q1:=Lib.hid q1
         have Q2:=Lib.hid q2
         clear q1 q2 HT)
       |(go_at_call 214
         refine(HA.out _ Q1.out).mono ?_
         rintro e w2 ⟨rfl,rfl⟩)
       |(go_at_call 228
         refine(HN.out _ Q1.out).mono ?_
         rintro e w2 ⟨rfl,q1,q2⟩
         have Q3:=Lib.hid (Q2.out.trans q2)
         have Q5:=Lib.hid q1
         clear q1 q2 HN)
       |(go_at_call 232
         refine(HO.out _).mono ?_
         rintro e w3 ⟨rfl,q1⟩
         have Q4:=Lib.hid (Q3.out.trans (But.of q1 (Nat.lt_of_lt_of_le hlt Q3.out.size)))
         have Q6:=Lib.hid (Q5.out.below q1)
         clear q1 HO)
       |(go_at_call 230
         refine(HM.out _ Q6.out).mono ?_
         rintro e w4 ⟨rfl,q0,q1⟩
         have Q7:=Lib.hid (Q4.out.trans q1)
         have Q8:=Lib.hid q0
         clear q0 q1 HM))
      go_ret
      exact⟨rfl,Q8.out,Q7.out⟩
end Char
namespace Char
open Go.RowKit Go.Lib
def ExP (R:Nat)(w:World)(x:Option (Ex×List Wd))(e:Ending)(w':World):Prop:=match x with
 |none=>PaP R w e w'
 |some (x,ts)=>∃vk vs,e= .returned (exV x vk vs)∧ExOn w' (w.heap.size≤ ·) x vk vs∧LfB R ts w'∧But R w w'
def StP (R:Nat)(w:World)(x:Option (St×List Wd))(e:Ending)(w':World):Prop:=match x with
 |none=>PaP R w e w'
 |some (x,ts)=>∃vp,e= .returned (stpV x vp)∧StOn w' (w.heap.size≤ ·) x vp∧LfB R ts w'∧But R w w'
def EsP (R:Nat)(w:World)(x:Option (List Ex×List Wd))(e:Ending)(w':World):Prop:=match x with
 |none=>PaP R w e w'
 |some (xs,ts)=>∃v ys,e= .returned v∧ys.map (·.1)=xs∧RowEx w.heap.size w' v ys∧LfB R ts w'∧But R w w'
theorem LfB.set_ex {R b:Nat}{ts:List Wd}{w:World}{x:Ex}{vk vs:Value}(h:LfB R ts w)(hb:R<b):LfB R ts (setEx w b x vk vs):=
 h.keep (fun k hk=>setEx_ne (by omega)) (Nat.le_of_eq setEx_size.symm)
theorem LfB.set_st {R b:Nat}{ts:List Wd}{w:World}{x:St}{vp:Value}(h:LfB R ts w)(hb:R<b):LfB R ts (setSt w b x vp):=
 h.keep (fun k hk=>setSt_ne (by omega)) (Nat.le_of_eq setSt_size.symm)
theorem LfB.set_te {R b:Nat}{ts:List Wd}{w:World}{kd:Int}{nm:List UInt8}{hs:Bool}(h:LfB R ts w)(hb:R<b):LfB R ts (setTe w b kd nm hs):=
 h.keep (fun k hk=>setTe_ne (by omega)) (Nat.le_of_eq setTe_size.symm)
theorem But.up {R:Nat}{w w1 w2:World}(h:But R w w1)(hb:Below w.heap.size w1 w2)(hR:R<w.heap.size):But R w w2:=
 ⟨h.1.trans (hb.mono (by omega)),fun k hk hr=>(hb.block k hk).trans (h.2 k hk hr)⟩
theorem endExP {fn:Func}{p:Tmp}(h:fn.results= #[.cell p 28]){a:Act}{R:Nat}{w w3:World}{x:Ex}{ts:List Wd}{vk vs:Value}{o:Ex}{ok os:Value}(hk:w3.heap[w.heap.size]? =some (boxEx o ok os))(hl:LfB R ts w3)(hb:But R w w3)(ho:ExOn w3 (w.heap.size+1≤ ·) x vk vs)(hR:R<w.heap.size)
 (hp:a.tmps.getD p undef= .pointer (some ⟨w.heap.size,0,none⟩)) (hd:a.defers=[]):bodyPost Tryz.prog fn (ExP R w (some (x,ts))) .ret a (setEx w3 w.heap.size x vk vs):=
 endEx h _ w.heap.size (setEx_at hk) hp hd ⟨vk,vs,rfl,ExOn.move (fun b _ hF=>⟨Nat.le_of_succ_le hF,setEx_ne (by omega)⟩) _ _ _ ho,hl.set_ex hR,hb.up (setEx_below (Below.refl _ _) (Nat.le_refl _)) hR⟩
theorem endStP {fn:Func}{p:Tmp}(h:fn.results= #[.cell p 62]){a:Act}{R:Nat}{w w3:World}{x:St}{ts:List Wd}{vp:Value}{o:St}{ok:Value}(hk:w3.heap[w.heap.size]? =some (boxSt o ok))(hl:LfB R ts w3)(hb:But R w w3)(ho:StOn w3 (w.heap.size+1≤ ·) x vp)(hR:R<w.heap.size)
 (hp:a.tmps.getD p undef= .pointer (some ⟨w.heap.size,0,none⟩)) (hd:a.defers=[]):bodyPost Tryz.prog fn (StP R w (some (x,ts))) .ret a (setSt w3 w.heap.size x vp):=
 endSt h _ w.heap.size (setSt_at hk) hp hd ⟨vp,rfl,StOn.move (fun b _ hF=>⟨Nat.le_of_succ_le hF,setSt_ne (by omega)⟩) _ _ ho,hl.set_st hR,hb.up (setSt_below (Below.refl _ _) (Nat.le_refl _)) hR⟩
abbrev Te3:=Int×List UInt8×Bool
def teV (t:Te3):Value:= .agg #[.int .i64 t.1,.string (bs t.2.1),.bool t.2.2]
def TeP (R:Nat)(w:World)(x:Option (Te3×List Wd))(e:Ending)(w':World):Prop:=match x with
 |none=>PaP R w e w'
 |some (x,ts)=>e= .returned (teV x)∧LfB R ts w'∧But R w w'
theorem endTeP {fn:Func}{p:Tmp}(h:fn.results= #[.cell p 60]){a:Act}{R:Nat}{w w3:World}{x:Te3}{ts:List Wd}{o:Int}{on:List UInt8}{os:Bool}(hk:w3.heap[w.heap.size]? =some (boxTe o on os))(hl:LfB R ts w3)(hb:But R w w3)(hR:R<w.heap.size)
 (hp:a.tmps.getD p undef= .pointer (some ⟨w.heap.size,0,none⟩)) (hd:a.defers=[]):bodyPost Tryz.prog fn (TeP R w (some (x,ts))) .ret a (setTe w3 w.heap.size x.1 x.2.1 x.2.2):=
 endTe h _ w.heap.size (setTe_at hk) hp hd ⟨rfl,hl.set_te hR,hb.up (setTe_below (Below.refl _ _) (Nat.le_refl _)) hR⟩
end Char
namespace Char
open Go.RowKit Go.Lib
def sgCx:Array Value:=(signT.flatMap fun p=>[Value.string (bs p.1),Value.int .i64 p.2]).toArray
theorem sgCx_at {a:Int}(h0:0≤a)(h1:a<15):sgCx[a.toNat*2]? =some (.string (bs (signE a).1))∧sgCx[a.toNat*2+1]? =some (.int .i64 (signE a).2):=by
 obtain⟨n,rfl⟩:∃n:Nat,a=n:=⟨a.toNat,by omega⟩
 have hn:n<15:=by omega
 match n,hn with
 |0,_=>exact⟨rfl,rfl⟩
 |1,_=>exact⟨rfl,rfl⟩
 |2,_=>exact⟨rfl,rfl⟩
 |3,_=>exact⟨rfl,rfl⟩
 |4,_=>exact⟨rfl,rfl⟩
 |5,_=>exact⟨rfl,rfl⟩
 |6,_=>exact⟨rfl,rfl⟩
 |7,_=>exact⟨rfl,rfl⟩
 |8,_=>exact⟨rfl,rfl⟩
 |9,_=>exact⟨rfl,rfl⟩
 |10,_=>exact⟨rfl,rfl⟩
 |11,_=>exact⟨rfl,rfl⟩
 |12,_=>exact⟨rfl,rfl⟩
 |13,_=>exact⟨rfl,rfl⟩
 |14,_=>exact⟨rfl,rfl⟩
def sgV (p:List UInt8×Int):Value:= .agg #[.string (bs p.1),.int .i64 p.2]
theorem heap_last2 (w:World)(o1 o2:Obj):((w.alloc o1).alloc o2).heap[w.heap.size+1]? =some o2:=by
 have h:=heap_alloc_last (w.alloc o1) o2
 have e:(w.alloc o1).heap.size=w.heap.size+1:=by simp
 rwa [e]at h
theorem setRow2 (w:World)(o1:Obj)(c c':Array Value)(t:TypeId):((w.alloc o1).alloc (.cells c t)).setRow (w.heap.size+1) c'=(w.alloc o1).alloc (.cells c' t):=by
 have h:=World.setRow_alloc_new (w.alloc o1) c c' t
 have e:(w.alloc o1).heap.size=w.heap.size+1:=by simp
 rwa [e]at h
theorem sgCx_blk (w:World):((w.alloc (.cells #[.string ⟨#[]⟩,.int .i64 0] 101)).alloc (.cells sgCx 140)).heap[w.heap.size+1]? =some (.cells sgCx 140 (0,0)):=by
 simpa using World.alloc_heap_new (w.alloc (.cells #[.string ⟨#[]⟩,.int .i64 0] 101)) (.cells sgCx 140)
theorem endSg {fn:Func}{p:Tmp}(h:fn.results= #[.cell p 101]){a:Act}{R:Ending→World→Prop}(w1:World)(g:Nat){c0 c1:Value}(h0:w1.cell? ⟨g,0,none⟩=some c0)(h1:w1.cell? ⟨g,1,none⟩=some c1)
 (hp:a.tmps.getD p undef= .pointer (some ⟨g,0,none⟩)) (hd:a.defers=[]) (hR:R (.returned (.agg #[c0,c1])) w1):bodyPost Tryz.prog fn R .ret a w1:=by
 have hp':a.tmps[p]?.getD undef= .pointer (some ⟨g,0,none⟩):=by simpa using hp
 exact bodyPost_ret (by simp[results,h,hp',go_sem,h0,h1]) hd hR
set_option maxRecDepth 100000 in
set_option maxHeartbeats 4000000 in
theorem operX_any (a:Int)(w:World):
 Calls Tryz.prog 70 #[.int .i64 a] w fun e w'=>e= .returned (.agg #[.string (bs (signE a).1),.int .i64 (signE a).2])∧Below w.heap.size w w':=by
 have hb:∀o1 o2,Below w.heap.size w ((w.alloc o1).alloc o2):=fun _ _=>((Below.refl _ _).alloc (Nat.le_refl _) _).alloc (by simp) _
 have HB:=Lib.hid hb
 clear hb
 by_cases h0:a<0
 ·have k0:decide (a<0)=true:=decide_eq_true h0
  have HX:=Lib.hid (sign_no (.inl h0))
  go_enter Tryz.func70,Tryz.ntmps70
  go_wp2_with (first
   |((with_reducible refine wpList_buildTo rfl 140 _ rfl _ rfl sgCx (by kernel_rfl) ?_))
   |((with_reducible refine wpList_store_row rfl 140 _ _ rfl (w.heap.size+1) sgCx rfl rfl 140 _ (heap_last2 _ _ _) (by kernel_rfl) rfl (by kernel_rfl) ?_);rw[setRow2]))
  refine endSg Tryz.results70 _ w.heap.size (c0:= .string (bs (signE a).1)) (c1:= .int .i64 (signE a).2) ?_ ?_ (by rfl) rfl ⟨rfl,?_⟩
  ·rw[HX.out];go_simp;rfl
  ·rw[HX.out];go_simp
  ·exact HB.out _ _
 ·have k0:decide (a<0)=false:=decide_eq_false h0
  by_cases h1:15≤a
  ·have k1:decide (15≤a)=true:=decide_eq_true h1
   have HX:=Lib.hid (sign_no (.inr h1))
   go_enter Tryz.func70,Tryz.ntmps70
   go_wp2_with (first
    |((with_reducible refine wpList_buildTo rfl 140 _ rfl _ rfl sgCx (by kernel_rfl) ?_))
    |((with_reducible refine wpList_store_row rfl 140 _ _ rfl (w.heap.size+1) sgCx rfl rfl 140 _ (heap_last2 _ _ _) (by kernel_rfl) rfl (by kernel_rfl) ?_);rw[setRow2]))
   refine endSg Tryz.results70 _ w.heap.size (c0:= .string (bs (signE a).1)) (c1:= .int .i64 (signE a).2) ?_ ?_ (by rfl) rfl ⟨rfl,?_⟩
   ·rw[HX.out];go_simp;rfl
   ·rw[HX.out];go_simp
   ·exact HB.out _ _
  ·have k1:decide (15≤a)=false:=decide_eq_false h1
   obtain⟨s0,s1⟩:=sgCx_at (a:=a) (by omega) (by omega)
   have c0:((w.alloc (.cells #[.string ⟨#[]⟩,.int .i64 0] 101)).alloc (.cells sgCx 140)).cell? ⟨w.heap.size+1,a.toNat*2,none⟩=some (.string (bs (signE a).1)):=by rw[Lib.cell_of_heap (sgCx_blk w)];exact s0
   have c1:((w.alloc (.cells #[.string ⟨#[]⟩,.int .i64 0] 101)).alloc (.cells sgCx 140)).cell? ⟨w.heap.size+1,a.toNat*2+1,none⟩=some (.int .i64 (signE a).2):=by rw[Lib.cell_of_heap (sgCx_blk w)];exact s1
   have hz:0≤a:=by omega
   have hz1:a<15:=by omega
   generalize signE a=X at *
   go_enter Tryz.func70,Tryz.ntmps70
   go_wp2_with (first
    |((with_reducible refine wpList_buildTo rfl 140 _ rfl _ rfl sgCx (by kernel_rfl) ?_))
    |((with_reducible refine wpList_store_row rfl 140 _ _ rfl (w.heap.size+1) sgCx rfl rfl 140 _ (heap_last2 _ _ _) (by kernel_rfl) rfl (by kernel_rfl) ?_);rw[setRow2]))
   refine endSg Tryz.results70 _ w.heap.size (c0:= .string (bs (X).1)) (c1:= .int .i64 (X).2) ?_ ?_ (by rfl) rfl ⟨rfl,?_⟩
   ·go_simp
   ·go_simp
   ·exact HB.out _ _
end Char
namespace Char
open Go.RowKit Go.Lib
def Bx (R b:Nat)(o:Obj)(w:World):Prop:=R<b∧w.heap[b]? =some o
theorem Bx.lt {R b:Nat}{o:Obj}{w:World}(h:Bx R b o w):b<w.heap.size:=(Array.getElem?_eq_some_iff.1 h.2).1
theorem Bx.next {R b:Nat}{o:Obj}{w w':World}(h:Bx R b o w)(hb:But R w w'):Bx R b o w':=⟨h.1,(hb.2 b h.lt (by have :=h.1;omega)).trans h.2⟩
theorem Bx.below {R b:Nat}{o:Obj}{w w':World}(h:Bx R b o w)(hb:Below w.heap.size w w'):Bx R b o w':=⟨h.1,(hb.block b h.lt).trans h.2⟩
theorem Bx.box {R b:Nat}{o:Obj}{w:World}(h:Bx R b o w)(o2:Obj):Bx R b o (w.alloc o2):=h.below (below_box _)
theorem Bx.new {R:Nat}{w:World}(h:R<w.heap.size)(o:Obj):Bx R w.heap.size o (w.alloc o):=⟨h,World.alloc_heap_new w o⟩
theorem Bx.new1 {R:Nat}{w:World}(h:R<w.heap.size)(o o2:Obj):Bx R (w.heap.size+1) o2 ((w.alloc o).alloc o2):=⟨by omega,by simpa using World.alloc_heap_new (w.alloc o) o2⟩
theorem But.new (R:Nat)(w:World)(h:R<w.heap.size)(o:Obj):But R w (w.alloc o):=(But.refl R w).box h o
def putTe (w:World)(b:Nat)(nm:List UInt8):World:=(w.setCell ⟨b,1,none⟩ (.string (bs nm))).setCell ⟨b,2,none⟩ (.bool true)
theorem putTe_ne {w:World}{b k:Nat}{nm:List UInt8}(h:k≠b):(putTe w b nm).heap[k]? =w.heap[k]? :=by
 unfold putTe
 rw[heap_set_ne (a:=⟨b,2,none⟩) h,heap_set_ne (a:=⟨b,1,none⟩) h]
theorem LfB.put_te {R b:Nat}{ts:List Wd}{w:World}(h:LfB R ts w)(nm:List UInt8)(hb:R<b):LfB R ts (putTe w b nm):=
 h.keep (fun k hk=>putTe_ne (by omega)) (by simp[putTe])
theorem But.put_te {R b:Nat}{w w1:World}(h:But R w w1)(nm:List UInt8)(hR:R<w.heap.size)(hb:w.heap.size≤b):But R w (putTe w1 b nm):=
 h.up (((Below.refl _ _).setCell (p:=⟨b,1,none⟩) hb _).setCell (p:=⟨b,2,none⟩) hb _) hR
theorem Bx.put_te {R b c:Nat}{o:Obj}{w:World}(h:Bx R b o w)(nm:List UInt8)(hb:b≠c):Bx R b o (putTe w c nm):=⟨h.1,(putTe_ne hb).trans h.2⟩
theorem Bx.at_te {R b:Nat}{w:World}{kd:Int}{nm':List UInt8}{hs':Bool}(h:Bx R b (boxTe kd nm' hs') w)(nm:List UInt8):Bx R b (boxTe kd nm true) (putTe w b nm):=by
 refine⟨h.1,?_⟩
 have h0:=h.2
 unfold boxTe at h0 ⊢
 have h1:=heap_set_at (i:=1) (u:= .string (bs nm)) h0
 have h2:=heap_set_at (i:=2) (u:= .bool true) h1
 exact h2.trans (by simp)
theorem endTePb {fn:Func}{p:Tmp}(h:fn.results= #[.cell p 60]){a:Act}{R:Nat}{w w3:World}{x:Te3}{ts:List Wd}{o:Int}{on:List UInt8}{os:Bool}(b:Obj)(hk:w3.heap[w.heap.size]? =some (boxTe o on os))(hl:LfB R ts w3)(hb:But R w w3)(hR:R<w.heap.size)
 (hp:a.tmps.getD p undef= .pointer (some ⟨w.heap.size,0,none⟩)) (hd:a.defers=[]):bodyPost Tryz.prog fn (TeP R w (some (x,ts))) .ret a ((setTe w3 w.heap.size x.1 x.2.1 x.2.2).alloc b):=by
 have hs:(setTe w3 w.heap.size x.1 x.2.1 x.2.2).heap[w.heap.size]? =_:=setTe_at hk
 exact endTe h _ w.heap.size ((Below.heap_alloc _ _ _ (Array.getElem?_eq_some_iff.1 hs).1).trans hs) hp hd ⟨rfl,(hl.set_te hR).box _,(hb.up (setTe_below (Below.refl _ _) (Nat.le_refl _)) hR).box hR _⟩
theorem endExPb {fn:Func}{p:Tmp}(h:fn.results= #[.cell p 28]){a:Act}{R:Nat}{w w3:World}{x:Ex}{ts:List Wd}{vk vs:Value}{o:Ex}{ok os:Value}(b:Obj)(hk:w3.heap[w.heap.size]? =some (boxEx o ok os))(hl:LfB R ts w3)(hb:But R w w3)(ho:ExOn w3 (w.heap.size+1≤ ·) x vk vs)(hR:R<w.heap.size)
 (hp:a.tmps.getD p undef= .pointer (some ⟨w.heap.size,0,none⟩)) (hd:a.defers=[]):bodyPost Tryz.prog fn (ExP R w (some (x,ts))) .ret a ((setEx w3 w.heap.size x vk vs).alloc b):=by
 have hs:(setEx w3 w.heap.size x vk vs).heap[w.heap.size]? =_:=setEx_at hk
 refine endEx h _ w.heap.size ((Below.heap_alloc _ _ _ (Array.getElem?_eq_some_iff.1 hs).1).trans hs) hp hd ⟨vk,vs,rfl,ExOn.move (fun b hb hF=>⟨Nat.le_of_succ_le hF,?_⟩) _ _ _ ho,(hl.set_ex hR).box _,(hb.up (setEx_below (Below.refl _ _) (Nat.le_refl _)) hR).box hR _⟩
 exact(Below.heap_alloc _ _ _ (by rw[setEx_size];exact hb)).trans (setEx_ne (by omega))
end Char
namespace Char
open Go.RowKit Go.Lib
open Go.Proofs.YtlmpkpjjakallaaGreatDoor.Fig (outT outV)
def comL:List UInt8:=[99,111,109,109,101,110,116]
def txtL:List UInt8:=[116,101,120,116]
def pinL:List UInt8:=[112,114,111,99,101,115,115,105,110,103,45,105,110,115,116,114,117,99,116,105,111,110]
def tyK (s:List UInt8):Int:=if s=comL then 5 else if s=txtL then 4 else if s=pinL then 6 else 3
def typL (s:List UInt8)(ts:List Wd):Option (Te3×List Wd):=
 match mustW [40] ts with
 |none=>none
 |some t=>if tyK s=6∧atL 8 t=true then (match t with
   |[]=>none
   |x::r=>(mustW [41] r).map fun u=>((6,x.s,true),u))
  else (mustW [41] t).map fun u=>((tyK s,[],false),u)
theorem begin_te {R:Nat}{ts:List Wd}{w:World}(h:LfB R ts w)(A B:Obj):LfB R ts ((w.alloc A).alloc B)∧Bx R w.heap.size A ((w.alloc A).alloc B)∧Bx R (w.heap.size+1) B ((w.alloc A).alloc B)∧But R w ((w.alloc A).alloc B):=
 ⟨(h.box _).box _,(Bx.new h.lt A).box B,Bx.new1 h.lt A B,(But.new R w h.lt A).box h.lt B⟩
set_option maxRecDepth 100000 in
set_option maxHeartbeats 4000000 in
theorem typed_5 (R:Nat)(s:List UInt8)(ts:List Wd)(w:World)(h:LfB R ts w)(e5:s=comL):Calls Tryz.prog 233 #[.pointer (some ⟨R,0,none⟩),.string (bs s)] w (TeP R w (typL s ts)):=by
 have hlt:=h.lt
 obtain⟨l0,a0,b0,c0⟩:=begin_te h (boxTe 0 [] false) (boxTe 5 [] false)
 have L0:=Lib.hid l0
 have A0:=Lib.hid a0
 have B0:=Lib.hid b0
 have C0:=Lib.hid c0
 have s0:((bs s).toList==comL)=true:=by rw[bs_tl,beq_iff_eq];exact e5
 simp only[comL]at s0
 have hk:tyK s=5:=by unfold tyK;simp[e5]
 unfold typL
 rw[hk]
 have hm:=fun(W:World) (hl:LfB R ts W)=>must_any R [40] ts W hl
 clear hk e5 l0 a0 b0 c0 h
 generalize bs s=S at *
 cases h1:mustW [40] ts with
 |none=>
  rw[h1]at hm
  have HM:=Lib.hid hm
  unfold MuP PaP at HM
  show Calls _ _ _ _ (PaP R w)
  unfold PaP
  clear hm h1
  go_enter Tryz.func233,Tryz.ntmps233
  go_wp2_with (first
   |(go_at_call 230
     refine(HM.out _ L0.out).mono ?_
     rintro e w1 ⟨rfl,q2⟩
     have C1:=Lib.hid (C0.out.trans q2)
     clear q2 HM
     unfold pan31))
  exact⟨rfl,rfl,C1.out⟩
 |some t=>
  rw[h1]at hm
  have hm:∀(W:World),LfB R ts W→Calls Tryz.prog 230 #[.pointer (some ⟨R,0,none⟩),.string ⟨#[40]⟩] W (TkP R (.tuple #[]) t W):=hm
  have HM:=Lib.hid hm
  unfold TkP at HM
  clear hm h1
  dsimp only
  rw[if_neg (by simp)]
  have hm2:=fun(W:World) (hl:LfB R t W)=>must_any R [41] t W hl
  cases h2:mustW [41] t with
  |none=>
   rw[h2]at hm2
   have hm2:∀(W:World),LfB R t W→Calls Tryz.prog 230 #[.pointer (some ⟨R,0,none⟩),.string ⟨#[41]⟩] W (PaP R W):=hm2
   have HM2:=Lib.hid hm2
   unfold PaP at HM2
   show Calls _ _ _ _ (PaP R w)
   unfold PaP
   clear hm2 h2
   go_enter Tryz.func233,Tryz.ntmps233
   go_wp2_with (first
    |(go_at_call 230
      first
       |(refine(HM.out _ L0.out).mono ?_
         rintro e w1 ⟨rfl,q1,q2⟩
         have L1:=Lib.hid q1
         have A1:=Lib.hid (A0.out.next q2)
         have B1:=Lib.hid (B0.out.next q2)
         have C1:=Lib.hid (C0.out.trans q2)
         obtain⟨⟨d0,d1,d2⟩,df⟩:=boxTe_blk B1.out.2
         clear q1 q2 HM L0 A0 B0 C0)
       |(refine(HM2.out _ L1.out).mono ?_
         rintro e w3 ⟨rfl,q2⟩
         have C3:=Lib.hid (C1.out.trans q2)
         clear q2 HM2
         unfold pan31)))
   exact⟨rfl,rfl,C3.out⟩
  |some u=>
   rw[h2]at hm2
   have hm2:∀(W:World),LfB R t W→Calls Tryz.prog 230 #[.pointer (some ⟨R,0,none⟩),.string ⟨#[41]⟩] W (TkP R (.tuple #[]) u W):=hm2
   have HM2:=Lib.hid hm2
   unfold TkP at HM2
   show Calls _ _ _ _ (TeP R w (some ((5,[],false),u)))
   clear hm2 h2
   go_enter Tryz.func233,Tryz.ntmps233
   go_wp2_with (first
    |(go_at_call 230
      first
       |(refine(HM.out _ L0.out).mono ?_
         rintro e w1 ⟨rfl,q1,q2⟩
         have L1:=Lib.hid q1
         have A1:=Lib.hid (A0.out.next q2)
         have B1:=Lib.hid (B0.out.next q2)
         have C1:=Lib.hid (C0.out.trans q2)
         obtain⟨⟨d0,d1,d2⟩,df⟩:=boxTe_blk B1.out.2
         clear q1 q2 HM L0 A0 B0 C0)
       |(refine(HM2.out _ L1.out).mono ?_
         rintro e w3 ⟨rfl,q1,q2⟩
         have L3:=Lib.hid q1
         have A3:=Lib.hid (A1.out.next q2)
         have B3:=Lib.hid (B1.out.next q2)
         have C3:=Lib.hid (C1.out.trans q2)
         obtain⟨⟨f0,f1,f2⟩,ff⟩:=boxTe_blk B3.out.2
         obtain⟨_,gf⟩:=boxTe_blk A3.out.2
         clear q1 q2 HM2)))
   exact endTeP Tryz.results233 (x:=(5,[],false)) A3.out.2 L3.out C3.out hlt rfl rfl
set_option maxRecDepth 100000 in
set_option maxHeartbeats 4000000 in
theorem typed_4 (R:Nat)(s:List UInt8)(ts:List Wd)(w:World)(h:LfB R ts w)(e5:s≠comL)(e4:s=txtL):Calls Tryz.prog 233 #[.pointer (some ⟨R,0,none⟩),.string (bs s)] w (TeP R w (typL s ts)):=by
 have hlt:=h.lt
 obtain⟨l0,a0,b0,c0⟩:=begin_te h (boxTe 0 [] false) (boxTe 4 [] false)
 have L0:=Lib.hid l0
 have A0:=Lib.hid a0
 have B0:=Lib.hid b0
 have C0:=Lib.hid c0
 have s0:((bs s).toList==comL)=false:=by rw[bs_tl,beq_eq_false_iff_ne];exact e5
 have s1:((bs s).toList==txtL)=true:=by rw[bs_tl,beq_iff_eq];exact e4
 simp only[comL,txtL]at s0 s1
 have hk:tyK s=4:=by unfold tyK;simp[e4,comL,txtL]
 unfold typL
 rw[hk]
 have hm:=fun(W:World) (hl:LfB R ts W)=>must_any R [40] ts W hl
 clear hk e5 e4 l0 a0 b0 c0 h
 generalize bs s=S at *
 cases h1:mustW [40] ts with
 |none=>
  rw[h1]at hm
  have HM:=Lib.hid hm
  unfold MuP PaP at HM
  show Calls _ _ _ _ (PaP R w)
  unfold PaP
  clear hm h1
  go_enter Tryz.func233,Tryz.ntmps233
  go_wp2_with (first
   |(go_at_call 230
     refine(HM.out _ L0.out).mono ?_
     rintro e w1 ⟨rfl,q2⟩
     have C1:=Lib.hid (C0.out.trans q2)
     clear q2 HM
     unfold pan31))
  exact⟨rfl,rfl,C1.out⟩
 |some t=>
  rw[h1]at hm
  have hm:∀(W:World),LfB R ts W→Calls Tryz.prog 230 #[.pointer (some ⟨R,0,none⟩),.string ⟨#[40]⟩] W (TkP R (.tuple #[]) t W):=hm
  have HM:=Lib.hid hm
  unfold TkP at HM
  clear hm h1
  dsimp only
  rw[if_neg (by simp)]
  have hm2:=fun(W:World) (hl:LfB R t W)=>must_any R [41] t W hl
  cases h2:mustW [41] t with
  |none=>
   rw[h2]at hm2
   have hm2:∀(W:World),LfB R t W→Calls Tryz.prog 230 #[.pointer (some ⟨R,0,none⟩),.string ⟨#[41]⟩] W (PaP R W):=hm2
   have HM2:=Lib.hid hm2
   unfold PaP at HM2
   show Calls _ _ _ _ (PaP R w)
   unfold PaP
   clear hm2 h2
   go_enter Tryz.func233,Tryz.ntmps233
   go_wp2_with (first
    |(go_at_call 230
      first
       |(refine(HM.out _ L0.out).mono ?_
         rintro e w1 ⟨rfl,q1,q2⟩
         have L1:=Lib.hid q1
         have A1:=Lib.hid (A0.out.next q2)
         have B1:=Lib.hid (B0.out.next q2)
         have C1:=Lib.hid (C0.out.trans q2)
         obtain⟨⟨d0,d1,d2⟩,df⟩:=boxTe_blk B1.out.2
         clear q1 q2 HM L0 A0 B0 C0)
       |(refine(HM2.out _ L1.out).mono ?_
         rintro e w3 ⟨rfl,q2⟩
         have C3:=Lib.hid (C1.out.trans q2)
         clear q2 HM2
         unfold pan31)))
   exact⟨rfl,rfl,C3.out⟩
  |some u=>
   rw[h2]at hm2
   have hm2:∀(W:World),LfB R t W→Calls Tryz.prog 230 #[.pointer (some ⟨R,0,none⟩),.string ⟨#[41]⟩] W (TkP R (.tuple #[]) u W):=hm2
   have HM2:=Lib.hid hm2
   unfold TkP at HM2
   show Calls _ _ _ _ (TeP R w (some ((4,[],false),u)))
   clear hm2 h2
   go_enter Tryz.func233,Tryz.ntmps233
   go_wp2_with (first
    |(go_at_call 230
      first
       |(refine(HM.out _ L0.out).mono ?_
         rintro e w1 ⟨rfl,q1,q2⟩
         have L1:=Lib.hid q1
         have A1:=Lib.hid (A0.out.next q2)
         have B1:=Lib.hid (B0.out.next q2)
         have C1:=Lib.hid (C0.out.trans q2)
         obtain⟨⟨d0,d1,d2⟩,df⟩:=boxTe_blk B1.out.2
         clear q1 q2 HM L0 A0 B0 C0)
       |(refine(HM2.out _ L1.out).mono ?_
         rintro e w3 ⟨rfl,q1,q2⟩
         have L3:=Lib.hid q1
         have A3:=Lib.hid (A1.out.next q2)
         have B3:=Lib.hid (B1.out.next q2)
         have C3:=Lib.hid (C1.out.trans q2)
         obtain⟨⟨f0,f1,f2⟩,ff⟩:=boxTe_blk B3.out.2
         obtain⟨_,gf⟩:=boxTe_blk A3.out.2
         clear q1 q2 HM2)))
   exact endTeP Tryz.results233 (x:=(4,[],false)) A3.out.2 L3.out C3.out hlt rfl rfl
set_option maxRecDepth 100000 in
set_option maxHeartbeats 4000000 in
theorem typed_6 (R:Nat)(s:List UInt8)(ts:List Wd)(w:World)(h:LfB R ts w)(e5:s≠comL)(e4:s≠txtL)(e6:s=pinL):Calls Tryz.prog 233 #[.pointer (some ⟨R,0,none⟩),.string (bs s)] w (TeP R w (typL s ts)):=by
 have hlt:=h.lt
 obtain⟨l0,a0,b0,c0⟩:=begin_te h (boxTe 0 [] false) (boxTe 6 [] false)
 have L0:=Lib.hid l0
 have A0:=Lib.hid a0
 have B0:=Lib.hid b0
 have C0:=Lib.hid c0
 have s0:((bs s).toList==comL)=false:=by rw[bs_tl,beq_eq_false_iff_ne];exact e5
 have s1:((bs s).toList==txtL)=false:=by rw[bs_tl,beq_eq_false_iff_ne];exact e4
 have s2:((bs s).toList==pinL)=true:=by rw[bs_tl,beq_iff_eq];exact e6
 simp only[comL,txtL,pinL]at s0 s1 s2
 have hk:tyK s=6:=by unfold tyK;simp[e6,comL,txtL,pinL]
 unfold typL
 rw[hk]
 have hm:=fun(W:World) (hl:LfB R ts W)=>must_any R [40] ts W hl
 clear hk e5 e4 e6 l0 a0 b0 c0 h
 generalize bs s=S at *
 cases h1:mustW [40] ts with
 |none=>
  rw[h1]at hm
  have HM:=Lib.hid hm
  unfold MuP PaP at HM
  show Calls _ _ _ _ (PaP R w)
  unfold PaP
  clear hm h1
  go_enter Tryz.func233,Tryz.ntmps233
  go_wp2_with (first
   |(go_at_call 230
     refine(HM.out _ L0.out).mono ?_
     rintro e w1 ⟨rfl,q2⟩
     have C1:=Lib.hid (C0.out.trans q2)
     clear q2 HM
     unfold pan31))
  exact⟨rfl,rfl,C1.out⟩
 |some t=>
  rw[h1]at hm
  have hm:∀(W:World),LfB R ts W→Calls Tryz.prog 230 #[.pointer (some ⟨R,0,none⟩),.string ⟨#[40]⟩] W (TkP R (.tuple #[]) t W):=hm
  have HM:=Lib.hid hm
  unfold TkP at HM
  clear hm h1
  dsimp only
  have ha:=fun(W:World) (hl:LfB R t W)=>at_any R 8 t W hl
  cases h3:atL 8 t with
  |false=>
   rw[h3]at ha
   have HA:=Lib.hid ha
   rw[if_neg (by simp)]
   clear ha h3
   have hm2:=fun(W:World) (hl:LfB R t W)=>must_any R [41] t W hl
   cases h2:mustW [41] t with
   |none=>
    rw[h2]at hm2
    have hm2:∀(W:World),LfB R t W→Calls Tryz.prog 230 #[.pointer (some ⟨R,0,none⟩),.string ⟨#[41]⟩] W (PaP R W):=hm2
    have HM2:=Lib.hid hm2
    unfold PaP at HM2
    show Calls _ _ _ _ (PaP R w)
    unfold PaP
    clear hm2 h2
    go_enter Tryz.func233,Tryz.ntmps233
    go_wp2_with (first
     |(go_at_call 230
       first
        |(refine(HM.out _ L0.out).mono ?_
          rintro e w1 ⟨rfl,q1,q2⟩
          have L1:=Lib.hid q1
          have A1:=Lib.hid (A0.out.next q2)
          have B1:=Lib.hid (B0.out.next q2)
          have C1:=Lib.hid (C0.out.trans q2)
          obtain⟨⟨d0,d1,d2⟩,df⟩:=boxTe_blk B1.out.2
          clear q1 q2 HM L0 A0 B0 C0)
        |(refine(HM2.out _ L1.out).mono ?_
          rintro e w3 ⟨rfl,q2⟩
          have C3:=Lib.hid (C1.out.trans q2)
          clear q2 HM2
          unfold pan31))
     |(go_at_call 214
       refine(HA.out _ L1.out).mono ?_
       rintro e w2 ⟨rfl,rfl⟩))
    exact⟨rfl,rfl,C3.out⟩
   |some u=>
    rw[h2]at hm2
    have hm2:∀(W:World),LfB R t W→Calls Tryz.prog 230 #[.pointer (some ⟨R,0,none⟩),.string ⟨#[41]⟩] W (TkP R (.tuple #[]) u W):=hm2
    have HM2:=Lib.hid hm2
    unfold TkP at HM2
    show Calls _ _ _ _ (TeP R w (some ((6,[],false),u)))
    clear hm2 h2
    go_enter Tryz.func233,Tryz.ntmps233
    go_wp2_with (first
     |(go_at_call 230
       first
        |(refine(HM.out _ L0.out).mono ?_
          rintro e w1 ⟨rfl,q1,q2⟩
          have L1:=Lib.hid q1
          have A1:=Lib.hid (A0.out.next q2)
          have B1:=Lib.hid (B0.out.next q2)
          have C1:=Lib.hid (C0.out.trans q2)
          obtain⟨⟨d0,d1,d2⟩,df⟩:=boxTe_blk B1.out.2
          clear q1 q2 HM L0 A0 B0 C0)
        |(refine(HM2.out _ L1.out).mono ?_
          rintro e w3 ⟨rfl,q1,q2⟩
          have L3:=Lib.hid q1
          have A3:=Lib.hid (A1.out.next q2)
          have B3:=Lib.hid (B1.out.next q2)
          have C3:=Lib.hid (C1.out.trans q2)
          obtain⟨⟨f0,f1,f2⟩,ff⟩:=boxTe_blk B3.out.2
          obtain⟨_,gf⟩:=boxTe_blk A3.out.2
          clear q1 q2 HM2))
     |(go_at_call 214
       refine(HA.out _ L1.out).mono ?_
       rintro e w2 ⟨rfl,rfl⟩))
    exact endTeP Tryz.results233 (x:=(6,[],false)) A3.out.2 L3.out C3.out hlt rfl rfl
  |true=>
   rw[h3]at ha
   have HA:=Lib.hid ha
   rw[if_pos (by simp)]
   cases t with
   |nil=>cases h3
   |cons x r=>
    have hn:=fun(W:World) (hl:LfB R (x::r) W)=>next_ok R x r W hl
    have HN:=Lib.hid hn
    unfold TkP wdV at HN
    have hfd:=word_fd (.int .i64 (x.k:Int)) (.string (bs x.s)) (.int .i64 (outT x.n)) (.int .i64 (outV x.n))
    dsimp only
    clear ha h3 hn
    have hm2:=fun(W:World) (hl:LfB R r W)=>must_any R [41] r W hl
    cases h2:mustW [41] r with
    |none=>
     rw[h2]at hm2
     have hm2:∀(W:World),LfB R r W→Calls Tryz.prog 230 #[.pointer (some ⟨R,0,none⟩),.string ⟨#[41]⟩] W (PaP R W):=hm2
     have HM2:=Lib.hid hm2
     unfold PaP at HM2
     show Calls _ _ _ _ (PaP R w)
     unfold PaP
     clear hm2 h2
     go_enter Tryz.func233,Tryz.ntmps233
     go_wp2_with (first
      |(go_at_call 230
        first
         |(refine(HM.out _ L0.out).mono ?_
           rintro e w1 ⟨rfl,q1,q2⟩
           have L1:=Lib.hid q1
           have A1:=Lib.hid (A0.out.next q2)
           have B1:=Lib.hid (B0.out.next q2)
           have C1:=Lib.hid (C0.out.trans q2)
           obtain⟨⟨d0,d1,d2⟩,df⟩:=boxTe_blk B1.out.2
           clear q1 q2 HM L0 A0 B0 C0)
         |(refine(HM2.out _ L2.out).mono ?_
           rintro e w3 ⟨rfl,q2⟩
           have C3:=Lib.hid (C2.out.trans q2)
           clear q2 HM2
           unfold pan31))
      |(go_at_call 214
        refine(HA.out _ L1.out).mono ?_
        rintro e w2 ⟨rfl,rfl⟩)
      |(go_at_call 228
        refine(HN.out _ L1.out).mono ?_
        rintro e w2 ⟨rfl,q1,q2⟩
        have b2:=B1.out.next q2
        have L2:=Lib.hid (q1.put_te x.s b2.1)
        have A2:=Lib.hid ((A1.out.next q2).put_te x.s (by omega:w.heap.size≠w.heap.size+1))
        have B2:=Lib.hid (b2.at_te x.s)
        have C2:=Lib.hid ((C1.out.trans q2).put_te x.s hlt (by omega:w.heap.size≤w.heap.size+1))
        obtain⟨⟨e0,e1,e2⟩,ef⟩:=boxTe_blk b2.2
        clear q1 q2 HN b2))
     exact⟨rfl,rfl,C3.out⟩
    |some u=>
     rw[h2]at hm2
     have hm2:∀(W:World),LfB R r W→Calls Tryz.prog 230 #[.pointer (some ⟨R,0,none⟩),.string ⟨#[41]⟩] W (TkP R (.tuple #[]) u W):=hm2
     have HM2:=Lib.hid hm2
     unfold TkP at HM2
     show Calls _ _ _ _ (TeP R w (some ((6,x.s,true),u)))
     clear hm2 h2
     go_enter Tryz.func233,Tryz.ntmps233
     go_wp2_with (first
      |(go_at_call 230
        first
         |(refine(HM.out _ L0.out).mono ?_
           rintro e w1 ⟨rfl,q1,q2⟩
           have L1:=Lib.hid q1
           have A1:=Lib.hid (A0.out.next q2)
           have B1:=Lib.hid (B0.out.next q2)
           have C1:=Lib.hid (C0.out.trans q2)
           obtain⟨⟨d0,d1,d2⟩,df⟩:=boxTe_blk B1.out.2
           clear q1 q2 HM L0 A0 B0 C0)
         |(refine(HM2.out _ L2.out).mono ?_
           rintro e w3 ⟨rfl,q1,q2⟩
           have L3:=Lib.hid q1
           have A3:=Lib.hid (A2.out.next q2)
           have B3:=Lib.hid (B2.out.next q2)
           have C3:=Lib.hid (C2.out.trans q2)
           obtain⟨⟨f0,f1,f2⟩,ff⟩:=boxTe_blk B3.out.2
           obtain⟨_,gf⟩:=boxTe_blk A3.out.2
           clear q1 q2 HM2))
      |(go_at_call 214
        refine(HA.out _ L1.out).mono ?_
        rintro e w2 ⟨rfl,rfl⟩)
      |(go_at_call 228
        refine(HN.out _ L1.out).mono ?_
        rintro e w2 ⟨rfl,q1,q2⟩
        have b2:=B1.out.next q2
        have L2:=Lib.hid (q1.put_te x.s b2.1)
        have A2:=Lib.hid ((A1.out.next q2).put_te x.s (by omega:w.heap.size≠w.heap.size+1))
        have B2:=Lib.hid (b2.at_te x.s)
        have C2:=Lib.hid ((C1.out.trans q2).put_te x.s hlt (by omega:w.heap.size≤w.heap.size+1))
        obtain⟨⟨e0,e1,e2⟩,ef⟩:=boxTe_blk b2.2
        clear q1 q2 HN b2))
     exact endTeP Tryz.results233 (x:=(6,x.s,true)) A3.out.2 L3.out C3.out hlt rfl rfl
set_option maxRecDepth 100000 in
set_option maxHeartbeats 4000000 in
theorem typed_3 (R:Nat)(s:List UInt8)(ts:List Wd)(w:World)(h:LfB R ts w)(e5:s≠comL)(e4:s≠txtL)(e6:s≠pinL):Calls Tryz.prog 233 #[.pointer (some ⟨R,0,none⟩),.string (bs s)] w (TeP R w (typL s ts)):=by
 have hlt:=h.lt
 obtain⟨l0,a0,b0,c0⟩:=begin_te h (boxTe 0 [] false) (boxTe 3 [] false)
 have L0:=Lib.hid l0
 have A0:=Lib.hid a0
 have B0:=Lib.hid b0
 have C0:=Lib.hid c0
 have s0:((bs s).toList==comL)=false:=by rw[bs_tl,beq_eq_false_iff_ne];exact e5
 have s1:((bs s).toList==txtL)=false:=by rw[bs_tl,beq_eq_false_iff_ne];exact e4
 have s2:((bs s).toList==pinL)=false:=by rw[bs_tl,beq_eq_false_iff_ne];exact e6
 simp only[comL,txtL,pinL]at s0 s1 s2
 have hk:tyK s=3:=by unfold tyK;simp[e5,e4,e6]
 unfold typL
 rw[hk]
 have hm:=fun(W:World) (hl:LfB R ts W)=>must_any R [40] ts W hl
 clear hk e5 e4 e6 l0 a0 b0 c0 h
 generalize bs s=S at *
 cases h1:mustW [40] ts with
 |none=>
  rw[h1]at hm
  have HM:=Lib.hid hm
  unfold MuP PaP at HM
  show Calls _ _ _ _ (PaP R w)
  unfold PaP
  clear hm h1
  go_enter Tryz.func233,Tryz.ntmps233
  go_wp2_with (first
   |(go_at_call 230
     refine(HM.out _ L0.out).mono ?_
     rintro e w1 ⟨rfl,q2⟩
     have C1:=Lib.hid (C0.out.trans q2)
     clear q2 HM
     unfold pan31))
  exact⟨rfl,rfl,C1.out⟩
 |some t=>
  rw[h1]at hm
  have hm:∀(W:World),LfB R ts W→Calls Tryz.prog 230 #[.pointer (some ⟨R,0,none⟩),.string ⟨#[40]⟩] W (TkP R (.tuple #[]) t W):=hm
  have HM:=Lib.hid hm
  unfold TkP at HM
  clear hm h1
  dsimp only
  rw[if_neg (by simp)]
  have hm2:=fun(W:World) (hl:LfB R t W)=>must_any R [41] t W hl
  cases h2:mustW [41] t with
  |none=>
   rw[h2]at hm2
   have hm2:∀(W:World),LfB R t W→Calls Tryz.prog 230 #[.pointer (some ⟨R,0,none⟩),.string ⟨#[41]⟩] W (PaP R W):=hm2
   have HM2:=Lib.hid hm2
   unfold PaP at HM2
   show Calls _ _ _ _ (PaP R w)
   unfold PaP
   clear hm2 h2
   go_enter Tryz.func233,Tryz.ntmps233
   go_wp2_with (first
    |(go_at_call 230
      first
       |(refine(HM.out _ L0.out).mono ?_
         rintro e w1 ⟨rfl,q1,q2⟩
         have L1:=Lib.hid q1
         have A1:=Lib.hid (A0.out.next q2)
         have B1:=Lib.hid (B0.out.next q2)
         have C1:=Lib.hid (C0.out.trans q2)
         obtain⟨⟨d0,d1,d2⟩,df⟩:=boxTe_blk B1.out.2
         clear q1 q2 HM L0 A0 B0 C0)
       |(refine(HM2.out _ L1.out).mono ?_
         rintro e w3 ⟨rfl,q2⟩
         have C3:=Lib.hid (C1.out.trans q2)
         clear q2 HM2
         unfold pan31)))
   exact⟨rfl,rfl,C3.out⟩
  |some u=>
   rw[h2]at hm2
   have hm2:∀(W:World),LfB R t W→Calls Tryz.prog 230 #[.pointer (some ⟨R,0,none⟩),.string ⟨#[41]⟩] W (TkP R (.tuple #[]) u W):=hm2
   have HM2:=Lib.hid hm2
   unfold TkP at HM2
   show Calls _ _ _ _ (TeP R w (some ((3,[],false),u)))
   clear hm2 h2
   go_enter Tryz.func233,Tryz.ntmps233
   go_wp2_with (first
    |(go_at_call 230
      first
       |(refine(HM.out _ L0.out).mono ?_
         rintro e w1 ⟨rfl,q1,q2⟩
         have L1:=Lib.hid q1
         have A1:=Lib.hid (A0.out.next q2)
         have B1:=Lib.hid (B0.out.next q2)
         have C1:=Lib.hid (C0.out.trans q2)
         obtain⟨⟨d0,d1,d2⟩,df⟩:=boxTe_blk B1.out.2
         clear q1 q2 HM L0 A0 B0 C0)
       |(refine(HM2.out _ L1.out).mono ?_
         rintro e w3 ⟨rfl,q1,q2⟩
         have L3:=Lib.hid q1
         have A3:=Lib.hid (A1.out.next q2)
         have B3:=Lib.hid (B1.out.next q2)
         have C3:=Lib.hid (C1.out.trans q2)
         obtain⟨⟨f0,f1,f2⟩,ff⟩:=boxTe_blk B3.out.2
         obtain⟨_,gf⟩:=boxTe_blk A3.out.2
         clear q1 q2 HM2)))
   exact endTeP Tryz.results233 (x:=(3,[],false)) A3.out.2 L3.out C3.out hlt rfl rfl
end Char
namespace Char
open Go.Shelf Go.RowKit
def layHasRen:Go.Shelf.Ren:=⟨fun |143=>158|144=>118|217=>204|219=>187|224=>206|225=>205|266=>221|267=>207|314=>222|n=>n,fun |3=>3|4=>4|5=>5|9=>9|46=>156|51=>224|146=>225|n=>n,fun |1=>2|n=>n⟩
theorem layHas:Lays.n144 Tryz.prog layHasRen:={
 mixed:=by kernel_rfl
 f143:=Tryz.func158.trans (congrArg some (by kernel_rfl))
 f144:=Tryz.func118.trans (congrArg some (by kernel_rfl))
 f217:=Tryz.func204.trans (congrArg some (by kernel_rfl))
 f219:=Tryz.func187.trans (congrArg some (by kernel_rfl))
 f224:=Tryz.func206.trans (congrArg some (by kernel_rfl))
 f225:=Tryz.func205.trans (congrArg some (by kernel_rfl))
 f266:=Tryz.func221.trans (congrArg some (by kernel_rfl))
 f267:=Tryz.func207.trans (congrArg some (by kernel_rfl))
 f314:=Tryz.func222.trans (congrArg some (by kernel_rfl))
 t3:=Tryz.underlying3
 a3:=Tryz.isAgg3
 z3:=Tryz.sizeOf3
 v3:=Tryz.zeroValue3
 t4:=Tryz.underlying4
 a4:=Tryz.isAgg4
 z4:=Tryz.sizeOf4
 v4:=Tryz.zeroValue4
 t5:=Tryz.underlying5
 a5:=Tryz.isAgg5
 z5:=Tryz.sizeOf5
 v5:=Tryz.zeroValue5
 t9:=Tryz.underlying9
 a9:=Tryz.isAgg9
 z9:=Tryz.sizeOf9
 v9:=Tryz.zeroValue9
 t46:=Tryz.underlying156
 a46:=Tryz.isAgg156
 z46:=Tryz.sizeOf156
 v46:=Tryz.zeroValue156
 t51:=Tryz.underlying224
 a51:=Tryz.isAgg224
 z51:=Tryz.sizeOf224
 v51:=Tryz.zeroValue224
 t146:=Tryz.underlying225
 a146:=Tryz.isAgg225
 z146:=Tryz.sizeOf225
 v146:=Tryz.zeroValue225
 g1:=by kernel_rfl}
theorem contains_any (s t:ByteArray)(w:World)(hs:s.size<4294967281)(hm:MaxL w):
 Calls Tryz.prog 118 #[.string s,.string t] w fun e w'=>e= .returned (.bool (Lib.contains s.data.toList t.data.toList))∧w=w':=by
 obtain⟨m,hm⟩:=hm
 exact(Any.strings_Contains layHas s t m w hs hm).mono fun e w' h=>⟨h.1,h.2.symm⟩
end Char
namespace Char
open Go.RowKit Go.Lib
theorem tw_len_full (c:UInt8):∀l:List UInt8,(l.takeWhile (· != c)).length=l.length↔l.contains c=false
 |[]=>by simp
 |x::r=>by
  have ih:=tw_len_full c r
  rw[List.takeWhile_cons,List.contains_cons]
  by_cases h:x=c
  ·subst h
   simp
  ·have h1:(x != c)=true:=by simpa using h
   have h2:(c==x)=false:=by simpa using fun e=>h e.symm
   rw[if_pos h1,h2,Bool.false_or,List.length_cons,List.length_cons,←ih]
   omega
theorem contains_byte (c:UInt8)(l:List UInt8):Lib.contains l [c]=l.contains c:=by
 unfold Lib.contains
 rw[index_one]
 have h:=tw_len_full c l
 by_cases hf:(l.takeWhile (· != c)).length=l.length
 ·rw[if_pos hf,h.1 hf]
  rfl
 ·rw[if_neg hf]
  cases hc:l.contains c with
  |false=>exact absurd (h.2 hc) hf
  |true=>rw[decide_eq_true_iff];omega
theorem beq_decX {α:Type}[BEq α][LawfulBEq α][DecidableEq α](a b:α):(a==b)=decide (a=b):=by rw[Bool.eq_iff_iff,beq_iff_eq,decide_eq_true_iff]
set_option maxRecDepth 100000 in
set_option maxHeartbeats 4000000 in
theorem litP_any (s:List UInt8)(w:World)(hs:s.length≤1048576)(hG:Gl w):
 Calls Tryz.prog 66 #[.string (bs s)] w fun e w'=>e= .returned (.bool (litD s))∧Below w.heap.size w w':=by
 have hsz:=bs_size s
 have HT:=Lib.hid (text_any (bs s) w (by omega) hG.1)
 have hc1:=fun W (hW:Below w.heap.size w W)=>contains_any (bs s) ⟨#[34]⟩ W (by omega) (hG.below hW).2
 have hc2:=fun W (hW:Below w.heap.size w W)=>contains_any (bs s) ⟨#[39]⟩ W (by omega) (hG.below hW).2
 simp only[contains_byte,bs_list]at hc1 hc2
 have HC1:=Lib.hid hc1
 have HC2:=Lib.hid hc2
 rw[bs_list]at HT
 unfold litD
 generalize txD s=T at *
 generalize s.contains 34=Q at *
 generalize s.contains 39=A at *
 clear hc1 hc2 hG
 cases T
 ·go_enter Tryz.func66,Tryz.ntmps66
  go_wp2_with fail
  refine HT.out.mono ?_
  rintro e w1 ⟨rfl,hb1⟩
  go_wp2_with fail
  go_ret
  exact⟨rfl,hb1⟩
 ·cases Q
  ·go_enter Tryz.func66,Tryz.ntmps66
   go_wp2_with fail
   refine HT.out.mono ?_
   rintro e w1 ⟨rfl,hb1⟩
   go_wp2_with fail
   refine(HC1.out w1 hb1).mono ?_
   rintro e w2 ⟨rfl,rfl⟩
   go_wp2_with fail
   go_ret
   exact⟨rfl,hb1⟩
  ·cases A<;>
   ·go_enter Tryz.func66,Tryz.ntmps66
    go_wp2_with fail
    refine HT.out.mono ?_
    rintro e w1 ⟨rfl,hb1⟩
    go_wp2_with fail
    refine(HC1.out w1 hb1).mono ?_
    rintro e w2 ⟨rfl,rfl⟩
    go_wp2_with fail
    refine(HC2.out w1 hb1).mono ?_
    rintro e w2 ⟨rfl,rfl⟩
    go_wp2_with fail
    go_ret
    exact⟨rfl,hb1⟩
set_option maxRecDepth 100000 in
set_option maxHeartbeats 4000000 in
theorem funcP_any (s:List UInt8)(w:World)(hs:s.length≤1048576)(hG:Gl w):
 Calls Tryz.prog 68 #[.string (bs s)] w fun e w'=>e= .returned (.bool (fnD s))∧Below w.heap.size w w':=by
 have hsz:=bs_size s
 have HN:=Lib.hid (chName_any (bs s) w (by omega) hG.1)
 have e1:((bs s).toList==[99,111,109,109,101,110,116])=decide (s=comL):=by rw[bs_tl];exact beq_decX _ _
 have e2:((bs s).toList==[116,101,120,116])=decide (s=txtL):=by rw[bs_tl];exact beq_decX _ _
 have e3:((bs s).toList==[112,114,111,99,101,115,115,105,110,103,45,105,110,115,116,114,117,99,116,105,111,110])=decide (s=pinL):=by rw[bs_tl];exact beq_decX _ _
 have e4:((bs s).toList==[110,111,100,101])=decide (s=[110,111,100,101]):=by rw[bs_tl];exact beq_decX _ _
 have hd:fnD s=(!(decide (s=comL)||(decide (s=txtL)||(decide (s=pinL)||decide (s=[110,111,100,101]))))&&nmD (bs s)):=by
  unfold fnD
  congr 2
  rw[show typesL=[comL,txtL,pinL,[110,111,100,101]] from rfl]
  simp only[List.contains_cons,List.contains_nil,Bool.or_false,beq_decX]
 rw[hd]
 clear hd
 generalize decide (s=comL)=b1 at *
 generalize decide (s=txtL)=b2 at *
 generalize decide (s=pinL)=b3 at *
 generalize decide (s=[110,111,100,101])=b4 at *
 generalize nmD (bs s)=M at *
 clear hG
 cases b1
 ·cases b2
  ·cases b3
   ·cases b4
    ·go_enter Tryz.func68,Tryz.ntmps68
     go_wp2_with fail
     refine HN.out.mono ?_
     rintro e w1 ⟨rfl,hb1⟩
     go_wp2_with fail
     go_ret
     exact⟨by simp,hb1⟩
    ·go_enter Tryz.func68,Tryz.ntmps68
     go_wp2_with fail
     go_ret
     exact⟨rfl,Below.refl _ _⟩
   ·go_enter Tryz.func68,Tryz.ntmps68
    go_wp2_with fail
    go_ret
    exact⟨rfl,Below.refl _ _⟩
  ·go_enter Tryz.func68,Tryz.ntmps68
   go_wp2_with fail
   go_ret
   exact⟨rfl,Below.refl _ _⟩
 ·go_enter Tryz.func68,Tryz.ntmps68
  go_wp2_with fail
  go_ret
  exact⟨rfl,Below.refl _ _⟩
set_option maxRecDepth 100000 in
set_option maxHeartbeats 4000000 in
theorem leadsP_any (op tg vl:Int)(s:List UInt8)(ab:Bool)(nk ns j1 j2:Nat)(o1 o2:Option Addr)(w:World):
 Calls Tryz.prog 65 #[.agg #[.int .i64 op,.string (bs s),.int .i64 tg,.int .i64 vl,.bool ab,.slice o1 nk j1,.slice o2 ns j2]] w fun e w'=>e= .returned (.bool (leadsB ab nk ns))∧Below w.heap.size w w':=by
 have HB:=Lib.hid fun ob=>(Below.refl _ w).alloc (Nat.le_refl _) ob
 unfold leadsB
 by_cases h0:ns=0
 ·have k0:((ns:Int)==0)=true:=by rw[beq_iff_eq];omega
  rw[if_pos h0]
  have e1:((nk:Int)==0)=decide (nk=0):=by rw[Bool.eq_iff_iff,beq_iff_eq,decide_eq_true_iff];omega
  generalize decide (nk=0)=K at *
  clear h0
  cases ab<;>
  ·go_enter Tryz.func65,Tryz.ntmps65
   go_wp2_with fail
   go_ret
   exact⟨by simp,HB.out _⟩
 ·have k0:((ns:Int)==0)=false:=by rw[beq_eq_false_iff_ne];omega
  rw[if_neg h0]
  have e1:((nk:Int)==0)=decide (nk=0):=by rw[Bool.eq_iff_iff,beq_iff_eq,decide_eq_true_iff];omega
  generalize decide (nk=0)=K at *
  clear h0
  cases ab<;>
  ·go_enter Tryz.func65,Tryz.ntmps65
   go_wp2_with fail
   go_ret
   exact⟨by simp,HB.out _⟩
end Char
end Go.Proofs.YtlmpkpjjakallaaGreatDoor
