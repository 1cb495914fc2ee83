import Derived.Test.YtlmpkpjjakallaaGreatDoorPk16
import Derived.Test.YtlmpkpjjakallaaGreatDoorPk06
namespace Go.Proofs.YtlmpkpjjakallaaGreatDoor
namespace Char
open Go.RowKit Go.Lib
open Go.Proofs.YtlmpkpjjakallaaGreatDoor.Fig (outT outV)
theorem endTe2 {fn:Func}{p q:Tmp}(h:fn.results= #[.cell p 60,.tmp q]){a:Act}{R:Ending→World→Prop}(w1:World)(g:Nat){kd:Int}{nm:List UInt8}{hs:Bool}{n:Value}(hk:w1.heap[g]? =some (boxTe kd nm hs))
 (hp:a.tmps.getD p undef= .pointer (some ⟨g,0,none⟩)) (hq:a.tmps.getD q undef=n) (hd:a.defers=[]) (hR:R (.returned (.tuple #[.agg #[(.int .i64 kd),(.string (bs nm)),(.bool hs)],n])) w1):bodyPost Tryz.prog fn R .ret a w1:=by
 have hp':a.tmps[p]?.getD undef= .pointer (some ⟨g,0,none⟩):=by simpa using hp
 have hq':a.tmps[q]?.getD undef=n:=by simpa using hq
 obtain⟨⟨a0,a1,a2⟩,_⟩:=boxTe_blk hk
 exact bodyPost_ret (by simp[results,h,hp',hq',go_sem,a0,a1,a2]) hd hR
def teO:Option (Te3×List Wd)→Te3
 |none=>(0,[],false)
 |some (t,_)=>t
def cntO {α:Type}(l:List Wd):Option (α×List Wd)→Int
 |none=>0
 |some (_,r)=>(l.length:Int)-(r.length:Int)
def TtP (w:World)(l:List Wd)(e:Ending)(w':World):Prop:=e= .returned (.tuple #[teV (teO (testL l)),.int .i64 (cntO l (testL l))])∧Below w.heap.size w w'
theorem end_test {fn:Func}(h:fn.results= #[.cell 2 60,.tmp 3]){a:Act}{w w1:World}{l:List Wd}(kd:Int)(nm:List UInt8)(hs:Bool)(n:Int)(hk:w1.heap[w.heap.size]? =some (boxTe kd nm hs))(hb:Below w.heap.size w w1)
 (hl:teO (testL l)=(kd,nm,hs)∧cntO l (testL l)=n)
 (hp:a.tmps.getD 2 undef= .pointer (some ⟨w.heap.size,0,none⟩)) (hq:a.tmps.getD 3 undef= .int .i64 n) (hd:a.defers=[]):bodyPost Tryz.prog fn (TtP w l) .ret a w1:=
 endTe2 h _ w.heap.size hk hp hq hd ⟨by rw[hl.1,hl.2];rfl,hb⟩
theorem testL_ok {l:List Wd}{t:Te3}{r:List Wd}{n:Int}(h:testL l=some (t,r))(hn:(l.length:Int)=r.length+n):teO (testL l)=t∧cntO l (testL l)=n:=by
 rw[h]
 refine⟨rfl,?_⟩
 unfold cntO
 dsimp only
 omega
theorem testL_no {l:List Wd}(h:testL l=none):teO (testL l)=(0,[],false)∧cntO l (testL l)=0:=by
 rw[h]
 exact⟨rfl,rfl⟩
theorem box_next {w w1:World}(hb:Below (w.alloc (boxTe 0 [] false)).heap.size (w.alloc (boxTe 0 [] false)) w1):w1.heap[w.heap.size]? =some (boxTe 0 [] false)∧(∀i,w1.frozen? ⟨w.heap.size,i,none⟩=false)∧w.heap.size<w1.heap.size∧Below w.heap.size w w1:=by
 have h:=(hb.block w.heap.size (by simp)).trans (World.alloc_heap_new w _)
 refine⟨h,(boxTe_blk h).2,?_,((below_box _).trans (hb.mono (by simp)))⟩
 have :=hb.size
 simp at this
 omega
theorem box_two {w w1 w3:World}{kd:Int}(ka:w1.heap[w.heap.size]? =some (boxTe 0 [] false))(hl:w.heap.size<w1.heap.size)(hw:Below w.heap.size w w1)(hb:Below (w1.alloc (boxTe kd [] false)).heap.size (w1.alloc (boxTe kd [] false)) w3):
 w3.heap[w.heap.size]? =some (boxTe 0 [] false)∧(∀i,w3.frozen? ⟨w.heap.size,i,none⟩=false)∧w.heap.size<w3.heap.size∧w3.heap[w1.heap.size]? =some (boxTe kd [] false)∧Below w.heap.size w w3:=by
 have h1:=(hb.block w.heap.size (by simp;omega)).trans ((Below.heap_alloc w1 _ _ hl).trans ka)
 have h2:=(hb.block w1.heap.size (by simp)).trans (World.alloc_heap_new w1 _)
 have :=hb.size
 simp at this
 refine⟨h1,(boxTe_blk h1).2,by omega,h2,hw.trans ((((below_box _).mono (Nat.le_of_lt hl)).trans (hb.mono (by simp;omega))))⟩
theorem end_testS {fn:Func}(h:fn.results= #[.cell 2 60,.tmp 3]){a:Act}{w:World}(w1:World){l:List Wd}{kd':Int}{nm':List UInt8}{hs':Bool}(kd:Int)(nm:List UInt8)(hs:Bool)(n:Int)(hk:w1.heap[w.heap.size]? =some (boxTe kd' nm' hs'))(hb:Below w.heap.size w w1)
 (hl:teO (testL l)=(kd,nm,hs)∧cntO l (testL l)=n)
 (hp:a.tmps.getD 2 undef= .pointer (some ⟨w.heap.size,0,none⟩)) (hq:a.tmps.getD 3 undef= .int .i64 n) (hd:a.defers=[]):bodyPost Tryz.prog fn (TtP w l) .ret a (setTe w1 w.heap.size kd nm hs):=
 end_test h kd nm hs n (setTe_at hk) (setTe_below hb (Nat.le_refl _)) hl hp hq hd
theorem box_again {w w1 w3 w5:World}{kd:Int}(ka:w3.heap[w.heap.size]? =some (boxTe 0 [] false))(kb:w3.heap[w1.heap.size]? =some (boxTe kd [] false))(hw:Below w.heap.size w w3)(hb:Below w3.heap.size w3 w5):
 w5.heap[w.heap.size]? =some (boxTe 0 [] false)∧(∀i,w5.frozen? ⟨w.heap.size,i,none⟩=false)∧w.heap.size<w5.heap.size∧w5.heap[w1.heap.size]? =some (boxTe kd [] false)∧Below w.heap.size w w5:=by
 have l1:=(Array.getElem?_eq_some_iff.1 ka).1
 have l2:=(Array.getElem?_eq_some_iff.1 kb).1
 have h1:=(hb.block w.heap.size l1).trans ka
 have h2:=(hb.block w1.heap.size l2).trans kb
 exact⟨h1,(boxTe_blk h1).2,Nat.lt_of_lt_of_le l1 hb.size,h2,hw.trans (hb.mono (Nat.le_of_lt l1))⟩
theorem mustW_cons (m:List UInt8)(x:Wd)(r:List Wd):mustW m (x::r)=if mkW m x=true then some r else none:=rfl
set_option maxRecDepth 100000 in
set_option maxHeartbeats 1000000 in
theorem refTest_any (ts:List Wd)(o:Option Addr)(c:Nat)(w:World)(h:WSl w o c ts)(hl:ts.length≤800):
 Calls Tryz.prog 220 #[.slice o ts.length c] w (TtP w ts):=by
 have HM:=Lib.hid fun(x:Wd) (m:List UInt8) (W:World)=>mark13_any x m W
 unfold BoP wdV at HM
 cases ts with
 |nil=>
  clear h
  go_enter Tryz.func220,Tryz.ntmps220
  go_wp2_with fail
  exact end_test Tryz.results220 0 [] false 0 (World.alloc_heap_new w _) (below_box _) (testL_no rfl) rfl rfl rfl
 |cons x r=>
  obtain⟨g,off,rfl,hgl,x0,x1,x2,x3⟩:=h.word 0 (by simp)
  simp only[Nat.zero_mul,Nat.add_zero,List.getElem_cons_zero]at x0 x1 x2 x3
  have H:=Lib.hid h
  clear h
  have hne:((r.length:Int)+1==0)=false:=by rw[beq_eq_false_iff_ne];omega
  by_cases h2:x.k=2
  ·have k2:((x.k:Int)==2)=true:=by rw[h2];rfl
   have E0:Hid (testL (x::r)=some ((1,x.s,false),r)):=Lib.hid (by rw[testL,if_pos h2])
   clear h2
   go_enter Tryz.func220,Tryz.ntmps220
   go_wp2_with fail
   exact end_test Tryz.results220 1 x.s false 1 (World.alloc_heap_new w _) (below_box _) (testL_ok E0.out (by rw[List.length_cons];omega)) rfl rfl rfl
  have k2:((x.k:Int)==2)=false:=by rw[beq_eq_false_iff_ne];omega
  by_cases h3:x.k=3
  ·have k3:((x.k:Int)==3)=true:=by rw[h3];rfl
   have E0:Hid (testL (x::r)=some ((2,[],false),r)):=Lib.hid (by rw[testL,if_neg h2,if_pos h3])
   clear h2 h3
   go_enter Tryz.func220,Tryz.ntmps220
   go_wp2_with fail
   exact end_test Tryz.results220 2 [] false 1 (World.alloc_heap_new w _) (below_box _) (testL_ok E0.out (by rw[List.length_cons];omega)) rfl rfl rfl
  have k3:((x.k:Int)==3)=false:=by rw[beq_eq_false_iff_ne];omega
  by_cases h4:x.k=4
  ·have k4:((x.k:Int) != 4)=false:=by rw[h4];rfl
   have E1:Hid (testL (x::r)=typL x.s r):=Lib.hid (by rw[testL,if_neg h2,if_neg h3,if_pos h4])
   clear h2 h3 h4
   by_cases hlen:r.length<2
   ·have k5:decide ((r.length:Int)+1<3)=true:=decide_eq_true (by omega)
    have E0:Hid (testL (x::r)=none):=Lib.hid (by
     rw[E1.out]
     unfold typL mustW
     match r,hlen with
     |[],_=>rfl
     |[y],_=>
      rw[List.tail_cons]
      by_cases hy:aheadL 1 [40] [y]=true
      ·rw[if_pos hy]
       dsimp only
       rw[if_neg (by rintro⟨_,h⟩;cases h)]
       rfl
      ·rw[if_neg hy])
    clear hlen
    go_enter Tryz.func220,Tryz.ntmps220
    go_wp2_with fail
    exact end_test Tryz.results220 0 [] false 0 (World.alloc_heap_new w _) (below_box _) (testL_no E0.out) rfl rfl rfl
   ·obtain⟨y,z,r,rfl⟩:∃y z q,r=y::z::q:=by
     match r,hlen with
     |[],h=>exact absurd (by simp) h
     |[_],h=>exact absurd (by simp) h
     |y::z::q,_=>exact⟨y,z,q,rfl⟩
    obtain⟨g',off',e,_,y0,y1,y2,y3⟩:=H.out.word 1 (by simp)
    cases e
    obtain⟨g',off',e,_,z0,z1,z2,z3⟩:=H.out.word 2 (by simp)
    cases e
    simp only[Nat.one_mul,List.getElem_cons_succ,List.getElem_cons_zero]at y0 y1 y2 y3 z0 z1 z2 z3
    have hgen:∃n:Nat,(x::y::z::r).length=n:=⟨_,rfl⟩
    obtain⟨n,hn⟩:=hgen
    have hn3:3≤n:=by rw[←hn];simp
    have hrn:n=r.length+3:=by rw[←hn];rfl
    rw[hn]
    have n0:((n:Int)==0)=false:=by rw[beq_eq_false_iff_ne];omega
    have n3:decide ((n:Int)<3)=false:=decide_eq_false (by omega)
    have i0:(0:Int)<(n:Int):=by omega
    have i1:(1:Int)<(n:Int):=by omega
    have i2:(2:Int)<(n:Int):=by omega
    have HN:=Lib.hid hrn
    have j1:1<n:=by omega
    have j2:2<n:=by omega
    clear hn hrn hne hlen hl
    simp only[Nat.add_assoc,Nat.reduceAdd,Nat.reduceMul]at y0 y1 y2 y3 z0 z1 z2 z3
    have HCL:Hid (∀W,Below w.heap.size w W→g<W.heap.size∧W.cell? ⟨g,off,none⟩=some (.int .i64 (x.k:Int))∧W.cell? ⟨g,off+1,none⟩=some (.string (bs x.s))∧W.cell? ⟨g,off+2,none⟩=some (.int .i64 (outT x.n))∧W.cell? ⟨g,off+3,none⟩=some (.int .i64 (outV x.n))∧W.cell? ⟨g,off+4,none⟩=some (.int .i64 (y.k:Int))∧W.cell? ⟨g,off+5,none⟩=some (.string (bs y.s))∧W.cell? ⟨g,off+6,none⟩=some (.int .i64 (outT y.n))∧W.cell? ⟨g,off+7,none⟩=some (.int .i64 (outV y.n))∧W.cell? ⟨g,off+8,none⟩=some (.int .i64 (z.k:Int))∧W.cell? ⟨g,off+9,none⟩=some (.string (bs z.s))∧W.cell? ⟨g,off+10,none⟩=some (.int .i64 (outT z.n))∧W.cell? ⟨g,off+11,none⟩=some (.int .i64 (outV z.n))):=Lib.hid fun W hW=>⟨Nat.lt_of_lt_of_le hgl hW.size,(hW.cell (p:=⟨g,_,none⟩) hgl).trans x0,(hW.cell (p:=⟨g,_,none⟩) hgl).trans x1,(hW.cell (p:=⟨g,_,none⟩) hgl).trans x2,(hW.cell (p:=⟨g,_,none⟩) hgl).trans x3,(hW.cell (p:=⟨g,_,none⟩) hgl).trans y0,(hW.cell (p:=⟨g,_,none⟩) hgl).trans y1,(hW.cell (p:=⟨g,_,none⟩) hgl).trans y2,(hW.cell (p:=⟨g,_,none⟩) hgl).trans y3,(hW.cell (p:=⟨g,_,none⟩) hgl).trans z0,(hW.cell (p:=⟨g,_,none⟩) hgl).trans z1,(hW.cell (p:=⟨g,_,none⟩) hgl).trans z2,(hW.cell (p:=⟨g,_,none⟩) hgl).trans z3⟩
    cases hy:mkW [40] y with
    |false=>
     have HY:Hid (∀W,Calls Tryz.prog 89 #[.agg #[.int .i64 (y.k:Int),.string (bs y.s),.int .i64 (outT y.n),.int .i64 (outV y.n)],.string ⟨#[40]⟩] W fun e w'=>e= .returned (.bool false)∧Below W.heap.size W w'):=Lib.hid fun W=>by have :=HM.out y [40] W;rwa [hy]at this
     have E0:Hid (testL (x::y::z::r)=none):=Lib.hid (by rw[E1.out,typL,mustW_cons,hy];rfl)
     clear hy HM
     go_enter Tryz.func220,Tryz.ntmps220
     go_wp2_with (first
      |(go_at_call 89
        refine(HY.out _).mono ?_
        rintro e w1 ⟨rfl,hb1⟩
        obtain⟨ka,kf,kl,hb2⟩:=box_next hb1
        clear x0 x1 x2 x3 y0 y1 y2 y3 z0 z1 z2 z3 hgl
        obtain⟨hg1,x0,x1,x2,x3,y0,y1,y2,y3,z0,z1,z2,z3⟩:=HCL.out w1 hb2
        obtain⟨⟨ka0,ka1,ka2⟩,_⟩:=boxTe_blk ka
        have KA1:=Lib.hid ka
        have HB1:=Lib.hid hb2
        have HL1:=Lib.hid kl
        clear hb1 hb2 ka HY))
     exact end_testS Tryz.results220 w1 0 [] false 0 KA1.out HB1.out (testL_no E0.out) rfl rfl rfl
    |true=>
     have HY:Hid (∀W,Calls Tryz.prog 89 #[.agg #[.int .i64 (y.k:Int),.string (bs y.s),.int .i64 (outT y.n),.int .i64 (outV y.n)],.string ⟨#[40]⟩] W fun e w'=>e= .returned (.bool true)∧Below W.heap.size W w'):=Lib.hid fun W=>by have :=HM.out y [40] W;rwa [hy]at this
     have E2:Hid (testL (x::y::z::r)=if tyK x.s=6∧(z.k:Int)==8 then (mustW [41] r).map (fun u=>((6,z.s,true),u)) else (mustW [41] (z::r)).map fun u=>((tyK x.s,[],false),u)):=Lib.hid (by rw[E1.out,typL,mustW_cons,hy];rfl)
     clear hy E1
     by_cases e4:x.s=txtL
     ·have e5:x.s≠comL:=by rw[e4];decide
      have e6:x.s≠pinL:=by rw[e4];decide
      have hty:tyK x.s=4:=by rw[e4];decide+kernel
      have s4:((bs x.s).toList==txtL)=true:=by rw[bs_tl,beq_iff_eq];exact e4
      simp only[txtL]at s4
      have s5:((bs x.s).toList==comL)=false:=by rw[bs_tl,beq_eq_false_iff_ne];exact e5
      simp only[comL]at s5
      have s6:((bs x.s).toList==pinL)=false:=by rw[bs_tl,beq_eq_false_iff_ne];exact e6
      simp only[pinL]at s6
      have E3:Hid (testL (x::y::z::r)=(mustW [41] (z::r)).map fun u=>((4,[],false),u)):=Lib.hid (by rw[E2.out,hty,if_neg (by rintro⟨h,_⟩;cases h)])
      clear hty e4 e5 e6 E2
      generalize bs x.s=S at *
      cases hz:mkW [41] z with
      |true=>
       have HZ:Hid (∀W,Calls Tryz.prog 89 #[.agg #[.int .i64 (z.k:Int),.string (bs z.s),.int .i64 (outT z.n),.int .i64 (outV z.n)],.string ⟨#[41]⟩] W fun e w'=>e= .returned (.bool true)∧Below W.heap.size W w'):=Lib.hid fun W=>by have :=HM.out z [41] W;rwa [hz]at this
       have E0:Hid (testL (x::y::z::r)=some ((4,[],false),r)):=Lib.hid (by rw[E3.out,mustW_cons,hz];rfl)
       clear hz HM E3
       go_enter Tryz.func220,Tryz.ntmps220
       go_wp2_with (first
        |(go_at_call 89
          refine(HY.out _).mono ?_
          rintro e w1 ⟨rfl,hb1⟩
          obtain⟨ka,kf,kl,hb2⟩:=box_next hb1
          clear x0 x1 x2 x3 y0 y1 y2 y3 z0 z1 z2 z3 hgl
          obtain⟨hg1,x0,x1,x2,x3,y0,y1,y2,y3,z0,z1,z2,z3⟩:=HCL.out w1 hb2
          obtain⟨⟨ka0,ka1,ka2⟩,_⟩:=boxTe_blk ka
          have KA1:=Lib.hid ka
          have HB1:=Lib.hid hb2
          have HL1:=Lib.hid kl
          clear hb1 hb2 ka HY)
        |(go_at_call 89
          refine(HZ.out _).mono ?_
          rintro e w3 ⟨rfl,hb3⟩
          obtain⟨ka,kf3,kl3,kb,hb4⟩:=box_two (kd:=4) KA1.out HL1.out HB1.out hb3
          clear x0 x1 x2 x3 y0 y1 y2 y3 z0 z1 z2 z3 hg1
          obtain⟨hg3,x0,x1,x2,x3,y0,y1,y2,y3,z0,z1,z2,z3⟩:=HCL.out w3 hb4
          have KA3:=Lib.hid ka
          have KB3:=Lib.hid kb
          obtain⟨⟨kb0,kb1,kb2⟩,kbf⟩:=boxTe_blk kb
          clear ka0 ka1 ka2
          obtain⟨⟨ka0,ka1,ka2⟩,_⟩:=boxTe_blk ka
          have HB3:=Lib.hid hb4
          clear hb3 ka kb hb4 kf kl HZ))
       exact end_testS Tryz.results220 w3 4 [] false 3 KA3.out HB3.out (testL_ok E0.out (by simp only[List.length_cons];omega)) rfl rfl rfl
      |false=>
       have HZ:Hid (∀W,Calls Tryz.prog 89 #[.agg #[.int .i64 (z.k:Int),.string (bs z.s),.int .i64 (outT z.n),.int .i64 (outV z.n)],.string ⟨#[41]⟩] W fun e w'=>e= .returned (.bool false)∧Below W.heap.size W w'):=Lib.hid fun W=>by have :=HM.out z [41] W;rwa [hz]at this
       have E0:Hid (testL (x::y::z::r)=none):=Lib.hid (by rw[E3.out,mustW_cons,hz];rfl)
       clear hz HM E3
       go_enter Tryz.func220,Tryz.ntmps220
       go_wp2_with (first
        |(go_at_call 89
          refine(HY.out _).mono ?_
          rintro e w1 ⟨rfl,hb1⟩
          obtain⟨ka,kf,kl,hb2⟩:=box_next hb1
          clear x0 x1 x2 x3 y0 y1 y2 y3 z0 z1 z2 z3 hgl
          obtain⟨hg1,x0,x1,x2,x3,y0,y1,y2,y3,z0,z1,z2,z3⟩:=HCL.out w1 hb2
          obtain⟨⟨ka0,ka1,ka2⟩,_⟩:=boxTe_blk ka
          have KA1:=Lib.hid ka
          have HB1:=Lib.hid hb2
          have HL1:=Lib.hid kl
          clear hb1 hb2 ka HY)
        |(go_at_call 89
          refine(HZ.out _).mono ?_
          rintro e w3 ⟨rfl,hb3⟩
          obtain⟨ka,kf3,kl3,kb,hb4⟩:=box_two (kd:=4) KA1.out HL1.out HB1.out hb3
          clear x0 x1 x2 x3 y0 y1 y2 y3 z0 z1 z2 z3 hg1
          obtain⟨hg3,x0,x1,x2,x3,y0,y1,y2,y3,z0,z1,z2,z3⟩:=HCL.out w3 hb4
          have KA3:=Lib.hid ka
          have KB3:=Lib.hid kb
          obtain⟨⟨kb0,kb1,kb2⟩,kbf⟩:=boxTe_blk kb
          clear ka0 ka1 ka2
          obtain⟨⟨ka0,ka1,ka2⟩,_⟩:=boxTe_blk ka
          have HB3:=Lib.hid hb4
          clear hb3 ka kb hb4 kf kl HZ))
       exact end_testS Tryz.results220 w3 0 [] false 0 KA3.out HB3.out (testL_no E0.out) rfl rfl rfl
     by_cases e5:x.s=comL
     ·have e6:x.s≠pinL:=by rw[e5];decide
      have hty:tyK x.s=5:=by rw[e5];decide+kernel
      have s4:((bs x.s).toList==txtL)=false:=by rw[bs_tl,beq_eq_false_iff_ne];exact e4
      simp only[txtL]at s4
      have s5:((bs x.s).toList==comL)=true:=by rw[bs_tl,beq_iff_eq];exact e5
      simp only[comL]at s5
      have s6:((bs x.s).toList==pinL)=false:=by rw[bs_tl,beq_eq_false_iff_ne];exact e6
      simp only[pinL]at s6
      have E3:Hid (testL (x::y::z::r)=(mustW [41] (z::r)).map fun u=>((5,[],false),u)):=Lib.hid (by rw[E2.out,hty,if_neg (by rintro⟨h,_⟩;cases h)])
      clear hty e4 e5 e6 E2
      generalize bs x.s=S at *
      cases hz:mkW [41] z with
      |true=>
       have HZ:Hid (∀W,Calls Tryz.prog 89 #[.agg #[.int .i64 (z.k:Int),.string (bs z.s),.int .i64 (outT z.n),.int .i64 (outV z.n)],.string ⟨#[41]⟩] W fun e w'=>e= .returned (.bool true)∧Below W.heap.size W w'):=Lib.hid fun W=>by have :=HM.out z [41] W;rwa [hz]at this
       have E0:Hid (testL (x::y::z::r)=some ((5,[],false),r)):=Lib.hid (by rw[E3.out,mustW_cons,hz];rfl)
       clear hz HM E3
       go_enter Tryz.func220,Tryz.ntmps220
       go_wp2_with (first
        |(go_at_call 89
          refine(HY.out _).mono ?_
          rintro e w1 ⟨rfl,hb1⟩
          obtain⟨ka,kf,kl,hb2⟩:=box_next hb1
          clear x0 x1 x2 x3 y0 y1 y2 y3 z0 z1 z2 z3 hgl
          obtain⟨hg1,x0,x1,x2,x3,y0,y1,y2,y3,z0,z1,z2,z3⟩:=HCL.out w1 hb2
          obtain⟨⟨ka0,ka1,ka2⟩,_⟩:=boxTe_blk ka
          have KA1:=Lib.hid ka
          have HB1:=Lib.hid hb2
          have HL1:=Lib.hid kl
          clear hb1 hb2 ka HY)
        |(go_at_call 89
          refine(HZ.out _).mono ?_
          rintro e w3 ⟨rfl,hb3⟩
          obtain⟨ka,kf3,kl3,kb,hb4⟩:=box_two (kd:=5) KA1.out HL1.out HB1.out hb3
          clear x0 x1 x2 x3 y0 y1 y2 y3 z0 z1 z2 z3 hg1
          obtain⟨hg3,x0,x1,x2,x3,y0,y1,y2,y3,z0,z1,z2,z3⟩:=HCL.out w3 hb4
          have KA3:=Lib.hid ka
          have KB3:=Lib.hid kb
          obtain⟨⟨kb0,kb1,kb2⟩,kbf⟩:=boxTe_blk kb
          clear ka0 ka1 ka2
          obtain⟨⟨ka0,ka1,ka2⟩,_⟩:=boxTe_blk ka
          have HB3:=Lib.hid hb4
          clear hb3 ka kb hb4 kf kl HZ))
       exact end_testS Tryz.results220 w3 5 [] false 3 KA3.out HB3.out (testL_ok E0.out (by simp only[List.length_cons];omega)) rfl rfl rfl
      |false=>
       have HZ:Hid (∀W,Calls Tryz.prog 89 #[.agg #[.int .i64 (z.k:Int),.string (bs z.s),.int .i64 (outT z.n),.int .i64 (outV z.n)],.string ⟨#[41]⟩] W fun e w'=>e= .returned (.bool false)∧Below W.heap.size W w'):=Lib.hid fun W=>by have :=HM.out z [41] W;rwa [hz]at this
       have E0:Hid (testL (x::y::z::r)=none):=Lib.hid (by rw[E3.out,mustW_cons,hz];rfl)
       clear hz HM E3
       go_enter Tryz.func220,Tryz.ntmps220
       go_wp2_with (first
        |(go_at_call 89
          refine(HY.out _).mono ?_
          rintro e w1 ⟨rfl,hb1⟩
          obtain⟨ka,kf,kl,hb2⟩:=box_next hb1
          clear x0 x1 x2 x3 y0 y1 y2 y3 z0 z1 z2 z3 hgl
          obtain⟨hg1,x0,x1,x2,x3,y0,y1,y2,y3,z0,z1,z2,z3⟩:=HCL.out w1 hb2
          obtain⟨⟨ka0,ka1,ka2⟩,_⟩:=boxTe_blk ka
          have KA1:=Lib.hid ka
          have HB1:=Lib.hid hb2
          have HL1:=Lib.hid kl
          clear hb1 hb2 ka HY)
        |(go_at_call 89
          refine(HZ.out _).mono ?_
          rintro e w3 ⟨rfl,hb3⟩
          obtain⟨ka,kf3,kl3,kb,hb4⟩:=box_two (kd:=5) KA1.out HL1.out HB1.out hb3
          clear x0 x1 x2 x3 y0 y1 y2 y3 z0 z1 z2 z3 hg1
          obtain⟨hg3,x0,x1,x2,x3,y0,y1,y2,y3,z0,z1,z2,z3⟩:=HCL.out w3 hb4
          have KA3:=Lib.hid ka
          have KB3:=Lib.hid kb
          obtain⟨⟨kb0,kb1,kb2⟩,kbf⟩:=boxTe_blk kb
          clear ka0 ka1 ka2
          obtain⟨⟨ka0,ka1,ka2⟩,_⟩:=boxTe_blk ka
          have HB3:=Lib.hid hb4
          clear hb3 ka kb hb4 kf kl HZ))
       exact end_testS Tryz.results220 w3 0 [] false 0 KA3.out HB3.out (testL_no E0.out) rfl rfl rfl
     by_cases e6:x.s=pinL
     ·have hty:tyK x.s=6:=by rw[e6];decide+kernel
      have s4:((bs x.s).toList==txtL)=false:=by rw[bs_tl,beq_eq_false_iff_ne];exact e4
      simp only[txtL]at s4
      have s5:((bs x.s).toList==comL)=false:=by rw[bs_tl,beq_eq_false_iff_ne];exact e5
      simp only[comL]at s5
      have s6:((bs x.s).toList==pinL)=true:=by rw[bs_tl,beq_iff_eq];exact e6
      simp only[pinL]at s6
      clear e4 e5 e6
      by_cases h8:z.k=8
      ·have k8:((z.k:Int)==8)=true:=by rw[h8];rfl
       have hz:mkW [41] z=false:=mkW_no (.inl (by rw[h8];decide))
       have HZ:Hid (∀W,Calls Tryz.prog 89 #[.agg #[.int .i64 (z.k:Int),.string (bs z.s),.int .i64 (outT z.n),.int .i64 (outV z.n)],.string ⟨#[41]⟩] W fun e w'=>e= .returned (.bool false)∧Below W.heap.size W w'):=Lib.hid fun W=>by have :=HM.out z [41] W;rwa [hz]at this
       have E3:Hid (testL (x::y::z::r)=(mustW [41] r).map (fun u=>((6,z.s,true),u))):=Lib.hid (by rw[E2.out,hty,if_pos ⟨rfl,k8⟩])
       clear hty E2 hz h8
       generalize bs x.s=S at *
       cases r with
       |nil=>
        have g3:decide ((3:Int)<(n:Int))=false:=decide_eq_false (by have :=HN.out;simp only[List.length_nil]at this;omega)
        have E0:Hid (testL [x,y,z]=none):=Lib.hid (by rw[E3.out];rfl)
        clear HM E3
        go_enter Tryz.func220,Tryz.ntmps220
        go_wp2_with (first
         |(go_at_call 89
           refine(HY.out _).mono ?_
           rintro e w1 ⟨rfl,hb1⟩
           obtain⟨ka,kf,kl,hb2⟩:=box_next hb1
           clear x0 x1 x2 x3 y0 y1 y2 y3 z0 z1 z2 z3 hgl
           obtain⟨hg1,x0,x1,x2,x3,y0,y1,y2,y3,z0,z1,z2,z3⟩:=HCL.out w1 hb2
           obtain⟨⟨ka0,ka1,ka2⟩,_⟩:=boxTe_blk ka
           have KA1:=Lib.hid ka
           have HB1:=Lib.hid hb2
           have HL1:=Lib.hid kl
           clear hb1 hb2 ka HY)
         |(go_at_call 89
           refine(HZ.out _).mono ?_
           rintro e w3 ⟨rfl,hb3⟩
           obtain⟨ka,kf3,kl3,kb,hb4⟩:=box_two (kd:=6) KA1.out HL1.out HB1.out hb3
           clear x0 x1 x2 x3 y0 y1 y2 y3 z0 z1 z2 z3 hg1
           obtain⟨hg3,x0,x1,x2,x3,y0,y1,y2,y3,z0,z1,z2,z3⟩:=HCL.out w3 hb4
           have KA3:=Lib.hid ka
           have KB3:=Lib.hid kb
           obtain⟨⟨kb0,kb1,kb2⟩,kbf⟩:=boxTe_blk kb
           clear ka0 ka1 ka2
           obtain⟨⟨ka0,ka1,ka2⟩,_⟩:=boxTe_blk ka
           have HB3:=Lib.hid hb4
           clear hb3 ka kb hb4 kf kl HZ))
        exact end_testS Tryz.results220 w3 0 [] false 0 KA3.out HB3.out (testL_no E0.out) rfl rfl rfl
       |cons u r=>
        have g3:decide ((3:Int)<(n:Int))=true:=decide_eq_true (by have :=HN.out;simp only[List.length_cons]at this;omega)
        have i3:(3:Int)<(n:Int):=of_decide_eq_true g3
        have j3:3<n:=by omega
        obtain⟨g',off',e,_,r0,r1,r2,r3⟩:=H.out.word 3 (by simp)
        cases e
        simp only[Nat.add_assoc,Nat.reduceAdd,Nat.reduceMul,List.getElem_cons_succ,List.getElem_cons_zero]at r0 r1 r2 r3
        clear HCL
        have HCL:Hid (∀W,Below w.heap.size w W→g<W.heap.size∧W.cell? ⟨g,off,none⟩=some (.int .i64 (x.k:Int))∧W.cell? ⟨g,off+1,none⟩=some (.string S)∧W.cell? ⟨g,off+2,none⟩=some (.int .i64 (outT x.n))∧W.cell? ⟨g,off+3,none⟩=some (.int .i64 (outV x.n))∧W.cell? ⟨g,off+4,none⟩=some (.int .i64 (y.k:Int))∧W.cell? ⟨g,off+5,none⟩=some (.string (bs y.s))∧W.cell? ⟨g,off+6,none⟩=some (.int .i64 (outT y.n))∧W.cell? ⟨g,off+7,none⟩=some (.int .i64 (outV y.n))∧W.cell? ⟨g,off+8,none⟩=some (.int .i64 (z.k:Int))∧W.cell? ⟨g,off+9,none⟩=some (.string (bs z.s))∧W.cell? ⟨g,off+10,none⟩=some (.int .i64 (outT z.n))∧W.cell? ⟨g,off+11,none⟩=some (.int .i64 (outV z.n))∧W.cell? ⟨g,off+12,none⟩=some (.int .i64 (u.k:Int))∧W.cell? ⟨g,off+13,none⟩=some (.string (bs u.s))∧W.cell? ⟨g,off+14,none⟩=some (.int .i64 (outT u.n))∧W.cell? ⟨g,off+15,none⟩=some (.int .i64 (outV u.n))):=Lib.hid fun W hW=>⟨Nat.lt_of_lt_of_le hgl hW.size,(hW.cell (p:=⟨g,_,none⟩) hgl).trans x0,(hW.cell (p:=⟨g,_,none⟩) hgl).trans x1,(hW.cell (p:=⟨g,_,none⟩) hgl).trans x2,(hW.cell (p:=⟨g,_,none⟩) hgl).trans x3,(hW.cell (p:=⟨g,_,none⟩) hgl).trans y0,(hW.cell (p:=⟨g,_,none⟩) hgl).trans y1,(hW.cell (p:=⟨g,_,none⟩) hgl).trans y2,(hW.cell (p:=⟨g,_,none⟩) hgl).trans y3,(hW.cell (p:=⟨g,_,none⟩) hgl).trans z0,(hW.cell (p:=⟨g,_,none⟩) hgl).trans z1,(hW.cell (p:=⟨g,_,none⟩) hgl).trans z2,(hW.cell (p:=⟨g,_,none⟩) hgl).trans z3,(hW.cell (p:=⟨g,_,none⟩) hgl).trans r0,(hW.cell (p:=⟨g,_,none⟩) hgl).trans r1,(hW.cell (p:=⟨g,_,none⟩) hgl).trans r2,(hW.cell (p:=⟨g,_,none⟩) hgl).trans r3⟩
        cases hu:mkW [41] u with
        |true=>
         have HR:Hid (∀W,Calls Tryz.prog 89 #[.agg #[.int .i64 (u.k:Int),.string (bs u.s),.int .i64 (outT u.n),.int .i64 (outV u.n)],.string ⟨#[41]⟩] W fun e w'=>e= .returned (.bool true)∧Below W.heap.size W w'):=Lib.hid fun W=>by have :=HM.out u [41] W;rwa [hu]at this
         have E0:Hid (testL (x::y::z::u::r)=some ((6,z.s,true),r)):=Lib.hid (by rw[E3.out,mustW_cons,hu];rfl)
         clear hu HM E3 HZ
         go_enter Tryz.func220,Tryz.ntmps220
         go_wp2_with (first
          |(go_at_call 89
            refine(HY.out _).mono ?_
            rintro e w1 ⟨rfl,hb1⟩
            obtain⟨ka,kf,kl,hb2⟩:=box_next hb1
            clear x0 x1 x2 x3 y0 y1 y2 y3 z0 z1 z2 z3 hgl r0 r1 r2 r3
            obtain⟨hg1,x0,x1,x2,x3,y0,y1,y2,y3,z0,z1,z2,z3,r0,r1,r2,r3⟩:=HCL.out w1 hb2
            obtain⟨⟨ka0,ka1,ka2⟩,_⟩:=boxTe_blk ka
            have KA1:=Lib.hid ka
            have HB1:=Lib.hid hb2
            have HL1:=Lib.hid kl
            clear hb1 hb2 ka HY)
          |(go_at_call 89
            refine(HR.out _).mono ?_
            rintro e w3 ⟨rfl,hb3⟩
            obtain⟨ka,kf3,kl3,kb,hb4⟩:=box_two (kd:=6) KA1.out HL1.out HB1.out hb3
            clear x0 x1 x2 x3 y0 y1 y2 y3 z0 z1 z2 z3 hg1 r0 r1 r2 r3
            obtain⟨hg3,x0,x1,x2,x3,y0,y1,y2,y3,z0,z1,z2,z3,r0,r1,r2,r3⟩:=HCL.out w3 hb4
            have KA3:=Lib.hid ka
            have KB3:=Lib.hid kb
            obtain⟨⟨kb0,kb1,kb2⟩,kbf⟩:=boxTe_blk kb
            clear ka0 ka1 ka2
            obtain⟨⟨ka0,ka1,ka2⟩,_⟩:=boxTe_blk ka
            have HB3:=Lib.hid hb4
            clear hb3 ka kb hb4 kf kl HR))
         exact end_testS Tryz.results220 w3 6 z.s true 4 KA3.out HB3.out (testL_ok E0.out (by simp only[List.length_cons];omega)) rfl rfl rfl
        |false=>
         have HR:Hid (∀W,Calls Tryz.prog 89 #[.agg #[.int .i64 (u.k:Int),.string (bs u.s),.int .i64 (outT u.n),.int .i64 (outV u.n)],.string ⟨#[41]⟩] W fun e w'=>e= .returned (.bool false)∧Below W.heap.size W w'):=Lib.hid fun W=>by have :=HM.out u [41] W;rwa [hu]at this
         have E0:Hid (testL (x::y::z::u::r)=none):=Lib.hid (by rw[E3.out,mustW_cons,hu];rfl)
         clear hu HM E3
         go_enter Tryz.func220,Tryz.ntmps220
         go_wp2_with (first
          |(go_at_call 89
            refine(HY.out _).mono ?_
            rintro e w1 ⟨rfl,hb1⟩
            obtain⟨ka,kf,kl,hb2⟩:=box_next hb1
            clear x0 x1 x2 x3 y0 y1 y2 y3 z0 z1 z2 z3 hgl r0 r1 r2 r3
            obtain⟨hg1,x0,x1,x2,x3,y0,y1,y2,y3,z0,z1,z2,z3,r0,r1,r2,r3⟩:=HCL.out w1 hb2
            obtain⟨⟨ka0,ka1,ka2⟩,_⟩:=boxTe_blk ka
            have KA1:=Lib.hid ka
            have HB1:=Lib.hid hb2
            have HL1:=Lib.hid kl
            clear hb1 hb2 ka HY)
          |(go_at_call 89
            refine(HR.out _).mono ?_
            rintro e w3 ⟨rfl,hb3⟩
            obtain⟨ka,kf3,kl3,kb,hb4⟩:=box_two (kd:=6) KA1.out HL1.out HB1.out hb3
            clear x0 x1 x2 x3 y0 y1 y2 y3 z0 z1 z2 z3 hg1 r0 r1 r2 r3
            obtain⟨hg3,x0,x1,x2,x3,y0,y1,y2,y3,z0,z1,z2,z3,r0,r1,r2,r3⟩:=HCL.out w3 hb4
            have KA3:=Lib.hid ka
            have KB3:=Lib.hid kb
            obtain⟨⟨kb0,kb1,kb2⟩,kbf⟩:=boxTe_blk kb
            clear ka0 ka1 ka2
            obtain⟨⟨ka0,ka1,ka2⟩,_⟩:=boxTe_blk ka
            have HB3:=Lib.hid hb4
            clear hb3 ka kb hb4 kf kl HR)
          |(go_at_call 89
            refine(HZ.out _).mono ?_
            rintro e w5 ⟨rfl,hb5⟩
            obtain⟨kb6,kf5,kl5,kb,hb6⟩:=box_again (kd:=6) KA3.out KB3.out HB3.out hb5
            clear x0 x1 x2 x3 y0 y1 y2 y3 z0 z1 z2 z3 hg3 r0 r1 r2 r3 kb0 kb1 kb2
            obtain⟨hg5,x0,x1,x2,x3,y0,y1,y2,y3,z0,z1,z2,z3,r0,r1,r2,r3⟩:=HCL.out w5 hb6
            clear ka0 ka1 ka2
            obtain⟨⟨ka0,ka1,ka2⟩,_⟩:=boxTe_blk kb6
            have KA5:=Lib.hid kb6
            obtain⟨⟨kb0,kb1,kb2⟩,kbf5⟩:=boxTe_blk kb
            have HB5:=Lib.hid hb6
            clear hb5 kb6 kb hb6 kf3 kl3 kbf HZ))
         exact end_testS Tryz.results220 w5 0 [] false 0 KA5.out HB5.out (testL_no E0.out) rfl rfl rfl
      ·have k8:((z.k:Int)==8)=false:=by rw[beq_eq_false_iff_ne];omega
       have E3:Hid (testL (x::y::z::r)=(mustW [41] (z::r)).map fun u=>((6,[],false),u)):=Lib.hid (by rw[E2.out,hty,if_neg (by rintro⟨_,h⟩;rw[k8]at h;cases h)])
       clear hty E2 h8
       generalize bs x.s=S at *
       by_cases h3:3<n
       ·have g3:decide ((3:Int)<(n:Int))=true:=decide_eq_true (by omega)
        clear h3
        cases hz:mkW [41] z with
        |true=>
         have HZ:Hid (∀W,Calls Tryz.prog 89 #[.agg #[.int .i64 (z.k:Int),.string (bs z.s),.int .i64 (outT z.n),.int .i64 (outV z.n)],.string ⟨#[41]⟩] W fun e w'=>e= .returned (.bool true)∧Below W.heap.size W w'):=Lib.hid fun W=>by have :=HM.out z [41] W;rwa [hz]at this
         have E0:Hid (testL (x::y::z::r)=some ((6,[],false),r)):=Lib.hid (by rw[E3.out,mustW_cons,hz];rfl)
         clear hz HM E3
         go_enter Tryz.func220,Tryz.ntmps220
         go_wp2_with (first
          |(go_at_call 89
            refine(HY.out _).mono ?_
            rintro e w1 ⟨rfl,hb1⟩
            obtain⟨ka,kf,kl,hb2⟩:=box_next hb1
            clear x0 x1 x2 x3 y0 y1 y2 y3 z0 z1 z2 z3 hgl
            obtain⟨hg1,x0,x1,x2,x3,y0,y1,y2,y3,z0,z1,z2,z3⟩:=HCL.out w1 hb2
            obtain⟨⟨ka0,ka1,ka2⟩,_⟩:=boxTe_blk ka
            have KA1:=Lib.hid ka
            have HB1:=Lib.hid hb2
            have HL1:=Lib.hid kl
            clear hb1 hb2 ka HY)
          |(go_at_call 89
            refine(HZ.out _).mono ?_
            rintro e w3 ⟨rfl,hb3⟩
            obtain⟨ka,kf3,kl3,kb,hb4⟩:=box_two (kd:=6) KA1.out HL1.out HB1.out hb3
            clear x0 x1 x2 x3 y0 y1 y2 y3 z0 z1 z2 z3 hg1
            obtain⟨hg3,x0,x1,x2,x3,y0,y1,y2,y3,z0,z1,z2,z3⟩:=HCL.out w3 hb4
            have KA3:=Lib.hid ka
            have KB3:=Lib.hid kb
            obtain⟨⟨kb0,kb1,kb2⟩,kbf⟩:=boxTe_blk kb
            clear ka0 ka1 ka2
            obtain⟨⟨ka0,ka1,ka2⟩,_⟩:=boxTe_blk ka
            have HB3:=Lib.hid hb4
            clear hb3 ka kb hb4 kf kl HZ))
         exact end_testS Tryz.results220 w3 6 [] false 3 KA3.out HB3.out (testL_ok E0.out (by simp only[List.length_cons];omega)) rfl rfl rfl
        |false=>
         have HZ:Hid (∀W,Calls Tryz.prog 89 #[.agg #[.int .i64 (z.k:Int),.string (bs z.s),.int .i64 (outT z.n),.int .i64 (outV z.n)],.string ⟨#[41]⟩] W fun e w'=>e= .returned (.bool false)∧Below W.heap.size W w'):=Lib.hid fun W=>by have :=HM.out z [41] W;rwa [hz]at this
         have E0:Hid (testL (x::y::z::r)=none):=Lib.hid (by rw[E3.out,mustW_cons,hz];rfl)
         clear hz HM E3
         go_enter Tryz.func220,Tryz.ntmps220
         go_wp2_with (first
          |(go_at_call 89
            refine(HY.out _).mono ?_
            rintro e w1 ⟨rfl,hb1⟩
            obtain⟨ka,kf,kl,hb2⟩:=box_next hb1
            clear x0 x1 x2 x3 y0 y1 y2 y3 z0 z1 z2 z3 hgl
            obtain⟨hg1,x0,x1,x2,x3,y0,y1,y2,y3,z0,z1,z2,z3⟩:=HCL.out w1 hb2
            obtain⟨⟨ka0,ka1,ka2⟩,_⟩:=boxTe_blk ka
            have KA1:=Lib.hid ka
            have HB1:=Lib.hid hb2
            have HL1:=Lib.hid kl
            clear hb1 hb2 ka HY)
          |(go_at_call 89
            refine(HZ.out _).mono ?_
            rintro e w3 ⟨rfl,hb3⟩
            obtain⟨ka,kf3,kl3,kb,hb4⟩:=box_two (kd:=6) KA1.out HL1.out HB1.out hb3
            clear x0 x1 x2 x3 y0 y1 y2 y3 z0 z1 z2 z3 hg1
            obtain⟨hg3,x0,x1,x2,x3,y0,y1,y2,y3,z0,z1,z2,z3⟩:=HCL.out w3 hb4
            have KA3:=Lib.hid ka
            have KB3:=Lib.hid kb
            obtain⟨⟨kb0,kb1,kb2⟩,kbf⟩:=boxTe_blk kb
            clear ka0 ka1 ka2
            obtain⟨⟨ka0,ka1,ka2⟩,_⟩:=boxTe_blk ka
            have HB3:=Lib.hid hb4
            clear hb3 ka kb hb4 kf kl HZ))
         exact end_testS Tryz.results220 w3 0 [] false 0 KA3.out HB3.out (testL_no E0.out) rfl rfl rfl
       ·have g3:decide ((3:Int)<(n:Int))=false:=decide_eq_false (by omega)
        clear h3
        cases hz:mkW [41] z with
        |true=>
         have HZ:Hid (∀W,Calls Tryz.prog 89 #[.agg #[.int .i64 (z.k:Int),.string (bs z.s),.int .i64 (outT z.n),.int .i64 (outV z.n)],.string ⟨#[41]⟩] W fun e w'=>e= .returned (.bool true)∧Below W.heap.size W w'):=Lib.hid fun W=>by have :=HM.out z [41] W;rwa [hz]at this
         have E0:Hid (testL (x::y::z::r)=some ((6,[],false),r)):=Lib.hid (by rw[E3.out,mustW_cons,hz];rfl)
         clear hz HM E3
         go_enter Tryz.func220,Tryz.ntmps220
         go_wp2_with (first
          |(go_at_call 89
            refine(HY.out _).mono ?_
            rintro e w1 ⟨rfl,hb1⟩
            obtain⟨ka,kf,kl,hb2⟩:=box_next hb1
            clear x0 x1 x2 x3 y0 y1 y2 y3 z0 z1 z2 z3 hgl
            obtain⟨hg1,x0,x1,x2,x3,y0,y1,y2,y3,z0,z1,z2,z3⟩:=HCL.out w1 hb2
            obtain⟨⟨ka0,ka1,ka2⟩,_⟩:=boxTe_blk ka
            have KA1:=Lib.hid ka
            have HB1:=Lib.hid hb2
            have HL1:=Lib.hid kl
            clear hb1 hb2 ka HY)
          |(go_at_call 89
            refine(HZ.out _).mono ?_
            rintro e w3 ⟨rfl,hb3⟩
            obtain⟨ka,kf3,kl3,kb,hb4⟩:=box_two (kd:=6) KA1.out HL1.out HB1.out hb3
            clear x0 x1 x2 x3 y0 y1 y2 y3 z0 z1 z2 z3 hg1
            obtain⟨hg3,x0,x1,x2,x3,y0,y1,y2,y3,z0,z1,z2,z3⟩:=HCL.out w3 hb4
            have KA3:=Lib.hid ka
            have KB3:=Lib.hid kb
            obtain⟨⟨kb0,kb1,kb2⟩,kbf⟩:=boxTe_blk kb
            clear ka0 ka1 ka2
            obtain⟨⟨ka0,ka1,ka2⟩,_⟩:=boxTe_blk ka
            have HB3:=Lib.hid hb4
            clear hb3 ka kb hb4 kf kl HZ))
         exact end_testS Tryz.results220 w3 6 [] false 3 KA3.out HB3.out (testL_ok E0.out (by simp only[List.length_cons];omega)) rfl rfl rfl
        |false=>
         have HZ:Hid (∀W,Calls Tryz.prog 89 #[.agg #[.int .i64 (z.k:Int),.string (bs z.s),.int .i64 (outT z.n),.int .i64 (outV z.n)],.string ⟨#[41]⟩] W fun e w'=>e= .returned (.bool false)∧Below W.heap.size W w'):=Lib.hid fun W=>by have :=HM.out z [41] W;rwa [hz]at this
         have E0:Hid (testL (x::y::z::r)=none):=Lib.hid (by rw[E3.out,mustW_cons,hz];rfl)
         clear hz HM E3
         go_enter Tryz.func220,Tryz.ntmps220
         go_wp2_with (first
          |(go_at_call 89
            refine(HY.out _).mono ?_
            rintro e w1 ⟨rfl,hb1⟩
            obtain⟨ka,kf,kl,hb2⟩:=box_next hb1
            clear x0 x1 x2 x3 y0 y1 y2 y3 z0 z1 z2 z3 hgl
            obtain⟨hg1,x0,x1,x2,x3,y0,y1,y2,y3,z0,z1,z2,z3⟩:=HCL.out w1 hb2
            obtain⟨⟨ka0,ka1,ka2⟩,_⟩:=boxTe_blk ka
            have KA1:=Lib.hid ka
            have HB1:=Lib.hid hb2
            have HL1:=Lib.hid kl
            clear hb1 hb2 ka HY)
          |(go_at_call 89
            refine(HZ.out _).mono ?_
            rintro e w3 ⟨rfl,hb3⟩
            obtain⟨ka,kf3,kl3,kb,hb4⟩:=box_two (kd:=6) KA1.out HL1.out HB1.out hb3
            clear x0 x1 x2 x3 y0 y1 y2 y3 z0 z1 z2 z3 hg1
            obtain⟨hg3,x0,x1,x2,x3,y0,y1,y2,y3,z0,z1,z2,z3⟩:=HCL.out w3 hb4
            have KA3:=Lib.hid ka
            have KB3:=Lib.hid kb
            obtain⟨⟨kb0,kb1,kb2⟩,kbf⟩:=boxTe_blk kb
            clear ka0 ka1 ka2
            obtain⟨⟨ka0,ka1,ka2⟩,_⟩:=boxTe_blk ka
            have HB3:=Lib.hid hb4
            clear hb3 ka kb hb4 kf kl HZ))
         exact end_testS Tryz.results220 w3 0 [] false 0 KA3.out HB3.out (testL_no E0.out) rfl rfl rfl
     ·have hty:tyK x.s=3:=by unfold tyK;rw[if_neg e5,if_neg e4,if_neg e6]
      have s4:((bs x.s).toList==txtL)=false:=by rw[bs_tl,beq_eq_false_iff_ne];exact e4
      simp only[txtL]at s4
      have s5:((bs x.s).toList==comL)=false:=by rw[bs_tl,beq_eq_false_iff_ne];exact e5
      simp only[comL]at s5
      have s6:((bs x.s).toList==pinL)=false:=by rw[bs_tl,beq_eq_false_iff_ne];exact e6
      simp only[pinL]at s6
      have E3:Hid (testL (x::y::z::r)=(mustW [41] (z::r)).map fun u=>((3,[],false),u)):=Lib.hid (by rw[E2.out,hty,if_neg (by rintro⟨h,_⟩;cases h)])
      clear hty e4 e5 e6 E2
      generalize bs x.s=S at *
      cases hz:mkW [41] z with
      |true=>
       have HZ:Hid (∀W,Calls Tryz.prog 89 #[.agg #[.int .i64 (z.k:Int),.string (bs z.s),.int .i64 (outT z.n),.int .i64 (outV z.n)],.string ⟨#[41]⟩] W fun e w'=>e= .returned (.bool true)∧Below W.heap.size W w'):=Lib.hid fun W=>by have :=HM.out z [41] W;rwa [hz]at this
       have E0:Hid (testL (x::y::z::r)=some ((3,[],false),r)):=Lib.hid (by rw[E3.out,mustW_cons,hz];rfl)
       clear hz HM E3
       go_enter Tryz.func220,Tryz.ntmps220
       go_wp2_with (first
        |(go_at_call 89
          refine(HY.out _).mono ?_
          rintro e w1 ⟨rfl,hb1⟩
          obtain⟨ka,kf,kl,hb2⟩:=box_next hb1
          clear x0 x1 x2 x3 y0 y1 y2 y3 z0 z1 z2 z3 hgl
          obtain⟨hg1,x0,x1,x2,x3,y0,y1,y2,y3,z0,z1,z2,z3⟩:=HCL.out w1 hb2
          obtain⟨⟨ka0,ka1,ka2⟩,_⟩:=boxTe_blk ka
          have KA1:=Lib.hid ka
          have HB1:=Lib.hid hb2
          have HL1:=Lib.hid kl
          clear hb1 hb2 ka HY)
        |(go_at_call 89
          refine(HZ.out _).mono ?_
          rintro e w3 ⟨rfl,hb3⟩
          obtain⟨ka,kf3,kl3,kb,hb4⟩:=box_two (kd:=3) KA1.out HL1.out HB1.out hb3
          clear x0 x1 x2 x3 y0 y1 y2 y3 z0 z1 z2 z3 hg1
          obtain⟨hg3,x0,x1,x2,x3,y0,y1,y2,y3,z0,z1,z2,z3⟩:=HCL.out w3 hb4
          have KA3:=Lib.hid ka
          have KB3:=Lib.hid kb
          obtain⟨⟨kb0,kb1,kb2⟩,kbf⟩:=boxTe_blk kb
          clear ka0 ka1 ka2
          obtain⟨⟨ka0,ka1,ka2⟩,_⟩:=boxTe_blk ka
          have HB3:=Lib.hid hb4
          clear hb3 ka kb hb4 kf kl HZ))
       exact end_testS Tryz.results220 w3 3 [] false 3 KA3.out HB3.out (testL_ok E0.out (by simp only[List.length_cons];omega)) rfl rfl rfl
      |false=>
       have HZ:Hid (∀W,Calls Tryz.prog 89 #[.agg #[.int .i64 (z.k:Int),.string (bs z.s),.int .i64 (outT z.n),.int .i64 (outV z.n)],.string ⟨#[41]⟩] W fun e w'=>e= .returned (.bool false)∧Below W.heap.size W w'):=Lib.hid fun W=>by have :=HM.out z [41] W;rwa [hz]at this
       have E0:Hid (testL (x::y::z::r)=none):=Lib.hid (by rw[E3.out,mustW_cons,hz];rfl)
       clear hz HM E3
       go_enter Tryz.func220,Tryz.ntmps220
       go_wp2_with (first
        |(go_at_call 89
          refine(HY.out _).mono ?_
          rintro e w1 ⟨rfl,hb1⟩
          obtain⟨ka,kf,kl,hb2⟩:=box_next hb1
          clear x0 x1 x2 x3 y0 y1 y2 y3 z0 z1 z2 z3 hgl
          obtain⟨hg1,x0,x1,x2,x3,y0,y1,y2,y3,z0,z1,z2,z3⟩:=HCL.out w1 hb2
          obtain⟨⟨ka0,ka1,ka2⟩,_⟩:=boxTe_blk ka
          have KA1:=Lib.hid ka
          have HB1:=Lib.hid hb2
          have HL1:=Lib.hid kl
          clear hb1 hb2 ka HY)
        |(go_at_call 89
          refine(HZ.out _).mono ?_
          rintro e w3 ⟨rfl,hb3⟩
          obtain⟨ka,kf3,kl3,kb,hb4⟩:=box_two (kd:=3) KA1.out HL1.out HB1.out hb3
          clear x0 x1 x2 x3 y0 y1 y2 y3 z0 z1 z2 z3 hg1
          obtain⟨hg3,x0,x1,x2,x3,y0,y1,y2,y3,z0,z1,z2,z3⟩:=HCL.out w3 hb4
          have KA3:=Lib.hid ka
          have KB3:=Lib.hid kb
          obtain⟨⟨kb0,kb1,kb2⟩,kbf⟩:=boxTe_blk kb
          clear ka0 ka1 ka2
          obtain⟨⟨ka0,ka1,ka2⟩,_⟩:=boxTe_blk ka
          have HB3:=Lib.hid hb4
          clear hb3 ka kb hb4 kf kl HZ))
       exact end_testS Tryz.results220 w3 0 [] false 0 KA3.out HB3.out (testL_no E0.out) rfl rfl rfl
  ·have k4:((x.k:Int) != 4)=true:=by rw[bne_iff_ne];omega
   have E0:Hid (testL (x::r)=none):=Lib.hid (by rw[testL,if_neg h2,if_neg h3,if_neg h4])
   clear h2 h3 h4
   go_enter Tryz.func220,Tryz.ntmps220
   go_wp2_with fail
   exact end_test Tryz.results220 0 [] false 0 (World.alloc_heap_new w _) (below_box _) (testL_no E0.out) rfl rfl rfl
end Char
end Go.Proofs.YtlmpkpjjakallaaGreatDoor
