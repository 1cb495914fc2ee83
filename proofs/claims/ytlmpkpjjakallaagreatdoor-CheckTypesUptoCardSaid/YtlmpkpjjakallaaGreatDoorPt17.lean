import Derived.Test.YtlmpkpjjakallaaGreatDoorPt16
import Derived.Defers
import Derived.Recover
namespace Go.Proofs.YtlmpkpjjakallaaGreatDoor
namespace Char
open Go.RowKit Go.Lib Go.Shelf
def sgsL:List (List Sg):=[[([111,114],1)],[([97,110,100],2)],[([61],3),([33,61],4)],[([60],5),([62],7),([60,61],6),([62,61],8)],[([43],9),([45],10)],[([42],11),([100,105,118],12),([109,111,100],13)]]
def sgs (r:Nat):List Sg:=sgsL.getD r []
def rankL (E:List Wd→Option (Ex×List Wd)):Nat→List Wd→Option (Ex×List Wd)
 |0=>joinedL (fun ts=>signL E (ts.length+1) ts) (sgs 5)
 |n+1=>joinedL (rankL E n) (sgs (4-n))
theorem sgn_len {E:List Wd→Option (Ex×List Wd)}(hS:ShrE E):ShrE (fun ts=>signL E (ts.length+1) ts):=fun ts e t h=>signd_len hS _ ts e t h
theorem rank_len {E:List Wd→Option (Ex×List Wd)}(hS:ShrE E):∀n,ShrE (rankL E n)
 |0=>joined_len (sgn_len hS) _
 |n+1=>joined_len (rank_len hS n) _
def exprL:Nat→List Wd→Option (Ex×List Wd)
 |0=>fun _=>none
 |d+1=>rankL (exprL d) 5
theorem expr_len:∀d,ShrE (exprL d)
 |0=>fun _ _ _ h=>by cases h
 |d+1=>rank_len (expr_len d) 5
def rkW (w:World)(R r:Nat):World:=(((((((((w.alloc (.cells #[.pointer (some ⟨R,0,none⟩)] 94)).alloc (.cells #[.int .i64 (r:Int)] 3)).alloc (.cells #[.int .i64 0,.string ⟨#[]⟩,.int .i64 0,.int .i64 0,.bool false,.slice none 0 0,.slice none 0 0] 28)).alloc (.cells #[.string ⟨#[111,114]⟩,.int .i64 1] 170)).alloc (.cells #[.string ⟨#[97,110,100]⟩,.int .i64 2] 170)).alloc (.cells #[.string ⟨#[61]⟩,.int .i64 3,.string ⟨#[33,61]⟩,.int .i64 4] 170)).alloc (.cells #[.string ⟨#[60]⟩,.int .i64 5,.string ⟨#[62]⟩,.int .i64 7,.string ⟨#[60,61]⟩,.int .i64 6,.string ⟨#[62,61]⟩,.int .i64 8] 170)).alloc (.cells #[.string ⟨#[43]⟩,.int .i64 9,.string ⟨#[45]⟩,.int .i64 10] 170)).alloc (.cells #[.string ⟨#[42]⟩,.int .i64 11,.string ⟨#[100,105,118]⟩,.int .i64 12,.string ⟨#[109,111,100]⟩,.int .i64 13] 170)).alloc (.cells #[.slice (some ⟨w.heap.size+3,0,none⟩) 1 1,.slice (some ⟨w.heap.size+4,0,none⟩) 1 1,.slice (some ⟨w.heap.size+5,0,none⟩) 2 2,.slice (some ⟨w.heap.size+6,0,none⟩) 4 4,.slice (some ⟨w.heap.size+7,0,none⟩) 2 2,.slice (some ⟨w.heap.size+8,0,none⟩) 3 3] 172)
theorem rkW_heap (w:World)(R r:Nat):(rkW w R r).heap=w.heap++ #[.cells #[.pointer (some ⟨R,0,none⟩)] 94 (0,0),.cells #[.int .i64 (r:Int)] 3 (0,0),(boxEx ex0 (.slice none 0 0) (.slice none 0 0)),.cells #[.string ⟨#[111,114]⟩,.int .i64 1] 170 (0,0),.cells #[.string ⟨#[97,110,100]⟩,.int .i64 2] 170 (0,0),.cells #[.string ⟨#[61]⟩,.int .i64 3,.string ⟨#[33,61]⟩,.int .i64 4] 170 (0,0),.cells #[.string ⟨#[60]⟩,.int .i64 5,.string ⟨#[62]⟩,.int .i64 7,.string ⟨#[60,61]⟩,.int .i64 6,.string ⟨#[62,61]⟩,.int .i64 8] 170 (0,0),.cells #[.string ⟨#[43]⟩,.int .i64 9,.string ⟨#[45]⟩,.int .i64 10] 170 (0,0),.cells #[.string ⟨#[42]⟩,.int .i64 11,.string ⟨#[100,105,118]⟩,.int .i64 12,.string ⟨#[109,111,100]⟩,.int .i64 13] 170 (0,0),.cells #[.slice (some ⟨w.heap.size+3,0,none⟩) 1 1,.slice (some ⟨w.heap.size+4,0,none⟩) 1 1,.slice (some ⟨w.heap.size+5,0,none⟩) 2 2,.slice (some ⟨w.heap.size+6,0,none⟩) 4 4,.slice (some ⟨w.heap.size+7,0,none⟩) 2 2,.slice (some ⟨w.heap.size+8,0,none⟩) 3 3] 172 (0,0)]:=by
 unfold rkW
 simp only[World.alloc]
 apply Array.ext'
 simp[Array.toList_push]
 rfl
theorem rkW_at (w:World)(R r i:Nat):(rkW w R r).heap[w.heap.size+i]? =(#[.cells #[.pointer (some ⟨R,0,none⟩)] 94 (0,0),.cells #[.int .i64 (r:Int)] 3 (0,0),(boxEx ex0 (.slice none 0 0) (.slice none 0 0)),.cells #[.string ⟨#[111,114]⟩,.int .i64 1] 170 (0,0),.cells #[.string ⟨#[97,110,100]⟩,.int .i64 2] 170 (0,0),.cells #[.string ⟨#[61]⟩,.int .i64 3,.string ⟨#[33,61]⟩,.int .i64 4] 170 (0,0),.cells #[.string ⟨#[60]⟩,.int .i64 5,.string ⟨#[62]⟩,.int .i64 7,.string ⟨#[60,61]⟩,.int .i64 6,.string ⟨#[62,61]⟩,.int .i64 8] 170 (0,0),.cells #[.string ⟨#[43]⟩,.int .i64 9,.string ⟨#[45]⟩,.int .i64 10] 170 (0,0),.cells #[.string ⟨#[42]⟩,.int .i64 11,.string ⟨#[100,105,118]⟩,.int .i64 12,.string ⟨#[109,111,100]⟩,.int .i64 13] 170 (0,0),.cells #[.slice (some ⟨w.heap.size+3,0,none⟩) 1 1,.slice (some ⟨w.heap.size+4,0,none⟩) 1 1,.slice (some ⟨w.heap.size+5,0,none⟩) 2 2,.slice (some ⟨w.heap.size+6,0,none⟩) 4 4,.slice (some ⟨w.heap.size+7,0,none⟩) 2 2,.slice (some ⟨w.heap.size+8,0,none⟩) 3 3] 172 (0,0)]:Array Obj)[i]? :=by
 rw[rkW_heap,Array.getElem?_append_right (by omega)]
 congr 1
 omega
theorem rkW_below (w:World)(R r:Nat):Below w.heap.size w (rkW w R r):=by
 have hs:∀(v:World) (o:Obj),Below w.heap.size w v→Below w.heap.size w (v.alloc o):=fun v o h=>h.alloc h.size o
 exact hs _ _ (hs _ _ (hs _ _ (hs _ _ (hs _ _ (hs _ _ (hs _ _ (hs _ _ (hs _ _ (hs _ _ (Below.refl _ _))))))))))
theorem rkW_size (w:World)(R r:Nat):(rkW w R r).heap.size=w.heap.size+10:=by
 rw[rkW_heap,Array.size_append]
 rfl
theorem rkW_sg (w:World)(R r k:Nat)(hk:k≤5)(hR:R<w.heap.size):SgOn R (w.heap.size+3+k) (sgs k) (rkW w R r)∧(rkW w R r).cell? ⟨w.heap.size+9,k,none⟩=some (.slice (some ⟨w.heap.size+3+k,0,none⟩) (sgs k).length (sgs k).length):=by
 have h9:=rkW_at w R r 9
 have hk':k=0∨k=1∨k=2∨k=3∨k=4∨k=5:=by omega
 have hz:=rkW_size w R r
 rcases hk' with rfl|rfl|rfl|rfl|rfl|rfl
 all_goals refine⟨⟨by omega,by omega,fun j hj=> ?_⟩,by simp only[World.cell?,h9];rfl⟩
 ·have hc:(rkW w R r).heap[w.heap.size+3+0]? =_:=rkW_at w R r 3
  have hj':j=0:=by
   have :(sgs 0).length=1:=rfl
   omega
  rcases hj' with rfl
  all_goals exact⟨by simp only[World.cell?,hc];rfl,by simp only[World.cell?,hc];rfl⟩
 ·have hc:(rkW w R r).heap[w.heap.size+3+1]? =_:=rkW_at w R r 4
  have hj':j=0:=by
   have :(sgs 1).length=1:=rfl
   omega
  rcases hj' with rfl
  all_goals exact⟨by simp only[World.cell?,hc];rfl,by simp only[World.cell?,hc];rfl⟩
 ·have hc:(rkW w R r).heap[w.heap.size+3+2]? =_:=rkW_at w R r 5
  have hj':j=0∨j=1:=by
   have :(sgs 2).length=2:=rfl
   omega
  rcases hj' with rfl|rfl
  all_goals exact⟨by simp only[World.cell?,hc];rfl,by simp only[World.cell?,hc];rfl⟩
 ·have hc:(rkW w R r).heap[w.heap.size+3+3]? =_:=rkW_at w R r 6
  have hj':j=0∨j=1∨j=2∨j=3:=by
   have :(sgs 3).length=4:=rfl
   omega
  rcases hj' with rfl|rfl|rfl|rfl
  all_goals exact⟨by simp only[World.cell?,hc];rfl,by simp only[World.cell?,hc];rfl⟩
 ·have hc:(rkW w R r).heap[w.heap.size+3+4]? =_:=rkW_at w R r 7
  have hj':j=0∨j=1:=by
   have :(sgs 4).length=2:=rfl
   omega
  rcases hj' with rfl|rfl
  all_goals exact⟨by simp only[World.cell?,hc];rfl,by simp only[World.cell?,hc];rfl⟩
 ·have hc:(rkW w R r).heap[w.heap.size+3+5]? =_:=rkW_at w R r 8
  have hj':j=0∨j=1∨j=2:=by
   have :(sgs 5).length=3:=rfl
   omega
  rcases hj' with rfl|rfl|rfl
  all_goals exact⟨by simp only[World.cell?,hc];rfl,by simp only[World.cell?,hc];rfl⟩
end Char
namespace Char
open Go.RowKit Go.Lib Go.Shelf
theorem endExG {fn:Func}{p:Tmp}(h:fn.results= #[.cell p 28]){a:Act}{R g:Nat}{w w3:World}{x:Ex}{ts:List Wd}{vk vs:Value}{o:Ex}{ok os:Value}(hg:w.heap.size≤g)(hk:w3.heap[g]? =some (boxEx o ok os))(hl:LfB R ts w3)(hb:But R w w3)(ho:ExOn w3 (fun k=>w.heap.size≤k∧k≠g) x vk vs)(hR:R<w.heap.size)
 (hp:a.tmps.getD p undef= .pointer (some ⟨g,0,none⟩)) (hd:a.defers=[]):bodyPost Tryz.prog fn (ExP R w (some (x,ts))) .ret a (setEx w3 g x vk vs):=
 endEx h _ g (setEx_at hk) hp hd ⟨vk,vs,rfl,ExOn.move (fun b _ hF=>⟨hF.1,setEx_ne hF.2⟩) _ _ _ ho,hl.set_ex (by omega),hb.up (setEx_below (Below.refl _ _) hg) hR⟩
set_option maxRecDepth 100000 in
set_option maxHeartbeats 8000000 in
theorem ranked_m (R r:Nat)(L:Option (Ex×List Wd))(ts:List Wd)(w:World)(hr:r=5)(h:LfB R ts w)
 (hJ:∀W,LfB R ts W→Bx R w.heap.size (.cells #[.pointer (some ⟨R,0,none⟩)] 94) W→Bx R (w.heap.size+1) (.cells #[.int .i64 (r:Int)] 3) W→SgOn R (w.heap.size+3+r) (sgs r) W→w.heap.size+2≤W.heap.size→
   Calls Tryz.prog 156 #[.pointer (some ⟨R,0,none⟩),.slice (some ⟨w.heap.size+3+r,0,none⟩) (sgs r).length (sgs r).length,.func (.func 154) #[.pointer (some ⟨R,0,none⟩)] #[]] W (ExP R W L)):
 Calls Tryz.prog 115 #[.pointer (some ⟨R,0,none⟩),.int .i64 (r:Int)] w (ExP R w L):=by
 have hmf:∀(fn:Fn) (first cap:Array Value) (w:World),(Instr.makeFunc fn first cap).run Tryz.prog w= .ok (.func fn first cap) w:=fun _ _ _ _=>rfl
 have hlt:=h.lt
 have k0:decide ((r:Int)<5)=false:=decide_eq_false (by omega)
 have hz0:(0:Int)≤(r:Int):=by omega
 have hz1:(r:Int)<6:=by omega
 obtain⟨W1,hW1,hWr⟩:∃W1,W1=(((((((((w.alloc (.cells #[.pointer (some ⟨R,0,none⟩)] 94)).alloc (.cells #[.int .i64 (r:Int)] 3)).alloc (.cells #[.int .i64 0,.string ⟨#[]⟩,.int .i64 0,.int .i64 0,.bool false,.slice none 0 0,.slice none 0 0] 28)).alloc (.cells #[.string ⟨#[111,114]⟩,.int .i64 1] 170)).alloc (.cells #[.string ⟨#[97,110,100]⟩,.int .i64 2] 170)).alloc (.cells #[.string ⟨#[61]⟩,.int .i64 3,.string ⟨#[33,61]⟩,.int .i64 4] 170)).alloc (.cells #[.string ⟨#[60]⟩,.int .i64 5,.string ⟨#[62]⟩,.int .i64 7,.string ⟨#[60,61]⟩,.int .i64 6,.string ⟨#[62,61]⟩,.int .i64 8] 170)).alloc (.cells #[.string ⟨#[43]⟩,.int .i64 9,.string ⟨#[45]⟩,.int .i64 10] 170)).alloc (.cells #[.string ⟨#[42]⟩,.int .i64 11,.string ⟨#[100,105,118]⟩,.int .i64 12,.string ⟨#[109,111,100]⟩,.int .i64 13] 170)).alloc (.cells #[.slice (some ⟨w.heap.size+3,0,none⟩) 1 1,.slice (some ⟨w.heap.size+4,0,none⟩) 1 1,.slice (some ⟨w.heap.size+5,0,none⟩) 2 2,.slice (some ⟨w.heap.size+6,0,none⟩) 4 4,.slice (some ⟨w.heap.size+7,0,none⟩) 2 2,.slice (some ⟨w.heap.size+8,0,none⟩) 3 3] 172)∧W1=rkW w R r:=⟨_,rfl,rfl⟩
 have HW1:=Lib.hid hW1
 clear hW1
 have hbl:=rkW_below w R r
 have hc0:=rkW_at w R r 0
 have hc1:=rkW_at w R r 1
 have hc2:=rkW_at w R r 2
 have hsz:=rkW_size w R r
 obtain⟨hsg,hc9⟩:=rkW_sg w R r r (by omega) hlt
 rw[←hWr]at hbl hc0 hc1 hc2 hsz hsg hc9
 have hb2:Bx R w.heap.size (.cells #[.pointer (some ⟨R,0,none⟩)] 94) W1:=⟨hlt,hc0⟩
 have hb3:Bx R (w.heap.size+1) (.cells #[.int .i64 (r:Int)] 3) W1:=⟨by omega,hc1⟩
 have hb4:Bx R (w.heap.size+2) (boxEx ex0 (.slice none 0 0) (.slice none 0 0)) W1:=⟨by omega,hc2⟩
 clear hWr hc0 hc1 hc2
 have hdr:Below W1.heap.size W1 W1.drew:=(Below.refl _ _).drew
 have LD:=Lib.hid ((h.below hbl).below hdr)
 have CD:=Lib.hid ((But.of hbl hlt).trans (But.of hdr (by omega)))
 have AD:=Lib.hid (hb4.below hdr)
 have B2:=Lib.hid (hb2.below hdr)
 have B3:=Lib.hid (hb3.below hdr)
 have SD:=Lib.hid (hsg.next (But.of hdr (by omega)))
 have p2:W1.cell? ⟨w.heap.size,0,none⟩=some (.pointer (some ⟨R,0,none⟩)):=by simp[World.cell?,hb2.2]
 have p3:W1.cell? ⟨w.heap.size+1,0,none⟩=some (.int .i64 (r:Int)):=by simp[World.cell?,hb3.2]
 have hx:=hJ W1.drew LD.out B2.out B3.out SD.out (by show _≤W1.heap.size;omega)
 clear hJ hbl hdr hb2 hb3 hb4 hsg h hr
 cases L with
 |none=>
  have HX:=Lib.hid hx
  unfold ExP PaP at HX
  dsimp only at HX
  show Calls _ _ _ _ (PaP R w)
  unfold PaP
  clear hx
  go_enter Tryz.func115,Tryz.ntmps115
  go_upto_region 2 with fail
  simp only[Nat.add_assoc,Nat.reduceAdd]
  rw[←HW1.out]
  go_wp2_with fail
  refine wp_region_any (by kernel_rfl) ?_
  change wpAny _ _ _ _ _ _ _ (World.drew _)
  refine wpAny_take (i:=4) (v:= .func (.func 154) #[.pointer (some ⟨R,0,none⟩)] #[]) rfl (by kernel_rfl) (by kernel_rfl) (by kernel_rfl) (fun _ _ _ h=>h) (Or.inl ⟨by rfl,?_⟩) ?_
  ·intro w;go_simp
  refine wpAny_ready (rs:=[0,1]) (by kernel_rfl) (by simp) ?_
  refine AllReady.cons rfl (fun K hK=> ?_) (AllReady.cons rfl (fun K hK=> ?_) AllReady.nil)
  ·go_simp
   refine hK _ _ ?_
   clear hK K
   refine wpAny_ready (rs:=[1]) (by kernel_rfl) (by simp) ?_
   refine AllReady.cons rfl (fun K hK=> ?_) AllReady.nil
   ·go_simp
    refine hK _ _ ?_
    clear hK K
    refine wpAny_ready (rs:=[2]) (by kernel_rfl) (by simp) ?_
    refine AllReady.cons rfl (fun K hK=> ?_) AllReady.nil
    ·go_simp
     refine hK _ _ ?_
     clear hK K
     refine wpAny_ready (rs:=[3]) (by kernel_rfl) (by simp) ?_
     refine AllReady.cons rfl (fun K hK=> ?_) AllReady.nil
     ·go_simp
      refine hK _ _ ?_
      clear hK K
      refine wpAny_ready (rs:=[5]) (by kernel_rfl) (by simp) ?_
      refine AllReady.cons rfl (fun K hK=> ?_) AllReady.nil
      ·go_simp
       refine HX.out.mono ?_
       rintro e w4 ⟨rfl,hb4⟩
       exact⟨rfl,rfl,CD.out.trans hb4⟩
  ·go_simp
   refine hK _ _ ?_
   clear hK K
   refine wpAny_ready (rs:=[0,2]) (by kernel_rfl) (by simp) ?_
   refine AllReady.cons rfl (fun K hK=> ?_) (AllReady.cons rfl (fun K hK=> ?_) AllReady.nil)
   ·go_simp
    refine hK _ _ ?_
    clear hK K
    refine wpAny_ready (rs:=[2]) (by kernel_rfl) (by simp) ?_
    refine AllReady.cons rfl (fun K hK=> ?_) AllReady.nil
    ·go_simp
     refine hK _ _ ?_
     clear hK K
     refine wpAny_ready (rs:=[3]) (by kernel_rfl) (by simp) ?_
     refine AllReady.cons rfl (fun K hK=> ?_) AllReady.nil
     ·go_simp
      refine hK _ _ ?_
      clear hK K
      refine wpAny_ready (rs:=[5]) (by kernel_rfl) (by simp) ?_
      refine AllReady.cons rfl (fun K hK=> ?_) AllReady.nil
      ·go_simp
       refine HX.out.mono ?_
       rintro e w4 ⟨rfl,hb4⟩
       exact⟨rfl,rfl,CD.out.trans hb4⟩
   ·go_simp
    refine hK _ _ ?_
    clear hK K
    refine wpAny_ready (rs:=[0,3]) (by kernel_rfl) (by simp) ?_
    refine AllReady.cons rfl (fun K hK=> ?_) (AllReady.cons rfl (fun K hK=> ?_) AllReady.nil)
    ·go_simp
     refine hK _ _ ?_
     clear hK K
     refine wpAny_ready (rs:=[3]) (by kernel_rfl) (by simp) ?_
     refine AllReady.cons rfl (fun K hK=> ?_) AllReady.nil
     ·go_simp
      refine hK _ _ ?_
      clear hK K
      refine wpAny_ready (rs:=[5]) (by kernel_rfl) (by simp) ?_
      refine AllReady.cons rfl (fun K hK=> ?_) AllReady.nil
      ·go_simp
       refine HX.out.mono ?_
       rintro e w4 ⟨rfl,hb4⟩
       exact⟨rfl,rfl,CD.out.trans hb4⟩
    ·go_simp
     refine hK _ _ ?_
     clear hK K
     refine wpAny_ready (rs:=[0]) (by kernel_rfl) (by simp) ?_
     refine AllReady.cons rfl (fun K hK=> ?_) AllReady.nil
     ·go_simp
      refine hK _ _ ?_
      clear hK K
      refine wpAny_ready (rs:=[5]) (by kernel_rfl) (by simp) ?_
      refine AllReady.cons rfl (fun K hK=> ?_) AllReady.nil
      ·go_simp
       refine HX.out.mono ?_
       rintro e w4 ⟨rfl,hb4⟩
       exact⟨rfl,rfl,CD.out.trans hb4⟩
 |some p=>
  obtain⟨x,u⟩:=p
  have HX:=Lib.hid hx
  unfold ExP exV at HX
  dsimp only at HX
  clear hx
  go_enter Tryz.func115,Tryz.ntmps115
  go_upto_region 2 with fail
  simp only[Nat.add_assoc,Nat.reduceAdd]
  rw[←HW1.out]
  go_wp2_with fail
  go_region_with (first
   |(go_at_call 156
     refine HX.out.mono ?_
     rintro e w4 ⟨vk,vs,rfl,q0,q1,q2⟩
     have Y4:=Lib.hid (ExOn.move (F':=fun k=>w.heap.size≤k∧k≠w.heap.size+2) (fun k _ hF=>⟨⟨Nat.le_trans CD.out.size hF,by have :=AD.out.lt;omega⟩,rfl⟩) x vk vs q0)
     obtain⟨⟨o3,j3,rfl,_⟩,⟨o4,j4,rfl,_⟩⟩:=ExOn.iff.1 q0
     have L4:=Lib.hid q1
     have A4:=Lib.hid (AD.out.next q2)
     have C4:=Lib.hid (CD.out.trans q2)
     obtain⟨_,gf⟩:=boxEx_blk (AD.out.next q2).2
     have ga:=(AD.out.next q2).lt
     clear q0 q1 q2))
  all_goals
   go_wp2_with fail
   have fin:=fun aa=>@endExG _ _ Tryz.results115 aa R (w.heap.size+2) w w4 x u _ _ _ _ _ (by omega) A4.out.2 L4.out C4.out Y4.out hlt
   exact fin _ rfl rfl
set_option maxRecDepth 100000 in
set_option maxHeartbeats 8000000 in
theorem ranked_c (R r:Nat)(L:Option (Ex×List Wd))(ts:List Wd)(w:World)(hr:r<5)(h:LfB R ts w)
 (hJ:∀W,LfB R ts W→Bx R w.heap.size (.cells #[.pointer (some ⟨R,0,none⟩)] 94) W→Bx R (w.heap.size+1) (.cells #[.int .i64 (r:Int)] 3) W→SgOn R (w.heap.size+3+r) (sgs r) W→w.heap.size+2≤W.heap.size→
   Calls Tryz.prog 156 #[.pointer (some ⟨R,0,none⟩),.slice (some ⟨w.heap.size+3+r,0,none⟩) (sgs r).length (sgs r).length,.func (.func 155) #[] #[.pointer (some ⟨w.heap.size,0,none⟩),.pointer (some ⟨w.heap.size+1,0,none⟩)]] W (ExP R W L)):
 Calls Tryz.prog 115 #[.pointer (some ⟨R,0,none⟩),.int .i64 (r:Int)] w (ExP R w L):=by
 have hmf:∀(fn:Fn) (first cap:Array Value) (w:World),(Instr.makeFunc fn first cap).run Tryz.prog w= .ok (.func fn first cap) w:=fun _ _ _ _=>rfl
 have hlt:=h.lt
 have k0:decide ((r:Int)<5)=true:=decide_eq_true (by omega)
 have hz0:(0:Int)≤(r:Int):=by omega
 have hz1:(r:Int)<6:=by omega
 obtain⟨W1,hW1,hWr⟩:∃W1,W1=(((((((((w.alloc (.cells #[.pointer (some ⟨R,0,none⟩)] 94)).alloc (.cells #[.int .i64 (r:Int)] 3)).alloc (.cells #[.int .i64 0,.string ⟨#[]⟩,.int .i64 0,.int .i64 0,.bool false,.slice none 0 0,.slice none 0 0] 28)).alloc (.cells #[.string ⟨#[111,114]⟩,.int .i64 1] 170)).alloc (.cells #[.string ⟨#[97,110,100]⟩,.int .i64 2] 170)).alloc (.cells #[.string ⟨#[61]⟩,.int .i64 3,.string ⟨#[33,61]⟩,.int .i64 4] 170)).alloc (.cells #[.string ⟨#[60]⟩,.int .i64 5,.string ⟨#[62]⟩,.int .i64 7,.string ⟨#[60,61]⟩,.int .i64 6,.string ⟨#[62,61]⟩,.int .i64 8] 170)).alloc (.cells #[.string ⟨#[43]⟩,.int .i64 9,.string ⟨#[45]⟩,.int .i64 10] 170)).alloc (.cells #[.string ⟨#[42]⟩,.int .i64 11,.string ⟨#[100,105,118]⟩,.int .i64 12,.string ⟨#[109,111,100]⟩,.int .i64 13] 170)).alloc (.cells #[.slice (some ⟨w.heap.size+3,0,none⟩) 1 1,.slice (some ⟨w.heap.size+4,0,none⟩) 1 1,.slice (some ⟨w.heap.size+5,0,none⟩) 2 2,.slice (some ⟨w.heap.size+6,0,none⟩) 4 4,.slice (some ⟨w.heap.size+7,0,none⟩) 2 2,.slice (some ⟨w.heap.size+8,0,none⟩) 3 3] 172)∧W1=rkW w R r:=⟨_,rfl,rfl⟩
 have HW1:=Lib.hid hW1
 clear hW1
 have hbl:=rkW_below w R r
 have hc0:=rkW_at w R r 0
 have hc1:=rkW_at w R r 1
 have hc2:=rkW_at w R r 2
 have hsz:=rkW_size w R r
 obtain⟨hsg,hc9⟩:=rkW_sg w R r r (by omega) hlt
 rw[←hWr]at hbl hc0 hc1 hc2 hsz hsg hc9
 have hb2:Bx R w.heap.size (.cells #[.pointer (some ⟨R,0,none⟩)] 94) W1:=⟨hlt,hc0⟩
 have hb3:Bx R (w.heap.size+1) (.cells #[.int .i64 (r:Int)] 3) W1:=⟨by omega,hc1⟩
 have hb4:Bx R (w.heap.size+2) (boxEx ex0 (.slice none 0 0) (.slice none 0 0)) W1:=⟨by omega,hc2⟩
 clear hWr hc0 hc1 hc2
 have hdr:Below W1.heap.size W1 W1.drew:=(Below.refl _ _).drew
 have LD:=Lib.hid ((h.below hbl).below hdr)
 have CD:=Lib.hid ((But.of hbl hlt).trans (But.of hdr (by omega)))
 have AD:=Lib.hid (hb4.below hdr)
 have B2:=Lib.hid (hb2.below hdr)
 have B3:=Lib.hid (hb3.below hdr)
 have SD:=Lib.hid (hsg.next (But.of hdr (by omega)))
 have p2:W1.cell? ⟨w.heap.size,0,none⟩=some (.pointer (some ⟨R,0,none⟩)):=by simp[World.cell?,hb2.2]
 have p3:W1.cell? ⟨w.heap.size+1,0,none⟩=some (.int .i64 (r:Int)):=by simp[World.cell?,hb3.2]
 have hx:=hJ W1.drew LD.out B2.out B3.out SD.out (by show _≤W1.heap.size;omega)
 clear hJ hbl hdr hb2 hb3 hb4 hsg h hr
 cases L with
 |none=>
  have HX:=Lib.hid hx
  unfold ExP PaP at HX
  dsimp only at HX
  show Calls _ _ _ _ (PaP R w)
  unfold PaP
  clear hx
  go_enter Tryz.func115,Tryz.ntmps115
  go_upto_region 2 with fail
  simp only[Nat.add_assoc,Nat.reduceAdd]
  rw[←HW1.out]
  go_wp2_with fail
  refine wp_region_any (by kernel_rfl) ?_
  change wpAny _ _ _ _ _ _ _ (World.drew _)
  refine wpAny_take (i:=4) (v:= .func (.func 155) #[] #[.pointer (some ⟨w.heap.size,0,none⟩),.pointer (some ⟨w.heap.size+1,0,none⟩)]) rfl (by kernel_rfl) (by kernel_rfl) (by kernel_rfl) (fun _ _ _ h=>h) (Or.inl ⟨by rfl,?_⟩) ?_
  ·intro w;go_simp
  refine wpAny_ready (rs:=[0,1]) (by kernel_rfl) (by simp) ?_
  refine AllReady.cons rfl (fun K hK=> ?_) (AllReady.cons rfl (fun K hK=> ?_) AllReady.nil)
  ·go_simp
   refine hK _ _ ?_
   clear hK K
   refine wpAny_ready (rs:=[1]) (by kernel_rfl) (by simp) ?_
   refine AllReady.cons rfl (fun K hK=> ?_) AllReady.nil
   ·go_simp
    refine hK _ _ ?_
    clear hK K
    refine wpAny_ready (rs:=[2]) (by kernel_rfl) (by simp) ?_
    refine AllReady.cons rfl (fun K hK=> ?_) AllReady.nil
    ·go_simp
     refine hK _ _ ?_
     clear hK K
     refine wpAny_ready (rs:=[3]) (by kernel_rfl) (by simp) ?_
     refine AllReady.cons rfl (fun K hK=> ?_) AllReady.nil
     ·go_simp
      refine hK _ _ ?_
      clear hK K
      refine wpAny_ready (rs:=[5]) (by kernel_rfl) (by simp) ?_
      refine AllReady.cons rfl (fun K hK=> ?_) AllReady.nil
      ·go_simp
       refine HX.out.mono ?_
       rintro e w4 ⟨rfl,hb4⟩
       exact⟨rfl,rfl,CD.out.trans hb4⟩
  ·go_simp
   refine hK _ _ ?_
   clear hK K
   refine wpAny_ready (rs:=[0,2]) (by kernel_rfl) (by simp) ?_
   refine AllReady.cons rfl (fun K hK=> ?_) (AllReady.cons rfl (fun K hK=> ?_) AllReady.nil)
   ·go_simp
    refine hK _ _ ?_
    clear hK K
    refine wpAny_ready (rs:=[2]) (by kernel_rfl) (by simp) ?_
    refine AllReady.cons rfl (fun K hK=> ?_) AllReady.nil
    ·go_simp
     refine hK _ _ ?_
     clear hK K
     refine wpAny_ready (rs:=[3]) (by kernel_rfl) (by simp) ?_
     refine AllReady.cons rfl (fun K hK=> ?_) AllReady.nil
     ·go_simp
      refine hK _ _ ?_
      clear hK K
      refine wpAny_ready (rs:=[5]) (by kernel_rfl) (by simp) ?_
      refine AllReady.cons rfl (fun K hK=> ?_) AllReady.nil
      ·go_simp
       refine HX.out.mono ?_
       rintro e w4 ⟨rfl,hb4⟩
       exact⟨rfl,rfl,CD.out.trans hb4⟩
   ·go_simp
    refine hK _ _ ?_
    clear hK K
    refine wpAny_ready (rs:=[0,3]) (by kernel_rfl) (by simp) ?_
    refine AllReady.cons rfl (fun K hK=> ?_) (AllReady.cons rfl (fun K hK=> ?_) AllReady.nil)
    ·go_simp
     refine hK _ _ ?_
     clear hK K
     refine wpAny_ready (rs:=[3]) (by kernel_rfl) (by simp) ?_
     refine AllReady.cons rfl (fun K hK=> ?_) AllReady.nil
     ·go_simp
      refine hK _ _ ?_
      clear hK K
      refine wpAny_ready (rs:=[5]) (by kernel_rfl) (by simp) ?_
      refine AllReady.cons rfl (fun K hK=> ?_) AllReady.nil
      ·go_simp
       refine HX.out.mono ?_
       rintro e w4 ⟨rfl,hb4⟩
       exact⟨rfl,rfl,CD.out.trans hb4⟩
    ·go_simp
     refine hK _ _ ?_
     clear hK K
     refine wpAny_ready (rs:=[0]) (by kernel_rfl) (by simp) ?_
     refine AllReady.cons rfl (fun K hK=> ?_) AllReady.nil
     ·go_simp
      refine hK _ _ ?_
      clear hK K
      refine wpAny_ready (rs:=[5]) (by kernel_rfl) (by simp) ?_
      refine AllReady.cons rfl (fun K hK=> ?_) AllReady.nil
      ·go_simp
       refine HX.out.mono ?_
       rintro e w4 ⟨rfl,hb4⟩
       exact⟨rfl,rfl,CD.out.trans hb4⟩
 |some p=>
  obtain⟨x,u⟩:=p
  have HX:=Lib.hid hx
  unfold ExP exV at HX
  dsimp only at HX
  clear hx
  go_enter Tryz.func115,Tryz.ntmps115
  go_upto_region 2 with fail
  simp only[Nat.add_assoc,Nat.reduceAdd]
  rw[←HW1.out]
  go_wp2_with fail
  go_region_with (first
   |(go_at_call 156
     refine HX.out.mono ?_
     rintro e w4 ⟨vk,vs,rfl,q0,q1,q2⟩
     have Y4:=Lib.hid (ExOn.move (F':=fun k=>w.heap.size≤k∧k≠w.heap.size+2) (fun k _ hF=>⟨⟨Nat.le_trans CD.out.size hF,by have :=AD.out.lt;omega⟩,rfl⟩) x vk vs q0)
     obtain⟨⟨o3,j3,rfl,_⟩,⟨o4,j4,rfl,_⟩⟩:=ExOn.iff.1 q0
     have L4:=Lib.hid q1
     have A4:=Lib.hid (AD.out.next q2)
     have C4:=Lib.hid (CD.out.trans q2)
     obtain⟨_,gf⟩:=boxEx_blk (AD.out.next q2).2
     have ga:=(AD.out.next q2).lt
     clear q0 q1 q2))
  all_goals
   go_wp2_with fail
   have fin:=fun aa=>@endExG _ _ Tryz.results115 aa R (w.heap.size+2) w w4 x u _ _ _ _ _ (by omega) A4.out.2 L4.out C4.out Y4.out hlt
   exact fin _ rfl rfl
end Char
namespace Char
open Go.RowKit Go.Lib Go.Shelf
set_option maxRecDepth 100000 in
set_option maxHeartbeats 8000000 in
theorem clo_any (R b2 b3 r:Nat)(L:Option (Ex×List Wd))(ts:List Wd)(w:World)(hr:r≤5)(h:LfB R ts w)(h2:Bx R b2 (.cells #[.pointer (some ⟨R,0,none⟩)] 94) w)(h3:Bx R b3 (.cells #[.int .i64 (r:Int)] 3) w)
 (hX:∀W,LfB R ts W→Calls Tryz.prog 115 #[.pointer (some ⟨R,0,none⟩),.int .i64 ((r:Int)+1)] W (ExP R W L)):
 Calls Tryz.prog 155 #[.pointer (some ⟨b2,0,none⟩),.pointer (some ⟨b3,0,none⟩)] w (ExP R w L):=by
 have hlt:=h.lt
 have L0:Hid (LfB R ts (w.alloc (.cells #[.int .i64 0,.string ⟨#[]⟩,.int .i64 0,.int .i64 0,.bool false,.slice none 0 0,.slice none 0 0] 28))):=Lib.hid (h.box _)
 have A0:=Lib.hid (Bx.new hlt (boxEx ex0 (.slice none 0 0) (.slice none 0 0)))
 have C0:=Lib.hid (But.new R w hlt (boxEx ex0 (.slice none 0 0) (.slice none 0 0)))
 have p2:w.cell? ⟨b2,0,none⟩=some (.pointer (some ⟨R,0,none⟩)):=by simp[World.cell?,h2.2]
 have p3:w.cell? ⟨b3,0,none⟩=some (.int .i64 (r:Int)):=by simp[World.cell?,h3.2]
 have g2:=h2.lt
 have g3:=h3.lt
 clear h h2 h3
 cases L with
 |none=>
  have HX:=Lib.hid hX
  unfold ExP PaP at HX
  dsimp only at HX
  show Calls _ _ _ _ (PaP R w)
  unfold PaP
  clear hX
  go_enter Tryz.func155,Tryz.ntmps155
  go_wp2_with (first
   |(go_at_call 115
     refine(HX.out _ L0.out).mono ?_
     rintro e w1 ⟨rfl,q2⟩
     have C1:=Lib.hid (C0.out.trans q2)
     clear q2
     unfold pan31))
  exact⟨rfl,rfl,C1.out⟩
 |some p=>
  obtain⟨x,u⟩:=p
  have HX:=Lib.hid hX
  unfold ExP exV at HX
  dsimp only at HX
  clear hX
  go_enter Tryz.func155,Tryz.ntmps155
  go_wp2_with (first
   |(go_at_call 115
     refine(HX.out _ L0.out).mono ?_
     rintro e w1 ⟨vk,vs,rfl,q0,q1,q2⟩
     obtain⟨⟨o1,j1,rfl,_⟩,⟨o2,j2,rfl,_⟩⟩:=ExOn.iff.1 q0
     have L1:=Lib.hid q1
     have A1:=Lib.hid (A0.out.next q2)
     have C1:=Lib.hid (C0.out.trans q2)
     have Y1:=Lib.hid (ExOn.low (B':=w.heap.size+1) q0 (by simp))
     obtain⟨_,gf⟩:=boxEx_blk (A0.out.next q2).2
     clear q0 q1 q2 HX))
  have fin:=fun aa=>@endExP _ _ Tryz.results155 aa R w w1 x u _ _ _ _ _ A1.out.2 L1.out C1.out Y1.out hlt
  exact fin _ rfl rfl
set_option maxRecDepth 100000 in
set_option maxHeartbeats 8000000 in
theorem expression_walk (R:Nat)(L:Option (Ex×List Wd))(ts:List Wd)(w:World)(h:LfB R ts w)
 (hX:∀W,LfB R ts W→Calls Tryz.prog 115 #[.pointer (some ⟨R,0,none⟩),.int .i64 0] W (ExP R W L)):
 Calls Tryz.prog 60 #[.pointer (some ⟨R,0,none⟩)] w (ExP R w L):=by
 have hlt:=h.lt
 have L0:Hid (LfB R ts (w.alloc (.cells #[.int .i64 0,.string ⟨#[]⟩,.int .i64 0,.int .i64 0,.bool false,.slice none 0 0,.slice none 0 0] 28))):=Lib.hid (h.box _)
 have A0:=Lib.hid (Bx.new hlt (boxEx ex0 (.slice none 0 0) (.slice none 0 0)))
 have C0:=Lib.hid (But.new R w hlt (boxEx ex0 (.slice none 0 0) (.slice none 0 0)))
 clear h
 cases L with
 |none=>
  have HX:=Lib.hid hX
  unfold ExP PaP at HX
  dsimp only at HX
  show Calls _ _ _ _ (PaP R w)
  unfold PaP
  clear hX
  go_enter Tryz.func60,Tryz.ntmps60
  go_wp2_with (first
   |(go_at_call 115
     refine(HX.out _ L0.out).mono ?_
     rintro e w1 ⟨rfl,q2⟩
     have C1:=Lib.hid (C0.out.trans q2)
     clear q2
     unfold pan31))
  exact⟨rfl,rfl,C1.out⟩
 |some p=>
  obtain⟨x,u⟩:=p
  have HX:=Lib.hid hX
  unfold ExP exV at HX
  dsimp only at HX
  clear hX
  go_enter Tryz.func60,Tryz.ntmps60
  go_wp2_with (first
   |(go_at_call 115
     refine(HX.out _ L0.out).mono ?_
     rintro e w1 ⟨vk,vs,rfl,q0,q1,q2⟩
     obtain⟨⟨o1,j1,rfl,_⟩,⟨o2,j2,rfl,_⟩⟩:=ExOn.iff.1 q0
     have L1:=Lib.hid q1
     have A1:=Lib.hid (A0.out.next q2)
     have C1:=Lib.hid (C0.out.trans q2)
     have Y1:=Lib.hid (ExOn.low (B':=w.heap.size+1) q0 (by simp))
     obtain⟨_,gf⟩:=boxEx_blk (A0.out.next q2).2
     clear q0 q1 q2 HX))
  have fin:=fun aa=>@endExP _ _ Tryz.results60 aa R w w1 x u _ _ _ _ _ A1.out.2 L1.out C1.out Y1.out hlt
  exact fin _ rfl rfl
theorem sgs_ok:∀r≤5,(sgs r).length≤100∧∀p∈sgs r,p.2≠0:=by decide
theorem ranked_any (R N:Nat)(E:List Wd→Option (Ex×List Wd))(hE:SubE R N E)(hS:ShrE E)(hN:N≤800):∀(n:Nat),n≤5→∀(ts:List Wd) (w:World),LfB R ts w→ts.length≤N→
 Calls Tryz.prog 115 #[.pointer (some ⟨R,0,none⟩),.int .i64 ((5-n:Nat):Int)] w (ExP R w (rankL E n ts))
 |0,_,ts,w,h,hn=>ranked_m R 5 _ ts w rfl h fun W hl _ _ hs _=>
    joined_m (enters_of Tryz.func154 (by kernel_rfl) rfl) R N (fun _=>True) (fun ts=>signL E (ts.length+1) ts) (sgn_len hS) (w.heap.size+3+5) (sgs 5) ts W (fun _ _ _ _=>trivial)
     (fun l W hw _ hl2=>signed_any R N E hE hS hN (l.length+1) l W hw (by omega) hl2) hl trivial hs (sgs_ok 5 (by omega)).1 (sgs_ok 5 (by omega)).2 hn
 |n+1,h5,ts,w,h,hn=>by
  have e1:5-(n+1)=4-n:=by omega
  rw[e1]
  refine ranked_c R (4-n) _ ts w (by omega) h fun W hl hb2 hb3 hs hz=> ?_
  refine joined_c (enters_of Tryz.func155 (by kernel_rfl) rfl) R N w.heap.size (w.heap.size+1)
   (fun W=>Bx R w.heap.size (.cells #[.pointer (some ⟨R,0,none⟩)] 94) W∧Bx R (w.heap.size+1) (.cells #[.int .i64 ((4-n:Nat):Int)] 3) W) (rankL E n) (rank_len hS n) (w.heap.size+3+(4-n)) (sgs (4-n)) ts W
   (fun W1 W2 he hb=>⟨he.1.bub hb (by omega),he.2.bub hb (by omega)⟩) (fun l W2 hw he hl2=> ?_) hl ⟨hb2,hb3⟩ hs (sgs_ok _ (by omega)).1 (sgs_ok _ (by omega)).2 hn
  refine clo_any R _ _ (4-n) _ l W2 (by omega) hw he.1 he.2 fun W3 hw3=> ?_
  have :=ranked_any R N E hE hS hN n (by omega) l W3 hw3 hl2
  rwa [show((5-n:Nat):Int)=((4-n:Nat):Int)+1 by omega]at this
theorem expr_any (R:Nat):∀d,d≤801→SubE R d (exprL d)
 |0,_=>fun l _ _ hl=>absurd hl (by omega)
 |d+1,hd=>fun l W hw hl=>
  expression_walk R _ l W hw fun W1 hw1=>ranked_any R d (exprL d) (expr_any R d (by omega)) (expr_len d) (by omega) 5 (by omega) l W1 hw1 (by omega)
end Char
namespace Char
open Go.RowKit Go.Lib Go.Shelf
set_option maxRecDepth 100000 in
set_option maxHeartbeats 4000000 in
theorem catch_idle (p q:Addr)(w:World):
 CallsD Tryz.prog 59 #[.pointer (some p),.pointer (some q)] .returning w fun e u' w'=>e= .returned (.tuple #[])∧u'= .returning∧w'=w:=by
 refine callsD_of_wpS Tryz.func59 rfl fun c₀ cs hu=> ?_
 apply wpS_seq
 apply wpS_region
 simp[wpOpsS,go_sem,recoverD,hu,Tryz.ntmps59,Exit.thenS]
 apply wpS_seq
 apply wpS_region
 simp[wpOpsS,go_sem,Exit.thenS]
 refine wpS_cond (t:=false) (by simp[Act.eval,Array.replicate]) ?_
 simp only[Bool.false_eq_true,if_false]
 refine wpS_of_wp (wp_skip ?_)
 cases c₀
 simp_all [bodyPostS,results,Tryz.results59]
set_option maxRecDepth 100000 in
set_option maxHeartbeats 4000000 in
theorem catch_panicking (A:Nat)(older:List PanicEntry)(w:World)(x:Ex)(vk vs v1:Value)(hp:w.heap[A]? =some (boxEx x vk vs))(hq:w.cell? ⟨A+1,0,none⟩=some v1)(hfq:w.frozen? ⟨A+1,0,none⟩=false):
 CallsD Tryz.prog 59 #[.pointer (some ⟨A,0,none⟩),.pointer (some ⟨A+1,0,none⟩)] (.panicking ({v:= .iface 29 (.int .i64 31),recovered:=false}::older)) w fun e u' w'=>
  e= .returned (.tuple #[])∧u'= .panicking ({v:= .iface 29 (.int .i64 31),recovered:=true}::older)∧w'=((setEx w A ex0 (.slice none 0 0) (.slice none 0 0)).setCell ⟨A+1,0,none⟩ (.int .i64 31)).drew:=by
 obtain⟨⟨x0,x1,x2,x3,x4,x5,x6⟩,xf⟩:=boxEx_blk hp
 have hlt:A<w.heap.size:=(Array.getElem?_eq_some_iff.1 hp).1
 clear hp
 refine callsD_of_wpS Tryz.func59 rfl fun c₀ cs hu=> ?_
 apply wpS_seq
 apply wpS_region
 simp[wpOpsS,go_sem,recoverD,hu,Tryz.ntmps59,Exit.thenS]
 apply wpS_seq
 apply wpS_region
 simp[wpOpsS,go_sem,Exit.thenS]
 refine wpS_cond (t:=true) (by simp[Act.eval,Array.replicate]) ?_
 simp only[if_true]
 refine wpS_of_wp ?_
 generalize hQ:(fun(e:Exit) (a':Act) (w':World)=>bodyPostS Tryz.prog Tryz.f59 c₀ cs _ e a' _ w')=Q
 change Code.wp _ _ _ {tmps:= #[.pointer (some ⟨A,0,none⟩),.pointer (some ⟨A+1,0,none⟩),.iface 29 (.int .i64 31),.iface 29 (.int .i64 31),.iface 29 (.int .i64 31),.bool true,undef,undef,undef],defers:=[]} w
 have hta:∀w:World,(Instr.typeAssert (.iface 29 (.int .i64 31)) 20 29 false).run Tryz.prog w= .ok (.int .i64 31) w:=fun _=>by kernel_rfl
 go_region
 all_goals
  subst hQ
  simp[bodyPostS,results,Tryz.results59,setEx,ex0,Ex.op,Ex.s,Ex.tg,Ex.vl,Ex.abs]
  rfl
end Char
namespace Char
open Go.RowKit Go.Lib Go.Shelf
def wholeL (ts:List Wd):Option Ex:=match exprL (ts.length+1) ts with
 |some (x,[])=>some x
 |_=>none
def WhP (err:Int)(w:World)(x:Option Ex)(e:Ending)(w':World):Prop:=match x with
 |none=>e= .returned (.tuple #[exV ex0 (.slice none 0 0) (.slice none 0 0),.int .i64 err])
 |some x=>∃vk vs,e= .returned (.tuple #[exV x vk vs,.int .i64 0])∧ExOn w' (w.heap.size≤ ·) x vk vs
theorem But.two {R b:Nat}{w W:World}{x:Ex}{vk vs v:Value}(h:But R w W)(hR:R<w.heap.size)(hb:w.heap.size≤b):But R w ((setEx W b x vk vs).setCell ⟨b+1,0,none⟩ v):=
 (h.up (setEx_below (Below.refl _ _) hb) hR).set_cell hR (by omega)
theorem drew_heap (X:World):X.drew.heap=X.heap:=rfl
theorem drew_cell (X:World)(a:Addr):X.drew.cell? a=X.cell? a:=rfl
theorem whole_end {W:World}{b:Nat}{x y:Ex}{vk vs uk us v:Value}(h:W.heap[b]? =some (boxEx y uk us))(hc:∃u,W.cell? ⟨b+1,0,none⟩=some u):(((setEx W b x vk vs).setCell ⟨b+1,0,none⟩ v).heap[b]? =some (boxEx x vk vs))∧((setEx W b x vk vs).setCell ⟨b+1,0,none⟩ v).cell? ⟨b+1,0,none⟩=some v:=by
 obtain⟨u,hc⟩:=hc
 refine⟨(heap_set_ne (a:=⟨b+1,0,none⟩) (by show b≠b+1;omega)).trans (setEx_at h),?_⟩
 have h1:(setEx W b x vk vs).cell? ⟨b+1,0,none⟩=some u:=(World.cell?_of_block (w:=W) (a:=⟨b+1,0,none⟩) (setEx_ne (by show b+1≠b;omega))).trans hc
 go_simp
theorem whole_behind {R:Nat}{w w4:World}{y:Ex}{uk us:Value}(hR:R<w.heap.size)(h:w4.heap[w.heap.size]? =some (boxEx y uk us))(hc:∃u,w4.cell? ⟨w.heap.size+1,0,none⟩=some u)(hb:But R w w4):
 ∃Y,Y=((setEx w4 w.heap.size ex0 (.slice none 0 0) (.slice none 0 0)).setCell ⟨w.heap.size+1,0,none⟩ (.int .i64 31)).drew∧Y.heap[w.heap.size]? =some (boxEx ex0 (.slice none 0 0) (.slice none 0 0))∧Y.cell? ⟨w.heap.size+1,0,none⟩=some (.int .i64 31)∧But R w Y:=by
 refine⟨_,rfl,?_,?_,?_⟩
 ·rw[drew_heap]
  exact(whole_end h hc).1
 ·rw[drew_cell]
  exact(whole_end h hc).2
 ·have hbt:=hb.two (x:=ex0) (vk:= .slice none 0 0) (vs:= .slice none 0 0) (v:= .int .i64 31) hR (Nat.le_refl _)
  exact hbt.trans (But.of ((Below.refl _ _).drew) (Nat.lt_of_lt_of_le hR hbt.size))
theorem whole_done {R:Nat}{w w1:World}{x y:Ex}{vk vs uk us:Value}(hR:R<w.heap.size)(h:w1.heap[w.heap.size]? =some (boxEx y uk us))(hc:∃u,w1.cell? ⟨w.heap.size+1,0,none⟩=some u)(hb:But R w w1)(ho:ExOn w1 (w.heap.size+2≤ ·) x vk vs):
 ∃Y,Y=(setEx (setEx w1 w.heap.size x vk vs) w.heap.size x vk vs).setCell ⟨w.heap.size+1,0,none⟩ (.int .i64 0)∧Y.heap[w.heap.size]? =some (boxEx x vk vs)∧Y.cell? ⟨w.heap.size+1,0,none⟩=some (.int .i64 0)∧But R w Y∧ExOn Y (w.heap.size≤ ·) x vk vs:=by
 obtain⟨u,hc⟩:=hc
 have h1:(setEx w1 w.heap.size x vk vs).heap[w.heap.size]? =some (boxEx x vk vs):=setEx_at h
 have hc1:(setEx w1 w.heap.size x vk vs).cell? ⟨w.heap.size+1,0,none⟩=some u:=(World.cell?_of_block (w:=w1) (a:=⟨w.heap.size+1,0,none⟩) (setEx_ne (by show w.heap.size+1≠w.heap.size;omega))).trans hc
 have hb1:But R w (setEx w1 w.heap.size x vk vs):=hb.up (setEx_below (Below.refl _ _) (Nat.le_refl _)) hR
 have he:=whole_end (x:=x) (vk:=vk) (vs:=vs) (v:= .int .i64 0) h1 ⟨u,hc1⟩
 refine⟨_,rfl,he.1,he.2,hb1.two hR (Nat.le_refl _),?_⟩
 refine ExOn.move (fun k hk hF=>⟨by omega,?_⟩) _ _ _ ho
 rw[heap_set_ne (a:=⟨w.heap.size+1,0,none⟩) (show k≠w.heap.size+1 by omega),setEx_ne (by omega),setEx_ne (by omega)]
set_option maxRecDepth 100000 in
set_option maxHeartbeats 16000000 in
theorem whole_any (R:Nat)(ts:List Wd)(w:World)(h:LfB R ts w)(hl:ts.length≤800):
 Calls Tryz.prog 28 #[.pointer (some ⟨R,0,none⟩)] w fun e w'=>WhP 31 w (wholeL ts) e w'∧But R w w':=by
 have hmf:∀(fn:Fn) (first cap:Array Value) (w:World),(Instr.makeFunc fn first cap).run Tryz.prog w= .ok (.func fn first cap) w:=fun _ _ _ _=>rfl
 have hR:=h.lt
 obtain⟨W0,hW0⟩:∃W0,W0=(w.alloc (.cells #[.int .i64 0,.string ⟨#[]⟩,.int .i64 0,.int .i64 0,.bool false,.slice none 0 0,.slice none 0 0] 28)).alloc (.cells #[.int .i64 0] 29):=⟨_,rfl⟩
 have hb0:Below w.heap.size w W0:=by rw[hW0];exact((Below.refl _ _).alloc (Nat.le_refl _) _).alloc (by simp) _
 have hx0:Bx R w.heap.size (boxEx ex0 (.slice none 0 0) (.slice none 0 0)) W0:=by rw[hW0];exact(Bx.new hR _).box _
 have hx1:Bx R (w.heap.size+1) (.cells #[.int .i64 0] 29) W0:=by rw[hW0];exact Bx.new1 hR _ _
 have hX:=expr_any R (ts.length+1) (by omega) ts W0 (h.below hb0) (by omega)
 have HW0:=Lib.hid hW0
 have C0:=Lib.hid (But.of hb0 hR)
 have A0:=Lib.hid hx0
 have B0:=Lib.hid hx1
 unfold wholeL
 clear hW0 hb0 hx0 hx1 h
 obtain⟨P,hP⟩:∃P:Ending→World→Prop,P=fun e w'=>WhP 31 w (wholeL ts) e w'∧But R w w':=⟨_,rfl⟩
 have hP2:(fun e w'=>WhP 31 w (match exprL (ts.length+1) ts with |some (x,[])=>some x|_=>none) e w'∧But R w w')=P:=by rw[hP];rfl
 rw[hP2]
 have hpan:wholeL ts=none→∀W,But R w W→P (.returned (.tuple #[exV ex0 (.slice none 0 0) (.slice none 0 0),.int .i64 31])) W:=fun hn W hb=>by
  rw[hP,hn]
  exact⟨rfl,hb⟩
 unfold wholeL at hpan
 clear hP2
 cases h1:exprL (ts.length+1) ts with
 |none=>
  rw[h1]at hX hpan
  have HX:=Lib.hid hX
  have HP:=Lib.hid (hpan rfl)
  unfold ExP PaP at HX
  dsimp only at HX
  clear h1 hX hpan hP
  go_enter_defers Tryz.func28,Tryz.ntmps28
  go_wp2_with fail
  rw[←HW0.out]
  refine HX.out.mono ?_
  rintro e w4 ⟨rfl,hb4⟩
  obtain⟨c1,f1⟩:w4.cell? ⟨w.heap.size+1,0,none⟩=some (.int .i64 0)∧w4.frozen? ⟨w.heap.size+1,0,none⟩=false:=by
   have :=(B0.out.next hb4).2
   exact⟨by simp[World.cell?,this],by simp[World.frozen?,this]⟩
  unfold pan31
  go_wp2_with fail
  refine leaves_cons (u:= .panicking [{v:= .iface 29 (.int .i64 31),recovered:=false}]) (f:=59) (args:= #[.pointer (some ⟨w.heap.size,0,none⟩),.pointer (some ⟨w.heap.size+1,0,none⟩)]) (by simp) (by simp[go_sem]) ?_
  refine(catch_panicking w.heap.size [] w4 _ _ _ _ (A0.out.next hb4).2 c1 f1).mono ?_
  rintro e u' w5 ⟨rfl,rfl,hw5⟩
  obtain⟨Y,hY,hY1,hY2,hY3⟩:=whole_behind hR (A0.out.next hb4).2 ⟨_,c1⟩ (C0.out.trans hb4)
  rw[←hY]at hw5
  subst hw5
  have HY3:=Lib.hid hY3
  obtain⟨⟨x0,x1,x2,x3,x4,x5,x6⟩,_⟩:=boxEx_blk hY1
  clear hY hY1 hY3 c1 f1
  simp[Leaves,settle,results,Tryz.results28,go_sem,x0,x1,x2,x3,x4,x5,x6,hY2]
  exact HP.out _ HY3.out
 |some p=>
  obtain⟨x,r⟩:=p
  rw[h1]at hX hpan
  unfold ExP exV at hX
  dsimp only at hX
  have HX:=Lib.hid hX
  clear hX
  have HW1:Hid (∀(w1:World) (o1 o2:Option Addr) (j1 j2:Nat),But R W0 w1→(setEx w1 w.heap.size x (.slice o1 x.ks.length j1) (.slice o2 x.ss.length j2)).heap[w.heap.size]? =some (boxEx x (.slice o1 x.ks.length j1) (.slice o2 x.ss.length j2))∧Bx R (w.heap.size+1) (.cells #[.int .i64 0] 29) (setEx w1 w.heap.size x (.slice o1 x.ks.length j1) (.slice o2 x.ss.length j2))∧But R w (setEx w1 w.heap.size x (.slice o1 x.ks.length j1) (.slice o2 x.ss.length j2))):=Lib.hid fun w1 o1 o2 j1 j2 hb=>by
   refine⟨setEx_at (A0.out.next hb).2,⟨by omega,(setEx_ne (by omega)).trans (B0.out.next hb).2⟩,?_⟩
   exact(C0.out.trans hb).up (setEx_below (Below.refl _ _) (Nat.le_refl _)) hR
  cases r with
  |cons m r=>
   have HP:=Lib.hid (hpan rfl)
   have k1:decide (0<r.length+1)=true:=decide_eq_true (by omega)
   have k2:decide ((0:Int)<((r.length+1:Nat):Int))=true:=decide_eq_true (by omega)
   have k3:(0:Int)<((r.length+1:Nat):Int):=by omega
   clear h1 hpan hP
   go_enter_defers Tryz.func28,Tryz.ntmps28
   go_wp2_with fail
   rw[←HW0.out]
   refine HX.out.mono ?_
   rintro e w1 ⟨vk,vs,rfl,q0,q1,q2⟩
   obtain⟨⟨o1,j1,rfl,_⟩,⟨o2,j2,rfl,_⟩⟩:=ExOn.iff.1 q0
   have H1:=Lib.hid (HW1.out w1 o1 o2 j1 j2 q2)
   obtain⟨g,off,c,c1,_⟩:=q1.cons
   obtain⟨_,gf⟩:=boxEx_blk (A0.out.next q2).2
   have ga:=(A0.out.next q2).lt
   clear q0 q1 q2 HW1
   generalize r.length+1=n at *
   go_wp2_with fail
   change bodyPostD _ _ _ _ _ (setEx w1 w.heap.size x (.slice o1 x.ks.length j1) (.slice o2 x.ss.length j2))
   obtain⟨W5,hW5⟩:∃W5,W5=setEx w1 w.heap.size x (.slice o1 x.ks.length j1) (.slice o2 x.ss.length j2):=⟨_,rfl⟩
   rw[←hW5]at H1
   rw[←hW5]
   clear hW5
   obtain⟨z1,z2,z3⟩:=H1.out
   obtain⟨c2,f2⟩:W5.cell? ⟨w.heap.size+1,0,none⟩=some (.int .i64 0)∧W5.frozen? ⟨w.heap.size+1,0,none⟩=false:=⟨by simp[World.cell?,z2.2],by simp[World.frozen?,z2.2]⟩
   refine leaves_cons (u:= .panicking [{v:= .iface 29 (.int .i64 31),recovered:=false}]) (f:=59) (args:= #[.pointer (some ⟨w.heap.size,0,none⟩),.pointer (some ⟨w.heap.size+1,0,none⟩)]) (by simp) (by simp[go_sem]) ?_
   refine(catch_panicking w.heap.size [] W5 _ _ _ _ z1 c2 f2).mono ?_
   rintro e u' w5 ⟨rfl,rfl,hw5⟩
   obtain⟨Y,hY,hY1,hY2,hY3⟩:=whole_behind hR z1 ⟨_,c2⟩ z3
   rw[←hY]at hw5
   subst hw5
   have HY3:=Lib.hid hY3
   obtain⟨⟨x0,x1,x2,x3,x4,x5,x6⟩,_⟩:=boxEx_blk hY1
   clear hY hY1 hY3 z1 z2 z3 c2 f2
   simp[Leaves,settle,results,Tryz.results28,go_sem,x0,x1,x2,x3,x4,x5,x6,hY2]
   exact HP.out _ HY3.out
  |nil=>
   have HP:Hid (∀W e,WhP 31 w (some x) e W→But R w W→P e W):=Lib.hid fun W e h0 hb=>by
    rw[hP]
    unfold wholeL
    rw[h1]
    exact⟨h0,hb⟩
   clear h1 hpan hP
   go_enter_defers Tryz.func28,Tryz.ntmps28
   go_wp2_with fail
   rw[←HW0.out]
   refine HX.out.mono ?_
   rintro e w1 ⟨vk,vs,rfl,q0,q1,q2⟩
   have Y1:=Lib.hid q0
   obtain⟨⟨o1,j1,rfl,_⟩,⟨o2,j2,rfl,_⟩⟩:=ExOn.iff.1 q0
   have H1:=Lib.hid (HW1.out w1 o1 o2 j1 j2 q2)
   obtain⟨o,c,c1,_⟩:=q1.nil
   obtain⟨_,gf⟩:=boxEx_blk (A0.out.next q2).2
   have ga:=(A0.out.next q2).lt
   have gb:=(B0.out.next q2).lt
   obtain⟨c2,f2⟩:w1.cell? ⟨w.heap.size+1,0,none⟩=some (.int .i64 0)∧w1.frozen? ⟨w.heap.size+1,0,none⟩=false:=⟨by simp[World.cell?,(B0.out.next q2).2],by simp[World.frozen?,(B0.out.next q2).2]⟩
   have hs0:W0.heap.size=w.heap.size+2:=by rw[HW0.out];simp
   have q3:=ExOn.low (B':=w.heap.size+2) q0 (by omega)
   obtain⟨Y,hY,hY1,hY2,hY3,hY4⟩:=whole_done (x:=x) (vk:= .slice o1 x.ks.length j1) (vs:= .slice o2 x.ss.length j2) hR (A0.out.next q2).2 ⟨_,c2⟩ (C0.out.trans q2) q3
   have HY:=Lib.hid hY
   have HZ:=Lib.hid (And.intro hY3 hY4)
   have HY1:=Lib.hid hY1
   have HY2:=Lib.hid hY2
   clear q0 q1 q2 q3 HW1 hY hY1 hY2 hY3 hY4 hs0
   go_wp2_with fail
   change bodyPostD _ _ _ _ _ ((setEx (setEx w1 w.heap.size x (.slice o1 x.ks.length j1) (.slice o2 x.ss.length j2)) w.heap.size x (.slice o1 x.ks.length j1) (.slice o2 x.ss.length j2)).setCell ⟨w.heap.size+1,0,none⟩ (.int .i64 0))
   rw[←HY.out]
   refine leaves_cons (f:=59) (args:= #[.pointer (some ⟨w.heap.size,0,none⟩),.pointer (some ⟨w.heap.size+1,0,none⟩)]) (by simp) (by simp[go_sem]) ?_
   refine(catch_idle _ _ _).mono ?_
   rintro e u' w'' ⟨rfl,rfl,hw⟩
   have hw:=hw.symm
   subst hw
   obtain⟨⟨x0,x1,x2,x3,x4,x5,x6⟩,_⟩:=boxEx_blk HY1.out
   have x7:=HY2.out
   simp[Leaves,settle,results,Tryz.results28,go_sem,x0,x1,x2,x3,x4,x5,x6,x7]
   exact HP.out _ _ ⟨_,_,rfl,HZ.out.2⟩ HZ.out.1
end Char
end Go.Proofs.YtlmpkpjjakallaaGreatDoor
