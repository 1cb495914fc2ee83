import Derived.Test.YtlmpkpjjakallaaGreatDoorPt06
import Derived.Great.Walk
import Derived.BigRegion
import Derived.Deep.RegionHeld3
import Derived.Test.YtlmpkpjjakallaaGreatDoorPt23
import Derived.Laws.StructEq
import Derived.Test.YtlmpkpjjakallaaGreatDoorPt07
namespace Go.Proofs.YtlmpkpjjakallaaGreatDoor
namespace Char
open Go.RowKit Go.Lib
deriving instance DecidableEq for Fn4
def fnR:List (List UInt8×Fn4):=[
 ([108,97,115,116],⟨0,0,false,3⟩),
 ([112,111,115,105,116,105,111,110],⟨0,0,false,3⟩),
 ([99,111,117,110,116],⟨1,1,true,3⟩),
 ([115,117,109],⟨1,1,true,3⟩),
 ([108,111,99,97,108,45,110,97,109,101],⟨0,1,true,4⟩),
 ([110,97,109,101],⟨0,1,true,4⟩),
 ([110,97,109,101,115,112,97,99,101,45,117,114,105],⟨0,1,true,4⟩),
 ([115,116,114,105,110,103],⟨0,1,false,4⟩),
 ([110,111,114,109,97,108,105,122,101,45,115,112,97,99,101],⟨0,1,false,4⟩),
 ([99,111,110,99,97,116],⟨2,120,false,4⟩),
 ([115,116,97,114,116,115,45,119,105,116,104],⟨2,2,false,2⟩),
 ([99,111,110,116,97,105,110,115],⟨2,2,false,2⟩),
 ([115,117,98,115,116,114,105,110,103,45,98,101,102,111,114,101],⟨2,2,false,4⟩),
 ([115,117,98,115,116,114,105,110,103,45,97,102,116,101,114],⟨2,2,false,4⟩),
 ([115,117,98,115,116,114,105,110,103],⟨2,3,false,4⟩),
 ([116,114,97,110,115,108,97,116,101],⟨3,3,false,4⟩),
 ([115,116,114,105,110,103,45,108,101,110,103,116,104],⟨0,1,false,3⟩),
 ([98,111,111,108,101,97,110],⟨1,1,false,2⟩),
 ([110,111,116],⟨1,1,false,2⟩),
 ([108,97,110,103],⟨1,1,false,2⟩),
 ([116,114,117,101],⟨0,0,false,2⟩),
 ([102,97,108,115,101],⟨0,0,false,2⟩),
 ([110,117,109,98,101,114],⟨0,1,false,3⟩),
 ([102,108,111,111,114],⟨1,1,false,3⟩),
 ([99,101,105,108,105,110,103],⟨1,1,false,3⟩),
 ([114,111,117,110,100],⟨1,1,false,3⟩)]
theorem fnR_eq (s:List UInt8):fnF s=fnG fnR s:=by
 unfold fnF
 by_cases h:s∈fnT.map (·.1)
 ·have key:∀x∈fnT.map (·.1),fnG fnT x=fnG fnR x:=by decide+kernel
  exact key s h
 ·rw[fnG_no fnT s (fun p hp e=>h (by rw[e];exact List.mem_map_of_mem hp)),fnG_no fnR s (fun p hp e=>h ?_)]
  have key:∀p∈fnR,p.1∈fnT.map (·.1):=by decide+kernel
  rw[e]
  exact key p hp
def rfN:Array Value:=(fnR.map fun p=>Value.string (bs p.1)).toArray
def rfL:Array Value:=(fnR.map fun p=>Value.int .i64 p.2.least).toArray
def rfM:Array Value:=(fnR.map fun p=>Value.int .i64 p.2.most).toArray
def rfT:Array Value:=(fnR.map fun p=>Value.int .i64 p.2.ty).toArray
theorem rf_at {k:Nat}(h:k<26):∃n f,fnR[k]? =some (n,f)∧rfN[k]? =some (.string (bs n))∧rfL[k]? =some (.int .i64 f.least)∧rfM[k]? =some (.int .i64 f.most)∧rfT[k]? =some (.int .i64 f.ty)∧f.nodes=(decide (2≤k)&&decide (k≤6)):=by
 have hk:k<fnR.length:=h
 have h0:fnR[k]? =some fnR[k]:=List.getElem?_eq_getElem hk
 have hn:∀j:Fin 26,(fnR[j.val]'(show j.val<fnR.length from j.isLt)).2.nodes=(decide (2≤j.val)&&decide (j.val≤6)):=by decide+kernel
 refine⟨fnR[k].1,fnR[k].2,h0,?_,?_,?_,?_,hn ⟨k,h⟩⟩
 ·unfold rfN;rw[List.getElem?_toArray,List.getElem?_map,h0];rfl
 ·unfold rfL;rw[List.getElem?_toArray,List.getElem?_map,h0];rfl
 ·unfold rfM;rw[List.getElem?_toArray,List.getElem?_map,h0];rfl
 ·unfold rfT;rw[List.getElem?_toArray,List.getElem?_map,h0];rfl
theorem fnG_drop {k:Nat}{n:List UInt8}{f:Fn4}(h:fnR[k]? =some (n,f))(s:List UInt8):fnG (fnR.drop k) s=if s=n then some f else fnG (fnR.drop (k+1)) s:=by
 obtain⟨hk,e⟩:=List.getElem?_eq_some_iff.1 h
 rw[List.drop_eq_getElem_cons hk,fnG,e]
def rfW (w:World):World:=((((w.alloc (.cells #[.int .i64 0,.int .i64 0,.bool false,.int .i64 0] 124)).alloc (.cells rfN 9)).alloc (.cells rfL 3)).alloc (.cells rfM 3)).alloc (.cells rfT 3)
theorem rfW_below (w:World):Below w.heap.size w (rfW w):=by
 unfold rfW
 exact(((((Below.refl _ _).alloc (Nat.le_refl _) _).alloc (by simp) _).alloc (by simp;omega) _).alloc (by simp;omega) _).alloc (by simp;omega) _
theorem rfW_cells (w:World)(k:Nat):(rfW w).cell? ⟨w.heap.size+1,k,none⟩=rfN[k]? ∧(rfW w).cell? ⟨w.heap.size+2,k,none⟩=rfL[k]? ∧(rfW w).cell? ⟨w.heap.size+3,k,none⟩=rfM[k]? ∧(rfW w).cell? ⟨w.heap.size+4,k,none⟩=rfT[k]? :=by
 obtain⟨w0,h0⟩:∃w0,w0=w.alloc (.cells #[.int .i64 0,.int .i64 0,.bool false,.int .i64 0] 124):=⟨_,rfl⟩
 have s0:w0.heap.size=w.heap.size+1:=by rw[h0];simp
 obtain⟨w1,h1⟩:∃w1,w1=w0.alloc (.cells rfN 9):=⟨_,rfl⟩
 have s1:w1.heap.size=w.heap.size+2:=by rw[h1];simp[s0]
 obtain⟨w2,h2⟩:∃w2,w2=w1.alloc (.cells rfL 3):=⟨_,rfl⟩
 have s2:w2.heap.size=w.heap.size+3:=by rw[h2];simp[s1]
 obtain⟨w3,h3⟩:∃w3,w3=w2.alloc (.cells rfM 3):=⟨_,rfl⟩
 have s3:w3.heap.size=w.heap.size+4:=by rw[h3];simp[s2]
 have hw:rfW w=w3.alloc (.cells rfT 3):=by rw[h3,h2,h1,h0];rfl
 have b1:w1.heap[w.heap.size+1]? =some (.cells rfN 9 (0,0)):=by rw[h1,←s0];exact World.alloc_heap_new w0 _
 have b2:w2.heap[w.heap.size+2]? =some (.cells rfL 3 (0,0)):=by rw[h2,←s1];exact World.alloc_heap_new w1 _
 have b3:w3.heap[w.heap.size+3]? =some (.cells rfM 3 (0,0)):=by rw[h3,←s2];exact World.alloc_heap_new w2 _
 have b4:(rfW w).heap[w.heap.size+4]? =some (.cells rfT 3 (0,0)):=by rw[hw,←s3];exact World.alloc_heap_new w3 _
 have c3:(rfW w).heap[w.heap.size+3]? =some (.cells rfM 3 (0,0)):=by rw[hw];exact(Below.heap_alloc _ _ _ (by omega)).trans b3
 have c2:(rfW w).heap[w.heap.size+2]? =some (.cells rfL 3 (0,0)):=by rw[hw];exact(Below.heap_alloc _ _ _ (by omega)).trans (by rw[h3];exact(Below.heap_alloc _ _ _ (by omega)).trans b2)
 have c1:(rfW w).heap[w.heap.size+1]? =some (.cells rfN 9 (0,0)):=by rw[hw];exact(Below.heap_alloc _ _ _ (by omega)).trans (by rw[h3];exact(Below.heap_alloc _ _ _ (by omega)).trans (by rw[h2];exact(Below.heap_alloc _ _ _ (by omega)).trans b1))
 exact⟨Lib.cell_of_heap c1 k,Lib.cell_of_heap c2 k,Lib.cell_of_heap c3 k,Lib.cell_of_heap b4 k⟩
theorem rfW_box (w:World):(rfW w).heap[w.heap.size]? =some (.cells #[.int .i64 0,.int .i64 0,.bool false,.int .i64 0] 124 (0,0)):=by
 unfold rfW
 refine(Below.heap_alloc _ _ _ (by simp;omega)).trans ((Below.heap_alloc _ _ _ (by simp;omega)).trans ((Below.heap_alloc _ _ _ (by simp;omega)).trans ((Below.heap_alloc _ _ _ (by simp)).trans ?_)))
 exact World.alloc_heap_new w _
set_option maxRecDepth 100000 in
set_option maxHeartbeats 8000000 in
theorem refFn_any (s:List UInt8)(w:World):Calls Tryz.prog 92 #[.string (bs s)] w (FnP w (fnF s)):=by
 rw[fnR_eq]
 obtain⟨R,hR⟩:∃R,fnG fnR s=R:=⟨_,rfl⟩
 have hR0:fnG (fnR.drop 0) s=R:=hR
 rw[hR]
 have HR0:=Lib.hid hR0
 clear hR hR0
 have HB:=Lib.hid (rfW_below w)
 have HC:=Lib.hid (rfW_cells w)
 have HX:=Lib.hid (rfW_box w)
 go_enter Tryz.func92,Tryz.ntmps92
 go_wp2_with fail
 change Code.wp _ _ _ _ (rfW w)
 obtain⟨W4,hW4⟩:∃W4,W4=rfW w:=⟨_,rfl⟩
 rw[←hW4]at HB HC HX ⊢
 obtain⟨⟨x0,f0⟩,⟨x1,f1⟩,⟨x2,f2⟩,x3,f3⟩:(W4.cell? ⟨w.heap.size,0,none⟩=some (.int .i64 0)∧W4.frozen? ⟨w.heap.size,0,none⟩=false)∧(W4.cell? ⟨w.heap.size,1,none⟩=some (.int .i64 0)∧W4.frozen? ⟨w.heap.size,1,none⟩=false)∧(W4.cell? ⟨w.heap.size,2,none⟩=some (.bool false)∧W4.frozen? ⟨w.heap.size,2,none⟩=false)∧(W4.cell? ⟨w.heap.size,3,none⟩=some (.int .i64 0)∧W4.frozen? ⟨w.heap.size,3,none⟩=false):=by
  have h:=HX.out
  exact⟨⟨by simp[World.cell?,h],by simp[World.frozen?,h]⟩,⟨by simp[World.cell?,h],by simp[World.frozen?,h]⟩,⟨by simp[World.cell?,h],by simp[World.frozen?,h]⟩,by simp[World.cell?,h],by simp[World.frozen?,h]⟩
 clear hW4
 go_loop [8] (fun v=>∃k:Nat,v= .int .i64 (k:Int)∧k≤26∧Hid (fnG (fnR.drop k) s=R)) (fun v=>26-(RowKit.intOf v).toNat)
 case atStart=>exact⟨0,rfl,by omega,HR0⟩
 case round=>
  obtain⟨k,rfl,hk,HK⟩:=hrel
  by_cases hlt:k<26
  ·have l0:decide ((k:Int)<26)=true:=decide_eq_true (by omega)
   obtain⟨n,f,e0,e1,e2,e3,e4,e5⟩:=rf_at hlt
   obtain⟨c1,c2,c3,c4⟩:=HC.out k
   change W4.cell? ⟨w.heap.size+1+1,k,none⟩=_ at c2
   change W4.cell? ⟨w.heap.size+1+1+1,k,none⟩=_ at c3
   change W4.cell? ⟨w.heap.size+1+1+1+1,k,none⟩=_ at c4
   rw[e1]at c1
   rw[e2]at c2
   rw[e3]at c3
   rw[e4]at c4
   have hk2:=HK.out
   rw[fnG_drop e0]at hk2
   clear e0 e1 e2 e3 e4
   have q2:decide ((2:Int)≤(k:Int))=decide (2≤k):=by rw[decide_eq_decide];omega
   have q6:decide ((k:Int)≤6)=decide (k≤6):=by rw[decide_eq_decide];omega
   by_cases hs:s=n
   ·rw[if_pos hs]at hk2
    have HK2:=Lib.hid hk2
    have hq:((bs n).toList==(bs s).toList)=true:=by rw[hs,beq_iff_eq]
    have HE5:=Lib.hid e5
    generalize bs n=N at *
    generalize bs s=S at *
    clear hk2 hs e5 HK
    generalize decide (2≤k)=b1 at *
    generalize decide (k≤6)=b2 at *
    obtain⟨le,mo,nd,ty⟩:=f
    cases b1
    ·go_upto_region 9 with fail
     refine wp_region_held (S:=fun W'=>W'.cell? ⟨w.heap.size+1+1,k,none⟩=some (.int .i64 le)∧W'.cell? ⟨w.heap.size+1+1+1,k,none⟩=some (.int .i64 mo)∧W'.cell? ⟨w.heap.size+1+1+1+1,k,none⟩=some (.int .i64 ty)) (by kernel_rfl) ?_
     change wpAnyH _ _ _ _ _ _ _ _ W4.drew
     have hH0:W4.drew.cell? ⟨w.heap.size+1+1,k,none⟩=some (.int .i64 le)∧W4.drew.cell? ⟨w.heap.size+1+1+1,k,none⟩=some (.int .i64 mo)∧W4.drew.cell? ⟨w.heap.size+1+1+1+1,k,none⟩=some (.int .i64 ty):=⟨c2,c3,c4⟩
     refine wpAnyH_take (i:=0) (oi:=_) (v:= .slice (some ⟨w.heap.size+1+1,0,none⟩) 26 26) rfl (by kernel_rfl) (by kernel_rfl) (by kernel_rfl) (fun _ _ _ h=>h) (Or.inl ⟨by rfl,fun W hSw=>by dsimp only at hSw;go_simp<;>(intro hh;omega)⟩) hH0 ?_
     simp only[Act.put,List.setIfInBounds_toArray]
     refine wpAnyH_take (i:=1) (oi:=_) (v:= .int .i64 (k:Int)) rfl (by kernel_rfl) (by kernel_rfl) (by kernel_rfl) (fun _ _ _ h=>h) (Or.inl ⟨by rfl,fun W hSw=>by dsimp only at hSw;go_simp<;>(intro hh;omega)⟩) hH0 ?_
     simp only[Act.put]
     refine wpAnyH_take (i:=2) (oi:=_) (v:= .pointer (some ⟨w.heap.size+1+1,k,none⟩)) rfl (by kernel_rfl) (by kernel_rfl) (by kernel_rfl) (fun _ _ _ h=>h) (Or.inl ⟨by rfl,fun W hSw=>by dsimp only at hSw;go_simp<;>(intro hh;omega)⟩) hH0 ?_
     simp only[Act.put]
     refine wpAnyH_take (i:=3) (oi:=_) (v:= .int .i64 le) rfl (by kernel_rfl) (by kernel_rfl) (by kernel_rfl) (fun _ _ _ h=>h) (Or.inl ⟨by rfl,fun W hSw=>by dsimp only at hSw;go_simp<;>(intro hh;omega)⟩) hH0 ?_
     simp only[Act.put]
     refine wpAnyH_take (i:=4) (oi:=_) (v:= .slice (some ⟨w.heap.size+1+1+1,0,none⟩) 26 26) rfl (by kernel_rfl) (by kernel_rfl) (by kernel_rfl) (fun _ _ _ h=>h) (Or.inl ⟨by rfl,fun W hSw=>by dsimp only at hSw;go_simp<;>(intro hh;omega)⟩) hH0 ?_
     simp only[Act.put]
     refine wpAnyH_take (i:=5) (oi:=_) (v:= .int .i64 (k:Int)) rfl (by kernel_rfl) (by kernel_rfl) (by kernel_rfl) (fun _ _ _ h=>h) (Or.inl ⟨by rfl,fun W hSw=>by dsimp only at hSw;go_simp<;>(intro hh;omega)⟩) hH0 ?_
     simp only[Act.put]
     refine wpAnyH_take (i:=6) (oi:=_) (v:= .pointer (some ⟨w.heap.size+1+1+1,k,none⟩)) rfl (by kernel_rfl) (by kernel_rfl) (by kernel_rfl) (fun _ _ _ h=>h) (Or.inl ⟨by rfl,fun W hSw=>by dsimp only at hSw;go_simp<;>(intro hh;omega)⟩) hH0 ?_
     simp only[Act.put]
     refine wpAnyH_take (i:=7) (oi:=_) (v:= .int .i64 mo) rfl (by kernel_rfl) (by kernel_rfl) (by kernel_rfl) (fun _ _ _ h=>h) (Or.inl ⟨by rfl,fun W hSw=>by dsimp only at hSw;go_simp<;>(intro hh;omega)⟩) hH0 ?_
     simp only[Act.put]
     refine wpAnyH_take (i:=8) (oi:=_) (v:= .int .i64 (k:Int)) rfl (by kernel_rfl) (by kernel_rfl) (by kernel_rfl) (fun _ _ _ h=>h) (Or.inl ⟨by rfl,fun W hSw=>by dsimp only at hSw;go_simp<;>(intro hh;omega)⟩) hH0 ?_
     simp only[Act.put]
     refine wpAnyH_take (i:=9) (oi:=_) (v:= .bool false) rfl (by kernel_rfl) (by kernel_rfl) (by kernel_rfl) (fun _ _ _ h=>h) (Or.inl ⟨by rfl,fun W hSw=>by dsimp only at hSw;go_simp<;>(intro hh;omega)⟩) hH0 ?_
     simp only[Act.put]
     refine wpAnyH_take (i:=10) (oi:=_) (v:= .bool false) rfl (by kernel_rfl) (by kernel_rfl) (by kernel_rfl) (fun _ _ _ h=>h) (Or.inl ⟨by rfl,fun W hSw=>by dsimp only at hSw;go_simp<;>(intro hh;omega)⟩) hH0 ?_
     simp only[Act.put]
     refine wpAnyH_take (i:=14) (oi:=_) (v:= .slice (some ⟨w.heap.size+1+1+1+1,0,none⟩) 26 26) rfl (by kernel_rfl) (by kernel_rfl) (by kernel_rfl) (fun _ _ _ h=>h) (Or.inl ⟨by rfl,fun W hSw=>by dsimp only at hSw;go_simp<;>(intro hh;omega)⟩) hH0 ?_
     simp only[Act.put]
     refine wpAnyH_take (i:=15) (oi:=_) (v:= .int .i64 (k:Int)) rfl (by kernel_rfl) (by kernel_rfl) (by kernel_rfl) (fun _ _ _ h=>h) (Or.inl ⟨by rfl,fun W hSw=>by dsimp only at hSw;go_simp<;>(intro hh;omega)⟩) hH0 ?_
     simp only[Act.put]
     refine wpAnyH_take (i:=16) (oi:=_) (v:= .pointer (some ⟨w.heap.size+1+1+1+1,k,none⟩)) rfl (by kernel_rfl) (by kernel_rfl) (by kernel_rfl) (fun _ _ _ h=>h) (Or.inl ⟨by rfl,fun W hSw=>by dsimp only at hSw;go_simp<;>(intro hh;omega)⟩) hH0 ?_
     simp only[Act.put]
     refine wpAnyH_take (i:=17) (oi:=_) (v:= .int .i64 ty) rfl (by kernel_rfl) (by kernel_rfl) (by kernel_rfl) (fun _ _ _ h=>h) (Or.inl ⟨by rfl,fun W hSw=>by dsimp only at hSw;go_simp<;>(intro hh;omega)⟩) hH0 ?_
     simp only[Act.put]
     refine wpAnyH_ready (rs:=[11]) (by kernel_rfl) (by simp) ?_
     refine AllReadyH.cons rfl (fun K hK=> ?_) (AllReadyH.nil)
     go_simp
     refine hK.out _ _ hH0 (fun _=> ?_)
     clear hK K
     refine wpAnyH_ready (rs:=[12]) (by kernel_rfl) (by simp) ?_
     refine AllReadyH.cons rfl (fun K hK=> ?_) (AllReadyH.nil)
     go_simp
     refine hK.out _ _ hH0 (fun _=> ?_)
     clear hK K
     refine wpAnyH_ready (rs:=[13]) (by kernel_rfl) (by simp) ?_
     refine AllReadyH.cons rfl (fun K hK=> ?_) (AllReadyH.nil)
     go_simp
     refine hK.out _ _ hH0 (fun _=> ?_)
     clear hK K
     refine wpAnyH_ready (rs:=[18]) (by kernel_rfl) (by simp) ?_
     refine AllReadyH.cons rfl (fun K hK=> ?_) (AllReadyH.nil)
     go_simp
     refine hK.out _ _ hH0 (fun _=> ?_)
     clear hK K
     refine wpAnyH_ready (rs:=[19]) (by kernel_rfl) (by simp) ?_
     refine AllReadyH.cons rfl (fun K hK=> ?_) (AllReadyH.nil)
     go_simp
     refine hK.out _ _ ⟨?_,?_,?_⟩ (fun _=> ?_)
     ·go_simp
     ·go_simp
     ·go_simp
     clear hK K hH0
     refine wpAnyH_ready (rs:=[20]) (by kernel_rfl) (by simp) ?_
     refine AllReadyH.cons rfl (fun K hK=> ?_) (AllReadyH.nil)
     go_simp
     refine hK.out _ _ ⟨?_,?_,?_⟩ (fun _=> ?_)
     ·go_simp
     ·go_simp
     ·go_simp
     clear hK K
     refine wpAnyH_done (by kernel_rfl) ?_ _
     go_wp2_with fail
     rw[←HK2.out]
     refine endFn Tryz.results92 _ w.heap.size (c0:= .int .i64 le) (c1:= .int .i64 mo) (c2:= .bool false) (c3:= .int .i64 ty) (c:= .bool true) ?_ ?_ ?_ ?_ (by rfl) (by rfl) rfl ⟨?_,?_⟩
     ·go_simp
     ·go_simp
     ·go_simp
     ·go_simp
     ·exact((((HB.out.setCell (p:=⟨w.heap.size,0,none⟩) (Nat.le_refl _) _).setCell (p:=⟨w.heap.size,1,none⟩) (Nat.le_refl _) _).setCell (p:=⟨w.heap.size,2,none⟩) (Nat.le_refl _) _).setCell (p:=⟨w.heap.size,3,none⟩) (Nat.le_refl _) _).drew
     ·have hnd:nd=(false&&b2):=HE5.out
      rw[hnd]
      rfl
    ·go_upto_region 9 with fail
     refine wp_region_held (S:=fun W'=>W'.cell? ⟨w.heap.size+1+1,k,none⟩=some (.int .i64 le)∧W'.cell? ⟨w.heap.size+1+1+1,k,none⟩=some (.int .i64 mo)∧W'.cell? ⟨w.heap.size+1+1+1+1,k,none⟩=some (.int .i64 ty)) (by kernel_rfl) ?_
     change wpAnyH _ _ _ _ _ _ _ _ W4.drew
     have hH0:W4.drew.cell? ⟨w.heap.size+1+1,k,none⟩=some (.int .i64 le)∧W4.drew.cell? ⟨w.heap.size+1+1+1,k,none⟩=some (.int .i64 mo)∧W4.drew.cell? ⟨w.heap.size+1+1+1+1,k,none⟩=some (.int .i64 ty):=⟨c2,c3,c4⟩
     refine wpAnyH_take (i:=0) (oi:=_) (v:= .slice (some ⟨w.heap.size+1+1,0,none⟩) 26 26) rfl (by kernel_rfl) (by kernel_rfl) (by kernel_rfl) (fun _ _ _ h=>h) (Or.inl ⟨by rfl,fun W hSw=>by dsimp only at hSw;go_simp<;>(intro hh;omega)⟩) hH0 ?_
     simp only[Act.put,List.setIfInBounds_toArray]
     refine wpAnyH_take (i:=1) (oi:=_) (v:= .int .i64 (k:Int)) rfl (by kernel_rfl) (by kernel_rfl) (by kernel_rfl) (fun _ _ _ h=>h) (Or.inl ⟨by rfl,fun W hSw=>by dsimp only at hSw;go_simp<;>(intro hh;omega)⟩) hH0 ?_
     simp only[Act.put]
     refine wpAnyH_take (i:=2) (oi:=_) (v:= .pointer (some ⟨w.heap.size+1+1,k,none⟩)) rfl (by kernel_rfl) (by kernel_rfl) (by kernel_rfl) (fun _ _ _ h=>h) (Or.inl ⟨by rfl,fun W hSw=>by dsimp only at hSw;go_simp<;>(intro hh;omega)⟩) hH0 ?_
     simp only[Act.put]
     refine wpAnyH_take (i:=3) (oi:=_) (v:= .int .i64 le) rfl (by kernel_rfl) (by kernel_rfl) (by kernel_rfl) (fun _ _ _ h=>h) (Or.inl ⟨by rfl,fun W hSw=>by dsimp only at hSw;go_simp<;>(intro hh;omega)⟩) hH0 ?_
     simp only[Act.put]
     refine wpAnyH_take (i:=4) (oi:=_) (v:= .slice (some ⟨w.heap.size+1+1+1,0,none⟩) 26 26) rfl (by kernel_rfl) (by kernel_rfl) (by kernel_rfl) (fun _ _ _ h=>h) (Or.inl ⟨by rfl,fun W hSw=>by dsimp only at hSw;go_simp<;>(intro hh;omega)⟩) hH0 ?_
     simp only[Act.put]
     refine wpAnyH_take (i:=5) (oi:=_) (v:= .int .i64 (k:Int)) rfl (by kernel_rfl) (by kernel_rfl) (by kernel_rfl) (fun _ _ _ h=>h) (Or.inl ⟨by rfl,fun W hSw=>by dsimp only at hSw;go_simp<;>(intro hh;omega)⟩) hH0 ?_
     simp only[Act.put]
     refine wpAnyH_take (i:=6) (oi:=_) (v:= .pointer (some ⟨w.heap.size+1+1+1,k,none⟩)) rfl (by kernel_rfl) (by kernel_rfl) (by kernel_rfl) (fun _ _ _ h=>h) (Or.inl ⟨by rfl,fun W hSw=>by dsimp only at hSw;go_simp<;>(intro hh;omega)⟩) hH0 ?_
     simp only[Act.put]
     refine wpAnyH_take (i:=7) (oi:=_) (v:= .int .i64 mo) rfl (by kernel_rfl) (by kernel_rfl) (by kernel_rfl) (fun _ _ _ h=>h) (Or.inl ⟨by rfl,fun W hSw=>by dsimp only at hSw;go_simp<;>(intro hh;omega)⟩) hH0 ?_
     simp only[Act.put]
     refine wpAnyH_take (i:=8) (oi:=_) (v:= .int .i64 (k:Int)) rfl (by kernel_rfl) (by kernel_rfl) (by kernel_rfl) (fun _ _ _ h=>h) (Or.inl ⟨by rfl,fun W hSw=>by dsimp only at hSw;go_simp<;>(intro hh;omega)⟩) hH0 ?_
     simp only[Act.put]
     refine wpAnyH_take (i:=9) (oi:=_) (v:= .bool true) rfl (by kernel_rfl) (by kernel_rfl) (by kernel_rfl) (fun _ _ _ h=>h) (Or.inl ⟨by rfl,fun W hSw=>by dsimp only at hSw;go_simp<;>(intro hh;omega)⟩) hH0 ?_
     simp only[Act.put]
     refine wpAnyH_take (i:=10) (oi:=_) (v:= .bool true) rfl (by kernel_rfl) (by kernel_rfl) (by kernel_rfl) (fun _ _ _ h=>h) (Or.inl ⟨by rfl,fun W hSw=>by dsimp only at hSw;go_simp<;>(intro hh;omega)⟩) hH0 ?_
     simp only[Act.put]
     refine wpAnyH_take (i:=14) (oi:=_) (v:= .slice (some ⟨w.heap.size+1+1+1+1,0,none⟩) 26 26) rfl (by kernel_rfl) (by kernel_rfl) (by kernel_rfl) (fun _ _ _ h=>h) (Or.inl ⟨by rfl,fun W hSw=>by dsimp only at hSw;go_simp<;>(intro hh;omega)⟩) hH0 ?_
     simp only[Act.put]
     refine wpAnyH_take (i:=15) (oi:=_) (v:= .int .i64 (k:Int)) rfl (by kernel_rfl) (by kernel_rfl) (by kernel_rfl) (fun _ _ _ h=>h) (Or.inl ⟨by rfl,fun W hSw=>by dsimp only at hSw;go_simp<;>(intro hh;omega)⟩) hH0 ?_
     simp only[Act.put]
     refine wpAnyH_take (i:=16) (oi:=_) (v:= .pointer (some ⟨w.heap.size+1+1+1+1,k,none⟩)) rfl (by kernel_rfl) (by kernel_rfl) (by kernel_rfl) (fun _ _ _ h=>h) (Or.inl ⟨by rfl,fun W hSw=>by dsimp only at hSw;go_simp<;>(intro hh;omega)⟩) hH0 ?_
     simp only[Act.put]
     refine wpAnyH_take (i:=17) (oi:=_) (v:= .int .i64 ty) rfl (by kernel_rfl) (by kernel_rfl) (by kernel_rfl) (fun _ _ _ h=>h) (Or.inl ⟨by rfl,fun W hSw=>by dsimp only at hSw;go_simp<;>(intro hh;omega)⟩) hH0 ?_
     simp only[Act.put]
     refine wpAnyH_ready (rs:=[11]) (by kernel_rfl) (by simp) ?_
     refine AllReadyH.cons rfl (fun K hK=> ?_) (AllReadyH.nil)
     go_simp
     refine hK.out _ _ hH0 (fun _=> ?_)
     clear hK K
     refine wpAnyH_ready (rs:=[12]) (by kernel_rfl) (by simp) ?_
     refine AllReadyH.cons rfl (fun K hK=> ?_) (AllReadyH.nil)
     go_simp
     refine hK.out _ _ hH0 (fun _=> ?_)
     clear hK K
     refine wpAnyH_ready (rs:=[13]) (by kernel_rfl) (by simp) ?_
     refine AllReadyH.cons rfl (fun K hK=> ?_) (AllReadyH.nil)
     go_simp
     refine hK.out _ _ hH0 (fun _=> ?_)
     clear hK K
     refine wpAnyH_ready (rs:=[18]) (by kernel_rfl) (by simp) ?_
     refine AllReadyH.cons rfl (fun K hK=> ?_) (AllReadyH.nil)
     go_simp
     refine hK.out _ _ hH0 (fun _=> ?_)
     clear hK K
     refine wpAnyH_ready (rs:=[19]) (by kernel_rfl) (by simp) ?_
     refine AllReadyH.cons rfl (fun K hK=> ?_) (AllReadyH.nil)
     go_simp
     refine hK.out _ _ ⟨?_,?_,?_⟩ (fun _=> ?_)
     ·go_simp
     ·go_simp
     ·go_simp
     clear hK K hH0
     refine wpAnyH_ready (rs:=[20]) (by kernel_rfl) (by simp) ?_
     refine AllReadyH.cons rfl (fun K hK=> ?_) (AllReadyH.nil)
     go_simp
     refine hK.out _ _ ⟨?_,?_,?_⟩ (fun _=> ?_)
     ·go_simp
     ·go_simp
     ·go_simp
     clear hK K
     refine wpAnyH_done (by kernel_rfl) ?_ _
     go_wp2_with fail
     rw[←HK2.out]
     refine endFn Tryz.results92 _ w.heap.size (c0:= .int .i64 le) (c1:= .int .i64 mo) (c2:= .bool b2) (c3:= .int .i64 ty) (c:= .bool true) ?_ ?_ ?_ ?_ (by rfl) (by rfl) rfl ⟨?_,?_⟩
     ·go_simp
     ·go_simp
     ·go_simp
     ·go_simp
     ·exact((((HB.out.setCell (p:=⟨w.heap.size,0,none⟩) (Nat.le_refl _) _).setCell (p:=⟨w.heap.size,1,none⟩) (Nat.le_refl _) _).setCell (p:=⟨w.heap.size,2,none⟩) (Nat.le_refl _) _).setCell (p:=⟨w.heap.size,3,none⟩) (Nat.le_refl _) _).drew
     ·have hnd:nd=(true&&b2):=HE5.out
      rw[hnd]
      rfl
   ·rw[if_neg hs]at hk2
    have HK2:=Lib.hid hk2
    have hq:((bs n).toList==(bs s).toList)=false:=by rw[bs_tl,bs_tl,beq_eq_false_iff_ne];exact fun e=>hs e.symm
    clear hk2 hs q2 q6 e5 HK
    generalize bs n=N at *
    generalize bs s=S at *
    go_wp2_with fail
    go_round
    case rel=>exact⟨k+1,by go_num,by omega,HK2⟩
    case measure=>simp[RowKit.intOf];omega
  ·have e:k=26:=by omega
   subst e
   have hk2:=HK.out
   have hk3:fnG (fnR.drop 26) s=none:=rfl
   rw[hk3]at hk2
   have HK2:=Lib.hid hk2
   clear hk2 hk3 HK
   go_wp2_with fail
   rw[←HK2.out]
   refine endFn Tryz.results92 _ w.heap.size (c0:= .int .i64 0) (c1:= .int .i64 0) (c2:= .bool false) (c3:= .int .i64 0) (c:= .bool false) ?_ ?_ ?_ ?_ (by rfl) (by rfl) rfl ⟨?_,rfl⟩
   ·go_simp
   ·go_simp
   ·go_simp
   ·go_simp
   ·exact(((HB.out.setCell (p:=⟨w.heap.size,0,none⟩) (Nat.le_refl _) _).setCell (p:=⟨w.heap.size,1,none⟩) (Nat.le_refl _) _).setCell (p:=⟨w.heap.size,2,none⟩) (Nat.le_refl _) _).setCell (p:=⟨w.heap.size,3,none⟩) (Nat.le_refl _) _
end Char
namespace Char
open Go.RowKit Go.Lib
theorem FnP.tup {w:World}{x:Option Fn4}{e:Ending}{w':World}(h:FnP w x e w'):∃f b,f=x.getD fn0∧b=x.isSome∧e= .returned (.tuple #[.agg #[.int .i64 f.least,.int .i64 f.most,.bool f.nodes,.int .i64 f.ty],.bool b])∧Below w.heap.size w w':=by
 obtain⟨h1,h2⟩:=h
 cases x with
 |none=>exact⟨_,_,rfl,rfl,h2,h1⟩
 |some f=>exact⟨_,_,rfl,rfl,h2,h1⟩
theorem eq_fnc (a b d:Int)(c:Bool)(w:World):(binOp .eql 124 (.agg #[.int .i64 a,.int .i64 b,.bool c,.int .i64 d]) (.agg #[.int .i64 a,.int .i64 b,.bool c,.int .i64 d])).run Tryz.prog w= .ok (.bool true) w:=by
 have u9:=Tryz.underlying3
 have u7:=Tryz.underlying4
 have a9:=Tryz.isAgg3
 have a7:=Tryz.isAgg4
 have z9:=Tryz.sizeOf3
 have z7:=Tryz.sizeOf4
 have hS:Tryz.prog.underlying 124=some (.struct (Tryz.prog.fieldsOf 124)):=by kernel_rfl
 have hp:Tryz.prog.stoodInHeld 124=false:=by kernel_rfl
 rw[run_eql_struct,show(10000:Nat)=9999+1 from rfl,run_equalIn_agg w 9999 124 _ _ hS hp]
 simp only[Program.fieldsOf,Tryz.underlying124]
 go_simp
theorem guard_fnc (op:BinOp)(x y:Operand)(xs ys:Array Value)(w:World):(eqGuard op 124 x y (.agg xs) (.agg ys)).run Tryz.prog w= .ok () w:=
 run_eqGuard_agg w op 124 x y _ _ (by kernel_rfl)
theorem comp_called (l:List UInt8)(w:World)(hl:l.length≤140737488351232)(hG:Gl w):Calls Tryz.prog 24 #[.string (bs l)] w fun e w'=>∃(x:Ex) (o1 o2:Option Addr) (j1 j2:Nat) (t f:Int),comR l=(x,t,f)∧
 e= .returned (.tuple #[.agg #[.int .i64 x.op,.string (bs x.s),.int .i64 x.tg,.int .i64 x.vl,.bool x.abs,.slice o1 x.ks.length j1,.slice o2 x.ss.length j2],.int .i64 t,.int .i64 f])∧Below w.heap.size w w'∧ExOn w' (fun _=>True) x (.slice o1 x.ks.length j1) (.slice o2 x.ss.length j2):=by
 refine(compC_any l w hl hG).mono ?_
 rintro e w' ⟨hb,vk,vs,rfl,hx⟩
 obtain⟨h1,h2⟩:=ExOn.iff.1 hx
 obtain⟨o1,j1,rfl⟩:=h1.form
 obtain⟨o2,j2,rfl⟩:=h2.form
 exact⟨(comR l).1,o1,o2,j1,j2,(comR l).2.1,(comR l).2.2,rfl,rfl,hb,ExOn.move (fun _ _ _=>⟨trivial,rfl⟩) _ _ _ hx⟩
theorem comp_one:(comR [99,111,117,110,116,40,47,47,97,41,32,43,32,49]).2=(3,0):=by kernel_rfl
theorem comp_two:(comR [99,111,117,110,116,40,49,41]).2=(0,35):=by kernel_rfl
set_option maxRecDepth 100000 in
set_option maxHeartbeats 8000000 in
theorem works15_any (w:World)(hG:Gl w):Calls Tryz.prog 21 #[] w fun e w'=>e= .returned (.bool true)∧Below w.heap.size w w':=by
 have HP:=Lib.hid (comp_called [99,111,117,110,116,40,47,47,97,41,32,43,32,49] w (by decide) hG)
 have HQ:=Lib.hid fun(W:World) (hb:Below w.heap.size w W)=>comp_called [99,111,117,110,116,40,49,41] W (by decide) (hG.below hb)
 clear hG
 go_enter Tryz.func21,Tryz.ntmps21
 go_wp2_with fail
 refine HP.out.mono ?_
 rintro e w1 ⟨x,o1,o2,j1,j2,t,f,hc,rfl,hb1,_⟩
 have hc2:=comp_one
 rw[hc]at hc2
 obtain⟨rfl,rfl⟩:t=3∧f=0:=Prod.mk.injEq .. ▸hc2
 have HB1:=Lib.hid fun o=>hb1.trans ((below_box (w:=w1) o).mono hb1.size)
 clear hb1 hc hc2 HP
 go_wp2_with fail
 refine(HQ.out _ (HB1.out _)).mono ?_
 rintro e w2 ⟨y,o3,o4,j3,j4,t,f,hc,rfl,hb2,_⟩
 have hc2:=comp_two
 rw[hc]at hc2
 obtain⟨rfl,rfl⟩:t=0∧f=35:=Prod.mk.injEq .. ▸hc2
 have HB2:=Lib.hid fun o=>((HB1.out _).trans (hb2.mono (HB1.out _).size)).trans ((below_box (w:=w2) o).mono ((HB1.out _).trans (hb2.mono (HB1.out _).size)).size)
 clear hb2 hc hc2 HQ
 go_wp2_with fail
 go_ret
 exact⟨rfl,HB2.out _⟩
end Char
namespace Char
open Go.RowKit Go.Lib
def Ctr (L:Nat)(l:Int)(w:World):Prop:=w.cell? ⟨L,0,none⟩=some (.int .i64 l)∧w.frozen? ⟨L,0,none⟩=false
theorem Ctr.set {L:Nat}{l:Int}{w:World}(h:Ctr L l w)(m:Int):Ctr L m (w.setCell ⟨L,0,none⟩ (.int .i64 m)):=
 ⟨World.cell?_setCell_same' _ _ _ (by rw[h.1];rfl),by rw[World.frozen?_setCell];exact h.2⟩
theorem Ctr.box {L:Nat}{l:Int}{w:World}(h:Ctr L l w)(o:Obj):Ctr L l (w.alloc o):=by
 have :=cell_lt h.1
 exact⟨by rw[World.cell?_alloc_past _ _ _ (by omega)];exact h.1,by rw[World.frozen?_alloc_past _ _ _ (by omega)];exact h.2⟩
theorem ExOn.butL {L:Nat}{w w':World}{x:Ex}{vk vs:Value}(h:ExOn w (· ≠L) x vk vs)(hb:But L w w'):ExOn w' (· ≠L) x vk vs:=
 ExOn.move (fun b hb0 hF=>⟨hF,hb.2 b hb0 hF⟩) x vk vs h
theorem KdOn.butL {L:Nat}{w w':World}{v:Value}{ks:List Ex}(h:KdOn w (· ≠L) v ks)(hb:But L w w'):KdOn w' (· ≠L) v ks:=
 KdOn.move (fun b hb0 hF=>⟨hF,hb.2 b hb0 hF⟩) h
theorem SdOn.butL {L:Nat}{w w':World}{v:Value}{ks:List St}(h:SdOn w (· ≠L) v ks)(hb:But L w w'):SdOn w' (· ≠L) v ks:=
 SdOn.move (fun b hb0 hF=>⟨hF,hb.2 b hb0 hF⟩) h
theorem Ctr.but {L M:Nat}{l:Int}{w w':World}(h:Ctr L l w)(hb:But M w w')(hn:L≠M):Ctr L l w':=by
 have hk:=hb.2 L (cell_lt h.1) hn
 exact⟨(World.cell?_of_block (a:=⟨L,0,none⟩) hk).trans h.1,(World.frozen?_of_block (a:=⟨L,0,none⟩) hk).trans h.2⟩
theorem fewEs_cons (k:Ex)(r:List Ex)(d:Nat)(l:Int):fewEs (k::r) d l=(fewE k d l).bind (fewEs r d):=by rw[fewEs]
theorem fewSs_cons (k:St)(r:List St)(d:Nat)(l:Int):fewSs (k::r) d l=(fewEs k.ps d (l-1)).bind (fewSs r d):=by rw[fewSs,fewS_def]
theorem fewEs_nil (d:Nat)(l:Int):fewEs [] d l=some l:=by rw[fewEs]
theorem fewSs_nil (d:Nat)(l:Int):fewSs [] d l=some l:=by rw[fewSs]
def FewP (L:Nat)(w:World)(R:Option Int)(e:Ending)(w':World):Prop:=e= .returned (.bool R.isSome)∧But L w w'∧∀l',R=some l'→Ctr L l' w'
def FewC (L d:Nat):Prop:=∀(x:Ex) (vk vs:Value) (w:World) (l:Int),ExOn w (· ≠L) x vk vs→wfE (2^47) x→Ctr L l w→ -140737488355328≤l→l≤1000→
    Calls Tryz.prog 31 #[exV x vk vs,.int .i64 (d:Int),.pointer (some ⟨L,0,none⟩)] w (FewP L w (fewE x d l))
set_option maxRecDepth 100000 in
set_option maxHeartbeats 4000000 in
theorem few13_no (L d:Nat)(x:Ex)(vk vs:Value)(w:World)(l:Int)(hc:Ctr L l w)(hl: -140737488355328≤l)(hl2:l≤1000)(h:d=0∨l≤0):
 Calls Tryz.prog 31 #[exV x vk vs,.int .i64 (d:Int),.pointer (some ⟨L,0,none⟩)] w (FewP L w none):=by
 have hLl:L<w.heap.size:=cell_lt hc.1
 obtain⟨c0,c1⟩:=hc
 have c2:(w.setCell ⟨L,0,none⟩ (.int .i64 (l-1))).cell? ⟨L,0,none⟩=some (.int .i64 (l-1)):=(Ctr.set ⟨c0,c1⟩ (l-1)).1
 have hfin:But L w ((w.setCell ⟨L,0,none⟩ (.int .i64 (l-1))).alloc (boxEx x vk vs)):=(But.set _ _ _ _).trans (But.of (below_box _) (by simpa using hLl))
 unfold boxEx at hfin
 have HF:=Lib.hid hfin
 clear hfin c2
 unfold exV
 by_cases hd:d=0
 ·subst hd
  go_enter Tryz.func31,Tryz.ntmps31
  go_wp2_with fail
  go_ret
  exact⟨rfl,HF.out,fun _ h=>by cases h⟩
 ·have k1:((d:Int)==0)=false:=by rw[beq_eq_false_iff_ne];omega
  have k2:decide (l-1<0)=true:=decide_eq_true (by omega)
  go_enter Tryz.func31,Tryz.ntmps31
  go_wp2_with fail
  go_ret
  exact⟨rfl,HF.out,fun _ h=>by cases h⟩
set_option maxRecDepth 100000 in
set_option maxHeartbeats 8000000 in
theorem few13_go (L d:Nat)(ih:FewC L d)(hd:d≤200)(x:Ex)(vk vs:Value)(w:World)(l:Int)(hx:ExOn w (· ≠L) x vk vs)(hw:wfE (2^47) x)(hc:Ctr L l w)(hl:0<l)(hl2:l≤1000):
 Calls Tryz.prog 31 #[exV x vk vs,.int .i64 ((d+1:Nat):Int),.pointer (some ⟨L,0,none⟩)] w (FewP L w (fewE x (d+1) l)):=by
 have hLl:L<w.heap.size:=cell_lt hc.1
 rw[fewE_go (by omega),Nat.add_sub_cancel]
 obtain⟨X,hX⟩:∃X,((fewEs x.ks d (l-1)).bind fun l1=>(fewSs x.ss d l1).bind fun l2=>if 0≤l2 then some l2 else none)=X:=⟨_,rfl⟩
 rw[hX]
 have HX:=Lib.hid hX
 clear hX
 obtain⟨hk,hs⟩:=ExOn.iff.1 hx
 obtain⟨ok,jk,rfl⟩:=hk.form
 obtain⟨os,js,rfl⟩:=hs.form
 obtain⟨⟨_,_,_,_,hkl,hsl⟩,hwk,hws⟩:=(wfE_def _ _).1 hw
 have c0:=hc.1
 have c1:=hc.2
 obtain⟨w1,hw1⟩:∃w1,w1=(w.setCell ⟨L,0,none⟩ (.int .i64 (l-1))).alloc (boxEx x (.slice ok x.ks.length jk) (.slice os x.ss.length js)):=⟨_,rfl⟩
 have hb1:But L w w1:=by rw[hw1];exact(But.set _ _ _ _).trans (But.of (below_box _) (by simpa using hLl))
 have hc1:Ctr L (l-1) w1:=by rw[hw1];exact(hc.set _).box _
 have hbk:w1.heap[w.heap.size]? =some (boxEx x (.slice ok x.ks.length jk) (.slice os x.ss.length js)):=by
  rw[hw1]
  simpa using World.alloc_heap_new (w.setCell ⟨L,0,none⟩ (.int .i64 (l-1))) (boxEx x (.slice ok x.ks.length jk) (.slice os x.ss.length js))
 have hs1:w1.heap.size=w.heap.size+1:=by rw[hw1];simp
 have hcl:∀W,But L w1 W→W.cell? ⟨w.heap.size,5,none⟩=some (.slice ok x.ks.length jk)∧W.cell? ⟨w.heap.size,6,none⟩=some (.slice os x.ss.length js):=fun W hW=>by
  have h:=(hW.2 w.heap.size (by omega) (by omega)).trans hbk
  obtain⟨⟨_,_,_,_,_,a5,a6⟩,_⟩:=boxEx_blk h
  exact⟨a5,a6⟩
 have hkd:∀W,But L w1 W→KdOn W (· ≠L) (.slice ok x.ks.length jk) x.ks:=fun W hW=>hk.butL (hb1.trans hW)
 have hsd:∀W,But L w1 W→SdOn W (· ≠L) (.slice os x.ss.length js) x.ss:=fun W hW=>hs.butL (hb1.trans hW)
 have HCL:=Lib.hid hcl
 have HB1:=Lib.hid hb1
 have HKD:=Lib.hid hkd
 have HSD:=Lib.hid hsd
 have HIH:=Lib.hid ih
 have HWK:=Lib.hid hwk
 have HWS:=Lib.hid hws
 have HC1:=Lib.hid hc1
 have k1:(((d:Int)+1)==0)=false:=by rw[beq_eq_false_iff_ne];omega
 have k2:decide (l-1<0)=false:=decide_eq_false (by omega)
 unfold boxEx at hw1
 have HW1:=Lib.hid hw1
 clear hx hw hc hk hs hb1 hc1 hbk hs1 hcl hkd hsd ih hwk hws hw1
 unfold exV
 push_cast
 go_enter Tryz.func31,Tryz.ntmps31
 go_wp2_with fail
 rw[←HW1.out]
 clear HW1
 go_loopw [7] (fun v wr=>∃(j:Nat) (m:Int),v= .int .i64 (j:Int)∧j≤x.ks.length∧0≤m∧m≤1000∧Hid (Ctr L m wr∧But L w1 wr∧fewEs (x.ks.drop j) d m=fewEs x.ks d (l-1))) (fun v _=>x.ks.length-(RowKit.intOf v).toNat)
 case atStart=>exact⟨0,l-1,rfl,Nat.zero_le _,by omega,by omega,Lib.hid ⟨HC1.out,But.refl _ _,rfl⟩⟩
 case round=>
  obtain⟨j,m,rfl,hj,hm,hm2,HR⟩:=hrel
  clear HC1
  obtain⟨q5,q6⟩:=HCL.out _ HR.out.2.1
  obtain⟨c0,c1⟩:=HR.out.1
  by_cases hlt:j<x.ks.length
  ·obtain⟨g,off,va,vk,rfl,hg,hat,hon⟩:=(HKD.out _ HR.out.2.1).read j hlt
   have hcc:=HIH.out x.ks[j] va vk wr m hon (wfEs_at HWK.out j hlt) HR.out.1 (by omega) hm2
   have heq:=HR.out.2.2
   rw[List.drop_eq_getElem_cons hlt,fewEs_cons]at heq
   have hcnt:=fewE_cnt x.ks[j] d m
   generalize x.ks[j]=kid at *
   obtain⟨a0,a1,a2,a3,a4,a5,a6⟩:=hat.cells
   obtain⟨hn1,hn2⟩:=ExOn.iff.1 hon
   obtain⟨oa',ja',rfl⟩:=hn1.form
   obtain⟨ok',jk',rfl⟩:=hn2.form
   unfold exV at hcc
   have HB:=Lib.hid HR.out.2.1
   have HC2:=Lib.hid hcc
   have HEQ:=Lib.hid heq
   have HCN:=Lib.hid hcnt
   clear hcc hon hat heq hcnt hn1 hn2 HR
   cases hr:fewE kid d m with
   |none=>
    have HRR:=Lib.hid hr
    clear hr
    go_wp2_with fail
    refine HC2.out.mono ?_
    rintro e w2 ⟨rfl,hk2,_⟩
    rw[HRR.out]
    go_wp2_with fail
    go_ret
    have heq:=HEQ.out
    rw[HRR.out]at heq
    have hx0:X=none:=by rw[←HX.out,←heq];rfl
    rw[hx0]
    exact⟨rfl,HB1.out.trans (HB.out.trans hk2),fun _ h=>by cases h⟩
   |some m2=>
    have HRR:=Lib.hid hr
    have hm3:=HCN.out m2 hr
    clear hr
    go_wp2_with fail
    refine HC2.out.mono ?_
    rintro e w2 ⟨rfl,hk2,hm4⟩
    have HF:=Lib.hid (show Ctr L m2 w2∧But L w1 w2 from ⟨hm4 m2 HRR.out,HB.out.trans hk2⟩)
    clear hm4 hk2
    rw[HRR.out]
    go_wp2_with fail
    go_roundw
    case rel=>exact⟨j+1,m2,by go_num,by omega,hm3.2,by omega,Lib.hid ⟨HF.out.1,HF.out.2,by have heq:=HEQ.out;rw[HRR.out]at heq;exact heq⟩⟩
    case measure=>simp[RowKit.intOf];omega
  ·have e:j=x.ks.length:=by omega
   subst e
   have heq:=HR.out.2.2
   rw[List.drop_length,fewEs_nil]at heq
   have HX2:=Lib.hid (show((fewSs x.ss d m).bind fun l2=>if 0≤l2 then some l2 else none)=X by rw[←HX.out,←heq];rfl)
   clear HX
   have HB:=Lib.hid HR.out.2.1
   have HCT:=Lib.hid HR.out.1
   clear heq HR
   go_wp2_with fail
   go_loopw [8] (fun v wr=>∃(j:Nat) (n:Int),v= .int .i64 (j:Int)∧j≤x.ss.length∧ -(j:Int)≤n∧n≤1000∧Hid (Ctr L n wr∧But L w1 wr∧fewSs (x.ss.drop j) d n=fewSs x.ss d m)) (fun v _=>x.ss.length-(RowKit.intOf v).toNat)
   case atStart=>exact⟨0,m,rfl,Nat.zero_le _,by omega,by omega,Lib.hid ⟨HCT.out,HB.out,rfl⟩⟩
   case round=>
    clear HCT HB c0 c1 q5 q6 hm hm2
    obtain⟨j,n,rfl,hj,hn,hn2,HR⟩:=hrel
    obtain⟨W3,rfl⟩:∃W3,W3=wr:=⟨_,rfl⟩
    obtain⟨q5,q6⟩:=HCL.out _ HR.out.2.1
    obtain⟨c0,c1⟩:=HR.out.1
    by_cases hlt:j<x.ss.length
    ·obtain⟨g,off,vp,rfl,hg,hat,hon⟩:=(HSD.out _ HR.out.2.1).read j hlt
     have heq:=HR.out.2.2
     rw[List.drop_eq_getElem_cons hlt,fewSs_cons]at heq
     have HWP:=Lib.hid ((wfS_def _ _).1 (wfSs_at HWS.out j hlt))
     have hps:=StOn.iff.1 hon
     have hat2:∀W,But L W3 W→StAt W g (off+j*5) x.ss[j] vp:=fun W hW=>hat.move (hW.2 g hat.lt hg)
     have hps2:∀W,But L W3 W→KdOn W (· ≠L) vp x.ss[j].ps:=fun W hW=>hps.butL hW
     generalize x.ss[j]=st at *
     obtain⟨op,jp,rfl⟩:=hps.form
     have HEQ:=Lib.hid heq
     have HAT:=Lib.hid hat2
     have HPS:=Lib.hid hps2
     have HB0:=Lib.hid HR.out.2.1
     have HC0:=Lib.hid HR.out.1
     clear heq hat hon hps hat2 hps2 HR
     go_wp2_with fail
     go_loopw [9] (fun v wx=>∃(i:Nat) (m':Int),v= .int .i64 (i:Int)∧i≤st.ps.length∧ -(j:Int)-1≤m'∧m'≤1000∧Hid (Ctr L m' wx∧But L W3 wx∧fewEs (st.ps.drop i) d m'=fewEs st.ps d (n-1))) (fun v _=>st.ps.length-(RowKit.intOf v).toNat)
     case atStart=>exact⟨0,n-1,rfl,Nat.zero_le _,by omega,by omega,Lib.hid ⟨HC0.out.set _,But.set _ _ _ _,rfl⟩⟩
     case round=>
      clear c0 c1 q5 q6
      obtain⟨i,m',rfl,hi,hm',hm2',HR⟩:=hrel
      obtain⟨q5,q6⟩:=HCL.out _ (HB0.out.trans HR.out.2.1)
      obtain⟨c0,c1⟩:=HR.out.1
      obtain⟨b0,b1,b2,b3,b4⟩:=(HAT.out _ HR.out.2.1).cells
      have hl46:st.ps.length≤2^47:=HWP.out.1.2.2.2
      by_cases hlt2:i<st.ps.length
      ·obtain⟨g',off',va,vk,rfl,hg',hat',hon'⟩:=(HPS.out _ HR.out.2.1).read i hlt2
       have hcc:=HIH.out st.ps[i] va vk wr m' hon' (wfEs_at HWP.out.2 i hlt2) HR.out.1 (by omega) hm2'
       have heq:=HR.out.2.2
       rw[List.drop_eq_getElem_cons hlt2,fewEs_cons]at heq
       have hcnt:=fewE_cnt st.ps[i] d m'
       generalize st.ps[i]=kid at *
       obtain⟨a0,a1,a2,a3,a4,a5,a6⟩:=hat'.cells
       obtain⟨hn1,hn2⟩:=ExOn.iff.1 hon'
       obtain⟨oa',ja',rfl⟩:=hn1.form
       obtain⟨ok',jk',rfl⟩:=hn2.form
       unfold exV at hcc
       have HB:=Lib.hid HR.out.2.1
       have HC2:=Lib.hid hcc
       have HEQ2:=Lib.hid heq
       have HCN:=Lib.hid hcnt
       clear hcc hon' hat' heq hcnt hn1 hn2 HR
       cases hr:fewE kid d m' with
       |none=>
        have HRR:=Lib.hid hr
        clear hr
        go_wp2_with fail
        refine HC2.out.mono ?_
        rintro e w2 ⟨rfl,hk2,_⟩
        rw[HRR.out]
        go_wp2_with fail
        go_ret
        have heq:=HEQ2.out
        rw[HRR.out]at heq
        have h2:=HEQ.out
        rw[←heq]at h2
        have hx0:X=none:=by rw[←HX2.out,←h2];rfl
        rw[hx0]
        exact⟨rfl,HB1.out.trans (HB0.out.trans (HB.out.trans hk2)),fun _ h=>by cases h⟩
       |some m2=>
        have HRR:=Lib.hid hr
        have hm3:=HCN.out m2 hr
        clear hr
        go_wp2_with fail
        refine HC2.out.mono ?_
        rintro e w2 ⟨rfl,hk2,hm4⟩
        have HF:=Lib.hid (show Ctr L m2 w2∧But L W3 w2 from ⟨hm4 m2 HRR.out,HB.out.trans hk2⟩)
        clear hm4 hk2
        rw[HRR.out]
        go_wp2_with fail
        go_roundw
        case rel=>exact⟨i+1,m2,by go_num,by omega,by omega,by omega,Lib.hid ⟨HF.out.1,HF.out.2,by have heq:=HEQ2.out;rw[HRR.out]at heq;exact heq⟩⟩
        case measure=>simp[RowKit.intOf];omega
      ·have e:i=st.ps.length:=by omega
       subst e
       have heq:=HR.out.2.2
       rw[List.drop_length,fewEs_nil]at heq
       have h2:=HEQ.out
       rw[←heq]at h2
       have HEQ3:=Lib.hid h2
       have HF:=Lib.hid (show Ctr L m' wr∧But L w1 wr from ⟨HR.out.1,HB0.out.trans HR.out.2.1⟩)
       clear heq h2 HEQ HR
       go_wp2_with fail
       go_roundw
       case rel=>exact⟨j+1,m',by go_num,by omega,by omega,by omega,Lib.hid ⟨HF.out.1,HF.out.2,HEQ3.out⟩⟩
       case measure=>simp[RowKit.intOf];omega
    ·have e:j=x.ss.length:=by omega
     subst e
     have heq:=HR.out.2.2
     rw[List.drop_length,fewSs_nil]at heq
     have HX3:=Lib.hid (show(if 0≤n then some n else none)=X by rw[←HX2.out,←heq];rfl)
     clear HX2
     have HB:=Lib.hid HR.out.2.1
     have HCT:=Lib.hid HR.out.1
     clear heq HR
     by_cases h0:0≤n
     ·have k3:decide (0≤n)=true:=decide_eq_true h0
      go_wp2_with fail
      go_ret
      have hx0:X=some n:=by rw[←HX3.out,if_pos h0]
      rw[hx0]
      exact⟨rfl,HB1.out.trans HB.out,fun _ h=>by cases h;exact HCT.out⟩
     ·have k3:decide (0≤n)=false:=decide_eq_false h0
      go_wp2_with fail
      go_ret
      have hx0:X=none:=by rw[←HX3.out,if_neg (by omega)]
      rw[hx0]
      exact⟨rfl,HB1.out.trans HB.out,fun _ h=>by cases h⟩
theorem few13_any (L:Nat):∀d,d≤200→FewC L d
 |0,_=>fun x vk vs w l _ _ hc hl hl2=>by
  rw[fewE_no (.inl rfl)]
  exact few13_no L 0 x vk vs w l hc hl hl2 (.inl rfl)
 |d+1,h=>fun x vk vs w l hx hw hc hl hl2=>by
  by_cases h0:l≤0
  ·rw[fewE_no (.inr h0)]
   exact few13_no L (d+1) x vk vs w l hc hl hl2 (.inr h0)
  ·exact few13_go L d (few13_any L d (by omega)) (by omega) x vk vs w l hx hw hc (by omega) hl2
set_option maxRecDepth 100000 in
set_option maxHeartbeats 4000000 in
theorem fewF_any (x:Ex)(vk vs:Value)(w:World)(hx:ExOn w (· <w.heap.size) x vk vs)(hw:wfE (2^47) x):
 Calls Tryz.prog 13 #[exV x vk vs] w fun e w'=>e= .returned (.bool (fewB x))∧Below w.heap.size w w':=by
 obtain⟨hk,hs⟩:=ExOn.iff.1 hx
 obtain⟨ok,jk,rfl⟩:=hk.form
 obtain⟨os,js,rfl⟩:=hs.form
 obtain⟨w1,hw1⟩:∃w1,w1=(w.alloc (boxEx x (.slice ok x.ks.length jk) (.slice os x.ss.length js))).alloc (.cells #[.int .i64 1000] 3):=⟨_,rfl⟩
 have hb1:Below w.heap.size w w1:=by rw[hw1];exact((Below.refl _ _).alloc (Nat.le_refl _) _).alloc (by simp) _
 have hs1:w1.heap.size=w.heap.size+2:=by rw[hw1];simp
 have hc1:Ctr (w.heap.size+1) 1000 w1:=by rw[hw1];exact⟨by go_simp,by go_simp⟩
 have hon:ExOn w1 (· ≠w.heap.size+1) x (.slice ok x.ks.length jk) (.slice os x.ss.length js):=ExOn.move (fun b hb hF=>⟨by omega,hb1.block b hb⟩) _ _ _ hx
 have h:=few13_any (w.heap.size+1) 200 (by omega) x _ _ w1 1000 hon hw hc1 (by omega) (by omega)
 unfold exV at h ⊢
 unfold boxEx at hw1
 have H:=Lib.hid h
 have HB:=Lib.hid hb1
 have HW:=Lib.hid hw1
 clear h hx hw hk hs hb1 hs1 hc1 hon
 unfold fewB
 go_enter Tryz.func13,Tryz.ntmps13
 go_wp2_with fail
 rw[←HW.out]
 refine H.out.mono ?_
 rintro e w2 ⟨rfl,hk2,_⟩
 clear H HW hw1
 go_wp2_with fail
 go_ret
 exact⟨rfl,HB.out.trans (hk2.1.mono (by omega))⟩
end Char
end Go.Proofs.YtlmpkpjjakallaaGreatDoor
