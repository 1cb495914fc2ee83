import Derived.Test.YtlmpkpjjakallaaGreatDoorTyEP
import Derived.Test.YtlmpkpjjakallaaGreatDoorPt24
import Derived.Test.YtlmpkpjjakallaaGreatDoorPt25
import Derived.Test.YtlmpkpjjakallaaGreatDoorRows
import Derived.Deep.Slices
import Derived.ChangeArms
import Derived.SizedLaws
import Derived.Carry
import Derived.OpenShut
namespace Go.Proofs.YtlmpkpjjakallaaGreatDoor
namespace Char
open Go.RowKit Go.Lib
mutual
theorem wfE_big:∀x:Ex,wfE 1048576 x→wfE (2^47) x
 | .mk op s tg vl ab ks ss,h=>by
   rw[wfE]at h ⊢
   obtain⟨⟨a,b,c,d,e,f⟩,g,i⟩:=h
   exact⟨⟨a,b,c,by omega,by omega,by omega⟩,wfEs_big ks g,wfSs_big ss i⟩
theorem wfEs_big:∀ks:List Ex,wfEs 1048576 ks→wfEs (2^47) ks
 |[],_=>by rw[wfEs];trivial
 |k::r,h=>by
  rw[wfEs]at h ⊢
  exact⟨wfE_big k h.1,wfEs_big r h.2⟩
theorem wfSs_big:∀ks:List St,wfSs 1048576 ks→wfSs (2^47) ks
 |[],_=>by rw[wfSs];trivial
 |k::r,h=>by
  rw[wfSs]at h ⊢
  exact⟨wfS_big k h.1,wfSs_big r h.2⟩
theorem wfS_big:∀x:St,wfS 1048576 x→wfS (2^47) x
 | .mk ax tk nm has ps,h=>by
   rw[wfS]at h ⊢
   obtain⟨⟨a,b,c,d⟩,g⟩:=h
   exact⟨⟨a,b,by omega,by omega⟩,wfEs_big ps g⟩
end
theorem box_read (x:Ex)(vk vs:Value)(w:World):∀W,Below (w.alloc (boxEx x vk vs)).heap.size (w.alloc (boxEx x vk vs)) W→
 (W.cell? ⟨w.heap.size,0,none⟩=some (.int .i64 x.op)∧W.cell? ⟨w.heap.size,1,none⟩=some (.string (bs x.s))∧W.cell? ⟨w.heap.size,2,none⟩=some (.int .i64 x.tg)∧W.cell? ⟨w.heap.size,3,none⟩=some (.int .i64 x.vl)∧W.cell? ⟨w.heap.size,4,none⟩=some (.bool x.abs)∧W.cell? ⟨w.heap.size,5,none⟩=some vk∧W.cell? ⟨w.heap.size,6,none⟩=some vs):=fun W hW=>
 (boxEx_blk ((hW.block w.heap.size (by simp)).trans (World.alloc_heap_new w _))).1
set_option maxRecDepth 100000 in
set_option maxHeartbeats 4000000 in
theorem type15_any (x:Ex)(vk vs:Value)(w:World)(F:Nat→Prop)(hc:cntE x≤1000)(hw:wfE 1048576 x)(hx:ExOn w F x vk vs)(hG:Gl w):
 Calls Tryz.prog 23 #[exV x vk vs] w (TyP w (typD x)):=by
 obtain⟨h1,h2⟩:=ExOn.iff.1 hx
 obtain⟨o1,j1,rfl⟩:=h1.form
 obtain⟨o2,j2,rfl⟩:=h2.form
 obtain⟨W1,hW1⟩:∃W1,W1=w.alloc (boxEx x (.slice o1 x.ks.length j1) (.slice o2 x.ss.length j2)):=⟨_,rfl⟩
 have b1:Below w.heap.size w W1:=by rw[hW1];exact below_box _
 have hcl:=box_read x (.slice o1 x.ks.length j1) (.slice o2 x.ss.length j2) w
 rw[←hW1]at hcl
 have HCL:=Lib.hid hcl
 have HRI:=Lib.hid (rtE_any 1001 (by omega) x (.slice o1 x.ks.length j1) (.slice o2 x.ss.length j2) W1 F (by omega) hw (hx.below b1) (hG.below b1))
 have HOF:=fun(hr:rightE x=true) W (hW:Below w.heap.size w W)=>of_any 1001 (by omega) x (.slice o1 x.ks.length j1) (.slice o2 x.ss.length j2) 0 W F (by omega) hw hr (by omega) (hx.below hW)
 unfold boxEx at hW1
 have HW1:=Lib.hid hW1
 have HB1:=Lib.hid b1
 unfold exV at HRI HOF ⊢
 unfold typD
 cases hr:rightE x with
 |false=>
  rw[hr]at HRI
  clear hcl hW1 b1 hx h1 h2 hG hc hw HOF hr
  go_enter Tryz.func23,Tryz.ntmps23
  go_wp2_with fail
  rw[←HW1.out]
  refine HRI.out.mono ?_
  rintro e w2 ⟨rfl,hb2⟩
  have HB2:=Lib.hid (HB1.out.trans (hb2.mono HB1.out.size))
  clear hb2
  go_wp2_with fail
  exact bodyPost_ret (v:= .tuple #[.int .i64 0,.int .i64 2]) (by simp[results,Tryz.results23]) rfl ⟨HB2.out,rfl⟩
 |true=>
  rw[hr]at HRI
  have HO:=Lib.hid (HOF hr)
  rw[show((0:Nat):Int)=0 from rfl]at HO
  rw[if_pos rfl]
  clear hcl hW1 b1 hx h1 h2 hG hc hw HOF hr
  show Calls _ _ _ _ (TyP w (ckR (ckE x 0)))
  generalize ckR (ckE x 0)=R at *
  obtain⟨ra,rb⟩:=R
  simp only at HO
  go_enter Tryz.func23,Tryz.ntmps23
  go_wp2_with fail
  rw[←HW1.out]
  refine HRI.out.mono ?_
  rintro e w2 ⟨rfl,hb2⟩
  obtain⟨a0,a1,a2,a3,a4,a5,a6⟩:=HCL.out w2 hb2
  have HB2:=Lib.hid (HB1.out.trans (hb2.mono HB1.out.size))
  clear hb2
  go_wp2_with fail
  refine(HO.out w2 HB2.out).mono ?_
  rintro e w3 ⟨rfl,hb3⟩
  go_wp2_with fail
  exact bodyPost_ret (v:= .tuple #[.int .i64 ra,.int .i64 rb]) (by simp[results,Tryz.results23]) rfl ⟨HB2.out.trans (hb3.mono HB2.out.size),rfl⟩
set_option maxRecDepth 100000 in
set_option maxHeartbeats 4000000 in
theorem types_law (x:Ex)(vk vs:Value)(w:World)(hx:ExOn w (fun b=>b<w.heap.size) x vk vs)(hw:wfE 1048576 x)(hG:Gl w):
 Calls Tryz.prog 7 #[exV x vk vs] w fun e w'=>e= .returned (.bool true)∧Below w.heap.size w w':=by
 obtain⟨h1,h2⟩:=ExOn.iff.1 hx
 obtain⟨o1,j1,rfl⟩:=h1.form
 obtain⟨o2,j2,rfl⟩:=h2.form
 obtain⟨W1,hW1⟩:∃W1,W1=w.alloc (boxEx x (.slice o1 x.ks.length j1) (.slice o2 x.ss.length j2)):=⟨_,rfl⟩
 have b1:Below w.heap.size w W1:=by rw[hW1];exact below_box _
 have hcl:=box_read x (.slice o1 x.ks.length j1) (.slice o2 x.ss.length j2) w
 rw[←hW1]at hcl
 have HCL:=Lib.hid hcl
 have hx':ExOn W1 (fun b=>b<W1.heap.size) x (.slice o1 x.ks.length j1) (.slice o2 x.ss.length j2):=hx.move fun b hb _=>⟨Nat.lt_of_lt_of_le hb b1.size,b1.block b hb⟩
 have HFW:=Lib.hid (fewF_any x _ _ W1 hx' (wfE_big x hw))
 have HWK:=Lib.hid fun(W:World) (hb:Below w.heap.size w W)=>works15_any W (hG.below hb)
 have hcnt:=fun h=>fewB_cnt (x:=x) h
 have HTC:=fun(hc:cntE x≤1000) W (hb:Below w.heap.size w W)=>typeC_any x _ _ W _ (by omega) hw (hx.below hb) (hG.below hb)
 have HTD:=fun(hc:cntE x≤1000) W (hb:Below w.heap.size w W)=>type15_any x _ _ W _ hc hw (hx.below hb) (hG.below hb)
 unfold boxEx at hW1
 have HW1:=Lib.hid hW1
 have HB1:=Lib.hid b1
 unfold exV at HFW HTC HTD ⊢
 cases hf:fewB x with
 |false=>
  rw[hf]at HFW
  clear hcl hW1 b1 hx h1 h2 hG hw HTC HTD hf hcnt hx'
  go_enter Tryz.func7,Tryz.ntmps7
  go_wp2_with fail
  rw[←HW1.out]
  refine HFW.out.mono ?_
  rintro e w2 ⟨rfl,hb2⟩
  have HB2:=Lib.hid (HB1.out.trans (hb2.mono HB1.out.size))
  clear hb2
  go_wp2_with fail
  refine(HWK.out w2 HB2.out).mono ?_
  rintro e w3 ⟨rfl,hb3⟩
  have HB3:=Lib.hid (HB2.out.trans (hb3.mono HB2.out.size))
  clear hb3
  go_wp2_with fail
  go_ret
  exact⟨rfl,HB3.out⟩
 |true=>
  rw[hf]at HFW
  have TC:=Lib.hid (HTC (hcnt hf))
  have TD:=Lib.hid (HTD (hcnt hf))
  clear hcl hW1 b1 hx h1 h2 hG hw HTC HTD hf hcnt hx'
  generalize typD x=R at *
  obtain⟨ra,rb⟩:=R
  go_enter Tryz.func7,Tryz.ntmps7
  go_wp2_with fail
  rw[←HW1.out]
  refine HFW.out.mono ?_
  rintro e w2 ⟨rfl,hb2⟩
  obtain⟨a0,a1,a2,a3,a4,a5,a6⟩:=HCL.out w2 hb2
  have HX2:=Lib.hid hb2
  have HB2:=Lib.hid (HB1.out.trans (hb2.mono HB1.out.size))
  clear hb2
  go_wp2_with fail
  refine(TC.out w2 HB2.out).mono ?_
  rintro e w3 ⟨hb3,rfl⟩
  clear a0 a1 a2 a3 a4 a5 a6
  obtain⟨a0,a1,a2,a3,a4,a5,a6⟩:=HCL.out w3 (HX2.out.trans (hb3.mono HX2.out.size))
  have HB3:=Lib.hid (HB2.out.trans (hb3.mono HB2.out.size))
  clear hb3
  go_wp2_with fail
  refine(TD.out w3 HB3.out).mono ?_
  rintro e w4 ⟨hb4,rfl⟩
  have HB4:=Lib.hid (HB3.out.trans (hb4.mono HB3.out.size))
  clear hb4
  go_wp2_with fail
  refine(HWK.out w4 HB4.out).mono ?_
  rintro e w5 ⟨rfl,hb5⟩
  have HB5:=Lib.hid (HB4.out.trans (hb5.mono HB4.out.size))
  clear hb5
  go_wp2_with fail
  go_ret
  exact⟨by simp,HB5.out⟩
end Char
namespace Char
open Go.RowKit Go.Lib Go.ChangeShapes Go.WideShapes Go.Deep
theorem bulk_pos {H:Type}(d:DataW H):1≤Rows.uptoBulk d:=by
 cases d with
 |lit l=>cases l<;>simp[Rows.uptoBulk]
 |_=>simp[Rows.uptoBulk]
theorem bulk_mem {H:Type}{d:DataW H}:∀{l:List (DataW H)},d∈l→Rows.uptoBulk d≤Rows.uptoBulkAll l
 |x::r,h=>by
  rw[Rows.uptoBulkAll]
  rcases List.mem_cons.1 h with rfl|h
  ·omega
  ·have :=bulk_mem h;omega
theorem bulk_len {H:Type}:∀l:List (DataW H),l.length≤Rows.uptoBulkAll l
 |[]=>Nat.zero_le _
 |x::r=>by
  rw[Rows.uptoBulkAll,List.length_cons]
  have :=bulk_pos x
  have :=bulk_len r
  omega
theorem bulk_slice {H:Type}{a b:List (DataW H)}(h:Rows.uptoBulk (.slice a b)≤1048576):a.length≤1048576∧∀d∈a,Rows.uptoBulk d≤1048576:=by
 rw[Rows.uptoBulk]at h
 have :=bulk_len a
 exact⟨by omega,fun d hd=>by have :=bulk_mem hd;omega⟩
theorem bulk_agg {H:Type}{l:List (DataW H)}(h:Rows.uptoBulk (.agg l)≤1048576)(j:Nat){d:DataW H}(hd:l[j]? =some d):Rows.uptoBulk d≤1048576:=by
 rw[Rows.uptoBulk]at h
 have :=bulk_mem (List.mem_of_getElem? hd)
 omega
theorem bulk_str {H:Type}{d:DataW H}{l:List UInt8}(h:d= .lit (.string l))(hw:Rows.uptoBulk d≤1048576):l.length≤1048576:=by
 rw[h,Rows.uptoBulk]at hw
 omega
section
variable {H:Type} {enc:TypeId×Value→H} {W:World}
def OpEU (enc:TypeId×Value→H)(W:World)(n:Nat):Prop:=∀(cs:List Value) (d:DataW H) (p:List MemPlace),DataW.trod enc Tryz.prog W 0 (fun _=>true) true n 28 cs=some (d,p)→Rows.uptoBulk d≤1048576→
    ∃(x:Ex) (vk vs:Value),cs=exC x vk vs∧ExOn W (fun b=>b<W.heap.size) x vk vs∧wfE (1048576) x
def OpSU (enc:TypeId×Value→H)(W:World)(n:Nat):Prop:=∀(cs:List Value) (d:DataW H) (p:List MemPlace),DataW.trod enc Tryz.prog W 0 (fun _=>true) true n 62 cs=some (d,p)→Rows.uptoBulk d≤1048576→
    ∃(x:St) (vp:Value),cs=stpC x vp∧StOn W (fun b=>b<W.heap.size) x vp∧wfS (1048576) x
set_option maxRecDepth 100000 in
theorem open_exsU {n:Nat}(ih:∀m,m<n→OpEU enc W m){cv:Value}{d:DataW H}{p:List MemPlace}(h:DataW.trod enc Tryz.prog W 0 (fun _=>true) true n 25 [cv]=some (d,p))
 (hw:Rows.uptoBulk d≤1048576):∃ks:List Ex,KdOn W (fun b=>b<W.heap.size) cv ks∧ks.length≤1048576∧wfEs (1048576) ks:=by
 rcases DataW.trod_slice Tryz.underlying25 h with⟨hc,_⟩|⟨ad,len,cap,elems,rest,k',hk',hc,hx4,_,hlc,_,hel,hall,_,_⟩
 ·simp only[List.cons.injEq,and_true]at hc
  exact⟨[],⟨none,0,hc,.inl rfl⟩,by simp,by rw[wfEs];trivial⟩
 ·simp only[List.cons.injEq,and_true]at hc
  rw[cells_ex]at hall
  simp only[Prod.mk.injEq]at hx4
  obtain⟨rfl,_⟩:=hx4
  have hlen:len≤1048576:=by
   have :=(bulk_slice hw).1
   simp only[List.length_map]at this
   omega
  obtain⟨f,hf4⟩:=choose_lt (α:=Ex) (n:=len) (p:=fun i t=>wfE (1048576) t∧∃va vk,W.cells? 0 (ad.add (i*7)) 7=some (exC t va vk)∧ExOn W (fun b=>b<W.heap.size) t va vk) (fun i hi=>by
   have hb:=hall i hi
   rw[List.getElem?_eq_getElem (by omega),Option.bind_eq_some_iff]at hb
   obtain⟨cs',e1,e2⟩:=hb
   obtain⟨t,va,vk,rfl,hon,hmx⟩:=ih k' (by omega) cs' _ _ e2 ((bulk_slice hw).2 _ (List.mem_map_of_mem (List.getElem_mem (by omega))))
   exact⟨t,hmx,va,vk,e1,hon⟩)
  refine⟨(List.range len).map f,⟨some ad,cap,by rw[hc];simp,?_⟩,by simpa using hlen,wfEs_of fun j hj=>by simp only[List.length_map,List.length_range]at hj;simpa using (hf4 j hj).1⟩
  by_cases h0:len=0
  ·subst h0;exact .inl rfl
  ·obtain⟨g,off,spot⟩:=ad
   obtain⟨_,va,vk,hc0,_⟩:=hf4 0 (by omega)
   have hc1:=(World.cells?_some hc0).2.2 0 (by omega)
   rw[add_add]at hc1
   have hspot:spot=none:=by simpa [Addr.add,exC] using World.cell?_spot hc1
   subst hspot
   refine .inr ⟨g,off,rfl,⟨cell_lt (a:=⟨g,off,none⟩) (by simpa [Addr.add,exC] using hc1),by simpa using hlc⟩,KsOn.of fun i hi=> ?_⟩
   simp only[List.length_map,List.length_range]at hi
   simp only[List.getElem_map,List.getElem_range]
   obtain⟨_,va,vk,hcs,hon⟩:=hf4 i hi
   have hcell:=(World.cells?_some hcs).2.2
   refine⟨va,vk,fun j u hu=> ?_,hon⟩
   have hj:j<7:=by
    have :=(List.getElem?_eq_some_iff.1 hu).1
    simpa [exC] using this
   have :=hcell j hj
   rw[add_add]at this
   rw[hu]at this
   simpa [Addr.add_lit,Nat.add_assoc] using this
set_option maxRecDepth 100000 in
theorem open_stepU {n:Nat}(ih:∀m,m<n→OpEU enc W m):OpSU enc W n:=by
 intro cs d p h hw
 obtain⟨xs,k,hk,hx,hlen,hxl,hf⟩:=DataW.trod_struct Tryz.underlying62 h
 rw[cells_stp]at hlen
 match cs,hlen with
 |[c0,c1,c2,c3,c4],_=>
  match xs,hxl with
  |[y0,y1,y2],_=>
   have h0:=hf 0 _ rfl
   have h1:=hf 1 _ rfl
   have h2:=hf 2 _ rfl
   simp only[cells_tst,cells_int,cells_exs,List.drop_zero,List.take_succ_cons,List.take_zero,List.getElem?_cons_zero,List.getElem?_cons_succ,List.drop_succ_cons,List.getElem_toArray,List.getElem_cons_zero,List.getElem_cons_succ]at h0 h1 h2
   obtain⟨zs,k2,hk2,hz,_,hzl,hfz⟩:=DataW.trod_struct Tryz.underlying60 h1
   match zs,hzl with
   |[z0,z1,z2],_=>
    have g0:=hfz 0 _ rfl
    have g1:=hfz 1 _ rfl
    have g2:=hfz 2 _ rfl
    simp only[cells_str,cells_int,cells_bool,List.drop_zero,List.take_succ_cons,List.take_zero,List.getElem?_cons_zero,List.getElem?_cons_succ,List.drop_succ_cons,List.getElem_toArray,List.getElem_cons_zero,List.getElem_cons_succ]at g0 g1 g2
    obtain⟨ax,hax,_,wax⟩:=DataW.trod_int Tryz.underlying3 h0
    obtain⟨tk,htk,_,wtk⟩:=DataW.trod_int Tryz.underlying3 g0
    obtain⟨nm,hnm,ynm,_⟩:=DataW.trod_string Tryz.underlying9 g1
    obtain⟨hs,hhs,_⟩:=DataW.trod_bool Tryz.underlying4 g2
    simp only[List.cons.injEq,and_true]at hax htk hnm hhs
    simp only[Prod.mk.injEq]at hx
    obtain⟨rfl,_⟩:=hx
    have hwe:=fun(j:Nat) {e:DataW H} (he:([y0,y1,y2].map (·.1))[j]? =some e)=>bulk_agg hw j he
    have hwt:=hwe 1 rfl
    have hz1:y1.1= .agg ([z0,z1,z2].map (·.1)):=by rw[show y1=(y1.1,y1.2) from rfl,Prod.mk.injEq]at hz;exact hz.1
    change Rows.uptoBulk y1.1≤1048576 at hwt
    rw[hz1]at hwt
    have hwn:Rows.uptoBulk z1.1≤1048576:=bulk_agg hwt 1 rfl
    have hn1:=bulk_str (congrArg Prod.fst ynm) hwn
    obtain⟨ps,hps,hpl,hpw⟩:=open_exsU (fun m hm=>ih m (by omega)) (d:=y2.1) (p:=y2.2) h2 (hwe 2 rfl)
    exact⟨.mk ax tk nm.data.toList hs ps,c4,by rw[hax,htk,hnm,hhs];rfl,StOn.iff.2 hps,by rw[wfS];exact⟨⟨okI_of wax,okI_of wtk,hn1,hpl⟩,hpw⟩⟩
set_option maxRecDepth 100000 in
theorem open_stsU {n:Nat}(ih:∀m,m<n→OpEU enc W m){cv:Value}{d:DataW H}{p:List MemPlace}(h:DataW.trod enc Tryz.prog W 0 (fun _=>true) true n 26 [cv]=some (d,p))
 (hw:Rows.uptoBulk d≤1048576):∃ks:List St,SdOn W (fun b=>b<W.heap.size) cv ks∧ks.length≤1048576∧wfSs (1048576) ks:=by
 rcases DataW.trod_slice Tryz.underlying26 h with⟨hc,_⟩|⟨ad,len,cap,elems,rest,k',hk',hc,hx4,_,hlc,_,hel,hall,_,_⟩
 ·simp only[List.cons.injEq,and_true]at hc
  exact⟨[],⟨none,0,hc,.inl rfl⟩,by simp,by rw[wfSs];trivial⟩
 ·simp only[List.cons.injEq,and_true]at hc
  rw[cells_stp]at hall
  simp only[Prod.mk.injEq]at hx4
  obtain⟨rfl,_⟩:=hx4
  have hlen:len≤1048576:=by
   have :=(bulk_slice hw).1
   simp only[List.length_map]at this
   omega
  obtain⟨f,hf4⟩:=choose_lt (α:=St) (n:=len) (p:=fun i t=>wfS (1048576) t∧∃vp,W.cells? 0 (ad.add (i*5)) 5=some (stpC t vp)∧StOn W (fun b=>b<W.heap.size) t vp) (fun i hi=>by
   have hb:=hall i hi
   rw[List.getElem?_eq_getElem (by omega),Option.bind_eq_some_iff]at hb
   obtain⟨cs',e1,e2⟩:=hb
   obtain⟨t,vp,rfl,hon,hmx⟩:=open_stepU (n:=k') (fun m hm=>ih m (by omega)) cs' _ _ e2 ((bulk_slice hw).2 _ (List.mem_map_of_mem (List.getElem_mem (by omega))))
   exact⟨t,hmx,vp,e1,hon⟩)
  refine⟨(List.range len).map f,⟨some ad,cap,by rw[hc];simp,?_⟩,by simpa using hlen,wfSs_of fun j hj=>by simp only[List.length_map,List.length_range]at hj;simpa using (hf4 j hj).1⟩
  by_cases h0:len=0
  ·subst h0;exact .inl rfl
  ·obtain⟨g,off,spot⟩:=ad
   obtain⟨_,vp,hc0,_⟩:=hf4 0 (by omega)
   have hc1:=(World.cells?_some hc0).2.2 0 (by omega)
   rw[add_add]at hc1
   have hspot:spot=none:=by simpa [Addr.add,stpC] using World.cell?_spot hc1
   subst hspot
   refine .inr ⟨g,off,rfl,⟨cell_lt (a:=⟨g,off,none⟩) (by simpa [Addr.add,stpC] using hc1),by simpa using hlc⟩,SsOn.of fun i hi=> ?_⟩
   simp only[List.length_map,List.length_range]at hi
   simp only[List.getElem_map,List.getElem_range]
   obtain⟨_,vp,hcs,hon⟩:=hf4 i hi
   have hcell:=(World.cells?_some hcs).2.2
   refine⟨vp,fun j u hu=> ?_,hon⟩
   have hj:j<5:=by
    have :=(List.getElem?_eq_some_iff.1 hu).1
    simpa [stpC] using this
   have :=hcell j hj
   rw[add_add]at this
   rw[hu]at this
   simpa [Addr.add_lit,Nat.add_assoc] using this
set_option maxRecDepth 100000 in
theorem open_exU:∀n,OpEU enc W n:=by
 intro n
 induction n using Nat.strongRecOn with
 |_ n ih=>
 intro cs d p h hw
 obtain⟨xs,k,hk,hx,hlen,hxl,hf⟩:=DataW.trod_struct Tryz.underlying28 h
 rw[cells_ex]at hlen
 match cs,hlen with
 |[c0,c1,c2,c3,c4,c5,c6],_=>
  match xs,hxl with
  |[y0,y1,y2,y3,y4,y5],_=>
   have h0:=hf 0 _ rfl
   have h1:=hf 1 _ rfl
   have h2:=hf 2 _ rfl
   have h3:=hf 3 _ rfl
   have h4:=hf 4 _ rfl
   have h5:=hf 5 _ rfl
   simp only[cells_dec,cells_str,cells_bool,cells_sts,cells_int,cells_exs,List.drop_zero,List.take_succ_cons,List.take_zero,List.getElem?_cons_zero,List.getElem?_cons_succ,List.drop_succ_cons,List.getElem_toArray,List.getElem_cons_zero,List.getElem_cons_succ]at h0 h1 h2 h3 h4 h5
   obtain⟨zs,k2,hk2,hz,_,hzl,hfz⟩:=DataW.trod_struct Tryz.underlying24 h2
   match zs,hzl with
   |[z0,z1],_=>
    have g0:=hfz 0 _ rfl
    have g1:=hfz 1 _ rfl
    simp only[cells_i64,cells_int,List.drop_zero,List.take_succ_cons,List.take_zero,List.getElem?_cons_zero,List.getElem?_cons_succ,List.drop_succ_cons,List.getElem_toArray,List.getElem_cons_zero,List.getElem_cons_succ]at g0 g1
    obtain⟨op,hop,_,wop⟩:=DataW.trod_int Tryz.underlying3 h0
    obtain⟨s,hs,ys,_⟩:=DataW.trod_string Tryz.underlying9 h1
    obtain⟨tg,htg,_,wtg⟩:=DataW.trod_int Tryz.underlying3 g0
    obtain⟨vl,hvl,_,wvl⟩:=DataW.trod_int Tryz.underlying2 g1
    obtain⟨ab,hab,_⟩:=DataW.trod_bool Tryz.underlying4 h3
    simp only[List.cons.injEq,and_true]at hop hs htg hvl hab
    simp only[Prod.mk.injEq]at hx
    obtain⟨rfl,_⟩:=hx
    have hwe:=fun(j:Nat) {e:DataW H} (he:([y0,y1,y2,y3,y4,y5].map (·.1))[j]? =some e)=>bulk_agg hw j he
    have hs1:=bulk_str (congrArg Prod.fst ys) (hwe 1 rfl)
    obtain⟨ks,hks,hkl,hkw⟩:=open_exsU (fun m hm=>ih m (by omega)) (d:=y4.1) (p:=y4.2) h4 (hwe 4 rfl)
    obtain⟨ss,hss,hsl,hsw⟩:=open_stsU (fun m hm=>ih m (by omega)) (d:=y5.1) (p:=y5.2) h5 (hwe 5 rfl)
    exact⟨.mk op s.data.toList tg vl ab ks ss,c5,c6,by rw[hop,hs,htg,hvl,hab];rfl,ExOn.iff.2 ⟨hks,hss⟩,by rw[wfE];exact⟨⟨okI_of wop,okI_of wtg,okI_of wvl,hs1,hkl,hsl⟩,hkw,hsw⟩⟩
set_option maxRecDepth 100000 in
theorem open_exprTU {r:Reach}{b0:Nat}{v:Value}{d:DataW H}{p:List MemPlace}(hv:Value.okWide Tryz.prog W r b0 28 v)(h:DataW.Trod enc Tryz.prog W 0 (fun _=>true) true 28 v d p)
 (_:∀m∈d.weights Tryz.prog 28,m≤reachBytes) (hw:Rows.uptoBulk d≤1048576):∃(t:Ex) (va vk:Value),v=exV t va vk∧ExOn W (fun b=>b<W.heap.size) t va vk∧wfE (1048576) t:=by
 obtain⟨cs,rfl,_⟩:=okWide_struct Tryz.underlying28 hv
 obtain⟨fuel,hf⟩:=h
 obtain⟨t,va,vk,hcs,h1,h2⟩:=open_exU fuel _ _ _ hf hw
 refine⟨t,va,vk,?_,h1,h2⟩
 obtain⟨l⟩:=cs
 have :l=exC t va vk:=hcs
 rw[this]
 rfl
end
end Char
end Go.Proofs.YtlmpkpjjakallaaGreatDoor
