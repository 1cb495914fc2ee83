import Derived.Test.YtlmpkpjjakallaaGreatDoorPt04
import Derived.Deep.Slices
import Derived.ChangeArms
import Derived.SizedLaws
import Derived.Carry
import Derived.OpenShut
import Derived.Test.YtlmpkpjjakallaaGreatDoorPt00
import Derived.Test.YtlmpkpjjakallaaGreatDoorProg
import Derived.WalkKit
import Derived.Below
import Derived.Outline
import Derived.Lib.Hide
import Derived.Laws.AppendOwn
import Derived.OwnWalk
import Derived.Lib.ValidAsc
namespace Go.Proofs.YtlmpkpjjakallaaGreatDoor
namespace Char
open Go.RowKit Go.Lib Go.ChangeShapes Go.WideShapes Go.Deep
theorem cells_ex:Tryz.prog.cellsOf 28=7:=by kernel_rfl
theorem cells_stp:Tryz.prog.cellsOf 62=5:=by kernel_rfl
theorem cells_dec:Tryz.prog.cellsOf 24=2:=by kernel_rfl
theorem cells_tst:Tryz.prog.cellsOf 60=3:=by kernel_rfl
theorem cells_str:Tryz.prog.cellsOf 9=1:=by kernel_rfl
theorem cells_int:Tryz.prog.cellsOf 3=1:=by kernel_rfl
theorem cells_i64:Tryz.prog.cellsOf 2=1:=by kernel_rfl
theorem cells_bool:Tryz.prog.cellsOf 4=1:=by kernel_rfl
theorem cells_exs:Tryz.prog.cellsOf 25=1:=by kernel_rfl
theorem cells_sts:Tryz.prog.cellsOf 26=1:=by kernel_rfl
theorem bytes_ex:Tryz.prog.bytesOf 28=96:=by kernel_rfl
theorem bytes_stp:Tryz.prog.bytesOf 62=64:=by kernel_rfl
instance:Inhabited Ex:=⟨ex0⟩
instance:Inhabited St:=⟨.mk 0 0 [] false []⟩
theorem weights_all {H:Type}{P:Program}{e:TypeId}:∀{l:List (DataW H)} {d:DataW H},d∈l→∀n∈d.weights P e,n∈DataW.weightsAll P e l
 |[],_,hd,_,_=>by cases hd
 |x::r,d,hd,n,hn=>by
  rw[DataW.weightsAll,List.mem_append]
  rcases List.mem_cons.1 hd with rfl|hd
  ·exact .inl hn
  ·exact .inr (weights_all hd n hn)
theorem str_reach {H:Type}{d:DataW H}{l:List UInt8}(h:d= .lit (.string l))(hw:∀m∈d.weights Tryz.prog 9,m≤reachBytes):l.length≤2^47:=by
 have :=hw l.length (by
  rw[h,DataW.weights]
  simp)
 unfold reachBytes at this
 omega
theorem okI_of {k:Int}(h:(Lit.int .i64 k).wf=true):okI k:=by
 have :=bounds_i64 h
 unfold okI
 omega
section
variable {H:Type} {enc:TypeId×Value→H} {W:World}
def OpE (enc:TypeId×Value→H)(W:World)(n:Nat):Prop:=∀(cs:List Value) (d:DataW H) (p:List MemPlace),DataW.trod enc Tryz.prog W 0 (fun _=>true) true n 28 cs=some (d,p)→(∀m∈d.weights Tryz.prog 28,m≤reachBytes)→
    ∃(x:Ex) (vk vs:Value),cs=exC x vk vs∧ExOn W (fun b=>b<W.heap.size) x vk vs∧wfE (2^47) x
def OpS (enc:TypeId×Value→H)(W:World)(n:Nat):Prop:=∀(cs:List Value) (d:DataW H) (p:List MemPlace),DataW.trod enc Tryz.prog W 0 (fun _=>true) true n 62 cs=some (d,p)→(∀m∈d.weights Tryz.prog 62,m≤reachBytes)→
    ∃(x:St) (vp:Value),cs=stpC x vp∧StOn W (fun b=>b<W.heap.size) x vp∧wfS (2^47) x
set_option maxRecDepth 100000 in
theorem open_exs {n:Nat}(ih:∀m,m<n→OpE enc W m){cv:Value}{d:DataW H}{p:List MemPlace}(h:DataW.trod enc Tryz.prog W 0 (fun _=>true) true n 25 [cv]=some (d,p))
 (hw:∀m∈d.weights Tryz.prog 25,m≤reachBytes):∃ks:List Ex,KdOn W (fun b=>b<W.heap.size) cv ks∧ks.length≤2^47∧wfEs (2^47) ks:=by
 rcases DataW.trod_slice Tryz.underlying25 h with⟨hc,_⟩|⟨ad,len,cap,elems,rest,k',hk',hc,hx4,_,hlc,_,hel,hall,_,_⟩
 ·simp only[List.cons.injEq,and_true]at hc
  exact⟨[],⟨none,0,hc,.inl rfl⟩,by simp,by rw[wfEs];trivial⟩
 ·simp only[List.cons.injEq,and_true]at hc
  rw[cells_ex]at hall
  simp only[Prod.mk.injEq]at hx4
  obtain⟨rfl,_⟩:=hx4
  have hlen:len≤2^47:=by
   have :=hw ((elems.map (·.1)).length*96+(rest.map (·.1)).length*96) (by
    rw[DataW.weights]
    simp only[Tryz.underlying25,bytes_ex,Nat.add_mul]
    exact List.mem_cons_self)
   simp only[List.length_map]at this
   unfold reachBytes at this
   omega
  obtain⟨f,hf4⟩:=choose_lt (α:=Ex) (n:=len) (p:=fun i t=>wfE (2^47) t∧∃va vk,W.cells? 0 (ad.add (i*7)) 7=some (exC t va vk)∧ExOn W (fun b=>b<W.heap.size) t va vk) (fun i hi=>by
   have hb:=hall i hi
   rw[List.getElem?_eq_getElem (by omega),Option.bind_eq_some_iff]at hb
   obtain⟨cs',e1,e2⟩:=hb
   obtain⟨t,va,vk,rfl,hon,hmx⟩:=ih k' (by omega) cs' _ _ e2 (fun m hm=>hw m (by
    rw[DataW.weights]
    simp only[Tryz.underlying25]
    exact List.mem_cons_of_mem _ (List.mem_append_left _ (weights_all (List.mem_map_of_mem (List.getElem_mem (by omega))) m hm))))
   exact⟨t,hmx,va,vk,e1,hon⟩)
  refine⟨(List.range len).map f,⟨some ad,cap,by rw[hc];simp,?_⟩,by simpa using hlen,wfEs_of fun j hj=>by simp only[List.length_map,List.length_range]at hj;simpa using (hf4 j hj).1⟩
  by_cases h0:len=0
  ·subst h0;exact .inl rfl
  ·obtain⟨g,off,spot⟩:=ad
   obtain⟨_,va,vk,hc0,_⟩:=hf4 0 (by omega)
   have hc1:=(World.cells?_some hc0).2.2 0 (by omega)
   rw[add_add]at hc1
   have hspot:spot=none:=by simpa [Addr.add,exC] using World.cell?_spot hc1
   subst hspot
   refine .inr ⟨g,off,rfl,⟨cell_lt (a:=⟨g,off,none⟩) (by simpa [Addr.add,exC] using hc1),by simpa using hlc⟩,KsOn.of fun i hi=> ?_⟩
   simp only[List.length_map,List.length_range]at hi
   simp only[List.getElem_map,List.getElem_range]
   obtain⟨_,va,vk,hcs,hon⟩:=hf4 i hi
   have hcell:=(World.cells?_some hcs).2.2
   refine⟨va,vk,fun j u hu=> ?_,hon⟩
   have hj:j<7:=by
    have :=(List.getElem?_eq_some_iff.1 hu).1
    simpa [exC] using this
   have :=hcell j hj
   rw[add_add]at this
   rw[hu]at this
   simpa [Addr.add_lit,Nat.add_assoc] using this
set_option maxRecDepth 100000 in
theorem open_step {n:Nat}(ih:∀m,m<n→OpE enc W m):OpS enc W n:=by
 intro cs d p h hw
 obtain⟨xs,k,hk,hx,hlen,hxl,hf⟩:=DataW.trod_struct Tryz.underlying62 h
 rw[cells_stp]at hlen
 match cs,hlen with
 |[c0,c1,c2,c3,c4],_=>
  match xs,hxl with
  |[y0,y1,y2],_=>
   have h0:=hf 0 _ rfl
   have h1:=hf 1 _ rfl
   have h2:=hf 2 _ rfl
   simp only[cells_tst,cells_int,cells_exs,List.drop_zero,List.take_succ_cons,List.take_zero,List.getElem?_cons_zero,List.getElem?_cons_succ,List.drop_succ_cons,List.getElem_toArray,List.getElem_cons_zero,List.getElem_cons_succ]at h0 h1 h2
   obtain⟨zs,k2,hk2,hz,_,hzl,hfz⟩:=DataW.trod_struct Tryz.underlying60 h1
   match zs,hzl with
   |[z0,z1,z2],_=>
    have g0:=hfz 0 _ rfl
    have g1:=hfz 1 _ rfl
    have g2:=hfz 2 _ rfl
    simp only[cells_str,cells_int,cells_bool,List.drop_zero,List.take_succ_cons,List.take_zero,List.getElem?_cons_zero,List.getElem?_cons_succ,List.drop_succ_cons,List.getElem_toArray,List.getElem_cons_zero,List.getElem_cons_succ]at g0 g1 g2
    obtain⟨ax,hax,_,wax⟩:=DataW.trod_int Tryz.underlying3 h0
    obtain⟨tk,htk,_,wtk⟩:=DataW.trod_int Tryz.underlying3 g0
    obtain⟨nm,hnm,ynm,_⟩:=DataW.trod_string Tryz.underlying9 g1
    obtain⟨hs,hhs,_⟩:=DataW.trod_bool Tryz.underlying4 g2
    simp only[List.cons.injEq,and_true]at hax htk hnm hhs
    simp only[Prod.mk.injEq]at hx
    obtain⟨rfl,_⟩:=hx
    have hwe:∀(j:Nat) (t:TypeId) (e:DataW H),([3,60,25]:List TypeId)[j]? =some t→([y0,y1,y2].map (·.1))[j]? =some e→∀m∈e.weights Tryz.prog t,m≤reachBytes:=fun j t e ht he m hm=>by
     refine hw m ?_
     rw[DataW.weights]
     simp only[Tryz.underlying62]
     exact DataW.weights_mem_each ht he m hm
    have hwt:=hwe 1 _ _ rfl rfl
    have hz1:y1.1= .agg ([z0,z1,z2].map (·.1)):=by rw[show y1=(y1.1,y1.2) from rfl,Prod.mk.injEq]at hz;exact hz.1
    change ∀m∈DataW.weights Tryz.prog 60 y1.1,m≤reachBytes at hwt
    rw[hz1]at hwt
    have hwn:∀m∈z1.1.weights Tryz.prog 9,m≤reachBytes:=fun m hm=>by
     refine hwt m ?_
     rw[DataW.weights]
     simp only[Tryz.underlying60]
     exact DataW.weights_mem_each (j:=1) (t:=9) (d:=z1.1) rfl rfl m hm
    have hn1:=str_reach (congrArg Prod.fst ynm) hwn
    obtain⟨ps,hps,hpl,hpw⟩:=open_exs (fun m hm=>ih m (by omega)) (d:=y2.1) (p:=y2.2) h2 (hwe 2 _ _ rfl rfl)
    exact⟨.mk ax tk nm.data.toList hs ps,c4,by rw[hax,htk,hnm,hhs];rfl,StOn.iff.2 hps,by rw[wfS];exact⟨⟨okI_of wax,okI_of wtk,hn1,hpl⟩,hpw⟩⟩
set_option maxRecDepth 100000 in
theorem open_sts {n:Nat}(ih:∀m,m<n→OpE enc W m){cv:Value}{d:DataW H}{p:List MemPlace}(h:DataW.trod enc Tryz.prog W 0 (fun _=>true) true n 26 [cv]=some (d,p))
 (hw:∀m∈d.weights Tryz.prog 26,m≤reachBytes):∃ks:List St,SdOn W (fun b=>b<W.heap.size) cv ks∧ks.length≤2^47∧wfSs (2^47) ks:=by
 rcases DataW.trod_slice Tryz.underlying26 h with⟨hc,_⟩|⟨ad,len,cap,elems,rest,k',hk',hc,hx4,_,hlc,_,hel,hall,_,_⟩
 ·simp only[List.cons.injEq,and_true]at hc
  exact⟨[],⟨none,0,hc,.inl rfl⟩,by simp,by rw[wfSs];trivial⟩
 ·simp only[List.cons.injEq,and_true]at hc
  rw[cells_stp]at hall
  simp only[Prod.mk.injEq]at hx4
  obtain⟨rfl,_⟩:=hx4
  have hlen:len≤2^47:=by
   have :=hw ((elems.map (·.1)).length*64+(rest.map (·.1)).length*64) (by
    rw[DataW.weights]
    simp only[Tryz.underlying26,bytes_stp,Nat.add_mul]
    exact List.mem_cons_self)
   simp only[List.length_map]at this
   unfold reachBytes at this
   omega
  obtain⟨f,hf4⟩:=choose_lt (α:=St) (n:=len) (p:=fun i t=>wfS (2^47) t∧∃vp,W.cells? 0 (ad.add (i*5)) 5=some (stpC t vp)∧StOn W (fun b=>b<W.heap.size) t vp) (fun i hi=>by
   have hb:=hall i hi
   rw[List.getElem?_eq_getElem (by omega),Option.bind_eq_some_iff]at hb
   obtain⟨cs',e1,e2⟩:=hb
   obtain⟨t,vp,rfl,hon,hmx⟩:=open_step (n:=k') (fun m hm=>ih m (by omega)) cs' _ _ e2 (fun m hm=>hw m (by
    rw[DataW.weights]
    simp only[Tryz.underlying26]
    exact List.mem_cons_of_mem _ (List.mem_append_left _ (weights_all (List.mem_map_of_mem (List.getElem_mem (by omega))) m hm))))
   exact⟨t,hmx,vp,e1,hon⟩)
  refine⟨(List.range len).map f,⟨some ad,cap,by rw[hc];simp,?_⟩,by simpa using hlen,wfSs_of fun j hj=>by simp only[List.length_map,List.length_range]at hj;simpa using (hf4 j hj).1⟩
  by_cases h0:len=0
  ·subst h0;exact .inl rfl
  ·obtain⟨g,off,spot⟩:=ad
   obtain⟨_,vp,hc0,_⟩:=hf4 0 (by omega)
   have hc1:=(World.cells?_some hc0).2.2 0 (by omega)
   rw[add_add]at hc1
   have hspot:spot=none:=by simpa [Addr.add,stpC] using World.cell?_spot hc1
   subst hspot
   refine .inr ⟨g,off,rfl,⟨cell_lt (a:=⟨g,off,none⟩) (by simpa [Addr.add,stpC] using hc1),by simpa using hlc⟩,SsOn.of fun i hi=> ?_⟩
   simp only[List.length_map,List.length_range]at hi
   simp only[List.getElem_map,List.getElem_range]
   obtain⟨_,vp,hcs,hon⟩:=hf4 i hi
   have hcell:=(World.cells?_some hcs).2.2
   refine⟨vp,fun j u hu=> ?_,hon⟩
   have hj:j<5:=by
    have :=(List.getElem?_eq_some_iff.1 hu).1
    simpa [stpC] using this
   have :=hcell j hj
   rw[add_add]at this
   rw[hu]at this
   simpa [Addr.add_lit,Nat.add_assoc] using this
set_option maxRecDepth 100000 in
theorem open_ex:∀n,OpE enc W n:=by
 intro n
 induction n using Nat.strongRecOn with
 |_ n ih=>
 intro cs d p h hw
 obtain⟨xs,k,hk,hx,hlen,hxl,hf⟩:=DataW.trod_struct Tryz.underlying28 h
 rw[cells_ex]at hlen
 match cs,hlen with
 |[c0,c1,c2,c3,c4,c5,c6],_=>
  match xs,hxl with
  |[y0,y1,y2,y3,y4,y5],_=>
   have h0:=hf 0 _ rfl
   have h1:=hf 1 _ rfl
   have h2:=hf 2 _ rfl
   have h3:=hf 3 _ rfl
   have h4:=hf 4 _ rfl
   have h5:=hf 5 _ rfl
   simp only[cells_dec,cells_str,cells_bool,cells_sts,cells_int,cells_exs,List.drop_zero,List.take_succ_cons,List.take_zero,List.getElem?_cons_zero,List.getElem?_cons_succ,List.drop_succ_cons,List.getElem_toArray,List.getElem_cons_zero,List.getElem_cons_succ]at h0 h1 h2 h3 h4 h5
   obtain⟨zs,k2,hk2,hz,_,hzl,hfz⟩:=DataW.trod_struct Tryz.underlying24 h2
   match zs,hzl with
   |[z0,z1],_=>
    have g0:=hfz 0 _ rfl
    have g1:=hfz 1 _ rfl
    simp only[cells_i64,cells_int,List.drop_zero,List.take_succ_cons,List.take_zero,List.getElem?_cons_zero,List.getElem?_cons_succ,List.drop_succ_cons,List.getElem_toArray,List.getElem_cons_zero,List.getElem_cons_succ]at g0 g1
    obtain⟨op,hop,_,wop⟩:=DataW.trod_int Tryz.underlying3 h0
    obtain⟨s,hs,ys,_⟩:=DataW.trod_string Tryz.underlying9 h1
    obtain⟨tg,htg,_,wtg⟩:=DataW.trod_int Tryz.underlying3 g0
    obtain⟨vl,hvl,_,wvl⟩:=DataW.trod_int Tryz.underlying2 g1
    obtain⟨ab,hab,_⟩:=DataW.trod_bool Tryz.underlying4 h3
    simp only[List.cons.injEq,and_true]at hop hs htg hvl hab
    simp only[Prod.mk.injEq]at hx
    obtain⟨rfl,_⟩:=hx
    have hwe:∀(j:Nat) (t:TypeId) (e:DataW H),([3,9,24,4,25,26]:List TypeId)[j]? =some t→([y0,y1,y2,y3,y4,y5].map (·.1))[j]? =some e→∀m∈e.weights Tryz.prog t,m≤reachBytes:=fun j t e ht he m hm=>by
     refine hw m ?_
     rw[DataW.weights]
     simp only[Tryz.underlying28]
     exact DataW.weights_mem_each ht he m hm
    have hs1:=str_reach (congrArg Prod.fst ys) (hwe 1 _ _ rfl rfl)
    obtain⟨ks,hks,hkl,hkw⟩:=open_exs (fun m hm=>ih m (by omega)) (d:=y4.1) (p:=y4.2) h4 (hwe 4 _ _ rfl rfl)
    obtain⟨ss,hss,hsl,hsw⟩:=open_sts (fun m hm=>ih m (by omega)) (d:=y5.1) (p:=y5.2) h5 (hwe 5 _ _ rfl rfl)
    exact⟨.mk op s.data.toList tg vl ab ks ss,c5,c6,by rw[hop,hs,htg,hvl,hab];rfl,ExOn.iff.2 ⟨hks,hss⟩,by rw[wfE];exact⟨⟨okI_of wop,okI_of wtg,okI_of wvl,hs1,hkl,hsl⟩,hkw,hsw⟩⟩
set_option maxRecDepth 100000 in
theorem open_exprT {r:Reach}{b0:Nat}{v:Value}{d:DataW H}{p:List MemPlace}(hv:Value.okWide Tryz.prog W r b0 28 v)(h:DataW.Trod enc Tryz.prog W 0 (fun _=>true) true 28 v d p)
 (hw:∀m∈d.weights Tryz.prog 28,m≤reachBytes):∃(t:Ex) (va vk:Value),v=exV t va vk∧ExOn W (fun b=>b<W.heap.size) t va vk∧wfE (2^47) t:=by
 obtain⟨cs,rfl,_⟩:=okWide_struct Tryz.underlying28 hv
 obtain⟨fuel,hf⟩:=h
 obtain⟨t,va,vk,hcs,h1,h2⟩:=open_ex fuel _ _ _ hf hw
 refine⟨t,va,vk,?_,h1,h2⟩
 obtain⟨l⟩:=cs
 have :l=exC t va vk:=hcs
 rw[this]
 rfl
theorem laid_out:laidOutB Tryz.prog=true:=by kernel_rfl
end
end Char
namespace Char
open Go.RowKit Go.Lib
def vN (c:Nat→Nat)(n0:Nat):Nat→Nat
 |0=>n0
 |j+1=>vN c n0 j*64+(c (j+1)-128)
set_option maxRecDepth 100000 in
theorem vN_le (c:Nat→Nat)(n0:Nat):∀j,(∀i,1≤i→i≤j→128≤c i∧c i≤191)→vN c n0 j+1≤(n0+1)*64^j
 |0,_=>by
  rw[Nat.pow_zero,Nat.mul_one]
  exact Nat.le_refl _
 |j+1,h=>by
  have ih:=vN_le c n0 j fun i h1 h2=>h i h1 (by omega)
  have hc:=h (j+1) (by omega) (Nat.le_refl _)
  rw[Nat.pow_succ,←Nat.mul_assoc]
  generalize (n0+1)*64^j=X at ih
  show vN c n0 j*64+(c (j+1)-128)+1≤X*64
  omega
theorem byt_at (s:ByteArray)(j:Nat)(h:j<s.size):(s[j]'h).toNat=byt s.data.toList j:=by
 unfold byt
 have e:s.data.toList.length=s.size:=by rw[Array.length_toList];rfl
 rw[List.getD,List.getElem?_eq_getElem (by omega)]
 rfl
theorem ret_two {k:IntKind}{a b c d:Int}(h:a=c)(h2:b=d):Ending.returned (.tuple #[.int k a,.int k b])=Ending.returned (.tuple #[.int k c,.int k d]):=by rw[h,h2]
set_option maxRecDepth 100000 in
set_option maxHeartbeats 1000000 in
theorem one_empty (s:ByteArray)(w:World)(h0:s.size=0):
 Calls Tryz.prog 123 #[.string s] w fun e w'=>e= .returned (.tuple #[.int .i64 (0:Int),.int .i64 (0:Int)])∧w=w':=by
 have h0b:((s.size:Int)==0)=true:=by simp[h0]
 clear h0
 go_enter Tryz.func123,Tryz.ntmps123
 go_wp2_with fail
 go_ret2
 exact⟨rfl,rfl⟩
set_option maxRecDepth 100000 in
set_option maxHeartbeats 1000000 in
theorem one_ascii (s:ByteArray)(w:World)(hs:s.size≤1048576)(h0:0<s.size)(hb:(s[0]'h0).toNat<128):
 Calls Tryz.prog 123 #[.string s] w fun e w'=>e= .returned (.tuple #[.int .i64 ((s[0]'h0).toNat:Int),.int .i64 (1:Int)])∧w=w':=by
 have h0b:((s.size:Int)==0)=false:=by rw[beq_eq_false_iff_ne];omega
 have h0z:(0:Int)<(s.size:Int):=by omega
 generalize hx:(s[0]'h0).toNat=a at hb
 go_enter Tryz.func123,Tryz.ntmps123
 go_wp2_with fail
 go_ret2
 exact⟨rfl,rfl⟩
set_option maxRecDepth 100000 in
set_option maxHeartbeats 1000000 in
theorem one_bad (s:ByteArray)(w:World)(hs:s.size≤1048576)(h0:0<s.size)(hb:(128≤(s[0]'h0).toNat∧(s[0]'h0).toNat<192)∨248≤(s[0]'h0).toNat):
 Calls Tryz.prog 123 #[.string s] w fun e w'=>e= .returned (.tuple #[.int .i64 (0:Int),.int .i64 (0:Int)])∧w=w':=by
 have h0b:((s.size:Int)==0)=false:=by rw[beq_eq_false_iff_ne];omega
 have h0z:(0:Int)<(s.size:Int):=by omega
 have hlt:=(s[0]'h0).toNat_lt
 generalize hx:(s[0]'h0).toNat=a at hb hlt
 rcases hb with⟨b1,b2⟩|b1
 all_goals
  go_enter Tryz.func123,Tryz.ntmps123
  go_wp2_with fail
  go_ret2
  exact⟨rfl,rfl⟩
set_option maxRecDepth 100000 in
set_option maxHeartbeats 1000000 in
theorem one_short2 (s:ByteArray)(w:World)(hs:s.size≤1048576)(h0:0<s.size)(hb:192≤(s[0]'h0).toNat∧(s[0]'h0).toNat<224)(hl:s.size<2):
 Calls Tryz.prog 123 #[.string s] w fun e w'=>e= .returned (.tuple #[.int .i64 (0:Int),.int .i64 (0:Int)])∧w=w':=by
 have h0b:((s.size:Int)==0)=false:=by rw[beq_eq_false_iff_ne];omega
 have h0z:(0:Int)<(s.size:Int):=by omega
 have hlz:(s.size:Int)<2:=by omega
 obtain⟨b1,b2⟩:=hb
 generalize hx:(s[0]'h0).toNat=a at b1 b2
 go_enter Tryz.func123,Tryz.ntmps123
 go_wp2_with fail
 go_ret2
 exact⟨rfl,rfl⟩
set_option maxRecDepth 100000 in
set_option maxHeartbeats 2000000 in
theorem one_lead2 (s:ByteArray)(w:World)(hs:s.size≤1048576)(h0:0<s.size)(hb:192≤(s[0]'h0).toNat∧(s[0]'h0).toNat<224)(hl:2≤s.size)(c:Nat→Nat)
 (hc:∀j (h:j<s.size),(s[j]'h).toNat=c j):
 Calls Tryz.prog 123 #[.string s] w fun e w'=>(∃R:Nat×Nat,R=oneN s.size (c 0) (c 1) (c 2) (c 3)∧e= .returned (.tuple #[.int .i64 (R.1:Int),.int .i64 (R.2:Int)]))∧w=w':=by
 have h0b:((s.size:Int)==0)=false:=by rw[beq_eq_false_iff_ne];omega
 have h0z:(0:Int)<(s.size:Int):=by omega
 have hlz:¬(s.size:Int)<2:=by omega
 obtain⟨b1,b2⟩:=hb
 have hx:=hc 0 h0
 rw[hx]at b1 b2
 obtain⟨R,hR⟩:∃R,R=oneN s.size (c 0) (c 1) (c 2) (c 3):=⟨_,rfl⟩
 have HR:=Lib.hid hR
 clear hR
 have HC:=Lib.hid hc
 clear hc
 obtain⟨a,ha⟩:∃a,c 0=a:=⟨_,rfl⟩
 rw[ha]at hx b1 b2
 have HA:=Lib.hid ha
 clear ha
 suffices hh:Calls Tryz.prog 123 #[.string s] w fun e w'=>e= .returned (.tuple #[.int .i64 (R.1:Int),.int .i64 (R.2:Int)])∧w=w' from
  hh.mono fun e w' ⟨he,hw⟩=>⟨⟨R,HR.out,he⟩,hw⟩
 go_enter Tryz.func123,Tryz.ntmps123
 go_wp2_with fail
 go_loop [6,8,9] (fun nv kv _=>∃j:Nat,j+1≤2∧kv= .int .i64 ((j+1:Nat):Int)∧nv= .int .i64 ((vN c (a-192) j:Nat):Int)∧Hid (∀i,1≤i→i≤j→128≤c i∧c i≤191)) (fun _ kv _=>2-(intOf kv).toNat)
 case atStart=>exact⟨0,by omega,rfl,by congr 1;unfold vN;omega,Lib.hid fun i h1 h2=>by omega⟩
 case round=>
  obtain⟨j,hj,rfl,rfl,HG⟩:=hrel
  have hv:=vN_le c (a-192) j HG.out
  have hv2:vN c (a-192) j≤2097151:=by
   have hj3:j=0∨j=1∨j=2∨j=3:=by omega
   rcases hj3 with rfl|rfl|rfl|rfl<;>simp at hv<;>omega
  clear hv
  by_cases hlt:j+1<2
  ·have hjs:j+1<s.size:=by omega
   have hb3:=HC.out (j+1) hjs
   have hstep:vN c (a-192) (j+1)=vN c (a-192) j*64+(c (j+1)-128):=rfl
   obtain⟨v1,hv1⟩:∃v1,vN c (a-192) (j+1)=v1:=⟨_,rfl⟩
   rw[hv1]at hstep
   have HV:=Lib.hid hv1
   clear hv1
   generalize vN c (a-192) j=v at hv2 hstep
   by_cases hg:128≤c (j+1)∧c (j+1)≤191
   ·have HG1:Hid (∀i,1≤i→i≤j+1→128≤c i∧c i≤191):=Lib.hid fun i h1 h2=>by
     by_cases h:i=j+1
     ·rw[h];exact hg
     ·exact HG.out i h1 (by omega)
    obtain⟨g1,g2⟩:=hg
    generalize c (j+1)=x at hb3 hstep g1 g2
    have HS:=Lib.hid hstep
    clear hstep
    go_wp2_with fail
    go_round
    case rel=>exact⟨j+1,by omega,by go_num,by congr 1;rw[HV.out,HS.out];omega,HG1⟩
    case measure=>simp[intOf];omega
   ·have hbad:R=(0,0):=by
     rw[HR.out,one_two _ _ _ _ _ (by rw[HA.out];exact⟨b1,b2⟩),if_neg]
     intro hh
     apply hg
     have hj3:j+1=1∨j+1=1:=by omega
     rcases hj3 with e|e<;>rw[e]<;>omega
    have HB:=Lib.hid hbad
    have hx3:=(s[j+1]'hjs).toNat_lt
    rw[hb3]at hx3
    rcases (by omega:c (j+1)<128∨191<c (j+1)) with g1|g1
    all_goals
     generalize c (j+1)=x at hb3 g1 hx3
     clear hstep hg hbad
     go_wp2_with fail
     go_ret2
     exact⟨ret_two (by rw[HB.out];rfl) (by rw[HB.out];rfl),rfl⟩
  ·obtain rfl:j=1:=by omega
   clear hv2
   generalize hv:vN c (a-192) 1=v
   have hval:(c 0-192)*64+(c 1-128)=v:=by
    rw[←hv,HA.out,show vN c (a-192) 1=(a-192)*64+(c 1-128) from rfl]
    all_goals omega
   have hR:R=if v<128 then (0,0) else (v,2):=by
    rw[HR.out,one_two _ _ _ _ _ (by rw[HA.out];exact⟨b1,b2⟩),if_pos ⟨by omega,HG.out 1 (by omega) (by omega)⟩,hval]
   have hvb:v≤2047:=by
    have g1:=HG.out 1 (by omega) (by omega)
    skip
    rw[←hval,HA.out]
    omega
   have HRR:=Lib.hid hR
   clear hR hv hval hlt
   by_cases hcond:v<128
   ·have hB:=HRR.out
    rw[if_pos hcond]at hB
    have HB:=Lib.hid hB
    clear hB HRR
    skip
    all_goals
     go_wp2_with fail
     all_goals
      go_ret2
      exact⟨ret_two (by rw[HB.out];rfl) (by rw[HB.out];rfl),rfl⟩
   ·have hB:=HRR.out
    rw[if_neg hcond]at hB
    have HB:=Lib.hid hB
    clear hB HRR
    skip
    all_goals
     go_wp2_with fail
     all_goals
      go_ret2
      exact⟨ret_two (by rw[HB.out]) (by rw[HB.out];rfl),rfl⟩
set_option maxRecDepth 100000 in
set_option maxHeartbeats 1000000 in
theorem one_short3 (s:ByteArray)(w:World)(hs:s.size≤1048576)(h0:0<s.size)(hb:224≤(s[0]'h0).toNat∧(s[0]'h0).toNat<240)(hl:s.size<3):
 Calls Tryz.prog 123 #[.string s] w fun e w'=>e= .returned (.tuple #[.int .i64 (0:Int),.int .i64 (0:Int)])∧w=w':=by
 have h0b:((s.size:Int)==0)=false:=by rw[beq_eq_false_iff_ne];omega
 have h0z:(0:Int)<(s.size:Int):=by omega
 have hlz:(s.size:Int)<3:=by omega
 obtain⟨b1,b2⟩:=hb
 generalize hx:(s[0]'h0).toNat=a at b1 b2
 go_enter Tryz.func123,Tryz.ntmps123
 go_wp2_with fail
 go_ret2
 exact⟨rfl,rfl⟩
set_option maxRecDepth 100000 in
set_option maxHeartbeats 2000000 in
theorem one_lead3 (s:ByteArray)(w:World)(hs:s.size≤1048576)(h0:0<s.size)(hb:224≤(s[0]'h0).toNat∧(s[0]'h0).toNat<240)(hl:3≤s.size)(c:Nat→Nat)
 (hc:∀j (h:j<s.size),(s[j]'h).toNat=c j):
 Calls Tryz.prog 123 #[.string s] w fun e w'=>(∃R:Nat×Nat,R=oneN s.size (c 0) (c 1) (c 2) (c 3)∧e= .returned (.tuple #[.int .i64 (R.1:Int),.int .i64 (R.2:Int)]))∧w=w':=by
 have h0b:((s.size:Int)==0)=false:=by rw[beq_eq_false_iff_ne];omega
 have h0z:(0:Int)<(s.size:Int):=by omega
 have hlz:¬(s.size:Int)<3:=by omega
 obtain⟨b1,b2⟩:=hb
 have hx:=hc 0 h0
 rw[hx]at b1 b2
 obtain⟨R,hR⟩:∃R,R=oneN s.size (c 0) (c 1) (c 2) (c 3):=⟨_,rfl⟩
 have HR:=Lib.hid hR
 clear hR
 have HC:=Lib.hid hc
 clear hc
 obtain⟨a,ha⟩:∃a,c 0=a:=⟨_,rfl⟩
 rw[ha]at hx b1 b2
 have HA:=Lib.hid ha
 clear ha
 suffices hh:Calls Tryz.prog 123 #[.string s] w fun e w'=>e= .returned (.tuple #[.int .i64 (R.1:Int),.int .i64 (R.2:Int)])∧w=w' from
  hh.mono fun e w' ⟨he,hw⟩=>⟨⟨R,HR.out,he⟩,hw⟩
 go_enter Tryz.func123,Tryz.ntmps123
 go_wp2_with fail
 go_loop [6,8,9] (fun nv kv _=>∃j:Nat,j+1≤3∧kv= .int .i64 ((j+1:Nat):Int)∧nv= .int .i64 ((vN c (a-224) j:Nat):Int)∧Hid (∀i,1≤i→i≤j→128≤c i∧c i≤191)) (fun _ kv _=>3-(intOf kv).toNat)
 case atStart=>exact⟨0,by omega,rfl,by congr 1;unfold vN;omega,Lib.hid fun i h1 h2=>by omega⟩
 case round=>
  obtain⟨j,hj,rfl,rfl,HG⟩:=hrel
  have hv:=vN_le c (a-224) j HG.out
  have hv2:vN c (a-224) j≤2097151:=by
   have hj3:j=0∨j=1∨j=2∨j=3:=by omega
   rcases hj3 with rfl|rfl|rfl|rfl<;>simp at hv<;>omega
  clear hv
  by_cases hlt:j+1<3
  ·have hjs:j+1<s.size:=by omega
   have hb3:=HC.out (j+1) hjs
   have hstep:vN c (a-224) (j+1)=vN c (a-224) j*64+(c (j+1)-128):=rfl
   obtain⟨v1,hv1⟩:∃v1,vN c (a-224) (j+1)=v1:=⟨_,rfl⟩
   rw[hv1]at hstep
   have HV:=Lib.hid hv1
   clear hv1
   generalize vN c (a-224) j=v at hv2 hstep
   by_cases hg:128≤c (j+1)∧c (j+1)≤191
   ·have HG1:Hid (∀i,1≤i→i≤j+1→128≤c i∧c i≤191):=Lib.hid fun i h1 h2=>by
     by_cases h:i=j+1
     ·rw[h];exact hg
     ·exact HG.out i h1 (by omega)
    obtain⟨g1,g2⟩:=hg
    generalize c (j+1)=x at hb3 hstep g1 g2
    have HS:=Lib.hid hstep
    clear hstep
    go_wp2_with fail
    go_round
    case rel=>exact⟨j+1,by omega,by go_num,by congr 1;rw[HV.out,HS.out];omega,HG1⟩
    case measure=>simp[intOf];omega
   ·have hbad:R=(0,0):=by
     rw[HR.out,one_three _ _ _ _ _ (by rw[HA.out];exact⟨b1,b2⟩),if_neg]
     intro hh
     apply hg
     have hj3:j+1=1∨j+1=2:=by omega
     rcases hj3 with e|e<;>rw[e]<;>omega
    have HB:=Lib.hid hbad
    have hx3:=(s[j+1]'hjs).toNat_lt
    rw[hb3]at hx3
    rcases (by omega:c (j+1)<128∨191<c (j+1)) with g1|g1
    all_goals
     generalize c (j+1)=x at hb3 g1 hx3
     clear hstep hg hbad
     go_wp2_with fail
     go_ret2
     exact⟨ret_two (by rw[HB.out];rfl) (by rw[HB.out];rfl),rfl⟩
  ·obtain rfl:j=2:=by omega
   clear hv2
   generalize hv:vN c (a-224) 2=v
   have hval:(c 0-224)*4096+(c 1-128)*64+(c 2-128)=v:=by
    rw[←hv,HA.out,show vN c (a-224) 2=((a-224)*64+(c 1-128))*64+(c 2-128) from rfl]
    all_goals omega
   have hR:R=if v<2048∨(55296≤v∧v≤57343) then (0,0) else (v,3):=by
    rw[HR.out,one_three _ _ _ _ _ (by rw[HA.out];exact⟨b1,b2⟩),if_pos ⟨by omega,HG.out 1 (by omega) (by omega),HG.out 2 (by omega) (by omega)⟩,hval]
   have hvb:v≤65535:=by
    have g1:=HG.out 1 (by omega) (by omega)
    have g2:=HG.out 2 (by omega) (by omega)
    rw[←hval,HA.out]
    omega
   have HRR:=Lib.hid hR
   clear hR hv hval hlt
   by_cases hcond:v<2048∨(55296≤v∧v≤57343)
   ·have hB:=HRR.out
    rw[if_pos hcond]at hB
    have HB:=Lib.hid hB
    clear hB HRR
    rcases hcond with q|⟨q1,q2⟩
    all_goals
     go_wp2_with fail
     all_goals
      go_ret2
      exact⟨ret_two (by rw[HB.out];rfl) (by rw[HB.out];rfl),rfl⟩
   ·have hB:=HRR.out
    rw[if_neg hcond]at hB
    have HB:=Lib.hid hB
    clear hB HRR
    rcases (by omega:(2048≤v∧v<55296)∨57343<v) with⟨q1,q2⟩|q
    all_goals
     go_wp2_with fail
     all_goals
      go_ret2
      exact⟨ret_two (by rw[HB.out]) (by rw[HB.out];rfl),rfl⟩
set_option maxRecDepth 100000 in
set_option maxHeartbeats 1000000 in
theorem one_short4 (s:ByteArray)(w:World)(hs:s.size≤1048576)(h0:0<s.size)(hb:240≤(s[0]'h0).toNat∧(s[0]'h0).toNat<248)(hl:s.size<4):
 Calls Tryz.prog 123 #[.string s] w fun e w'=>e= .returned (.tuple #[.int .i64 (0:Int),.int .i64 (0:Int)])∧w=w':=by
 have h0b:((s.size:Int)==0)=false:=by rw[beq_eq_false_iff_ne];omega
 have h0z:(0:Int)<(s.size:Int):=by omega
 have hlz:(s.size:Int)<4:=by omega
 obtain⟨b1,b2⟩:=hb
 generalize hx:(s[0]'h0).toNat=a at b1 b2
 go_enter Tryz.func123,Tryz.ntmps123
 go_wp2_with fail
 go_ret2
 exact⟨rfl,rfl⟩
set_option maxRecDepth 100000 in
set_option maxHeartbeats 2000000 in
theorem one_lead4 (s:ByteArray)(w:World)(hs:s.size≤1048576)(h0:0<s.size)(hb:240≤(s[0]'h0).toNat∧(s[0]'h0).toNat<248)(hl:4≤s.size)(c:Nat→Nat)
 (hc:∀j (h:j<s.size),(s[j]'h).toNat=c j):
 Calls Tryz.prog 123 #[.string s] w fun e w'=>(∃R:Nat×Nat,R=oneN s.size (c 0) (c 1) (c 2) (c 3)∧e= .returned (.tuple #[.int .i64 (R.1:Int),.int .i64 (R.2:Int)]))∧w=w':=by
 have h0b:((s.size:Int)==0)=false:=by rw[beq_eq_false_iff_ne];omega
 have h0z:(0:Int)<(s.size:Int):=by omega
 have hlz:¬(s.size:Int)<4:=by omega
 obtain⟨b1,b2⟩:=hb
 have hx:=hc 0 h0
 rw[hx]at b1 b2
 obtain⟨R,hR⟩:∃R,R=oneN s.size (c 0) (c 1) (c 2) (c 3):=⟨_,rfl⟩
 have HR:=Lib.hid hR
 clear hR
 have HC:=Lib.hid hc
 clear hc
 obtain⟨a,ha⟩:∃a,c 0=a:=⟨_,rfl⟩
 rw[ha]at hx b1 b2
 have HA:=Lib.hid ha
 clear ha
 suffices hh:Calls Tryz.prog 123 #[.string s] w fun e w'=>e= .returned (.tuple #[.int .i64 (R.1:Int),.int .i64 (R.2:Int)])∧w=w' from
  hh.mono fun e w' ⟨he,hw⟩=>⟨⟨R,HR.out,he⟩,hw⟩
 go_enter Tryz.func123,Tryz.ntmps123
 go_wp2_with fail
 go_loop [6,8,9] (fun nv kv _=>∃j:Nat,j+1≤4∧kv= .int .i64 ((j+1:Nat):Int)∧nv= .int .i64 ((vN c (a-240) j:Nat):Int)∧Hid (∀i,1≤i→i≤j→128≤c i∧c i≤191)) (fun _ kv _=>4-(intOf kv).toNat)
 case atStart=>exact⟨0,by omega,rfl,by congr 1;unfold vN;omega,Lib.hid fun i h1 h2=>by omega⟩
 case round=>
  obtain⟨j,hj,rfl,rfl,HG⟩:=hrel
  have hv:=vN_le c (a-240) j HG.out
  have hv2:vN c (a-240) j≤2097151:=by
   have hj3:j=0∨j=1∨j=2∨j=3:=by omega
   rcases hj3 with rfl|rfl|rfl|rfl<;>simp at hv<;>omega
  clear hv
  by_cases hlt:j+1<4
  ·have hjs:j+1<s.size:=by omega
   have hb3:=HC.out (j+1) hjs
   have hstep:vN c (a-240) (j+1)=vN c (a-240) j*64+(c (j+1)-128):=rfl
   obtain⟨v1,hv1⟩:∃v1,vN c (a-240) (j+1)=v1:=⟨_,rfl⟩
   rw[hv1]at hstep
   have HV:=Lib.hid hv1
   clear hv1
   generalize vN c (a-240) j=v at hv2 hstep
   by_cases hg:128≤c (j+1)∧c (j+1)≤191
   ·have HG1:Hid (∀i,1≤i→i≤j+1→128≤c i∧c i≤191):=Lib.hid fun i h1 h2=>by
     by_cases h:i=j+1
     ·rw[h];exact hg
     ·exact HG.out i h1 (by omega)
    obtain⟨g1,g2⟩:=hg
    generalize c (j+1)=x at hb3 hstep g1 g2
    have HS:=Lib.hid hstep
    clear hstep
    go_wp2_with fail
    go_round
    case rel=>exact⟨j+1,by omega,by go_num,by congr 1;rw[HV.out,HS.out];omega,HG1⟩
    case measure=>simp[intOf];omega
   ·have hbad:R=(0,0):=by
     rw[HR.out,one_four _ _ _ _ _ (by rw[HA.out];exact⟨b1,b2⟩),if_neg]
     intro hh
     apply hg
     have hj3:j+1=1∨j+1=2∨j+1=3:=by omega
     rcases hj3 with e|e|e<;>rw[e]<;>omega
    have HB:=Lib.hid hbad
    have hx3:=(s[j+1]'hjs).toNat_lt
    rw[hb3]at hx3
    rcases (by omega:c (j+1)<128∨191<c (j+1)) with g1|g1
    all_goals
     generalize c (j+1)=x at hb3 g1 hx3
     clear hstep hg hbad
     go_wp2_with fail
     go_ret2
     exact⟨ret_two (by rw[HB.out];rfl) (by rw[HB.out];rfl),rfl⟩
  ·obtain rfl:j=3:=by omega
   clear hv2
   generalize hv:vN c (a-240) 3=v
   have hval:(c 0-240)*262144+(c 1-128)*4096+(c 2-128)*64+(c 3-128)=v:=by
    rw[←hv,HA.out,show vN c (a-240) 3=(((a-240)*64+(c 1-128))*64+(c 2-128))*64+(c 3-128) from rfl]
    all_goals omega
   have hR:R=if v<65536∨1114111<v then (0,0) else (v,4):=by
    rw[HR.out,one_four _ _ _ _ _ (by rw[HA.out];exact⟨b1,b2⟩),if_pos ⟨by omega,HG.out 1 (by omega) (by omega),HG.out 2 (by omega) (by omega),HG.out 3 (by omega) (by omega)⟩,hval]
   have hvb:v≤2097151:=by
    have g1:=HG.out 1 (by omega) (by omega)
    have g2:=HG.out 2 (by omega) (by omega);have g3:=HG.out 3 (by omega) (by omega)
    rw[←hval,HA.out]
    omega
   have HRR:=Lib.hid hR
   clear hR hv hval hlt
   by_cases hcond:v<65536∨1114111<v
   ·have hB:=HRR.out
    rw[if_pos hcond]at hB
    have HB:=Lib.hid hB
    clear hB HRR
    rcases hcond with q|q
    all_goals
     go_wp2_with fail
     all_goals
      go_ret2
      exact⟨ret_two (by rw[HB.out];rfl) (by rw[HB.out];rfl),rfl⟩
   ·have hB:=HRR.out
    rw[if_neg hcond]at hB
    have HB:=Lib.hid hB
    clear hB HRR
    obtain⟨q1,q2⟩:65536≤v∧v≤1114111:=by omega
    all_goals
     go_wp2_with fail
     all_goals
      go_ret2
      exact⟨ret_two (by rw[HB.out]) (by rw[HB.out];rfl),rfl⟩
set_option maxRecDepth 100000 in
theorem one_any (s:ByteArray)(w:World)(hs:s.size≤1048576):
 Calls Tryz.prog 123 #[.string s] w fun e w'=>e= .returned (.tuple #[.int .i64 ((oneL s.data.toList).1:Int),.int .i64 ((oneL s.data.toList).2:Int)])∧w=w':=by
 have el:s.data.toList.length=s.size:=by rw[Array.length_toList];rfl
 by_cases h0:s.size=0
 ·have hn:s.data.toList=[]:=List.eq_nil_of_length_eq_zero (by omega)
  rw[hn]
  exact one_empty s w h0
 have h1:0<s.size:=by omega
 have hne:s.data.toList≠[]:=by intro h;rw[h]at el;simp at el;omega
 have hlt:=(s[0]'h1).toNat_lt
 have hc:∀j (h:j<s.size),(s[j]'h).toNat=byt s.data.toList j:=byt_at s
 have hc0:=hc 0 h1
 rw[oneL_N _ hne,el]
 by_cases c1:(s[0]'h1).toNat<128
 ·rw[one_low _ _ _ _ _ (by omega),←hc0]
  exact one_ascii s w hs h1 c1
 by_cases c2:(s[0]'h1).toNat<192∨248≤(s[0]'h1).toNat
 ·rw[one_none _ _ _ _ _ (by omega) (by omega) (by omega) (by omega)]
  exact one_bad s w hs h1 (by omega)
 by_cases c3:(s[0]'h1).toNat<224
 ·by_cases hl:s.size<2
  ·rw[one_two _ _ _ _ _ (by omega),if_neg (by omega)]
   exact one_short2 s w hs h1 (by omega) hl
  ·refine(one_lead2 s w hs h1 (by omega) (by omega) _ hc).mono ?_
   rintro e w' ⟨⟨R,rfl,rfl⟩,hw⟩
   exact⟨rfl,hw⟩
 by_cases c4:(s[0]'h1).toNat<240
 ·by_cases hl:s.size<3
  ·rw[one_three _ _ _ _ _ (by omega),if_neg (by omega)]
   exact one_short3 s w hs h1 (by omega) hl
  ·refine(one_lead3 s w hs h1 (by omega) (by omega) _ hc).mono ?_
   rintro e w' ⟨⟨R,rfl,rfl⟩,hw⟩
   exact⟨rfl,hw⟩
 by_cases hl:s.size<4
 ·rw[one_four _ _ _ _ _ (by omega),if_neg (by omega)]
  exact one_short4 s w hs h1 (by omega) hl
 ·refine(one_lead4 s w hs h1 (by omega) (by omega) _ hc).mono ?_
  rintro e w' ⟨⟨R,rfl,rfl⟩,hw⟩
  exact⟨rfl,hw⟩
end Char
namespace Char
open Go.RowKit Go.Lib
def runesN:Nat→List UInt8→List Int
 |0,_=>[]
 |n+1,l=>if l=[] then [] else ((decodeL l).1:Int)::runesN n (l.drop (decodeL l).2)
def runesL (l:List UInt8):List Int:=runesN l.length l
theorem runesN_nil:∀n,runesN n []=[]
 |0=>rfl
 |_+1=>by simp[runesN]
theorem runesN_fuel:∀(n m:Nat) (l:List UInt8),l.length≤n→l.length≤m→runesN n l=runesN m l
 |0,m,l,hn,_=>by
  obtain rfl:l=[]:=List.eq_nil_of_length_eq_zero (by omega)
  rw[runesN_nil,runesN_nil]
 |n+1,0,l,_,hm=>by
  obtain rfl:l=[]:=List.eq_nil_of_length_eq_zero (by omega)
  rw[runesN_nil,runesN_nil]
 |n+1,m+1,l,hn,hm=>by
  unfold runesN
  by_cases hne:l=[]
  ·simp[hne]
  ·have hw:=decodeL_width l
   have hl:0<l.length:=List.length_pos_iff.2 hne
   rw[if_neg hne,if_neg hne,runesN_fuel n m (l.drop (decodeL l).2) (by rw[List.length_drop];omega) (by rw[List.length_drop];omega)]
theorem runesL_nil:runesL []=[]:=rfl
theorem runesL_step (l:List UInt8)(hne:l≠[]):runesL l=((decodeL l).1:Int)::runesL (l.drop (decodeL l).2):=by
 have hl:0<l.length:=List.length_pos_iff.2 hne
 have hw:=decodeL_width l
 obtain⟨n,hn⟩:∃n,l.length=n+1:=⟨l.length-1,by omega⟩
 unfold runesL
 rw[hn]
 show(if l=[] then [] else _)=_
 rw[if_neg hne,runesN_fuel n (l.drop (decodeL l).2).length _ (by rw[List.length_drop];omega) (Nat.le_refl _)]
theorem allR_all (p:Int→Bool):∀(n:Nat) (l:List UInt8),l.length≤n→allR p l=(runesL l).all p
 |0,l,h=>by
  obtain rfl:l=[]:=List.eq_nil_of_length_eq_zero (by omega)
  rfl
 |n+1,l,h=>by
  by_cases hne:l=[]
  ·subst hne;rfl
  ·have hw:=decodeL_width l
   rw[allR_step p l hne,runesL_step l hne,List.all_cons,allR_all p n _ (by rw[List.length_drop];omega)]
theorem runesL_length:∀(n:Nat) (l:List UInt8),l.length≤n→(runesL l).length≤l.length
 |0,l,h=>by
  obtain rfl:l=[]:=List.eq_nil_of_length_eq_zero (by omega)
  exact Nat.le_refl _
 |n+1,l,h=>by
  by_cases hne:l=[]
  ·subst hne;exact Nat.le_refl _
  ·have hw:=decodeL_width l
   have hle:=decodeL_le l hne
   have ih:=runesL_length n (l.drop (decodeL l).2) (by rw[List.length_drop];omega)
   rw[runesL_step l hne,List.length_cons]
   rw[List.length_drop]at ih
   omega
theorem one_stop (l:List UInt8)(hne:l≠[])(h:(oneL l).2=0):validD l=false:=by
 unfold oneL at h
 rw[if_neg hne]at h
 have hw:=decodeL_width l
 by_cases hb:(decodeL l).1=65533∧(decodeL l).2=1
 ·rw[validD_step l hne,if_pos hb]
 ·rw[if_neg hb]at h;omega
theorem one_go (l:List UInt8)(hne:l≠[])(h:(oneL l).2≠0):
 validD l=validD (l.drop (oneL l).2)∧runesL l=((oneL l).1:Int)::runesL (l.drop (oneL l).2)∧1≤(oneL l).2∧(oneL l).2≤l.length∧(oneL l).1≤1114111:=by
 unfold oneL at h ⊢
 rw[if_neg hne]at h ⊢
 by_cases hb:(decodeL l).1=65533∧(decodeL l).2=1
 ·rw[if_pos hb]at h;simp at h
 ·rw[if_neg hb]
  exact⟨by rw[validD_step l hne,if_neg hb],runesL_step l hne,decodeL_width l,decodeL_le l hne,decodeL_rune l⟩
theorem info_int:(Tryz.prog.info? 3).map (fun i=>(i.zero,i.size,i.bytes))=some (some (.int .i64 0),1,8):=by kernel_rfl
def CharsPost (w:World)(V:Bool)(l:List Int)(e:Ending)(w':World):Prop:=
 ∃v,e= .returned (.tuple #[v,.bool V])∧w'.ownsRow w.heap.size 3 1 v l.length (l.map (Value.int .i64))∧Below w.heap.size w w'
def chsL (l:List UInt8):List Int:=if validD l then runesL l else []
set_option maxRecDepth 100000 in
set_option maxHeartbeats 2000000 in
theorem chars_any (s:ByteArray)(w:World)(hs:s.size≤1048576):
 Calls Tryz.prog 74 #[.string s] w (CharsPost w (validD s.data.toList) (chsL s.data.toList)):=by
 obtain⟨i0,hi,hz0,hz1,hz2⟩:=info_parts info_int
 have el:s.data.toList.length=s.size:=by rw[Array.length_toList];rfl
 obtain⟨V,hV⟩:∃V,validD s.data.toList=V:=⟨_,rfl⟩
 obtain⟨X,hX⟩:∃X,chsL s.data.toList=X:=⟨_,rfl⟩
 rw[hX,hV]
 unfold chsL at hX
 rw[hV]at hX
 have HX:=Lib.hid hX
 clear hX
 have HV:=Lib.hid hV
 have EL:=Lib.hid el
 clear hV el
 go_enter Tryz.func74,Tryz.ntmps74
 go_wp2_with fail
 go_loopw [4,5] (fun v i wr=>∃(pos:Nat) (acc:List Int),pos≤s.size∧i= .int .i64 (pos:Int)∧acc.length≤pos∧wr.ownsRow w.heap.size 3 1 v acc.length (acc.map (Value.int .i64))∧
  Below w.heap.size w wr∧Hid (V=validD (s.data.toList.drop pos))∧Hid (acc++runesL (s.data.toList.drop pos)=runesL s.data.toList)) (fun _ i _=>s.size-(intOf i).toNat)
 case atStart=>exact⟨0,[],Nat.zero_le _,rfl,Nat.zero_le _,World.ownsRow_nil _ _ _ _,Below.refl _ _,Lib.hid HV.out.symm,Lib.hid rfl⟩
 case round=>
  obtain⟨pos,acc,hp,rfl,hal,hown,hbw,HVp,HRp⟩:=hrel
  by_cases hlt:pos<s.size
  ·have hco:Calls Tryz.prog 123 #[.string (s.extract pos s.size)] wr _:=one_any (s.extract pos s.size) wr (by rw[Lib.ext_size];omega)
   rw[Lib.ext_list]at hco
   have hne:=drop_ne s pos hlt
   have hst:=one_stop _ hne
   have hgo:=one_go _ hne
   have hdl:(s.data.toList.drop pos).length=s.size-pos:=by rw[List.length_drop,EL.out]
   generalize (oneL (s.data.toList.drop pos)).1=N at hco hgo
   generalize (oneL (s.data.toList.drop pos)).2=M at hco hst hgo
   have HCO:=Lib.hid hco
   have HST:=Lib.hid hst
   have HGO:=Lib.hid hgo
   have HDL:=Lib.hid hdl
   clear hco hne hst hgo hdl
   go_wp2_with fail
   refine HCO.out.mono ?_
   rintro e w1 ⟨rfl,rfl⟩
   by_cases hm:M=0
   ·have hmb:((M:Int)==0)=true:=by simp[hm]
    have hf:=HST.out hm
    rw[←HVp.out]at hf
    have HF:=Lib.hid hf
    clear hf hm HCO HST HGO
    go_wp2_with fail
    go_ret2
    have hx:=HX.out
    rw[HF.out,if_neg (by simp)]at hx
    rw[←hx,HF.out]
    exact⟨_,rfl,World.ownsRow_nil _ _ _ _,hbw⟩
   ·have hmb:((M:Int)==0)=false:=by rw[beq_eq_false_iff_ne];omega
    obtain⟨g1,g2,g3,g4,g5⟩:=HGO.out hm
    rw[HDL.out]at g4
    rw[List.drop_drop]at g1 g2
    have HV2:Hid (V=validD (s.data.toList.drop (pos+M))):=Lib.hid (HVp.out.trans g1)
    have HR2:Hid ((acc++[(N:Int)])++runesL (s.data.toList.drop (pos+M))=runesL s.data.toList):=Lib.hid (by rw[←HRp.out,g2,List.append_assoc];rfl)
    have hwb:=hbw.size
    clear g1 g2 hm HCO HST HGO HVp HRp
    go_wp2_with (at_builtin;refine wpList_append_own _ rfl _ _ 104 rfl w.heap.size 3 i0 (.int .i64 0) 1 8 Tryz.underlying104 hi hz0 hz1 hz2 rfl (by decide) _ _ _ rfl (hown.alloc _) ⟨wr.heap.size,0,none⟩ 1 1 [.int .i64 (N:Int)] rfl rfl ?c1 ?c2 ?c3 ?c4 ?c5 ?_)
    case c1=>
     intro j u hj
     match j,hj with
     |0,hj=>simp at hj;subst hj;simp[Addr.add]
    case c2=>intro u hu;simp at hu;subst hu;rfl
    case c3=>unfold maxLen;omega
    case c4=>omega
    case c5=>simp;omega
    intro v' w1 hown' hgrow _
    have hb1:Below w.heap.size w w1:=(hbw.alloc hwb _).grown hgrow (by simp;omega) (fun k hk=>by
     rcases hown.2 with⟨rfl,_⟩|⟨g,cap,cur,rfl,hg,_⟩
     ·simp[Value.ownBlock]at hk
     ·simp[Value.ownBlock]at hk;omega)
    have hown2:w1.ownsRow w.heap.size 3 1 v' (acc++[(N:Int)]).length ((acc++[(N:Int)]).map (Value.int .i64)):=by
     rw[List.length_append,List.map_append]
     exact hown'
    clear hown' hgrow hown
    go_wp2_with fail
    go_roundw
    case rel=>exact⟨pos+M,acc++[(N:Int)],by omega,by go_num,by rw[List.length_append];simp;omega,hown2,hb1,HV2,HR2⟩
    case measure=>simp[intOf];omega
  ·have hnil:=drop_end s pos hlt
   have hv:=HVp.out
   have hr:=HRp.out
   rw[hnil]at hv hr
   have HV1:=Lib.hid hv
   have HR1:=Lib.hid hr
   clear hnil hv hr HVp HRp
   go_wp2_with fail
   go_ret2
   have hv:V=true:=HV1.out
   have hr:acc=runesL s.data.toList:=by have :=HR1.out;rw[runesL_nil,List.append_nil]at this;exact this
   have hx:=HX.out
   rw[hv,if_pos rfl,←hr]at hx
   rw[←hx,hv]
   exact⟨_,rfl,hown,hbw⟩
end Char
namespace Char
open Go.RowKit
set_option maxHeartbeats 400000 in
theorem in_any (b off len cap:Nat)(n:Int)(zs:List Int)(w:World)(hz:len=zs.length)(hbig:len≤1000)
 (hc:∀j,j<zs.length→w.cell? ⟨b,off+j,none⟩=some (.int .i64 (zs.getD j 0))):
 Calls Tryz.prog 124 #[.int .i64 n,.slice (some ⟨b,off,none⟩) len cap] w fun e w'=>e= .returned (.bool (inP zs n))∧w=w':=by
 have HZ:=Lib.hid hz
 clear hz
 obtain⟨R,hR⟩:∃R,R=inP zs n:=⟨_,rfl⟩
 rw[←hR]
 have HR:=Lib.hid hR
 clear hR
 go_enter Tryz.func124,Tryz.ntmps124
 go_wp2
 go_loop [5] (fun i=>∃k:Nat,2*k≤len∧i= .int .i64 ((2*k:Nat):Int)∧R=inP (zs.drop (2*k)) n) (fun i=>len-(intOf i).toNat)
 case atStart=>exact⟨0,Nat.zero_le _,rfl,by simpa using HR.out⟩
 case round=>
  obtain⟨k,hk,rfl,hr⟩:=hrel
  by_cases hlt:2*k+1<len
  ·have hs:=inP_step zs n (2*k) (by rw[←HZ.out];omega)
   have hc0:=hc (2*k) (by rw[←HZ.out];omega)
   have hc1:=hc (2*k+1) (by rw[←HZ.out];omega)
   generalize zs.getD (2*k) 0=lo at hc0 hs
   generalize zs.getD (2*k+1) 0=hi at hc1 hs
   rw[←hr]at hs
   have HS:=Lib.hid hs
   clear hc hs hr
   go_wp2
   ·have h1:lo≤n:=by assumption
    have h2:n≤hi:=by assumption
    go_ret
    exact⟨by rw[HS.out];simp[h1,h2],rfl⟩
   all_goals
    have hx:(decide (lo≤n)&&decide (n≤hi))=false:=by
     rw[Bool.and_eq_false_iff,decide_eq_false_iff_not,decide_eq_false_iff_not]
     omega
    rw[hx,Bool.false_or]at HS
    go_round
    case rel=>exact⟨k+1,by omega,by go_num,HS.out⟩
    case measure=>simp[intOf];omega
  ·have hf:=inP_end zs n (2*k) (by rw[←HZ.out];exact hlt)
   rw[←hr]at hf
   have HF:=Lib.hid hf
   clear hf hr
   go_wp2
   go_ret
   exact⟨by rw[HF.out];rfl,rfl⟩
theorem in_new (zs:List Int)(len cap:Nat)(C:Array Value)(n:Int)(w:World)(T:TypeId)(hC:C=(zs.map (Value.int .i64)).toArray)(hz:len=zs.length)(hbig:len≤1000):
 Calls Tryz.prog 124 #[.int .i64 n,.slice (some ⟨w.heap.size,0,none⟩) len cap] (w.alloc (.cells C T)) fun e w'=>e= .returned (.bool (inP zs n))∧w.alloc (.cells C T)=w':=by
 refine in_any _ 0 len cap n zs _ hz hbig ?_
 intro j hj
 rw[Nat.zero_add,World.cell?_alloc_new,hC]
 simp[List.getD,List.getElem?_eq_getElem hj]
set_option maxHeartbeats 400000 in
theorem refIs_any (n:Int)(w:World):
 Calls Tryz.prog 81 #[.int .i64 n] w fun e w'=>e= .returned (.bool (isC n))∧Below w.heap.size w w':=by
 go_enter Tryz.func81,Tryz.ntmps81
 go_wp2_with fail
 refine(in_new isL 12 12 _ n w _ rfl rfl (by decide)).mono ?_
 rintro e w' ⟨rfl,rfl⟩
 go_wp2_with fail
 go_ret
 exact⟨rfl,(Below.refl _ _).alloc (Nat.le_refl _) _⟩
end Char
namespace Char
open Go.RowKit Go.Lib
def Reads (w:World)(v:Value)(zs:List Int):Prop:=
 (zs=[]∧v= .slice none 0 0)∨∃g cap,v= .slice (some ⟨g,0,none⟩) zs.length cap∧g<w.heap.size∧∀j,j<zs.length→w.cell? ⟨g,j,none⟩=some (.int .i64 (zs.getD j 0))
theorem Reads.of {w:World}{B T:Nat}{v:Value}{zs:List Int}(h:w.ownsRow B T 1 v zs.length (zs.map (Value.int .i64))):Reads w v zs:=by
 have hc:=h
 rcases h.2 with⟨rfl,hn⟩|⟨g,cap,cur,rfl,hg,hcur,_⟩
 ·exact .inl ⟨List.eq_nil_of_length_eq_zero hn,rfl⟩
 ·refine .inr ⟨g,cap,rfl,(Array.getElem?_eq_some_iff.1 hcur).1,fun j hj=> ?_⟩
  have :=hc.cells (g:=g) rfl j (.int .i64 (zs.getD j 0)) (by simp[List.getD,List.getElem?_eq_getElem hj])
  have hadd:(⟨g,0,none⟩:Addr).add j=⟨g,j,none⟩:=by unfold Addr.add;split<;>simp_all
  rwa [hadd]at this
theorem all_step (p:Int→Bool)(zs:List Int)(k:Nat)(h:k<zs.length):(zs.drop k).all p=(p (zs.getD k 0)&&(zs.drop (k+1)).all p):=by
 rw[List.drop_eq_getElem_cons h,List.all_cons]
 simp[List.getD,List.getElem?_eq_getElem h]
theorem all_end (p:Int→Bool)(zs:List Int)(k:Nat)(h:¬k<zs.length):(zs.drop k).all p=true:=by
 rw[List.drop_eq_nil_of_le (by omega)]
 rfl
def rtD (l:List UInt8):Bool:=validD l&&(chsL l).all isC
theorem rtD_eq (l:List UInt8):rtD l=txD l:=by
 unfold rtD txD chsL
 cases validD l
 ·rfl
 ·rw[if_pos rfl,allR_all isC _ _ (Nat.le_refl _)]
set_option maxRecDepth 100000 in
set_option maxHeartbeats 2000000 in
theorem refText_any (s:ByteArray)(w:World)(hs:s.size≤1048576):
 Calls Tryz.prog 50 #[.string s] w fun e w'=>e= .returned (.bool (txD s.data.toList))∧Below w.heap.size w w':=by
 rw[←rtD_eq]
 have hC:=chars_any s w hs
 have hzl:(chsL s.data.toList).length≤1048576:=by
  have el:s.data.toList.length=s.size:=by rw[Array.length_toList];rfl
  unfold chsL
  split
  ·have :=runesL_length _ s.data.toList (Nat.le_refl _);omega
  ·simp
 obtain⟨R,hR⟩:∃R,rtD s.data.toList=R:=⟨_,rfl⟩
 rw[hR]
 unfold rtD at hR
 generalize validD s.data.toList=V at hC hR
 generalize chsL s.data.toList=zs at hC hR hzl
 have HC:=Lib.hid hC
 have HR:=Lib.hid hR
 clear hC hR
 go_enter Tryz.func50,Tryz.ntmps50
 go_wp2_with fail
 refine HC.out.mono ?_
 rintro e w1 ⟨v,rfl,hown,hb1⟩
 clear HC
 rcases Reads.of hown with⟨hz,rfl⟩|⟨g,cap,rfl,hg,hcells⟩
 ·clear hown
  obtain rfl:=hz
  have HR1:Hid (V=R):=Lib.hid (by rw[←HR.out];simp)
  clear HR
  go_wp2_with fail
  go_loopw [4,5] (fun b k wr=>b= .bool V∧k= .int .i64 0∧wr=w1) (fun _ _ _=>0)
  case atStart=>exact⟨rfl,rfl,rfl⟩
  case round=>
   obtain⟨rfl,rfl,rfl⟩:=hrel
   go_wp2_with fail
   go_ret
   exact⟨by rw[←HR1.out];rfl,hb1⟩
 ·clear hown
  have HG:=Lib.hid hcells
  clear hcells
  go_wp2_with fail
  go_loopw [4,5] (fun b i wr=>∃(k:Nat) (B:Bool),k≤zs.length∧b= .bool B∧i= .int .i64 (k:Int)∧Below w1.heap.size w1 wr∧Hid ((B&&(zs.drop k).all isC)=R)) (fun _ i _=>zs.length-(RowKit.intOf i).toNat)
  case atStart=>exact⟨0,V,Nat.zero_le _,rfl,rfl,Below.refl _ _,Lib.hid (by simpa using HR.out)⟩
  case round=>
   obtain⟨k,B,hk,rfl,rfl,hbw,HB⟩:=hrel
   by_cases hlt:k<zs.length
   ·have hcell:wr.cell? ⟨g,k,none⟩=some (.int .i64 (zs.getD k 0)):=(hbw.cell (p:=⟨g,k,none⟩) hg).trans (HG.out k hlt)
    have hst:=HB.out
    rw[all_step isC zs k hlt]at hst
    generalize zs.getD k 0=x at hcell hst
    have HS:=Lib.hid hst
    clear hst HB
    cases B
    ·go_wp2_with fail
     go_roundw
     case rel=>exact⟨k+1,false,by omega,rfl,by go_num,hbw,Lib.hid (by rw[←HS.out];rfl)⟩
     case measure=>simp[RowKit.intOf];omega
    ·go_wp2_with fail
     refine(refIs_any x wr).mono ?_
     rintro e w2 ⟨rfl,hb2⟩
     generalize isC x=c at HS
     have hbw2:=hbw.trans (hb2.mono hbw.size)
     go_wp2_with fail
     go_roundw
     case rel=>exact⟨k+1,c,by omega,rfl,by go_num,hbw2,Lib.hid (by rw[←HS.out];rfl)⟩
     case measure=>simp[RowKit.intOf];omega
   ·have hst:=HB.out
    rw[all_end isC zs k hlt,Bool.and_true]at hst
    have HS:=Lib.hid hst
    clear hst HB
    go_wp2_with fail
    go_ret
    exact⟨by rw[←HS.out];rfl,hb1.trans (hbw.mono hb1.size)⟩
end Char
namespace Char
open Go.RowKit
set_option maxHeartbeats 400000 in
theorem refStart_any (n:Int)(w:World):
 Calls Tryz.prog 75 #[.int .i64 n] w fun e w'=>e= .returned (.bool (stC n))∧Below w.heap.size w w':=by
 go_enter Tryz.func75,Tryz.ntmps75
 go_wp2_with fail
 refine(in_new stL 30 30 _ n w _ rfl rfl (by decide)).mono ?_
 rintro e w' ⟨rfl,rfl⟩
 go_wp2_with fail
 go_ret
 exact⟨rfl,(Below.refl _ _).alloc (Nat.le_refl _) _⟩
set_option maxHeartbeats 400000 in
theorem refPart_any (n:Int)(w:World):
 Calls Tryz.prog 76 #[.int .i64 n] w fun e w'=>e= .returned (.bool (paC n))∧Below w.heap.size w w':=by
 unfold paC
 generalize hs:stC n=s
 have HS:=Lib.hid hs
 clear hs
 go_enter Tryz.func76,Tryz.ntmps76
 go_wp2_with fail
 refine(refStart_any n w).mono ?_
 rintro e w1 ⟨rfl,hb1⟩
 rw[HS.out]
 cases s
 ·go_wp2_with fail
  refine(in_new paL 10 10 _ n w1 _ rfl rfl (by decide)).mono ?_
  rintro e w' ⟨rfl,rfl⟩
  go_wp2_with fail
  go_ret
  exact⟨rfl,hb1.alloc hb1.size _⟩
 ·go_wp2_with fail
  go_ret
  exact⟨rfl,hb1⟩
end Char
end Go.Proofs.YtlmpkpjjakallaaGreatDoor
