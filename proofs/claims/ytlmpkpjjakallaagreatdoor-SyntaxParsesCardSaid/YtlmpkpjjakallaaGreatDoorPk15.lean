import Derived.Test.YtlmpkpjjakallaaGreatDoorPk14
import Derived.Deep.LoopGhost
namespace Go.Proofs.YtlmpkpjjakallaaGreatDoor
namespace Char
open Go.RowKit Go.Lib
open Go.Proofs.YtlmpkpjjakallaaGreatDoor.Fig (outT outV)
def LL (m:Nat):List (List (List UInt8)):=(List.range m).map fun r=>namesO (sgs r)
theorem LL_succ (m:Nat):∀o,o∈namesO (sgs m)::LL m↔o∈LL (m+1):=by
 intro o
 unfold LL
 rw[List.range_succ,List.map_append,List.mem_append,List.mem_cons,List.map_singleton,List.mem_singleton]
 exact Or.comm
theorem sgs_plain:∀r,r<6→[47]∉namesO (sgs r)∧[47,47]∉namesO (sgs r)∧[124]∉namesO (sgs r)
 |0,_=>by decide
 |1,_=>by decide
 |2,_=>by decide
 |3,_=>by decide
 |4,_=>by decide
 |5,_=>by decide
 |r+6,h=>by omega
theorem sgs_apart:∀a b:Fin 6,a≠b→∀n∈namesO (sgs a.val),n∉namesO (sgs b.val):=by decide+kernel
theorem LL_apart {m:Nat}(hm:m<6):∀o∈LL m,∀n∈namesO (sgs m),n∉o:=by
 intro o ho n hn
 unfold LL at ho
 obtain⟨r,hr,rfl⟩:=List.mem_map.1 ho
 rw[List.mem_range]at hr
 exact sgs_apart ⟨m,hm⟩ ⟨r,by omega⟩ (fun e=>by have :=congrArg Fin.val e;simp at this;omega) n hn
theorem op_path {x:Wd}{r:List Wd}(hk:x.k=5)(h1:x.s≠[47])(h2:x.s≠[47,47]):NoPath (x::r):=by
 have hn:x.k≠1:=by omega
 have ha:∀k:Int,k≠5→atL k (x::r)=false:=fun k hk5=>by
  rw[atL_cons,hk,beq_eq_false_iff_ne]
  exact fun e=>hk5 e.symm
 refine⟨⟨by rw[ahead_mk,mk_kind hn],by rw[ahead_op,opMk_no (.inr h1)],by rw[ahead_op,opMk_no (.inr h2)]⟩,?_⟩
 unfold stpL
 rw[ha 2 (by decide),ha 3 (by decide),ha 4 (by decide),ha 7 (by decide),ahead_mk,ahead_mk,ahead_mk,mk_kind hn,mk_kind hn,mk_kind hn]
 rfl
theorem op_rank {x:Wd}{r:List Wd}(hk:x.k=5)(h1:x.s≠[47])(h2:x.s≠[47,47])(h3:x.s≠[124]):∀n,n≤5→(∀q,5-n≤q→q<6→x.s∉namesO (sgs q))→NoRank n (x::r)
 |0,_,h=>⟨⟨op_path hk h1 h2,opL_out (by show x.s∉[[124]];simpa using h3)⟩,opL_out (h 5 (by omega) (by omega))⟩
 |n+1,hn,h=>⟨op_rank hk h1 h2 h3 n (by omega) (fun q hq hq6=>h q (by omega) hq6),opL_out (h (4-n) (by omega) (by omega))⟩
def signD (O:List Wd→Option Ex):Nat→List Wd→Option Ex
 |0,_=>none
 |f+1,l=>if aheadL 5 [45] l then (match signD O f l.tail with
  |none=>none
  |some x=>some (.mk 15 [] 0 0 false [x] [])) else cutD (pathD O) barS (l.length+1) l
def rankD (O:List Wd→Option Ex):Nat→List Wd→Option Ex
 |0=>fun l=>cutD (fun t=>signD O (t.length+1) t) (sgs 5) (l.length+1) l
 |n+1=>fun l=>cutD (rankD O n) (sgs (4-n)) (l.length+1) l
def orD:Nat→List Wd→Option Ex
 |0=>fun _=>none
 |d+1=>rankD (orD d) 5
section
variable {E:PE} {O:List Wd→Option Ex} {N:Nat}
theorem path_LS (H:RelE E O N):LocS (pathL E) (namesO barS::LL 6) N:=by
 intro ts x r hl h
 obtain⟨u,e1,n1,p1,q1,k1⟩:=path_loc H hl h
 refine⟨u,e1,⟨n1,p1.bal,p1.com,q1,fun o ho=>p1.ops o ?_ ?_ false⟩,k1⟩
 ·rcases List.mem_cons.1 ho with rfl|ho
  ·decide
  ·unfold LL at ho
   obtain⟨r,hr,rfl⟩:=List.mem_map.1 ho
   exact(sgs_plain r (List.mem_range.1 hr)).1
 ·rcases List.mem_cons.1 ho with rfl|ho
  ·decide
  ·unfold LL at ho
   obtain⟨r,hr,rfl⟩:=List.mem_map.1 ho
   exact(sgs_plain r (List.mem_range.1 hr)).2.1
theorem path_ES (H:RelE E O N):ExtS (pathL E) barS:=by
 rintro u x T hu ⟨y,r,rfl,hk,hn⟩
 have hs:y.s=[124]:=by simpa [barS,namesO] using hn
 have :=path_x H.M (H.X (y::r)) hu (.inr (op_path hk (by rw[hs];decide) (by rw[hs];decide)))
 rwa [List.nil_append]at this
theorem path_WS (H:RelE E O N):WhlS (pathL E) (pathD O) N:=fun u x hu=>by rw[path_eq H u hu,whl_iff]
theorem bar_apart:∀o∈LL 6,∀n∈namesO barS,n∉o:=by decide+kernel
theorem sign_LS (H:RelE E O N):∀(f:Nat) (ts:List Wd) (x:Ex) (r:List Wd),ts.length≤N→signL E f ts=some (x,r)→∃u,ts=u++r∧Gd (LL 6) u∧∀f',u.length<f'→signL E f' u=some (x,[])
 |0,_,_,_,_,h=>by rw[signL]at h;cases h
 |f+1,ts,x,r,hl,h=>by
  rw[signL]at h
  split at h
  ·rename_i ha
   obtain⟨a,t,rfl,hm⟩:=ahead5_inv ha
   rw[List.tail_cons]at h
   rw[List.length_cons]at hl
   cases hs:signL E f t with
   |none=>rw[hs]at h;cases h
   |some q=>
    obtain⟨z,r1⟩:=q
    rw[hs]at h
    cases h
    obtain⟨u,e1,g1,k1⟩:=sign_LS H f t z r (by omega) hs
    obtain⟨hk,hs5⟩:=opMk_iff.1 hm
    refine⟨a::u,by rw[e1];rfl,⟨by simp,by rw[scan_op hk,g1.bal],by rw[noC_op hk,g1.com],by rw[pendL,pendL_ne g1.ne _ false,g1.pe],fun o ho=> ?_⟩,fun f' hf=> ?_⟩
    ·unfold noOp
     rw[lastG,dpt_op hk,if_neg (fun c=>by cases c.2.2.1),bar_op hk (by rw[hs5];decide)]
     exact(g1.ops o ho).acc _ _
    ·obtain⟨f'',rfl⟩:∃k,f'=k+1:=⟨f'-1,by omega⟩
     rw[signL,ahead_op,if_pos hm,List.tail_cons,k1 f'' (by simp only[List.length_cons]at hf;omega)]
  ·rename_i ha
   have hMp:MsE (pathL E):=fun _ _ _ h=>path_m H.M h
   obtain⟨u,e1,g1,k1⟩:=joined_loc hMp (path_LS H) (path_ES H) bar_apart (by decide) ts x r hl h
   refine⟨u,e1,g1,fun f' hf=> ?_⟩
   obtain⟨f'',rfl⟩:∃k,f'=k+1:=⟨f'-1,by omega⟩
   rw[e1,ahead_app r g1.ne]at ha
   rw[signL,if_neg ha,k1]
theorem sign_WS (H:RelE E O N):∀f,WhlS (signL E f) (signD O f) N
 |0=>fun u x _=>by rw[signL,signD];simp
 |f+1=>fun u x hu=>by
  rw[signL,signD]
  split
  ·rename_i ha
   have ht:=tail_len (ahead_ne ha)
   have ih:=fun x=>sign_WS H f u.tail x (by omega)
   cases hs:signL E f u.tail with
   |none=>
    cases hd:signD O f u.tail with
    |none=>simp
    |some z=>rw[(ih z).2 hd]at hs;cases hs
   |some q=>
    obtain⟨z,r⟩:=q
    dsimp only
    cases r with
    |nil=>
     rw[(ih z).1 hs]
     simp
    |cons b r=>
     cases hd:signD O f u.tail with
     |none=>simp
     |some z'=>rw[(ih z').2 hd]at hs;cases hs
  ·have hMp:MsE (pathL E):=fun _ _ _ h=>path_m H.M h
   exact joined_W hMp (path_LS H) (path_ES H) (path_WS H) (by decide) u x hu
def signF (E:PE):PE:=fun ts=>signL E (ts.length+1) ts
theorem signF_M (H:RelE E O N):MsE (signF E):=fun ts=>sign_m H.M _ ts
theorem signF_L (H:RelE E O N):LocS (signF E) (namesO (sgs 5)::LL 5) N:=by
 intro ts x r hl h
 obtain⟨u,e1,g1,k1⟩:=sign_LS H _ ts x r hl h
 exact⟨u,e1,g1.low fun o ho=>(LL_succ 5 o).1 ho,k1 _ (by omega)⟩
theorem signF_E (H:RelE E O N):ExtS (signF E) (sgs 5):=by
 rintro u x T hu ⟨y,r,rfl,hk,hn⟩
 have h1:∀m:List UInt8,m∉namesO (sgs 5)→y.s≠m:=fun m hm e=>hm (by rw[←e];exact hn)
 obtain⟨a1,a2,a3⟩:=sgs_plain 5 (by omega)
 have :=sign_x H.M (H.X (y::r)) _ ((u++y::r).length+1) u x [] hu (by rw[List.length_append];omega) (.inr ⟨op_path hk (h1 _ a1) (h1 _ a2),opL_out (by show y.s∉[[124]];simpa using h1 _ a3)⟩)
 rwa [List.nil_append]at this
theorem signF_W (H:RelE E O N):WhlS (signF E) (fun t=>signD O (t.length+1) t) N:=fun u x hu=>sign_WS H _ u x hu
theorem rank_LEW (H:RelE E O N):∀n,n≤5→LocS (rankL E n) (LL (5-n)) N∧WhlS (rankL E n) (rankD O n) N
 |0,_=>by
  have hp:=sgs_plain 5 (by omega)
  rw[show rankL E 0=joinedL (signF E) (sgs 5) by rw[rankL];rfl]
  exact⟨joined_loc (signF_M H) (signF_L H) (signF_E H) (LL_apart (by omega)) hp.1,by rw[rankD];exact joined_W (signF_M H) (signF_L H) (signF_E H) (signF_W H) hp.1⟩
 |n+1,hn=>by
  obtain⟨h1,h2⟩:=rank_LEW H n (by omega)
  have hp:=sgs_plain (4-n) (by omega)
  have hL:LocS (rankL E n) (namesO (sgs (4-n))::LL (4-n)) N:=by
   intro ts x r hl h
   obtain⟨u,e1,g1,k1⟩:=h1 ts x r hl h
   refine⟨u,e1,g1.low fun o ho=> ?_,k1⟩
   rw[show 5-n=(4-n)+1 by omega]
   exact(LL_succ (4-n) o).1 ho
  have hX:ExtS (rankL E n) (sgs (4-n)):=by
   rintro u x T hu ⟨y,r,rfl,hk,hnn⟩
   have k1:∀m:List UInt8,m∉namesO (sgs (4-n))→y.s≠m:=fun m hm e=>hm (by rw[←e];exact hnn)
   have :=rank_x H.M (H.X (y::r)) n u x [] hu (.inr (op_rank hk (k1 _ hp.1) (k1 _ hp.2.1) (k1 _ hp.2.2) n (by omega) (fun q hq hq6=>sgs_apart ⟨4-n,by omega⟩ ⟨q,hq6⟩ (fun e=>by have :=congrArg Fin.val e;simp at this;omega) _ hnn)))
   rwa [List.nil_append]at this
  rw[show rankL E (n+1)=joinedL (rankL E n) (sgs (4-n)) by rw[rankL]]
  rw[show 5-(n+1)=4-n by omega]
  exact⟨joined_loc (rank_m H.M n) hL hX (LL_apart (by omega)) hp.1,by rw[rankD];exact joined_W (rank_m H.M n) hL hX h2 hp.1⟩
end
theorem rel_any:∀d,RelE (exprL d) (orD d) d
 |0=>⟨fun _ _ _ h=>by omega,fun _ _ h=>by omega,expr_m 0,fun T=>expr_x T 0 0 (Nat.le_refl _)⟩
 |d+1=>by
  obtain⟨h1,h2⟩:=rank_LEW (rel_any d) 5 (by omega)
  refine⟨fun ts x r hl h=> ?_,fun u x hl h=> ?_,expr_m _,fun T=>expr_x T _ _ (Nat.le_refl _)⟩
  ·rw[exprL]at h ⊢
   rw[orD]
   obtain⟨u,e1,g1,k1⟩:=h1 ts x r (by omega) h
   have hu:u.length≤d:=by rw[e1,List.length_append]at hl;omega
   exact⟨u,e1,g1,(h2 u x hu).1 k1,k1⟩
  ·rw[orD]at h
   rw[exprL]
   exact(h2 u x (by omega)).2 h
theorem whole_or (ts:List Wd):wholeL ts=orD (ts.length+1) ts:=by
 refine opt_eq fun x=> ?_
 have hR:=rel_any (ts.length+1)
 unfold wholeL
 constructor
 ·intro h
  cases he:exprL (ts.length+1) ts with
  |none=>rw[he]at h;cases h
  |some q=>
   obtain⟨y,r⟩:=q
   rw[he]at h
   cases r with
   |nil=>
    cases h
    obtain⟨u,e1,_,ho,_⟩:=hR.A ts x [] (by omega) he
    rw[List.append_nil]at e1
    subst e1
    exact ho
   |cons b r=>cases h
 ·intro h
  rw[hR.B ts x (by omega) h]
end Char
namespace Char
open Go.RowKit Go.Lib
open Go.Proofs.YtlmpkpjjakallaaGreatDoor.Fig (outT outV)
def WSl (w:World)(o:Option Addr)(c:Nat)(ts:List Wd):Prop:=ts.length≤c∧(ts=[]∨∃g off,o=some ⟨g,off,none⟩∧WdsAt w g off ts)
theorem WdsAt.lt {w:World}{g off:Nat}{ts:List Wd}(h:WdsAt w g off ts)(hn:ts≠[]):g<w.heap.size:=by
 cases ts with
 |nil=>exact absurd rfl hn
 |cons x r=>exact cell_lt h.head.1
theorem WSl.below {w w':World}{o:Option Addr}{c:Nat}{ts:List Wd}(h:WSl w o c ts)(hb:Below w.heap.size w w'):WSl w' o c ts:=by
 refine⟨h.1,?_⟩
 rcases h.2 with h2|⟨g,off,e,h2⟩
 ·exact .inl h2
 ·by_cases hn:ts=[]
  ·exact .inl hn
  ·exact .inr ⟨g,off,e,h2.move (hb.block g (h2.lt hn))⟩
theorem WSl.word {w:World}{o:Option Addr}{c:Nat}{ts:List Wd}(h:WSl w o c ts)(k:Nat)(hk:k<ts.length):∃g off,o=some ⟨g,off,none⟩∧g<w.heap.size∧
 w.cell? ⟨g,off+k*4,none⟩=some (.int .i64 (ts[k].k:Int))∧w.cell? ⟨g,off+k*4+1,none⟩=some (.string (bs ts[k].s))∧w.cell? ⟨g,off+k*4+2,none⟩=some (.int .i64 (outT ts[k].n))∧w.cell? ⟨g,off+k*4+3,none⟩=some (.int .i64 (outV ts[k].n)):=by
 rcases h.2 with h2|⟨g,off,e,h2⟩
 ·rw[h2]at hk;cases hk
 ·have h0:=h2 k hk
  exact⟨g,off,e,h2.lt (by rintro rfl;cases hk),h0 0 _ rfl,h0 1 _ rfl,h0 2 _ rfl,h0 3 _ rfl⟩
theorem WSl.take {w:World}{o:Option Addr}{c:Nat}{ts:List Wd}(h:WSl w o c ts)(k:Nat)(hk:k≤ts.length):∃o',(∀wx,(Instr.slice 38 (.slice o ts.length c) none (some (.int .i64 (k:Int))) none).run Tryz.prog wx= .ok (.slice o' k c) wx)∧WSl w o' c (ts.take k):=by
 have h1:=h.1
 obtain⟨o',ho'⟩:∃o',o'=if c=0 then o else o.map (fun a=>a.add 0):=⟨_,rfl⟩
 refine⟨o',fun wx=> ?_,by rw[List.length_take];omega,?_⟩
 ·have hz:=word_size wx
  have :=run_slice_h (P:=Tryz.prog) wx 38 o ts.length c word_under .i64 (k:Int) (by omega) (by omega)
  rw[this,hz]
  simp only[Result.andThen,sliced]
  rw[ho']
  simp
 ·rcases h.2 with h2|⟨g,off,e,h2⟩
  ·subst h2;left;simp
  ·by_cases hc:c=0
   ·left
    have :ts=[]:=List.length_eq_zero_iff.1 (by omega)
    subst this
    simp
   ·right
    rw[if_neg hc,e]at ho'
    refine⟨g,off,by rw[ho'];simp[Addr.add],fun j hj i u hu=> ?_⟩
    rw[List.length_take]at hj
    rw[List.getElem_take]at hu
    exact h2 j (by omega) i u hu
theorem WSl.mid {w:World}{o:Option Addr}{c:Nat}{ts:List Wd}(h:WSl w o c ts)(a b:Nat)(hab:a≤b)(hb:b≤ts.length):∃o',(∀wx,(Instr.slice 38 (.slice o ts.length c) (some (.int .i64 (a:Int))) (some (.int .i64 (b:Int))) none).run Tryz.prog wx= .ok (.slice o' (b-a) (c-a)) wx)∧WSl w o' (c-a) ((ts.take b).drop a):=by
 have h1:=h.1
 obtain⟨o',ho'⟩:∃o',o'=if c=a then o else o.map (fun p=>p.add (a*4)):=⟨_,rfl⟩
 refine⟨o',fun wx=> ?_,by rw[List.length_drop,List.length_take];omega,?_⟩
 ·have hz:=word_size wx
  have :=run_slice_lh (P:=Tryz.prog) wx 38 o ts.length c word_under .i64 .i64 (a:Int) (b:Int) (by omega) (by omega) (by omega)
  rw[this,hz]
  simp only[Result.andThen,sliced]
  rw[ho']
  simp
 ·rcases h.2 with h2|⟨g,off,e,h2⟩
  ·subst h2;left;simp
  ·by_cases hc:c=a
   ·left
    exact List.length_eq_zero_iff.1 (by rw[List.length_drop,List.length_take];omega)
   ·right
    rw[if_neg hc,e]at ho'
    refine⟨g,off+a*4,by rw[ho'];simp[Addr.add],fun j hj i u hu=> ?_⟩
    rw[List.length_drop,List.length_take]at hj
    rw[List.getElem_drop,List.getElem_take]at hu
    have :=h2 (a+j) (by omega) i u hu
    rwa [show off+(a+j)*4+i=off+a*4+j*4+i by omega]at this
theorem WSl.drop {w:World}{o:Option Addr}{c:Nat}{ts:List Wd}(h:WSl w o c ts)(a:Nat)(ha:a≤ts.length):∃o',(∀wx,(Instr.slice 38 (.slice o ts.length c) (some (.int .i64 (a:Int))) none none).run Tryz.prog wx= .ok (.slice o' (ts.length-a) (c-a)) wx)∧WSl w o' (c-a) (ts.drop a):=by
 have h1:=h.1
 obtain⟨o',ho'⟩:∃o',o'=if c=a then o else o.map (fun p=>p.add (a*4)):=⟨_,rfl⟩
 refine⟨o',fun wx=> ?_,by rw[List.length_drop];omega,?_⟩
 ·have hz:=word_size wx
  have :=run_slice_l (P:=Tryz.prog) wx 38 o ts.length c word_under .i64 (a:Int) (by omega) (by omega)
  rw[this,hz]
  simp only[Result.andThen,sliced]
  rw[ho']
  simp
 ·rcases h.2 with h2|⟨g,off,e,h2⟩
  ·subst h2;left;simp
  ·by_cases hc:c=a
   ·left
    exact List.length_eq_zero_iff.1 (by rw[List.length_drop];omega)
   ·right
    rw[if_neg hc,e]at ho'
    refine⟨g,off+a*4,by rw[ho'];simp[Addr.add],fun j hj i u hu=> ?_⟩
    rw[List.length_drop]at hj
    rw[List.getElem_drop]at hu
    have :=h2 (a+j) (by omega) i u hu
    rwa [show off+(a+j)*4+i=off+a*4+j*4+i by omega]at this
def BoP (w:World)(b:Bool)(e:Ending)(w':World):Prop:=e= .returned (.bool b)∧Below w.heap.size w w'
set_option maxHeartbeats 4000000 in
theorem mark13_any (x:Wd)(m:List UInt8)(w:World):Calls Tryz.prog 89 #[wdV x,.string (bs m)] w (BoP w (mkW m x)):=by
 have HB:=Lib.hid (below_box (w:=w) (wdB x))
 have h:mkW m x=if (x.k:Int)==1 then x.s==m else false:=rfl
 have k3:((bs x.s).toList==(bs m).toList)=(x.s==m):=by rw[bs_tl,bs_tl]
 rw[h]
 unfold wdV
 unfold wdB at HB
 generalize (x.s==m)=b2 at *
 generalize bs x.s=S at *
 generalize bs m=M at *
 generalize outT x.n=c2 at *
 generalize outV x.n=c3 at *
 obtain⟨b,hb⟩:∃b,((x.k:Int)==1)=b:=⟨_,rfl⟩
 rw[hb]
 generalize (x.k:Int)=c0 at *
 clear h
 cases b
 all_goals
  go_enter Tryz.func89,Tryz.ntmps89
  go_wp2_with fail
  go_ret
  exact⟨rfl,HB.out⟩
set_option maxRecDepth 100000 in
set_option maxHeartbeats 4000000 in
theorem opens_any (x:Wd)(w:World):Calls Tryz.prog 53 #[wdV x] w (BoP w (opnW x)):=by
 have HB:=Lib.hid (below_box (w:=w) (wdB x))
 have hbk:∀W,Below (w.alloc (wdB x)).heap.size (w.alloc (wdB x)) W→W.heap[w.heap.size]? =some (wdB x):=fun W hW=>(hW.block w.heap.size (by simp)).trans (World.alloc_heap_new w _)
 have HBK:=Lib.hid hbk
 have hm0:∀W,Calls Tryz.prog 89 #[wdV x,.string ⟨#[40]⟩] W (BoP W (mkW [40] x)):=fun W=>mark13_any x [40] W
 have hm1:∀W,Calls Tryz.prog 89 #[wdV x,.string ⟨#[91]⟩] W (BoP W (mkW [91] x)):=fun W=>mark13_any x [91] W
 unfold opnW
 unfold wdV at *
 generalize mkW [40] x=b0 at *
 generalize mkW [91] x=b1 at *
 have H0:=Lib.hid hm0
 have H1:=Lib.hid hm1
 unfold BoP at *
 clear hbk hm0 hm1
 have hcs:(b0=true)∨(b0=false∧b1=true)∨(b0=false∧b1=false):=by cases b0<;>cases b1<;>simp
 rcases hcs with rfl|⟨rfl,rfl⟩|⟨rfl,rfl⟩
 ·go_enter Tryz.func53,Tryz.ntmps53
  go_wp2_with fail
  refine(H0.out _).mono ?_
  rintro e w1 ⟨rfl,hb1⟩
  have q1:Below (w.alloc (wdB x)).heap.size (w.alloc (wdB x)) w1:=hb1
  obtain⟨⟨x0,x1,x2,x3⟩,_⟩:=wd_blk (HBK.out w1 q1)
  have Q1:=Lib.hid q1
  clear hb1 q1
  go_wp2_with fail
  go_ret
  exact⟨by simp,HB.out.trans (Q1.out.mono HB.out.size)⟩
 ·go_enter Tryz.func53,Tryz.ntmps53
  go_wp2_with fail
  refine(H0.out _).mono ?_
  rintro e w1 ⟨rfl,hb1⟩
  have q1:Below (w.alloc (wdB x)).heap.size (w.alloc (wdB x)) w1:=hb1
  obtain⟨⟨x0,x1,x2,x3⟩,_⟩:=wd_blk (HBK.out w1 q1)
  have Q1:=Lib.hid q1
  clear hb1 q1
  go_wp2_with fail
  refine(H1.out _).mono ?_
  rintro e w2 ⟨rfl,hb2⟩
  have q2:Below (w.alloc (wdB x)).heap.size (w.alloc (wdB x)) w2:=Q1.out.trans (hb2.mono Q1.out.size)
  obtain⟨⟨x0,x1,x2,x3⟩,_⟩:=wd_blk (HBK.out w2 q2)
  have Q2:=Lib.hid q2
  clear hb2 q2
  go_wp2_with fail
  go_ret
  exact⟨by simp,HB.out.trans (Q2.out.mono HB.out.size)⟩
 ·go_enter Tryz.func53,Tryz.ntmps53
  go_wp2_with fail
  refine(H0.out _).mono ?_
  rintro e w1 ⟨rfl,hb1⟩
  have q1:Below (w.alloc (wdB x)).heap.size (w.alloc (wdB x)) w1:=hb1
  obtain⟨⟨x0,x1,x2,x3⟩,_⟩:=wd_blk (HBK.out w1 q1)
  have Q1:=Lib.hid q1
  clear hb1 q1
  go_wp2_with fail
  refine(H1.out _).mono ?_
  rintro e w2 ⟨rfl,hb2⟩
  have q2:Below (w.alloc (wdB x)).heap.size (w.alloc (wdB x)) w2:=Q1.out.trans (hb2.mono Q1.out.size)
  obtain⟨⟨x0,x1,x2,x3⟩,_⟩:=wd_blk (HBK.out w2 q2)
  have Q2:=Lib.hid q2
  clear hb2 q2
  go_wp2_with fail
  go_ret
  exact⟨by simp,HB.out.trans (Q2.out.mono HB.out.size)⟩
set_option maxRecDepth 100000 in
set_option maxHeartbeats 4000000 in
theorem closes_any (x:Wd)(w:World):Calls Tryz.prog 54 #[wdV x] w (BoP w (clsW x)):=by
 have HB:=Lib.hid (below_box (w:=w) (wdB x))
 have hbk:∀W,Below (w.alloc (wdB x)).heap.size (w.alloc (wdB x)) W→W.heap[w.heap.size]? =some (wdB x):=fun W hW=>(hW.block w.heap.size (by simp)).trans (World.alloc_heap_new w _)
 have HBK:=Lib.hid hbk
 have hm0:∀W,Calls Tryz.prog 89 #[wdV x,.string ⟨#[41]⟩] W (BoP W (mkW [41] x)):=fun W=>mark13_any x [41] W
 have hm1:∀W,Calls Tryz.prog 89 #[wdV x,.string ⟨#[93]⟩] W (BoP W (mkW [93] x)):=fun W=>mark13_any x [93] W
 unfold clsW
 unfold wdV at *
 generalize mkW [41] x=b0 at *
 generalize mkW [93] x=b1 at *
 have H0:=Lib.hid hm0
 have H1:=Lib.hid hm1
 unfold BoP at *
 clear hbk hm0 hm1
 have hcs:(b0=true)∨(b0=false∧b1=true)∨(b0=false∧b1=false):=by cases b0<;>cases b1<;>simp
 rcases hcs with rfl|⟨rfl,rfl⟩|⟨rfl,rfl⟩
 ·go_enter Tryz.func54,Tryz.ntmps54
  go_wp2_with fail
  refine(H0.out _).mono ?_
  rintro e w1 ⟨rfl,hb1⟩
  have q1:Below (w.alloc (wdB x)).heap.size (w.alloc (wdB x)) w1:=hb1
  obtain⟨⟨x0,x1,x2,x3⟩,_⟩:=wd_blk (HBK.out w1 q1)
  have Q1:=Lib.hid q1
  clear hb1 q1
  go_wp2_with fail
  go_ret
  exact⟨by simp,HB.out.trans (Q1.out.mono HB.out.size)⟩
 ·go_enter Tryz.func54,Tryz.ntmps54
  go_wp2_with fail
  refine(H0.out _).mono ?_
  rintro e w1 ⟨rfl,hb1⟩
  have q1:Below (w.alloc (wdB x)).heap.size (w.alloc (wdB x)) w1:=hb1
  obtain⟨⟨x0,x1,x2,x3⟩,_⟩:=wd_blk (HBK.out w1 q1)
  have Q1:=Lib.hid q1
  clear hb1 q1
  go_wp2_with fail
  refine(H1.out _).mono ?_
  rintro e w2 ⟨rfl,hb2⟩
  have q2:Below (w.alloc (wdB x)).heap.size (w.alloc (wdB x)) w2:=Q1.out.trans (hb2.mono Q1.out.size)
  obtain⟨⟨x0,x1,x2,x3⟩,_⟩:=wd_blk (HBK.out w2 q2)
  have Q2:=Lib.hid q2
  clear hb2 q2
  go_wp2_with fail
  go_ret
  exact⟨by simp,HB.out.trans (Q2.out.mono HB.out.size)⟩
 ·go_enter Tryz.func54,Tryz.ntmps54
  go_wp2_with fail
  refine(H0.out _).mono ?_
  rintro e w1 ⟨rfl,hb1⟩
  have q1:Below (w.alloc (wdB x)).heap.size (w.alloc (wdB x)) w1:=hb1
  obtain⟨⟨x0,x1,x2,x3⟩,_⟩:=wd_blk (HBK.out w1 q1)
  have Q1:=Lib.hid q1
  clear hb1 q1
  go_wp2_with fail
  refine(H1.out _).mono ?_
  rintro e w2 ⟨rfl,hb2⟩
  have q2:Below (w.alloc (wdB x)).heap.size (w.alloc (wdB x)) w2:=Q1.out.trans (hb2.mono Q1.out.size)
  obtain⟨⟨x0,x1,x2,x3⟩,_⟩:=wd_blk (HBK.out w2 q2)
  have Q2:=Lib.hid q2
  clear hb2 q2
  go_wp2_with fail
  go_ret
  exact⟨by simp,HB.out.trans (Q2.out.mono HB.out.size)⟩
set_option maxRecDepth 100000 in
set_option maxHeartbeats 4000000 in
theorem ends13_any (x:Wd)(w:World):Calls Tryz.prog 117 #[wdV x] w (BoP w (endD x)):=by
 have HB:=Lib.hid (below_box (w:=w) (wdB x))
 have hbk:∀W,Below (w.alloc (wdB x)).heap.size (w.alloc (wdB x)) W→W.heap[w.heap.size]? =some (wdB x):=fun W hW=>(hW.block w.heap.size (by simp)).trans (World.alloc_heap_new w _)
 have HBK:=Lib.hid hbk
 have hm0:∀W,Calls Tryz.prog 89 #[wdV x,.string ⟨#[64]⟩] W (BoP W (mkW [64] x)):=fun W=>mark13_any x [64] W
 have hm1:∀W,Calls Tryz.prog 89 #[wdV x,.string ⟨#[58,58]⟩] W (BoP W (mkW [58,58] x)):=fun W=>mark13_any x [58,58] W
 have hm2:∀W,Calls Tryz.prog 89 #[wdV x,.string ⟨#[40]⟩] W (BoP W (mkW [40] x)):=fun W=>mark13_any x [40] W
 have hm3:∀W,Calls Tryz.prog 89 #[wdV x,.string ⟨#[91]⟩] W (BoP W (mkW [91] x)):=fun W=>mark13_any x [91] W
 have hm4:∀W,Calls Tryz.prog 89 #[wdV x,.string ⟨#[44]⟩] W (BoP W (mkW [44] x)):=fun W=>mark13_any x [44] W
 unfold endD
 unfold wdV at *
 have k5:((x.k:Int) != 5)= !((x.k:Int)==5):=rfl
 obtain⟨c,hc⟩:∃c,((x.k:Int)==5)=c:=⟨_,rfl⟩
 rw[hc]at k5 ⊢
 clear hc
 generalize mkW [64] x=b0 at *
 generalize mkW [58,58] x=b1 at *
 generalize mkW [40] x=b2 at *
 generalize mkW [91] x=b3 at *
 generalize mkW [44] x=b4 at *
 have H0:=Lib.hid hm0
 have H1:=Lib.hid hm1
 have H2:=Lib.hid hm2
 have H3:=Lib.hid hm3
 have H4:=Lib.hid hm4
 unfold BoP at *
 clear hbk hm0 hm1 hm2 hm3 hm4
 have hcs:(c=true)∨(c=false∧b0=true)∨(c=false∧b0=false∧b1=true)∨(c=false∧b0=false∧b1=false∧b2=true)∨(c=false∧b0=false∧b1=false∧b2=false∧b3=true)∨(c=false∧b0=false∧b1=false∧b2=false∧b3=false∧b4=true)∨(c=false∧b0=false∧b1=false∧b2=false∧b3=false∧b4=false):=by cases c<;>cases b0<;>cases b1<;>cases b2<;>cases b3<;>cases b4<;>simp
 rcases hcs with rfl|⟨rfl,rfl⟩|⟨rfl,rfl,rfl⟩|⟨rfl,rfl,rfl,rfl⟩|⟨rfl,rfl,rfl,rfl,rfl⟩|⟨rfl,rfl,rfl,rfl,rfl,rfl⟩|⟨rfl,rfl,rfl,rfl,rfl,rfl⟩
 ·go_enter Tryz.func117,Tryz.ntmps117
  go_wp2_with fail
  go_ret
  exact⟨by simp,HB.out⟩
 ·go_enter Tryz.func117,Tryz.ntmps117
  go_wp2_with fail
  refine(H0.out _).mono ?_
  rintro e w1 ⟨rfl,hb1⟩
  have q1:Below (w.alloc (wdB x)).heap.size (w.alloc (wdB x)) w1:=hb1
  obtain⟨⟨x0,x1,x2,x3⟩,_⟩:=wd_blk (HBK.out w1 q1)
  have Q1:=Lib.hid q1
  clear hb1 q1
  go_wp2_with fail
  go_ret
  exact⟨by simp,HB.out.trans (Q1.out.mono HB.out.size)⟩
 ·go_enter Tryz.func117,Tryz.ntmps117
  go_wp2_with fail
  refine(H0.out _).mono ?_
  rintro e w1 ⟨rfl,hb1⟩
  have q1:Below (w.alloc (wdB x)).heap.size (w.alloc (wdB x)) w1:=hb1
  obtain⟨⟨x0,x1,x2,x3⟩,_⟩:=wd_blk (HBK.out w1 q1)
  have Q1:=Lib.hid q1
  clear hb1 q1
  go_wp2_with fail
  refine(H1.out _).mono ?_
  rintro e w2 ⟨rfl,hb2⟩
  have q2:Below (w.alloc (wdB x)).heap.size (w.alloc (wdB x)) w2:=Q1.out.trans (hb2.mono Q1.out.size)
  obtain⟨⟨x0,x1,x2,x3⟩,_⟩:=wd_blk (HBK.out w2 q2)
  have Q2:=Lib.hid q2
  clear hb2 q2
  go_wp2_with fail
  go_ret
  exact⟨by simp,HB.out.trans (Q2.out.mono HB.out.size)⟩
 ·go_enter Tryz.func117,Tryz.ntmps117
  go_wp2_with fail
  refine(H0.out _).mono ?_
  rintro e w1 ⟨rfl,hb1⟩
  have q1:Below (w.alloc (wdB x)).heap.size (w.alloc (wdB x)) w1:=hb1
  obtain⟨⟨x0,x1,x2,x3⟩,_⟩:=wd_blk (HBK.out w1 q1)
  have Q1:=Lib.hid q1
  clear hb1 q1
  go_wp2_with fail
  refine(H1.out _).mono ?_
  rintro e w2 ⟨rfl,hb2⟩
  have q2:Below (w.alloc (wdB x)).heap.size (w.alloc (wdB x)) w2:=Q1.out.trans (hb2.mono Q1.out.size)
  obtain⟨⟨x0,x1,x2,x3⟩,_⟩:=wd_blk (HBK.out w2 q2)
  have Q2:=Lib.hid q2
  clear hb2 q2
  go_wp2_with fail
  refine(H2.out _).mono ?_
  rintro e w3 ⟨rfl,hb3⟩
  have q3:Below (w.alloc (wdB x)).heap.size (w.alloc (wdB x)) w3:=Q2.out.trans (hb3.mono Q2.out.size)
  obtain⟨⟨x0,x1,x2,x3⟩,_⟩:=wd_blk (HBK.out w3 q3)
  have Q3:=Lib.hid q3
  clear hb3 q3
  go_wp2_with fail
  go_ret
  exact⟨by simp,HB.out.trans (Q3.out.mono HB.out.size)⟩
 ·go_enter Tryz.func117,Tryz.ntmps117
  go_wp2_with fail
  refine(H0.out _).mono ?_
  rintro e w1 ⟨rfl,hb1⟩
  have q1:Below (w.alloc (wdB x)).heap.size (w.alloc (wdB x)) w1:=hb1
  obtain⟨⟨x0,x1,x2,x3⟩,_⟩:=wd_blk (HBK.out w1 q1)
  have Q1:=Lib.hid q1
  clear hb1 q1
  go_wp2_with fail
  refine(H1.out _).mono ?_
  rintro e w2 ⟨rfl,hb2⟩
  have q2:Below (w.alloc (wdB x)).heap.size (w.alloc (wdB x)) w2:=Q1.out.trans (hb2.mono Q1.out.size)
  obtain⟨⟨x0,x1,x2,x3⟩,_⟩:=wd_blk (HBK.out w2 q2)
  have Q2:=Lib.hid q2
  clear hb2 q2
  go_wp2_with fail
  refine(H2.out _).mono ?_
  rintro e w3 ⟨rfl,hb3⟩
  have q3:Below (w.alloc (wdB x)).heap.size (w.alloc (wdB x)) w3:=Q2.out.trans (hb3.mono Q2.out.size)
  obtain⟨⟨x0,x1,x2,x3⟩,_⟩:=wd_blk (HBK.out w3 q3)
  have Q3:=Lib.hid q3
  clear hb3 q3
  go_wp2_with fail
  refine(H3.out _).mono ?_
  rintro e w4 ⟨rfl,hb4⟩
  have q4:Below (w.alloc (wdB x)).heap.size (w.alloc (wdB x)) w4:=Q3.out.trans (hb4.mono Q3.out.size)
  obtain⟨⟨x0,x1,x2,x3⟩,_⟩:=wd_blk (HBK.out w4 q4)
  have Q4:=Lib.hid q4
  clear hb4 q4
  go_wp2_with fail
  go_ret
  exact⟨by simp,HB.out.trans (Q4.out.mono HB.out.size)⟩
 ·go_enter Tryz.func117,Tryz.ntmps117
  go_wp2_with fail
  refine(H0.out _).mono ?_
  rintro e w1 ⟨rfl,hb1⟩
  have q1:Below (w.alloc (wdB x)).heap.size (w.alloc (wdB x)) w1:=hb1
  obtain⟨⟨x0,x1,x2,x3⟩,_⟩:=wd_blk (HBK.out w1 q1)
  have Q1:=Lib.hid q1
  clear hb1 q1
  go_wp2_with fail
  refine(H1.out _).mono ?_
  rintro e w2 ⟨rfl,hb2⟩
  have q2:Below (w.alloc (wdB x)).heap.size (w.alloc (wdB x)) w2:=Q1.out.trans (hb2.mono Q1.out.size)
  obtain⟨⟨x0,x1,x2,x3⟩,_⟩:=wd_blk (HBK.out w2 q2)
  have Q2:=Lib.hid q2
  clear hb2 q2
  go_wp2_with fail
  refine(H2.out _).mono ?_
  rintro e w3 ⟨rfl,hb3⟩
  have q3:Below (w.alloc (wdB x)).heap.size (w.alloc (wdB x)) w3:=Q2.out.trans (hb3.mono Q2.out.size)
  obtain⟨⟨x0,x1,x2,x3⟩,_⟩:=wd_blk (HBK.out w3 q3)
  have Q3:=Lib.hid q3
  clear hb3 q3
  go_wp2_with fail
  refine(H3.out _).mono ?_
  rintro e w4 ⟨rfl,hb4⟩
  have q4:Below (w.alloc (wdB x)).heap.size (w.alloc (wdB x)) w4:=Q3.out.trans (hb4.mono Q3.out.size)
  obtain⟨⟨x0,x1,x2,x3⟩,_⟩:=wd_blk (HBK.out w4 q4)
  have Q4:=Lib.hid q4
  clear hb4 q4
  go_wp2_with fail
  refine(H4.out _).mono ?_
  rintro e w5 ⟨rfl,hb5⟩
  have q5:Below (w.alloc (wdB x)).heap.size (w.alloc (wdB x)) w5:=Q4.out.trans (hb5.mono Q4.out.size)
  obtain⟨⟨x0,x1,x2,x3⟩,_⟩:=wd_blk (HBK.out w5 q5)
  have Q5:=Lib.hid q5
  clear hb5 q5
  go_wp2_with fail
  go_ret
  exact⟨by simp,HB.out.trans (Q5.out.mono HB.out.size)⟩
 ·go_enter Tryz.func117,Tryz.ntmps117
  go_wp2_with fail
  refine(H0.out _).mono ?_
  rintro e w1 ⟨rfl,hb1⟩
  have q1:Below (w.alloc (wdB x)).heap.size (w.alloc (wdB x)) w1:=hb1
  obtain⟨⟨x0,x1,x2,x3⟩,_⟩:=wd_blk (HBK.out w1 q1)
  have Q1:=Lib.hid q1
  clear hb1 q1
  go_wp2_with fail
  refine(H1.out _).mono ?_
  rintro e w2 ⟨rfl,hb2⟩
  have q2:Below (w.alloc (wdB x)).heap.size (w.alloc (wdB x)) w2:=Q1.out.trans (hb2.mono Q1.out.size)
  obtain⟨⟨x0,x1,x2,x3⟩,_⟩:=wd_blk (HBK.out w2 q2)
  have Q2:=Lib.hid q2
  clear hb2 q2
  go_wp2_with fail
  refine(H2.out _).mono ?_
  rintro e w3 ⟨rfl,hb3⟩
  have q3:Below (w.alloc (wdB x)).heap.size (w.alloc (wdB x)) w3:=Q2.out.trans (hb3.mono Q2.out.size)
  obtain⟨⟨x0,x1,x2,x3⟩,_⟩:=wd_blk (HBK.out w3 q3)
  have Q3:=Lib.hid q3
  clear hb3 q3
  go_wp2_with fail
  refine(H3.out _).mono ?_
  rintro e w4 ⟨rfl,hb4⟩
  have q4:Below (w.alloc (wdB x)).heap.size (w.alloc (wdB x)) w4:=Q3.out.trans (hb4.mono Q3.out.size)
  obtain⟨⟨x0,x1,x2,x3⟩,_⟩:=wd_blk (HBK.out w4 q4)
  have Q4:=Lib.hid q4
  clear hb4 q4
  go_wp2_with fail
  refine(H4.out _).mono ?_
  rintro e w5 ⟨rfl,hb5⟩
  have q5:Below (w.alloc (wdB x)).heap.size (w.alloc (wdB x)) w5:=Q4.out.trans (hb5.mono Q4.out.size)
  obtain⟨⟨x0,x1,x2,x3⟩,_⟩:=wd_blk (HBK.out w5 q5)
  have Q5:=Lib.hid q5
  clear hb5 q5
  go_wp2_with fail
  go_ret
  exact⟨by simp,HB.out.trans (Q5.out.mono HB.out.size)⟩
end Char
namespace Char
open Go.RowKit Go.Lib
open Go.Proofs.YtlmpkpjjakallaaGreatDoor.Fig (outT outV)
theorem info_str:(Tryz.prog.info? 9).map (fun i=>(i.zero,i.size,i.bytes))=some (some (.string ⟨#[]⟩),1,16):=by kernel_rfl
def OwnsSt (B:Nat)(w:World)(v:Value)(xs:List (List UInt8)):Prop:=w.ownsRow B 9 1 v xs.length (xs.map fun s=>Value.string (bs s))
theorem OwnsSt.nil (B:Nat)(w:World):OwnsSt B w (.slice none 0 0) []:=World.ownsRow_nil _ _ _ _
theorem OwnsSt.below {B:Nat}{w w':World}{v:Value}{xs:List (List UInt8)}(h:OwnsSt B w v xs)(hb:Below w.heap.size w w'):OwnsSt B w' v xs:=by
 refine⟨h.1,?_⟩
 rcases h.2 with h2|⟨g,cap,cur,e1,e2,e3,e4⟩
 ·exact .inl h2
 ·exact .inr ⟨g,cap,cur,e1,e2,(hb.block g (Array.getElem?_eq_some_iff.1 e3).1).trans e3,e4⟩
theorem OwnsSt.form {B:Nat}{w:World}{v:Value}{xs:List (List UInt8)}(h:OwnsSt B w v xs):∃o j,v= .slice o xs.length j:=by
 rcases h.2 with⟨h0,h1⟩|⟨g,cap,cur,e1,_⟩
 ·exact⟨none,0,by rw[h0,←h1]⟩
 ·exact⟨_,_,e1⟩
theorem OwnsSt.last {B:Nat}{w:World}{o:Option Addr}{n j:Nat}{xs:List (List UInt8)}{t:List UInt8}(h:OwnsSt B w (.slice o n j) (xs++[t])):
 ∃g,o=some ⟨g,0,none⟩∧n=xs.length+1∧xs.length+1≤j∧g<w.heap.size∧w.cell? ⟨g,xs.length,none⟩=some (.string (bs t))∧OwnsSt B w (.slice (some ⟨g,0,none⟩) xs.length j) xs:=by
 unfold OwnsSt at h
 rw[List.length_append,List.length_singleton]at h
 rcases h.2 with⟨_,h1⟩|⟨g,cap,cur,e1,e2,e3,e4,e5,e6,e7⟩
 ·omega
 ·cases e1
  rw[Nat.mul_one]at e6 e7
  have hx:(xs.map fun s=>Value.string (bs s))=cur.toList.take xs.length:=by
   have :=congrArg (List.take xs.length) e7
   rw[List.take_take,Nat.min_eq_left (by omega),List.map_append,List.take_left' (by simp)]at this
   exact this.symm
  refine⟨g,rfl,rfl,e4,(Array.getElem?_eq_some_iff.1 e3).1,?_,?_,.inr ⟨g,j,cur,rfl,e2,e3,by omega,e5,by omega,?_⟩⟩
  ·rw[Lib.cell_of_heap e3]
   have :=congrArg (fun l=>l[xs.length]?) e7
   simp only[List.map_append,List.getElem?_take]at this
   rw[if_pos (by omega),List.getElem?_append_right (by simp)]at this
   simpa using this
  ·simp
  ·rw[Nat.mul_one]
   exact hx.symm
theorem wpList_pushSt1 {ops:Array Oper}{rest:List Oper}{o:Oper}{a:Act}{Q:Exit→Act→World→Prop}{B:Nat}{W:World}{v:Value}{xs:List (List UInt8)}
 (hgd:o.guard=none) (s x:Operand) (ho:o.op= .call {callee:= .builtin .append,args:= #[s,x],argTypes:= #[79,79]})
 (t:List UInt8) (hown:OwnsSt B W v xs) (hs:a.eval s=v) (hx:a.eval x= .slice (some ⟨W.heap.size,0,none⟩) 1 1) (hB:B≤W.heap.size) (hlen:xs.length≤1000)
 (h:∀v' w1,OwnsSt B w1 v' (xs++[t])→Below B W w1→(∀k,k<W.heap.size→some k≠v.ownBlock→w1.heap[k]? =W.heap[k]?)→wpList Tryz.prog ops Q rest (a.put o.dst v') w1):
 wpList Tryz.prog ops Q (o::rest) a (W.alloc (.cells #[.string (bs t)] 9)):=by
 refine wpList_push info_str Tryz.underlying79 rfl (by decide) (by decide) hgd s x ho [.string (bs t)] rfl ?_ hown hs hx hB (by omega) fun v' w1 h1 h2 h3 _=> ?_
 ·intro u hu
  rw[List.mem_singleton]at hu
  subst hu
  rfl
 ·refine h v' w1 ?_ h2 h3
  unfold OwnsSt
  rw[List.length_append,List.map_append]
  exact h1
def parI (p:Nat):Option (List Wd×List Wd)→Int
 |none=> -1
 |some (u,_)=>((p+u.length:Nat):Int)
theorem parI_map (p:Nat)(x:Wd)(y:Option (List Wd×List Wd)):parI p (y.map fun q=>(x::q.1,q.2))=parI (p+1) y:=by
 cases y with
 |none=>rfl
 |some q=>
  show((p+(q.1.length+1):Nat):Int)=((p+1+q.1.length:Nat):Int)
  omega
theorem parI_opn {st:List (List UInt8)}{x:Wd}{r:List Wd}(p:Nat)(h:opnW x=true):parI p (partR st (x::r))=parI (p+1) (partR (x.s::st) r):=by
 rw[partR_cs,if_pos h,parI_map]
theorem parI_no {st:List (List UInt8)}{x:Wd}{r:List Wd}(p:Nat)(h:opnW x=false)(h2:clsW x=false):parI p (partR st (x::r))=parI (p+1) (partR st r):=by
 rw[partR_cs,if_neg (by rw[h];simp),if_neg (by rw[h2];simp),parI_map]
theorem parI_cls {st:List (List UInt8)}{t:List UInt8}{x:Wd}{r:List Wd}(p:Nat)(h:opnW x=false)(h2:clsW x=true):parI p (partR (t::st) (x::r))=if x.s=clo t then (if st=[] then (p:Int) else parI (p+1) (partR st r)) else -1:=by
 rw[partR_cs,if_neg (by rw[h];simp),if_pos h2]
 dsimp only
 split
 ·split
  ·rfl
  ·rw[parI_map]
 ·rfl
theorem parI_end (p:Nat)(st:List (List UInt8)):parI p (partR st [])= -1:=by rw[partR_nil];rfl
set_option maxRecDepth 100000 in
set_option maxHeartbeats 16000000 in
theorem partner_any (ts:List Wd)(o:Option Addr)(c p:Nat)(w:World)(h:WSl w o c ts)(hp:p<ts.length)(hl:ts.length≤800)(ho:opnW ts[p]=true):
 Calls Tryz.prog 201 #[.slice o ts.length c,.int .i64 (p:Int)] w fun e w'=>e= .returned (.int .i64 (parI p (partR [] (ts.drop p))))∧Below w.heap.size w w':=by
 obtain⟨R,hR⟩:∃R,parI p (partR [] (ts.drop p))=R:=⟨_,rfl⟩
 rw[hR]
 have HR0:=Lib.hid hR
 have H:=Lib.hid h
 have HO:=Lib.hid ho
 have HP:=Lib.hid fun(x:Wd) (W:World)=>opens_any x W
 have HC:=Lib.hid fun(x:Wd) (W:World)=>closes_any x W
 unfold BoP wdV at HP HC
 clear hR h ho
 go_enter Tryz.func201,Tryz.ntmps201
 go_wp2_with fail
 go_loopw [5,6] (fun v5 v wr=>∃(j:Nat) (st:List (List UInt8)) (o5:Option Addr) (c5:Nat),v= .int .i64 (j:Int)∧v5= .slice o5 st.length c5∧j≤ts.length∧Hid (OwnsSt w.heap.size wr v5 st.reverse∧Below w.heap.size w wr∧parI j (partR st (ts.drop j))=R∧(st=[]→j=p)∧st.length≤j)) (fun _ v _=>ts.length-(RowKit.intOf v).toNat)
 case atStart=>exact⟨p,[],none,0,rfl,rfl,by omega,Lib.hid ⟨OwnsSt.nil _ _,Below.refl _ _,HR0.out,fun _=>rfl,by simp⟩⟩
 case round=>
  obtain⟨j,st,o5,c5,rfl,rfl,hj,HI⟩:=hrel
  by_cases hlt:j<ts.length
  ·obtain⟨g,off,rfl,hgl,x0,x1,x2,x3⟩:=H.out.word j hlt
   have hcl:∀W,Below w.heap.size w W→g<W.heap.size∧W.cell? ⟨g,off+j*4,none⟩=some (.int .i64 (ts[j].k:Int))∧W.cell? ⟨g,off+j*4+1,none⟩=some (.string (bs ts[j].s))∧W.cell? ⟨g,off+j*4+2,none⟩=some (.int .i64 (outT ts[j].n))∧W.cell? ⟨g,off+j*4+3,none⟩=some (.int .i64 (outV ts[j].n)):=fun W hW=>⟨Nat.lt_of_lt_of_le hgl hW.size,(hW.cell (p:=⟨g,_,none⟩) hgl).trans x0,(hW.cell (p:=⟨g,_,none⟩) hgl).trans x1,(hW.cell (p:=⟨g,_,none⟩) hgl).trans x2,(hW.cell (p:=⟨g,_,none⟩) hgl).trans x3⟩
   clear x0 x1 x2 x3 hgl
   obtain⟨hos,hbw,hpr,hst,hsl⟩:=HI.out
   rw[List.drop_eq_getElem_cons hlt]at hpr
   have hop:st=[]→opnW ts[j]=true:=fun e=>by have :=hst e;subst this;exact HO.out
   generalize ts[j]=x at *
   have HPX:=Lib.hid fun W=>HP.out x W
   have HCX:=Lib.hid fun W=>HC.out x W
   have HCL:=Lib.hid hcl
   have HBW:=Lib.hid hbw
   have HOS:=Lib.hid hos
   obtain⟨hg0,y0,y1,y2,y3⟩:=hcl wr hbw
   clear hcl hbw hos hst HI HR0
   cases hb1:opnW x with
   |true=>
    have hcc:clsW x=false:=by
     cases hz:clsW x with
     |false=>rfl
     |true=>rw[cls_opn hz]at hb1;cases hb1
    rw[parI_opn j hb1]at hpr
    rw[hb1]at HPX
    rw[hcc]at HCX
    have HPR:=Lib.hid hpr
    have HSL:=Lib.hid hsl
    clear hpr hsl hop hb1 hcc
    go_wp2_with (first
     |(go_at_call 53
       refine(HPX.out _).mono ?_
       rintro e w1 ⟨rfl,hb1⟩
       have hb2:=HBW.out.trans (hb1.mono HBW.out.size)
       clear hg0 y0 y1 y2 y3
       obtain⟨hg0,y0,y1,y2,y3⟩:=HCL.out w1 hb2
       have HB1:=Lib.hid hb2
       have HO1:=Lib.hid (HOS.out.below hb1)
       clear hb1 hb2)
     |(at_builtin
       refine wpList_pushSt1 rfl (.tmp 20) (.tmp 26) rfl x.s HO1.out rfl (by simp[Act.eval]) HB1.out.size (by rw[List.length_reverse];have :=HSL.out;omega) ?_
       intro v' w3 hr3 hb3 hk3
       have hb4:=HB1.out.trans hb3
       obtain⟨o',j',hv⟩:=hr3.form
       have hv2:v'= .slice o' (st.length+1) j':=by rw[hv];simp
       subst hv2
       clear hg0 y0 y1 y2 y3
       obtain⟨hg0,y0,y1,y2,y3⟩:=HCL.out w3 hb4
       have HB3:=Lib.hid hb4
       have HO3:=Lib.hid hr3
       clear hr3 hb3 hk3 hb4 hv)
     |(go_at_call 54
       refine(HCX.out _).mono ?_
       rintro e w4 ⟨rfl,hb4⟩
       have HB4:=Lib.hid (HB3.out.trans (hb4.mono HB3.out.size))
       have HO4:=Lib.hid (HO3.out.below hb4)
       clear hb4))
    go_roundw
    case rel=>exact⟨j+1,x.s::st,o',j',by go_num,rfl,by omega,Lib.hid ⟨by rw[List.reverse_cons];exact HO4.out,HB4.out,HPR.out,fun h=>(by cases h),by rw[List.length_cons];have :=HSL.out;omega⟩⟩
    case measure=>simp[RowKit.intOf];omega
   |false=>
    have hne:st≠[]:=fun e=>by rw[hop e]at hb1;cases hb1
    rw[hb1]at HPX
    cases hcc:clsW x with
    |false=>
     rw[parI_no j hb1 hcc]at hpr
     rw[hcc]at HCX
     have HPR:=Lib.hid hpr
     have HSL:=Lib.hid hsl
     have HNE:=Lib.hid hne
     clear hpr hsl hop hb1 hcc hne
     go_wp2_with (first
      |(go_at_call 53
        refine(HPX.out _).mono ?_
        rintro e w1 ⟨rfl,hb1⟩
        have hb2:=HBW.out.trans (hb1.mono HBW.out.size)
        clear hg0 y0 y1 y2 y3
        obtain⟨hg0,y0,y1,y2,y3⟩:=HCL.out w1 hb2
        have HB1:=Lib.hid hb2
        have HO1:=Lib.hid (HOS.out.below hb1)
        clear hb1 hb2)
      |(go_at_call 54
        refine(HCX.out _).mono ?_
        rintro e w4 ⟨rfl,hb4⟩
        have HB4:=Lib.hid (HB1.out.trans (hb4.mono HB1.out.size))
        have HO4:=Lib.hid (HO1.out.below hb4)
        clear hb4))
     go_roundw
     case rel=>exact⟨j+1,st,o5,c5,by go_num,rfl,by omega,Lib.hid ⟨HO4.out,HB4.out,HPR.out,fun h=>absurd h HNE.out,by have :=HSL.out;omega⟩⟩
     case measure=>simp[RowKit.intOf];omega
    |true=>
     obtain⟨t,st',rfl⟩:∃t st',st=t::st':=by
      cases st with
      |nil=>exact absurd rfl hne
      |cons a b=>exact⟨a,b,rfl⟩
     rw[parI_cls j hb1 hcc]at hpr
     rw[hcc]at HCX
     rw[List.reverse_cons,List.length_cons]at *
     obtain⟨g5,rfl,hnn,hcap,hg5,z0,hoo⟩:=OwnsSt.last HOS.out
     clear hnn hoo
     rw[List.length_reverse]at hcap z0
     have HZ:=Lib.hid fun W (hW:Below wr.heap.size wr W)=>show g5<W.heap.size∧W.cell? ⟨g5,st'.length,none⟩=some (.string (bs t))∧OwnsSt w.heap.size W (.slice (some ⟨g5,0,none⟩) st'.length c5) st'.reverse from by
      obtain⟨g6,e6,_,_,k1,k2,k3⟩:=OwnsSt.last (HOS.out.below hW)
      cases e6
      rw[List.length_reverse]at k2 k3
      exact⟨k1,k2,k3⟩
     have hc0:¬c5=0:=by omega
     have hc1:(st'.length:Int)≤(c5:Int):=by omega
     have hc2:(0:Int)≤(st'.length:Int):=by omega
     have hc3:(st'.length:Int)≤1000:=by omega
     have HSL:=Lib.hid hsl
     clear hsl hop hb1 hcc hne hcap
     have hclo:clo t=if t=[91] then [93] else [41]:=rfl
     rw[hclo]at hpr
     clear hclo
     by_cases ht:t=[91]
     ·have k1:((bs t).toList==[91])=true:=by rw[bs_tl,beq_iff_eq];exact ht
      rw[if_pos ht]at hpr
      by_cases hx:x.s=[93]
      ·have k2:((bs x.s).toList==[93])=true:=by rw[bs_tl,hx];rfl
       rw[if_pos hx]at hpr
       clear ht hx
       by_cases hn:st'=[]
       ·rw[if_pos hn]at hpr
        subst hn
        have HPR:=Lib.hid hpr
        clear hpr
        rw[List.length_nil]at *
        go_wp2_with (first
         |(go_at_call 53
           refine(HPX.out _).mono ?_
           rintro e w1 ⟨rfl,hb1⟩
           have hb2:=HBW.out.trans (hb1.mono HBW.out.size)
           clear hg0 y0 y1 y2 y3 z0 hg5
           obtain⟨hg0,y0,y1,y2,y3⟩:=HCL.out w1 hb2
           obtain⟨hg5,z0,ho5⟩:=HZ.out w1 hb1
           have HB1:=Lib.hid hb2
           have HBR1:=Lib.hid hb1
           clear hb1 hb2 ho5)
         |(go_at_call 54
           refine(HCX.out _).mono ?_
           rintro e w4 ⟨rfl,hb4⟩
           have hb5:=HBR1.out.trans (hb4.mono HBR1.out.size)
           have hb6:=HB1.out.trans (hb4.mono HB1.out.size)
           clear hg0 y0 y1 y2 y3 z0 hg5
           obtain⟨hg0,y0,y1,y2,y3⟩:=HCL.out w4 hb6
           obtain⟨hg5,z0,ho5⟩:=HZ.out w4 hb5
           have HB4:=Lib.hid hb6
           have HO4:=Lib.hid ho5
           clear hb4 hb5 hb6 ho5))
        go_ret
        exact⟨by rw[←HPR.out];rfl,HB4.out⟩
       ·rw[if_neg hn]at hpr
        have hpos:0<st'.length:=List.length_pos_iff.2 hn
        have k3:((st'.length:Int)==0)=false:=by rw[beq_eq_false_iff_ne];omega
        have HPR:=Lib.hid hpr
        have HNE:=Lib.hid hn
        clear hpr hn hpos
        go_wp2_with (first
         |(go_at_call 53
           refine(HPX.out _).mono ?_
           rintro e w1 ⟨rfl,hb1⟩
           have hb2:=HBW.out.trans (hb1.mono HBW.out.size)
           clear hg0 y0 y1 y2 y3 z0 hg5
           obtain⟨hg0,y0,y1,y2,y3⟩:=HCL.out w1 hb2
           obtain⟨hg5,z0,ho5⟩:=HZ.out w1 hb1
           have HB1:=Lib.hid hb2
           have HBR1:=Lib.hid hb1
           clear hb1 hb2 ho5)
         |(go_at_call 54
           refine(HCX.out _).mono ?_
           rintro e w4 ⟨rfl,hb4⟩
           have hb5:=HBR1.out.trans (hb4.mono HBR1.out.size)
           have hb6:=HB1.out.trans (hb4.mono HB1.out.size)
           clear hg0 y0 y1 y2 y3 z0 hg5
           obtain⟨hg0,y0,y1,y2,y3⟩:=HCL.out w4 hb6
           obtain⟨hg5,z0,ho5⟩:=HZ.out w4 hb5
           have HB4:=Lib.hid hb6
           have HO4:=Lib.hid ho5
           clear hb4 hb5 hb6 ho5))
        go_roundw
        case rel=>exact⟨j+1,st',_,c5,by go_num,rfl,by omega,Lib.hid ⟨HO4.out,HB4.out,HPR.out,fun h=>absurd h HNE.out,by have :=HSL.out;omega⟩⟩
        case measure=>simp[RowKit.intOf];omega
      ·have k2:((bs x.s).toList==[93])=false:=by rw[bs_tl,beq_eq_false_iff_ne];exact hx
       rw[if_neg hx]at hpr
       have HPR:=Lib.hid hpr
       clear hpr ht hx
       go_wp2_with (first
        |(go_at_call 53
          refine(HPX.out _).mono ?_
          rintro e w1 ⟨rfl,hb1⟩
          have hb2:=HBW.out.trans (hb1.mono HBW.out.size)
          clear hg0 y0 y1 y2 y3 z0 hg5
          obtain⟨hg0,y0,y1,y2,y3⟩:=HCL.out w1 hb2
          obtain⟨hg5,z0,ho5⟩:=HZ.out w1 hb1
          have HB1:=Lib.hid hb2
          have HBR1:=Lib.hid hb1
          clear hb1 hb2 ho5)
        |(go_at_call 54
          refine(HCX.out _).mono ?_
          rintro e w4 ⟨rfl,hb4⟩
          have hb5:=HBR1.out.trans (hb4.mono HBR1.out.size)
          have hb6:=HB1.out.trans (hb4.mono HB1.out.size)
          clear hg0 y0 y1 y2 y3 z0 hg5
          obtain⟨hg0,y0,y1,y2,y3⟩:=HCL.out w4 hb6
          obtain⟨hg5,z0,ho5⟩:=HZ.out w4 hb5
          have HB4:=Lib.hid hb6
          have HO4:=Lib.hid ho5
          clear hb4 hb5 hb6 ho5))
       go_ret
       exact⟨by rw[←HPR.out];rfl,HB4.out⟩
     ·have k1:((bs t).toList==[91])=false:=by rw[bs_tl,beq_eq_false_iff_ne];exact ht
      rw[if_neg ht]at hpr
      by_cases hx:x.s=[41]
      ·have k2:((bs x.s).toList==[41])=true:=by rw[bs_tl,hx];rfl
       rw[if_pos hx]at hpr
       clear ht hx
       by_cases hn:st'=[]
       ·rw[if_pos hn]at hpr
        subst hn
        have HPR:=Lib.hid hpr
        clear hpr
        rw[List.length_nil]at *
        go_wp2_with (first
         |(go_at_call 53
           refine(HPX.out _).mono ?_
           rintro e w1 ⟨rfl,hb1⟩
           have hb2:=HBW.out.trans (hb1.mono HBW.out.size)
           clear hg0 y0 y1 y2 y3 z0 hg5
           obtain⟨hg0,y0,y1,y2,y3⟩:=HCL.out w1 hb2
           obtain⟨hg5,z0,ho5⟩:=HZ.out w1 hb1
           have HB1:=Lib.hid hb2
           have HBR1:=Lib.hid hb1
           clear hb1 hb2 ho5)
         |(go_at_call 54
           refine(HCX.out _).mono ?_
           rintro e w4 ⟨rfl,hb4⟩
           have hb5:=HBR1.out.trans (hb4.mono HBR1.out.size)
           have hb6:=HB1.out.trans (hb4.mono HB1.out.size)
           clear hg0 y0 y1 y2 y3 z0 hg5
           obtain⟨hg0,y0,y1,y2,y3⟩:=HCL.out w4 hb6
           obtain⟨hg5,z0,ho5⟩:=HZ.out w4 hb5
           have HB4:=Lib.hid hb6
           have HO4:=Lib.hid ho5
           clear hb4 hb5 hb6 ho5))
        go_ret
        exact⟨by rw[←HPR.out];rfl,HB4.out⟩
       ·rw[if_neg hn]at hpr
        have hpos:0<st'.length:=List.length_pos_iff.2 hn
        have k3:((st'.length:Int)==0)=false:=by rw[beq_eq_false_iff_ne];omega
        have HPR:=Lib.hid hpr
        have HNE:=Lib.hid hn
        clear hpr hn hpos
        go_wp2_with (first
         |(go_at_call 53
           refine(HPX.out _).mono ?_
           rintro e w1 ⟨rfl,hb1⟩
           have hb2:=HBW.out.trans (hb1.mono HBW.out.size)
           clear hg0 y0 y1 y2 y3 z0 hg5
           obtain⟨hg0,y0,y1,y2,y3⟩:=HCL.out w1 hb2
           obtain⟨hg5,z0,ho5⟩:=HZ.out w1 hb1
           have HB1:=Lib.hid hb2
           have HBR1:=Lib.hid hb1
           clear hb1 hb2 ho5)
         |(go_at_call 54
           refine(HCX.out _).mono ?_
           rintro e w4 ⟨rfl,hb4⟩
           have hb5:=HBR1.out.trans (hb4.mono HBR1.out.size)
           have hb6:=HB1.out.trans (hb4.mono HB1.out.size)
           clear hg0 y0 y1 y2 y3 z0 hg5
           obtain⟨hg0,y0,y1,y2,y3⟩:=HCL.out w4 hb6
           obtain⟨hg5,z0,ho5⟩:=HZ.out w4 hb5
           have HB4:=Lib.hid hb6
           have HO4:=Lib.hid ho5
           clear hb4 hb5 hb6 ho5))
        go_roundw
        case rel=>exact⟨j+1,st',_,c5,by go_num,rfl,by omega,Lib.hid ⟨HO4.out,HB4.out,HPR.out,fun h=>absurd h HNE.out,by have :=HSL.out;omega⟩⟩
        case measure=>simp[RowKit.intOf];omega
      ·have k2:((bs x.s).toList==[41])=false:=by rw[bs_tl,beq_eq_false_iff_ne];exact hx
       rw[if_neg hx]at hpr
       have HPR:=Lib.hid hpr
       clear hpr ht hx
       go_wp2_with (first
        |(go_at_call 53
          refine(HPX.out _).mono ?_
          rintro e w1 ⟨rfl,hb1⟩
          have hb2:=HBW.out.trans (hb1.mono HBW.out.size)
          clear hg0 y0 y1 y2 y3 z0 hg5
          obtain⟨hg0,y0,y1,y2,y3⟩:=HCL.out w1 hb2
          obtain⟨hg5,z0,ho5⟩:=HZ.out w1 hb1
          have HB1:=Lib.hid hb2
          have HBR1:=Lib.hid hb1
          clear hb1 hb2 ho5)
        |(go_at_call 54
          refine(HCX.out _).mono ?_
          rintro e w4 ⟨rfl,hb4⟩
          have hb5:=HBR1.out.trans (hb4.mono HBR1.out.size)
          have hb6:=HB1.out.trans (hb4.mono HB1.out.size)
          clear hg0 y0 y1 y2 y3 z0 hg5
          obtain⟨hg0,y0,y1,y2,y3⟩:=HCL.out w4 hb6
          obtain⟨hg5,z0,ho5⟩:=HZ.out w4 hb5
          have HB4:=Lib.hid hb6
          have HO4:=Lib.hid ho5
          clear hb4 hb5 hb6 ho5))
       go_ret
       exact⟨by rw[←HPR.out];rfl,HB4.out⟩
  ·have e:j=ts.length:=by omega
   subst e
   have hpr:=HI.out.2.2.1
   rw[List.drop_length,parI_end]at hpr
   have HPR:=Lib.hid hpr
   have HBW:=Lib.hid HI.out.2.1
   clear hpr HI
   go_wp2_with fail
   go_ret
   exact⟨by rw[←HPR.out];rfl,HBW.out⟩
end Char
end Go.Proofs.YtlmpkpjjakallaaGreatDoor
