import Derived.Test.YtlmpkpjjakallaaGreatDoorPt04
import Derived.Laws.StructEq
import Derived.Test.YtlmpkpjjakallaaGreatDoorPt06
import Derived.Laws.EntriesVeiled
namespace Go.Proofs.YtlmpkpjjakallaaGreatDoor
namespace Char
open Go.RowKit Go.Lib
theorem eq_dec (a b c d:Int)(w:World):(binOp .eql 24 (.agg #[.int .i64 a,.int .i64 b]) (.agg #[.int .i64 c,.int .i64 d])).run Tryz.prog w= .ok (.bool (decide (a=c∧b=d))) w:=by
 have u9:=Tryz.underlying3
 have u8:=Tryz.underlying2
 have a9:=Tryz.isAgg3
 have a8:=Tryz.isAgg2
 have z9:=Tryz.sizeOf3
 have z8:=Tryz.sizeOf2
 have hS:Tryz.prog.underlying 24=some (.struct (Tryz.prog.fieldsOf 24)):=by kernel_rfl
 have hp:Tryz.prog.stoodInHeld 24=false:=by kernel_rfl
 rw[run_eql_struct,show(10000:Nat)=9999+1 from rfl,run_equalIn_agg w 9999 24 _ _ hS hp]
 simp only[Program.fieldsOf,Tryz.underlying24]
 by_cases h1:a=c
 ·by_cases h2:b=d
  ·subst h1 h2;go_simp
  ·subst h1;go_simp
 ·go_simp
theorem ne_dec (a b c d:Int)(w:World):(binOp .neq 24 (.agg #[.int .i64 a,.int .i64 b]) (.agg #[.int .i64 c,.int .i64 d])).run Tryz.prog w= .ok (.bool (!decide (a=c∧b=d))) w:=by
 have u9:=Tryz.underlying3
 have u8:=Tryz.underlying2
 have a9:=Tryz.isAgg3
 have a8:=Tryz.isAgg2
 have z9:=Tryz.sizeOf3
 have z8:=Tryz.sizeOf2
 have hS:Tryz.prog.underlying 24=some (.struct (Tryz.prog.fieldsOf 24)):=by kernel_rfl
 have hp:Tryz.prog.stoodInHeld 24=false:=by kernel_rfl
 rw[run_neq_struct,show(10000:Nat)=9999+1 from rfl,run_equalIn_agg w 9999 24 _ _ hS hp]
 simp only[Program.fieldsOf,Tryz.underlying24]
 by_cases h1:a=c
 ·by_cases h2:b=d
  ·subst h1 h2;go_simp
  ·subst h1;go_simp
 ·go_simp
theorem eq_tst (a c:Int)(n m:List UInt8)(h k:Bool)(w:World):(binOp .eql 60 (.agg #[.int .i64 a,.string (bs n),.bool h]) (.agg #[.int .i64 c,.string (bs m),.bool k])).run Tryz.prog w= .ok (.bool (decide (a=c∧n=m∧h=k))) w:=by
 have u9:=Tryz.underlying3
 have u8:=Tryz.underlying9
 have u7:=Tryz.underlying4
 have a9:=Tryz.isAgg3
 have a8:=Tryz.isAgg9
 have a7:=Tryz.isAgg4
 have z9:=Tryz.sizeOf3
 have z8:=Tryz.sizeOf9
 have z7:=Tryz.sizeOf4
 have hS:Tryz.prog.underlying 60=some (.struct (Tryz.prog.fieldsOf 60)):=by kernel_rfl
 have hp:Tryz.prog.stoodInHeld 60=false:=by kernel_rfl
 rw[run_eql_struct,show(10000:Nat)=9999+1 from rfl,run_equalIn_agg w 9999 60 _ _ hS hp]
 simp only[Program.fieldsOf,Tryz.underlying60]
 by_cases h1:a=c
 ·by_cases h2:n=m
  ·by_cases h3:h=k
   ·subst h1 h2 h3;go_simp
   ·subst h1 h2;go_simp
  ·subst h1;go_simp;simp[bs_tl,h2]
 ·go_simp
theorem ne_tst (a c:Int)(n m:List UInt8)(h k:Bool)(w:World):(binOp .neq 60 (.agg #[.int .i64 a,.string (bs n),.bool h]) (.agg #[.int .i64 c,.string (bs m),.bool k])).run Tryz.prog w= .ok (.bool (!decide (a=c∧n=m∧h=k))) w:=by
 have u9:=Tryz.underlying3
 have u8:=Tryz.underlying9
 have u7:=Tryz.underlying4
 have a9:=Tryz.isAgg3
 have a8:=Tryz.isAgg9
 have a7:=Tryz.isAgg4
 have z9:=Tryz.sizeOf3
 have z8:=Tryz.sizeOf9
 have z7:=Tryz.sizeOf4
 have hS:Tryz.prog.underlying 60=some (.struct (Tryz.prog.fieldsOf 60)):=by kernel_rfl
 have hp:Tryz.prog.stoodInHeld 60=false:=by kernel_rfl
 rw[run_neq_struct,show(10000:Nat)=9999+1 from rfl,run_equalIn_agg w 9999 60 _ _ hS hp]
 simp only[Program.fieldsOf,Tryz.underlying60]
 by_cases h1:a=c
 ·by_cases h2:n=m
  ·by_cases h3:h=k
   ·subst h1 h2 h3;go_simp
   ·subst h1 h2;go_simp
  ·subst h1;go_simp;simp[bs_tl,h2]
 ·go_simp
theorem guard_dec (op:BinOp)(x y:Operand)(xs ys:Array Value)(w:World):(eqGuard op 24 x y (.agg xs) (.agg ys)).run Tryz.prog w= .ok () w:=
 run_eqGuard_agg w op 24 x y _ _ (by kernel_rfl)
theorem guard_tst (op:BinOp)(x y:Operand)(xs ys:Array Value)(w:World):(eqGuard op 60 x y (.agg xs) (.agg ys)).run Tryz.prog w= .ok () w:=
 run_eqGuard_agg w op 60 x y _ _ (by kernel_rfl)
end Char
namespace Char
open Go.RowKit Go.Lib
def exsC (xs:List (Ex×Value×Value)):List Value:=xs.flatMap fun x=>exC x.1 x.2.1 x.2.2
theorem exsC_snoc (xs:List (Ex×Value×Value))(x:Ex×Value×Value):exsC (xs++[x])=exsC xs++exC x.1 x.2.1 x.2.2:=by simp[exsC]
theorem exsC_app (xs ys:List (Ex×Value×Value)):exsC (xs++ys)=exsC xs++exsC ys:=by simp[exsC]
theorem exsC_len:∀(xs:List (Ex×Value×Value)),(exsC xs).length=xs.length*7
 |[]=>rfl
 |x::r=>by
  show(exC x.1 x.2.1 x.2.2++exsC r).length=(r.length+1)*7
  rw[List.length_append,exsC_len r]
  show 7+r.length*7=_
  omega
theorem exsC_at:∀(xs:List (Ex×Value×Value)) (k i:Nat) (h:k<xs.length) (_:i<7),(exsC xs)[k*7+i]? =(exC xs[k].1 xs[k].2.1 xs[k].2.2)[i]?
 |[],k,_,h,_=>by simp at h
 |x::r,0,i,_,hi=>by
  show(exC x.1 x.2.1 x.2.2++exsC r)[0*7+i]? =_
  rw[show 0*7+i=i by omega,List.getElem?_append_left (by show i<7;exact hi)]
  rfl
 |x::r,k+1,i,h,hi=>by
  have ih:=exsC_at r k i (by simpa using h) hi
  show(exC x.1 x.2.1 x.2.2++exsC r)[(k+1)*7+i]? =_
  rw[List.getElem?_append_right (by show 7≤_;omega),show(k+1)*7+i-(exC x.1 x.2.1 x.2.2).length=k*7+i by show(k+1)*7+i-7=_;omega,ih]
  rfl
def RowEx (B:Nat)(w:World)(v:Value)(xs:List (Ex×Value×Value)):Prop:=
 w.ownsRow B 28 7 v xs.length (exsC xs)∧∀x∈xs,ExOn w (fun b=>B≤b∧v.ownBlock≠some b) x.1 x.2.1 x.2.2
theorem RowEx.nil (B:Nat)(w:World):RowEx B w (.slice none 0 0) []:=⟨World.ownsRow_nil _ _ _ _,fun _ h=>by cases h⟩
theorem RowEx.blk {B:Nat}{w:World}{v:Value}{xs:List (Ex×Value×Value)}(h:RowEx B w v xs){g:Nat}(hg:v.ownBlock=some g):B≤g∧g<w.heap.size:=World.ownsRow.lt h.1 g hg
theorem RowEx.form {B:Nat}{w:World}{v:Value}{xs:List (Ex×Value×Value)}(h:RowEx B w v xs):∃o j,v= .slice o xs.length j:=by
 rcases h.1.2 with⟨h0,h1⟩|⟨g,cap,cur,e1,_⟩
 ·exact⟨none,0,by rw[h0,←h1]⟩
 ·exact⟨_,_,e1⟩
theorem RowEx.keep {B:Nat}{w w':World}{v:Value}{xs:List (Ex×Value×Value)}(h:RowEx B w v xs)(hk:∀b,B≤b→b<w.heap.size→w'.heap[b]? =w.heap[b]?):RowEx B w' v xs:=by
 refine⟨⟨h.1.1,?_⟩,fun x hx=>ExOn.move (fun b hb hF=>⟨hF,hk b hF.1 hb⟩) _ _ _ (h.2 x hx)⟩
 rcases h.1.2 with h0|⟨g,cap,cur,e1,e2,hg,e3⟩
 ·exact .inl h0
 ·exact .inr ⟨g,cap,cur,e1,e2,(hk g e2 (h.blk (g:=g) (by rw[e1];rfl)).2).trans hg,e3⟩
theorem RowEx.but {R B:Nat}{w w':World}{v:Value}{xs:List (Ex×Value×Value)}(h:RowEx B w v xs)(hb:But R w w')(hR:R<B):RowEx B w' v xs:=
 h.keep fun b h1 h2=>hb.2 b h2 (by omega)
theorem RowEx.below {B:Nat}{w w':World}{v:Value}{xs:List (Ex×Value×Value)}(h:RowEx B w v xs)(hb:Below w.heap.size w w'):RowEx B w' v xs:=
 h.keep fun b _ h2=>hb.block b h2
theorem RowEx.on {B:Nat}{w:World}{v:Value}{xs:List (Ex×Value×Value)}(h:RowEx B w v xs):KdOn w (B≤ ·) v (xs.map (·.1)):=by
 have h0:=h.1
 rcases h.1.2 with⟨h1,h2⟩|⟨g,cap,cur,e1,e2,hg,e3⟩
 ·have :xs=[]:=List.length_eq_zero_iff.1 h2
  subst this
  rw[h1]
  exact KdOn.nil _ _
 ·have hc:=World.ownsRow.cells h0 (g:=g) (by rw[e1];rfl)
  refine⟨some ⟨g,0,none⟩,cap,by rw[e1,List.length_map],.inr ⟨g,0,rfl,⟨e2,by simpa using e3.1⟩,KsOn.of fun k hk=> ?_⟩⟩
  have hk':k<xs.length:=by simpa using hk
  refine⟨xs[k].2.1,xs[k].2.2,?_,?_⟩
  ·rw[List.getElem_map]
   intro i u hu
   have hi:i<7:=by
    have :=(List.getElem?_eq_some_iff.1 hu).1
    exact this
   have :=hc (k*7+i) u ((exsC_at xs k i hk' hi).trans hu)
   rw[Addr.add_lit]at this
   rwa [show 0+k*7+i=0+(k*7+i) by omega]
  ·rw[List.getElem_map]
   exact ExOn.move (fun _ _ hF=>⟨hF.1,rfl⟩) _ _ _ (h.2 _ (List.getElem_mem hk'))
theorem info_ex:(Tryz.prog.info? 28).map (fun i=>(i.zero,i.size,i.bytes))=some (some (.agg #[.int .i64 0,.string ⟨#[]⟩,.int .i64 0,.int .i64 0,.bool false,.slice none 0 0,.slice none 0 0]),7,96):=by kernel_rfl
theorem wpList_pushEx {ops:Array Oper}{rest:List Oper}{o:Oper}{a:Act}{Q:Exit→Act→World→Prop}{B:Nat}{W:World}{v:Value}{xs:List (Ex×Value×Value)}
 (hgd:o.guard=none) (s x:Operand) (ho:o.op= .call {callee:= .builtin .append,args:= #[s,x],argTypes:= #[25,25]})
 (y:Ex) (vk vs:Value) (hown:RowEx B W v xs) (hy:ExOn W (fun b=>B≤b∧v.ownBlock≠some b) y vk vs) (hs:a.eval s=v) (hx:a.eval x= .slice (some ⟨W.heap.size,0,none⟩) 1 1) (hB:B≤W.heap.size) (hlen:xs.length≤1000)
 (h:∀v' w1,RowEx B w1 v' (xs++[(y,vk,vs)])→Below B W w1→wpList Tryz.prog ops Q rest (a.put o.dst v') w1):
 wpList Tryz.prog ops Q (o::rest) a (W.alloc (.cells #[.int .i64 y.op,.string (bs y.s),.int .i64 y.tg,.int .i64 y.vl,.bool y.abs,vk,vs] 28)):=by
 refine wpList_push info_ex Tryz.underlying25 rfl (by decide) (by decide) hgd s x ho (exC y vk vs) rfl ?_ hown.1 hs hx hB (by omega) fun v' w1 h1 h2 h3 h4=> ?_
 ·intro u hu
  obtain⟨⟨o1,j1,rfl,_⟩,⟨o2,j2,rfl,_⟩⟩:=ExOn.iff.1 hy
  simp[exC]at hu
  rcases hu with rfl|rfl|rfl|rfl|rfl|rfl|rfl<;>rfl
 ·refine h v' w1 ⟨?_,fun z hz=> ?_⟩ h2
  ·rw[List.length_append,exsC_snoc]
   exact h1
  ·have hmv:∀b,b<W.heap.size→(B≤b∧v.ownBlock≠some b)→(B≤b∧v'.ownBlock≠some b)∧w1.heap[b]? =W.heap[b]? :=fun b hb hF=>by
    refine⟨⟨hF.1,fun hv=> ?_⟩,h3 b hb (fun e=>hF.2 e.symm)⟩
    rcases h4 b hv with h5|h5
    ·exact hF.2 h5
    ·omega
   rw[List.mem_append,List.mem_singleton]at hz
   rcases hz with hz|rfl
   ·exact ExOn.move hmv _ _ _ (hown.2 z hz)
   ·exact ExOn.move hmv _ _ _ hy
theorem RowEx.one {B:Nat}{W:World}(y:Ex)(vk vs:Value)(hy:ExOn W (B≤ ·) y vk vs)(hB:B≤W.heap.size):
 RowEx B (W.alloc (.cells #[.int .i64 y.op,.string (bs y.s),.int .i64 y.tg,.int .i64 y.vl,.bool y.abs,vk,vs] 28)) (.slice (some ⟨W.heap.size,0,none⟩) 1 1) [(y,vk,vs)]:=by
 refine⟨⟨rfl,.inr ⟨W.heap.size,1,_,rfl,hB,World.alloc_heap_new W _,Nat.le_refl _,by unfold maxLen;omega,rfl,rfl⟩⟩,fun z hz=> ?_⟩
 rw[List.mem_singleton]at hz
 subst hz
 refine ExOn.move (fun b hb hF=>⟨⟨hF,?_⟩,Below.heap_alloc W _ b hb⟩) _ _ _ hy
 simp only[Value.ownBlock,ne_eq,Option.some.injEq]
 omega
def stsC (xs:List (St×Value)):List Value:=xs.flatMap fun x=>stpC x.1 x.2
theorem stsC_snoc (xs:List (St×Value))(x:St×Value):stsC (xs++[x])=stsC xs++stpC x.1 x.2:=by simp[stsC]
theorem stsC_app (xs ys:List (St×Value)):stsC (xs++ys)=stsC xs++stsC ys:=by simp[stsC]
theorem stsC_len:∀(xs:List (St×Value)),(stsC xs).length=xs.length*5
 |[]=>rfl
 |x::r=>by
  show(stpC x.1 x.2++stsC r).length=(r.length+1)*5
  rw[List.length_append,stsC_len r]
  show 5+r.length*5=_
  omega
theorem stsC_at:∀(xs:List (St×Value)) (k i:Nat) (h:k<xs.length) (_:i<5),(stsC xs)[k*5+i]? =(stpC xs[k].1 xs[k].2)[i]?
 |[],k,_,h,_=>by simp at h
 |x::r,0,i,_,hi=>by
  show(stpC x.1 x.2++stsC r)[0*5+i]? =_
  rw[show 0*5+i=i by omega,List.getElem?_append_left (by show i<5;exact hi)]
  rfl
 |x::r,k+1,i,h,hi=>by
  have ih:=stsC_at r k i (by simpa using h) hi
  show(stpC x.1 x.2++stsC r)[(k+1)*5+i]? =_
  rw[List.getElem?_append_right (by show 5≤_;omega),show(k+1)*5+i-(stpC x.1 x.2).length=k*5+i by show(k+1)*5+i-5=_;omega,ih]
  rfl
def RowSt (B:Nat)(w:World)(v:Value)(xs:List (St×Value)):Prop:=
 w.ownsRow B 62 5 v xs.length (stsC xs)∧∀x∈xs,StOn w (fun b=>B≤b∧v.ownBlock≠some b) x.1 x.2
theorem RowSt.nil (B:Nat)(w:World):RowSt B w (.slice none 0 0) []:=⟨World.ownsRow_nil _ _ _ _,fun _ h=>by cases h⟩
theorem RowSt.blk {B:Nat}{w:World}{v:Value}{xs:List (St×Value)}(h:RowSt B w v xs){g:Nat}(hg:v.ownBlock=some g):B≤g∧g<w.heap.size:=World.ownsRow.lt h.1 g hg
theorem RowSt.form {B:Nat}{w:World}{v:Value}{xs:List (St×Value)}(h:RowSt B w v xs):∃o j,v= .slice o xs.length j:=by
 rcases h.1.2 with⟨h0,h1⟩|⟨g,cap,cur,e1,_⟩
 ·exact⟨none,0,by rw[h0,←h1]⟩
 ·exact⟨_,_,e1⟩
theorem RowSt.keep {B:Nat}{w w':World}{v:Value}{xs:List (St×Value)}(h:RowSt B w v xs)(hk:∀b,B≤b→b<w.heap.size→w'.heap[b]? =w.heap[b]?):RowSt B w' v xs:=by
 refine⟨⟨h.1.1,?_⟩,fun x hx=>StOn.move (fun b hb hF=>⟨hF,hk b hF.1 hb⟩) _ _ (h.2 x hx)⟩
 rcases h.1.2 with h0|⟨g,cap,cur,e1,e2,hg,e3⟩
 ·exact .inl h0
 ·exact .inr ⟨g,cap,cur,e1,e2,(hk g e2 (h.blk (g:=g) (by rw[e1];rfl)).2).trans hg,e3⟩
theorem RowSt.but {R B:Nat}{w w':World}{v:Value}{xs:List (St×Value)}(h:RowSt B w v xs)(hb:But R w w')(hR:R<B):RowSt B w' v xs:=
 h.keep fun b h1 h2=>hb.2 b h2 (by omega)
theorem RowSt.below {B:Nat}{w w':World}{v:Value}{xs:List (St×Value)}(h:RowSt B w v xs)(hb:Below w.heap.size w w'):RowSt B w' v xs:=
 h.keep fun b _ h2=>hb.block b h2
theorem RowSt.on {B:Nat}{w:World}{v:Value}{xs:List (St×Value)}(h:RowSt B w v xs):SdOn w (B≤ ·) v (xs.map (·.1)):=by
 have h0:=h.1
 rcases h.1.2 with⟨h1,h2⟩|⟨g,cap,cur,e1,e2,hg,e3⟩
 ·have :xs=[]:=List.length_eq_zero_iff.1 h2
  subst this
  rw[h1]
  exact SdOn.nil _ _
 ·have hc:=World.ownsRow.cells h0 (g:=g) (by rw[e1];rfl)
  refine⟨some ⟨g,0,none⟩,cap,by rw[e1,List.length_map],.inr ⟨g,0,rfl,⟨e2,by simpa using e3.1⟩,SsOn.of fun k hk=> ?_⟩⟩
  have hk':k<xs.length:=by simpa using hk
  refine⟨xs[k].2,?_,?_⟩
  ·rw[List.getElem_map]
   intro i u hu
   have hi:i<5:=by
    have :=(List.getElem?_eq_some_iff.1 hu).1
    exact this
   have :=hc (k*5+i) u ((stsC_at xs k i hk' hi).trans hu)
   rw[Addr.add_lit]at this
   rwa [show 0+k*5+i=0+(k*5+i) by omega]
  ·rw[List.getElem_map]
   exact StOn.move (fun _ _ hF=>⟨hF.1,rfl⟩) _ _ (h.2 _ (List.getElem_mem hk'))
theorem info_st:(Tryz.prog.info? 62).map (fun i=>(i.zero,i.size,i.bytes))=some (some (.agg #[.int .i64 0,.int .i64 0,.string ⟨#[]⟩,.bool false,.slice none 0 0]),5,64):=by kernel_rfl
theorem wpList_pushSt {ops:Array Oper}{rest:List Oper}{o:Oper}{a:Act}{Q:Exit→Act→World→Prop}{B:Nat}{W:World}{v:Value}{xs:List (St×Value)}
 (hgd:o.guard=none) (s x:Operand) (ho:o.op= .call {callee:= .builtin .append,args:= #[s,x],argTypes:= #[26,26]})
 (y:St) (vp:Value) (hown:RowSt B W v xs) (hy:StOn W (fun b=>B≤b∧v.ownBlock≠some b) y vp) (hs:a.eval s=v) (hx:a.eval x= .slice (some ⟨W.heap.size,0,none⟩) 1 1) (hB:B≤W.heap.size) (hlen:xs.length≤1000)
 (h:∀v' w1,RowSt B w1 v' (xs++[(y,vp)])→Below B W w1→wpList Tryz.prog ops Q rest (a.put o.dst v') w1):
 wpList Tryz.prog ops Q (o::rest) a (W.alloc (.cells #[.int .i64 y.ax,.int .i64 y.tk,.string (bs y.nm),.bool y.has,vp] 62)):=by
 refine wpList_push info_st Tryz.underlying26 rfl (by decide) (by decide) hgd s x ho (stpC y vp) rfl ?_ hown.1 hs hx hB (by omega) fun v' w1 h1 h2 h3 h4=> ?_
 ·intro u hu
  obtain⟨o1,j1,rfl,_⟩:=StOn.iff.1 hy
  simp[stpC]at hu
  rcases hu with rfl|rfl|rfl|rfl|rfl<;>rfl
 ·refine h v' w1 ⟨?_,fun z hz=> ?_⟩ h2
  ·rw[List.length_append,stsC_snoc]
   exact h1
  ·have hmv:∀b,b<W.heap.size→(B≤b∧v.ownBlock≠some b)→(B≤b∧v'.ownBlock≠some b)∧w1.heap[b]? =W.heap[b]? :=fun b hb hF=>by
    refine⟨⟨hF.1,fun hv=> ?_⟩,h3 b hb (fun e=>hF.2 e.symm)⟩
    rcases h4 b hv with h5|h5
    ·exact hF.2 h5
    ·omega
   rw[List.mem_append,List.mem_singleton]at hz
   rcases hz with hz|rfl
   ·exact StOn.move hmv _ _ (hown.2 z hz)
   ·exact StOn.move hmv _ _ hy
theorem RowSt.one {B:Nat}{W:World}(y:St)(vp:Value)(hy:StOn W (B≤ ·) y vp)(hB:B≤W.heap.size):
 RowSt B (W.alloc (.cells #[.int .i64 y.ax,.int .i64 y.tk,.string (bs y.nm),.bool y.has,vp] 62)) (.slice (some ⟨W.heap.size,0,none⟩) 1 1) [(y,vp)]:=by
 refine⟨⟨rfl,.inr ⟨W.heap.size,1,_,rfl,hB,World.alloc_heap_new W _,Nat.le_refl _,by unfold maxLen;omega,rfl,rfl⟩⟩,fun z hz=> ?_⟩
 rw[List.mem_singleton]at hz
 subst hz
 refine StOn.move (fun b hb hF=>⟨⟨hF,?_⟩,Below.heap_alloc W _ b hb⟩) _ _ hy
 simp only[Value.ownBlock,ne_eq,Option.some.injEq]
 omega
end Char
namespace Char
open Go.RowKit Go.Lib
open Go.Proofs.YtlmpkpjjakallaaGreatDoor.Fig (outT outV)
def WdsAt (w:World)(g off:Nat)(ts:List Wd):Prop:=∀k (h:k<ts.length),∀i u,(wdC ts[k])[i]? =some u→w.cell? ⟨g,off+k*4+i,none⟩=some u
theorem WdsAt.tail {w:World}{g off:Nat}{x:Wd}{ts:List Wd}(h:WdsAt w g off (x::ts)):WdsAt w g (off+4) ts:=fun k hk i u hu=>by
 have :=h (k+1) (by simpa using hk) i u (by simpa using hu)
 rwa [show off+(k+1)*4+i=off+4+k*4+i by omega]at this
theorem WdsAt.head {w:World}{g off:Nat}{x:Wd}{ts:List Wd}(h:WdsAt w g off (x::ts)):w.cell? ⟨g,off,none⟩=some (.int .i64 (x.k:Int))∧w.cell? ⟨g,off+1,none⟩=some (.string (bs x.s))∧w.cell? ⟨g,off+2,none⟩=some (.int .i64 (outT x.n))∧w.cell? ⟨g,off+3,none⟩=some (.int .i64 (outV x.n)):=by
 have h0:=h 0 (by simp)
 simp only[Nat.zero_mul,Nat.add_zero,List.getElem_cons_zero]at h0
 exact⟨h0 0 _ rfl,h0 1 _ rfl,h0 2 _ rfl,h0 3 _ rfl⟩
theorem WdsAt.move {w w':World}{g off:Nat}{ts:List Wd}(h:WdsAt w g off ts)(hb:w'.heap[g]? =w.heap[g]?):WdsAt w' g off ts:=fun k hk i u hu=>
 (World.cell?_of_block (w:=w) (w':=w') (a:=⟨g,off+k*4+i,none⟩) hb).trans (h k hk i u hu)
def LfB (R:Nat)(ts:List Wd)(w:World):Prop:=∃o c,w.cell? ⟨R,0,none⟩=some (.slice o ts.length c)∧w.frozen? ⟨R,0,none⟩=false∧R<w.heap.size∧ts.length≤c∧
 (ts=[]∨∃g off,o=some ⟨g,off,none⟩∧g<R∧WdsAt w g off ts)
theorem LfB.lt {R:Nat}{ts:List Wd}{w:World}(h:LfB R ts w):R<w.heap.size:=by
 obtain⟨_,_,_,_,h,_⟩:=h
 exact h
theorem LfB.below {R:Nat}{ts:List Wd}{w w':World}(h:LfB R ts w)(hb:Below w.heap.size w w'):LfB R ts w':=by
 obtain⟨o,c,h1,h2,h3,h4,h5⟩:=h
 refine⟨o,c,(hb.cell (p:=⟨R,0,none⟩) h3).trans h1,(hb.frozen (p:=⟨R,0,none⟩) h3).trans h2,Nat.lt_of_lt_of_le h3 hb.size,h4,?_⟩
 rcases h5 with h5|⟨g,off,e1,e2,e4⟩
 ·exact .inl h5
 ·exact .inr ⟨g,off,e1,e2,e4.move (hb.block g (Nat.lt_trans e2 h3))⟩
theorem LfB.keep {R:Nat}{ts:List Wd}{w w':World}(h:LfB R ts w)(hk:∀k,k≤R→w'.heap[k]? =w.heap[k]?)(hs:w.heap.size≤w'.heap.size):LfB R ts w':=by
 obtain⟨o,c,h1,h2,h3,h4,h5⟩:=h
 have hR:=hk R (Nat.le_refl _)
 refine⟨o,c,(World.cell?_of_block (w:=w) (a:=⟨R,0,none⟩) hR).trans h1,(World.frozen?_of_block (w:=w) (a:=⟨R,0,none⟩) hR).trans h2,Nat.lt_of_lt_of_le h3 hs,h4,?_⟩
 rcases h5 with h5|⟨g,off,e1,e2,e4⟩
 ·exact .inl h5
 ·exact .inr ⟨g,off,e1,e2,e4.move (hk g (Nat.le_of_lt e2))⟩
set_option maxRecDepth 100000 in
theorem word_size (wx:World):((sizeOf (Tryz.prog.elem 38)).run Tryz.prog wx)= .ok 4 wx:=by kernel_rfl
theorem word_under:Tryz.prog.underlying 38=some (.slice (Tryz.prog.elem 38)):=by kernel_rfl
theorem LfB.cons {R:Nat}{x:Wd}{ts:List Wd}{w:World}(h:LfB R (x::ts) w):∃g off c,w.cell? ⟨R,0,none⟩=some (.slice (some ⟨g,off,none⟩) (ts.length+1) c)∧w.frozen? ⟨R,0,none⟩=false∧
 (w.cell? ⟨g,off,none⟩=some (.int .i64 (x.k:Int))∧w.cell? ⟨g,off+1,none⟩=some (.string (bs x.s))∧w.cell? ⟨g,off+2,none⟩=some (.int .i64 (outT x.n))∧w.cell? ⟨g,off+3,none⟩=some (.int .i64 (outV x.n)))∧
 ∃o',(∀wx,(Instr.slice 38 (.slice (some ⟨g,off,none⟩) (ts.length+1) c) (some (.int .i64 1)) none none).run Tryz.prog wx= .ok (.slice o' ts.length (c-1)) wx)∧
  LfB R ts (w.setCell ⟨R,0,none⟩ (.slice o' ts.length (c-1))):=by
 obtain⟨o,c,h1,h2,h3,h4,h5⟩:=h
 rcases h5 with h5|⟨g,off,rfl,e2,e4⟩
 ·cases h5
 ·rw[List.length_cons]at h4
  have hlt:R<w.heap.size:=h3
  have q1:∀z,(w.setCell ⟨R,0,none⟩ z).cell? ⟨R,0,none⟩=some z:=fun z=>by go_simp
  have q2:∀z,(w.setCell ⟨R,0,none⟩ z).frozen? ⟨R,0,none⟩=false:=fun z=>by go_simp
  have q3:∀z,(w.setCell ⟨R,0,none⟩ z).heap.size=w.heap.size:=fun z=>by go_simp
  obtain⟨o',ho'⟩:∃o',o'=if c=1 then some (⟨g,off,none⟩:Addr) else some ⟨g,off+4,none⟩:=⟨_,rfl⟩
  refine⟨g,off,c,h1,h2,e4.head,o',fun wx=> ?_,?_⟩
  ·have hz:=word_size wx
   have :=run_slice_l (P:=Tryz.prog) wx 38 (some ⟨g,off,none⟩) (ts.length+1) c word_under .i64 1 (by omega) (by omega)
   rw[this,hz]
   simp only[Result.andThen,sliced]
   rw[ho']
   by_cases hc:c=1
   ·rw[hc]
    simp
   ·simp[hc,Addr.add]
  ·refine⟨_,c-1,q1 _,q2 _,by rw[q3];exact h3,by omega,?_⟩
   cases ts with
   |nil=>exact .inl rfl
   |cons y r=>
    have hc:¬c=1:=by rw[List.length_cons]at h4;omega
    rw[if_neg hc]at ho'
    exact .inr ⟨g,off+4,ho',e2,(WdsAt.tail e4).move (Below.heap_setCell _ _ _ _ (by show g≠R;omega))⟩
theorem LfB.nil {R:Nat}{w:World}(h:LfB R [] w):∃o c,w.cell? ⟨R,0,none⟩=some (.slice o 0 c)∧w.frozen? ⟨R,0,none⟩=false:=by
 obtain⟨o,c,h1,h2,_⟩:=h
 exact⟨o,c,h1,h2⟩
def atL (k:Int):List Wd→Bool
 |[]=>false
 |x::_=>(x.k:Int)==k
def aheadL (k:Int)(m:List UInt8):List Wd→Bool
 |[]=>false
 |x::_=>if (x.k:Int)==k then x.s==m else false
set_option maxHeartbeats 2000000 in
theorem at_any (R:Nat)(k:Int)(ts:List Wd)(w:World)(h:LfB R ts w):
 Calls Tryz.prog 214 #[.pointer (some ⟨R,0,none⟩),.int .i64 k] w fun e w'=>e= .returned (.bool (atL k ts))∧w'=w:=by
 cases ts with
 |nil=>
  obtain⟨o,c,h1,h2⟩:=h.nil
  clear h
  go_enter Tryz.func214,Tryz.ntmps214
  go_wp2_with fail
  go_ret
  exact⟨rfl,rfl⟩
 |cons x r=>
  obtain⟨g,off,c,h1,h2,⟨x0,_⟩,_⟩:=h.cons
  clear h
  simp only[atL]
  have k0:decide ((0:Int)<((r.length+1:Nat):Int))=true:=decide_eq_true (by omega)
  generalize (x.k:Int)=c0 at *
  generalize r.length+1=n at *
  have k1:decide (0<n)=true:=decide_eq_true (by have :=of_decide_eq_true k0;omega)
  have k2:(0:Int)<(n:Int):=of_decide_eq_true k0
  clear k0
  go_enter Tryz.func214,Tryz.ntmps214
  go_wp2_with fail
  go_ret
  exact⟨rfl,rfl⟩
end Char
namespace Char
open Go.RowKit Go.Lib
open Go.Proofs.YtlmpkpjjakallaaGreatDoor.Fig (outT outV)
def pan31:Ending:= .panicked [{v:= .iface 29 (.int .i64 31),recovered:=false}]
def TkP (R:Nat)(v:Value)(ts:List Wd)(w:World)(e:Ending)(w':World):Prop:=e= .returned v∧LfB R ts w'∧But R w w'
def PaP (R:Nat)(w:World)(e:Ending)(w':World):Prop:=e=pan31∧But R w w'
set_option maxHeartbeats 2000000 in
theorem ahead_any (R:Nat)(k:Int)(m:List UInt8)(ts:List Wd)(w:World)(h:LfB R ts w):
 Calls Tryz.prog 196 #[.pointer (some ⟨R,0,none⟩),.int .i64 k,.string (bs m)] w fun e w'=>e= .returned (.bool (aheadL k m ts))∧w'=w:=by
 have HA:=Lib.hid (at_any R k ts w h)
 cases ts with
 |nil=>
  simp only[atL]at HA
  simp only[aheadL]
  clear h
  go_enter Tryz.func196,Tryz.ntmps196
  go_wp2_with (first
   |(go_at_call 214
     refine HA.out.mono ?_
     rintro e w1 ⟨rfl,rfl⟩))
  go_ret
  exact⟨rfl,rfl⟩
 |cons x r=>
  obtain⟨g,off,c,h1,h2,⟨_,x1,_⟩,_⟩:=h.cons
  clear h
  simp only[atL]at HA
  simp only[aheadL]
  have k2:(0:Int)<((r.length+1:Nat):Int):=by omega
  generalize ((x.k:Int)==k)=b at *
  generalize r.length+1=n at *
  have k3:((bs x.s).toList==(bs m).toList)=(x.s==m):=by rw[bs_tl,bs_tl]
  generalize (x.s==m)=b2 at *
  generalize bs x.s=S at *
  generalize bs m=M at *
  cases b
  all_goals
   go_enter Tryz.func196,Tryz.ntmps196
   go_wp2_with (first
    |(go_at_call 214
      refine HA.out.mono ?_
      rintro e w1 ⟨rfl,rfl⟩))
   go_ret
   exact⟨rfl,rfl⟩
def takeL (k:Int)(m:List UInt8)(ts:List Wd):List Wd:=if aheadL k m ts then ts.tail else ts
set_option maxHeartbeats 2000000 in
theorem take_any (R:Nat)(k:Int)(m:List UInt8)(ts:List Wd)(w:World)(h:LfB R ts w):
 Calls Tryz.prog 180 #[.pointer (some ⟨R,0,none⟩),.int .i64 k,.string (bs m)] w (TkP R (.bool (aheadL k m ts)) (takeL k m ts) w):=by
 have HA:=Lib.hid (ahead_any R k m ts w h)
 unfold takeL
 cases hb:aheadL k m ts with
 |false=>
  rw[hb]at HA
  have HL:=Lib.hid h
  rw[if_neg (by simp)]
  clear h hb
  unfold TkP
  go_enter Tryz.func180,Tryz.ntmps180
  go_wp2_with (first
   |(go_at_call 196
     refine HA.out.mono ?_
     rintro e w1 ⟨rfl,rfl⟩))
  go_ret
  exact⟨rfl,HL.out,But.refl _ _⟩
 |true=>
  rw[hb]at HA
  rw[if_pos rfl]
  cases ts with
  |nil=>cases hb
  |cons x r=>
   obtain⟨g,off,c,h1,h2,_,o',hs,h3⟩:=h.cons
   have hlt:=h.lt
   have HL:=Lib.hid h3
   clear h hb h3
   show Calls _ _ _ _ (TkP R _ r w)
   unfold TkP
   generalize r.length+1=n at *
   generalize bs m=M at *
   go_enter Tryz.func180,Tryz.ntmps180
   go_wp2_with (first
    |(go_at_call 196
      refine HA.out.mono ?_
      rintro e w1 ⟨rfl,rfl⟩))
   go_ret
   exact⟨rfl,HL.out,But.set _ _ _ _⟩
set_option maxHeartbeats 2000000 in
theorem must_ok (R:Nat)(m:List UInt8)(ts:List Wd)(w:World)(h:LfB R ts w)(ha:aheadL 1 m ts=true):
 Calls Tryz.prog 230 #[.pointer (some ⟨R,0,none⟩),.string (bs m)] w (TkP R (.tuple #[]) ts.tail w):=by
 have HT:=take_any R 1 m ts w h
 unfold takeL at HT
 rw[if_pos ha,ha]at HT
 have HT:=Lib.hid HT
 unfold TkP at HT ⊢
 clear h ha
 generalize bs m=M at *
 go_enter Tryz.func230,Tryz.ntmps230
 go_wp2_with (first
  |(go_at_call 180
    refine HT.out.mono ?_
    rintro e w1 ⟨rfl,h1,h2⟩
    have H1:=Lib.hid h1
    have H2:=Lib.hid h2
    clear h1 h2 HT))
 exact⟨rfl,.tuple #[],by simp[results,go_sem],rfl,H1.out,H2.out⟩
set_option maxHeartbeats 2000000 in
theorem must_no (R:Nat)(m:List UInt8)(ts:List Wd)(w:World)(h:LfB R ts w)(ha:aheadL 1 m ts=false):
 Calls Tryz.prog 230 #[.pointer (some ⟨R,0,none⟩),.string (bs m)] w (PaP R w):=by
 have HT:=take_any R 1 m ts w h
 unfold takeL at HT
 rw[if_neg (by rw[ha];simp),ha]at HT
 have HT:=Lib.hid HT
 unfold TkP at HT
 unfold PaP
 clear h ha
 generalize bs m=M at *
 go_enter Tryz.func230,Tryz.ntmps230
 go_wp2_with (first
  |(go_at_call 180
    refine HT.out.mono ?_
    rintro e w1 ⟨rfl,h1,h2⟩
    have H1:=Lib.hid h1
    have H2:=Lib.hid h2
    clear h1 h2 HT))
 exact⟨rfl,rfl,H2.out⟩
def MuP (R:Nat)(x:Option (List Wd))(w:World)(e:Ending)(w':World):Prop:=match x with
 |none=>PaP R w e w'
 |some ts=>TkP R (.tuple #[]) ts w e w'
def mustW (m:List UInt8)(ts:List Wd):Option (List Wd):=if aheadL 1 m ts then some ts.tail else none
theorem must_any (R:Nat)(m:List UInt8)(ts:List Wd)(w:World)(h:LfB R ts w):
 Calls Tryz.prog 230 #[.pointer (some ⟨R,0,none⟩),.string (bs m)] w (MuP R (mustW m ts) w):=by
 unfold mustW
 cases ha:aheadL 1 m ts with
 |false=>
  rw[if_neg (by simp)]
  exact must_no R m ts w h ha
 |true=>
  rw[if_pos rfl]
  exact must_ok R m ts w h ha
set_option maxHeartbeats 2000000 in
theorem next_no (R:Nat)(w:World)(h:LfB R [] w):Calls Tryz.prog 228 #[.pointer (some ⟨R,0,none⟩)] w (PaP R w):=by
 obtain⟨o,c,h1,h2⟩:=h.nil
 have hlt:=h.lt
 have HB:=Lib.hid (But.of (below_box (w:=w) (.cells #[.int .i64 0,.string ⟨#[]⟩,.int .i64 0,.int .i64 0] 89)) hlt)
 unfold PaP
 clear h
 go_enter Tryz.func228,Tryz.ntmps228
 go_wp2_with fail
 exact⟨rfl,rfl,HB.out⟩
end Char
namespace Char
open Go.RowKit Go.Lib
open Go.Proofs.YtlmpkpjjakallaaGreatDoor.Fig (outT outV)
def boxEx (x:Ex)(vk vs:Value):Obj:= .cells #[(.int .i64 x.op),(.string (bs x.s)),(.int .i64 x.tg),(.int .i64 x.vl),(.bool x.abs),vk,vs] 28
theorem boxEx_blk {w:World}{b:Nat}{x:Ex}{vk vs:Value}(h:w.heap[b]? =some (boxEx x vk vs)):
 (w.cell? ⟨b,0,none⟩=some (.int .i64 x.op)∧w.cell? ⟨b,1,none⟩=some (.string (bs x.s))∧w.cell? ⟨b,2,none⟩=some (.int .i64 x.tg)∧w.cell? ⟨b,3,none⟩=some (.int .i64 x.vl)∧w.cell? ⟨b,4,none⟩=some (.bool x.abs)∧w.cell? ⟨b,5,none⟩=some vk∧w.cell? ⟨b,6,none⟩=some vs)∧∀i,w.frozen? ⟨b,i,none⟩=false:=by
 unfold boxEx at h
 exact⟨⟨by simp[World.cell?,h],by simp[World.cell?,h],by simp[World.cell?,h],by simp[World.cell?,h],by simp[World.cell?,h],by simp[World.cell?,h],by simp[World.cell?,h]⟩,fun i=>by simp[World.frozen?,h]⟩
def setEx (w:World)(b:Nat)(x:Ex)(vk vs:Value):World:=((((((w.setCell ⟨b,0,none⟩ (.int .i64 x.op)).setCell ⟨b,1,none⟩ (.string (bs x.s))).setCell ⟨b,2,none⟩ (.int .i64 x.tg)).setCell ⟨b,3,none⟩ (.int .i64 x.vl)).setCell ⟨b,4,none⟩ (.bool x.abs)).setCell ⟨b,5,none⟩ vk).setCell ⟨b,6,none⟩ vs
theorem setEx_at {w:World}{b:Nat}{x:Ex}{vk vs:Value}{x':Ex}{vk' vs':Value}(h:w.heap[b]? =some (boxEx x' vk' vs')):(setEx w b x vk vs).heap[b]? =some (boxEx x vk vs):=by
 unfold setEx
 unfold boxEx at h ⊢
 have h1:=heap_set_at (i:=0) (u:=(.int .i64 x.op)) h
 have h2:=heap_set_at (i:=1) (u:=(.string (bs x.s))) h1
 have h3:=heap_set_at (i:=2) (u:=(.int .i64 x.tg)) h2
 have h4:=heap_set_at (i:=3) (u:=(.int .i64 x.vl)) h3
 have h5:=heap_set_at (i:=4) (u:=(.bool x.abs)) h4
 have h6:=heap_set_at (i:=5) (u:=vk) h5
 have h7:=heap_set_at (i:=6) (u:=vs) h6
 exact h7.trans (by simp)
theorem setEx_ne {w:World}{b k:Nat}{x:Ex}{vk vs:Value}(h:k≠b):(setEx w b x vk vs).heap[k]? =w.heap[k]? :=by
 unfold setEx
 rw[heap_set_ne (a:=⟨b,6,none⟩) h,heap_set_ne (a:=⟨b,5,none⟩) h,heap_set_ne (a:=⟨b,4,none⟩) h,heap_set_ne (a:=⟨b,3,none⟩) h,heap_set_ne (a:=⟨b,2,none⟩) h,heap_set_ne (a:=⟨b,1,none⟩) h,heap_set_ne (a:=⟨b,0,none⟩) h]
theorem setEx_size {w:World}{b:Nat}{x:Ex}{vk vs:Value}:(setEx w b x vk vs).heap.size=w.heap.size:=by simp[setEx]
theorem setEx_below {B b:Nat}{w w':World}{x:Ex}{vk vs:Value}(h:Below B w w')(hb:B≤b):Below B w (setEx w' b x vk vs):=
 ((((((h.setCell (p:=⟨b,0,none⟩) hb _).setCell (p:=⟨b,1,none⟩) hb _).setCell (p:=⟨b,2,none⟩) hb _).setCell (p:=⟨b,3,none⟩) hb _).setCell (p:=⟨b,4,none⟩) hb _).setCell (p:=⟨b,5,none⟩) hb _).setCell (p:=⟨b,6,none⟩) hb _
theorem endCEx {fn:Func}{p:Tmp}(h:fn.results= #[.cell p 28]){a:Act}{R:Ending→World→Prop}{w1:World}(g:Nat){c0 c1 c2 c3 c4 c5 c6:Value}(hk:w1.heap[g]? =some (.cells #[c0,c1,c2,c3,c4,c5,c6] 28 (0,0)))
 (hp:a.tmps.getD p undef= .pointer (some ⟨g,0,none⟩)) (hd:a.defers=[]) (hR:R (.returned (.agg #[c0,c1,c2,c3,c4,c5,c6])) w1):bodyPost Tryz.prog fn R .ret a w1:=by
 have hp':a.tmps[p]?.getD undef= .pointer (some ⟨g,0,none⟩):=by simpa using hp
 have hc:∀i u,(#[c0,c1,c2,c3,c4,c5,c6]:Array Value)[i]? =some u→w1.cell? ⟨g,i,none⟩=some u:=fun i u hu=>by simp[World.cell?,hk,hu]
 have a0:=hc 0 c0 rfl;have a1:=hc 1 c1 rfl;have a2:=hc 2 c2 rfl;have a3:=hc 3 c3 rfl;have a4:=hc 4 c4 rfl;have a5:=hc 5 c5 rfl;have a6:=hc 6 c6 rfl
 exact bodyPost_ret (by simp[results,h,hp',go_sem,a0,a1,a2,a3,a4,a5,a6]) hd hR
theorem endEx {fn:Func}{p:Tmp}(h:fn.results= #[.cell p 28]){a:Act}{R:Ending→World→Prop}(w1:World)(g:Nat){x:Ex}{vk vs:Value}(hk:w1.heap[g]? =some (boxEx x vk vs))
 (hp:a.tmps.getD p undef= .pointer (some ⟨g,0,none⟩)) (hd:a.defers=[]) (hR:R (.returned (.agg #[(.int .i64 x.op),(.string (bs x.s)),(.int .i64 x.tg),(.int .i64 x.vl),(.bool x.abs),vk,vs])) w1):bodyPost Tryz.prog fn R .ret a w1:=by
 have hp':a.tmps[p]?.getD undef= .pointer (some ⟨g,0,none⟩):=by simpa using hp
 obtain⟨⟨a0,a1,a2,a3,a4,a5,a6⟩,_⟩:=boxEx_blk hk
 exact bodyPost_ret (by simp[results,h,hp',go_sem,a0,a1,a2,a3,a4,a5,a6]) hd hR
def boxSt (x:St)(vp:Value):Obj:= .cells #[(.int .i64 x.ax),(.int .i64 x.tk),(.string (bs x.nm)),(.bool x.has),vp] 62
theorem boxSt_blk {w:World}{b:Nat}{x:St}{vp:Value}(h:w.heap[b]? =some (boxSt x vp)):
 (w.cell? ⟨b,0,none⟩=some (.int .i64 x.ax)∧w.cell? ⟨b,1,none⟩=some (.int .i64 x.tk)∧w.cell? ⟨b,2,none⟩=some (.string (bs x.nm))∧w.cell? ⟨b,3,none⟩=some (.bool x.has)∧w.cell? ⟨b,4,none⟩=some vp)∧∀i,w.frozen? ⟨b,i,none⟩=false:=by
 unfold boxSt at h
 exact⟨⟨by simp[World.cell?,h],by simp[World.cell?,h],by simp[World.cell?,h],by simp[World.cell?,h],by simp[World.cell?,h]⟩,fun i=>by simp[World.frozen?,h]⟩
def setSt (w:World)(b:Nat)(x:St)(vp:Value):World:=((((w.setCell ⟨b,0,none⟩ (.int .i64 x.ax)).setCell ⟨b,1,none⟩ (.int .i64 x.tk)).setCell ⟨b,2,none⟩ (.string (bs x.nm))).setCell ⟨b,3,none⟩ (.bool x.has)).setCell ⟨b,4,none⟩ vp
theorem setSt_at {w:World}{b:Nat}{x:St}{vp:Value}{x':St}{vp':Value}(h:w.heap[b]? =some (boxSt x' vp')):(setSt w b x vp).heap[b]? =some (boxSt x vp):=by
 unfold setSt
 unfold boxSt at h ⊢
 have h1:=heap_set_at (i:=0) (u:=(.int .i64 x.ax)) h
 have h2:=heap_set_at (i:=1) (u:=(.int .i64 x.tk)) h1
 have h3:=heap_set_at (i:=2) (u:=(.string (bs x.nm))) h2
 have h4:=heap_set_at (i:=3) (u:=(.bool x.has)) h3
 have h5:=heap_set_at (i:=4) (u:=vp) h4
 exact h5.trans (by simp)
theorem setSt_ne {w:World}{b k:Nat}{x:St}{vp:Value}(h:k≠b):(setSt w b x vp).heap[k]? =w.heap[k]? :=by
 unfold setSt
 rw[heap_set_ne (a:=⟨b,4,none⟩) h,heap_set_ne (a:=⟨b,3,none⟩) h,heap_set_ne (a:=⟨b,2,none⟩) h,heap_set_ne (a:=⟨b,1,none⟩) h,heap_set_ne (a:=⟨b,0,none⟩) h]
theorem setSt_size {w:World}{b:Nat}{x:St}{vp:Value}:(setSt w b x vp).heap.size=w.heap.size:=by simp[setSt]
theorem setSt_below {B b:Nat}{w w':World}{x:St}{vp:Value}(h:Below B w w')(hb:B≤b):Below B w (setSt w' b x vp):=
 ((((h.setCell (p:=⟨b,0,none⟩) hb _).setCell (p:=⟨b,1,none⟩) hb _).setCell (p:=⟨b,2,none⟩) hb _).setCell (p:=⟨b,3,none⟩) hb _).setCell (p:=⟨b,4,none⟩) hb _
theorem endCSt {fn:Func}{p:Tmp}(h:fn.results= #[.cell p 62]){a:Act}{R:Ending→World→Prop}{w1:World}(g:Nat){c0 c1 c2 c3 c4:Value}(hk:w1.heap[g]? =some (.cells #[c0,c1,c2,c3,c4] 62 (0,0)))
 (hp:a.tmps.getD p undef= .pointer (some ⟨g,0,none⟩)) (hd:a.defers=[]) (hR:R (.returned (.agg #[c0,c1,c2,c3,c4])) w1):bodyPost Tryz.prog fn R .ret a w1:=by
 have hp':a.tmps[p]?.getD undef= .pointer (some ⟨g,0,none⟩):=by simpa using hp
 have hc:∀i u,(#[c0,c1,c2,c3,c4]:Array Value)[i]? =some u→w1.cell? ⟨g,i,none⟩=some u:=fun i u hu=>by simp[World.cell?,hk,hu]
 have a0:=hc 0 c0 rfl;have a1:=hc 1 c1 rfl;have a2:=hc 2 c2 rfl;have a3:=hc 3 c3 rfl;have a4:=hc 4 c4 rfl
 exact bodyPost_ret (by simp[results,h,hp',go_sem,a0,a1,a2,a3,a4]) hd hR
theorem endSt {fn:Func}{p:Tmp}(h:fn.results= #[.cell p 62]){a:Act}{R:Ending→World→Prop}(w1:World)(g:Nat){x:St}{vp:Value}(hk:w1.heap[g]? =some (boxSt x vp))
 (hp:a.tmps.getD p undef= .pointer (some ⟨g,0,none⟩)) (hd:a.defers=[]) (hR:R (.returned (.agg #[(.int .i64 x.ax),(.int .i64 x.tk),(.string (bs x.nm)),(.bool x.has),vp])) w1):bodyPost Tryz.prog fn R .ret a w1:=by
 have hp':a.tmps[p]?.getD undef= .pointer (some ⟨g,0,none⟩):=by simpa using hp
 obtain⟨⟨a0,a1,a2,a3,a4⟩,_⟩:=boxSt_blk hk
 exact bodyPost_ret (by simp[results,h,hp',go_sem,a0,a1,a2,a3,a4]) hd hR
def boxTe (kd:Int)(nm:List UInt8)(hs:Bool):Obj:= .cells #[(.int .i64 kd),(.string (bs nm)),(.bool hs)] 60
theorem boxTe_blk {w:World}{b:Nat}{kd:Int}{nm:List UInt8}{hs:Bool}(h:w.heap[b]? =some (boxTe kd nm hs)):
 (w.cell? ⟨b,0,none⟩=some (.int .i64 kd)∧w.cell? ⟨b,1,none⟩=some (.string (bs nm))∧w.cell? ⟨b,2,none⟩=some (.bool hs))∧∀i,w.frozen? ⟨b,i,none⟩=false:=by
 unfold boxTe at h
 exact⟨⟨by simp[World.cell?,h],by simp[World.cell?,h],by simp[World.cell?,h]⟩,fun i=>by simp[World.frozen?,h]⟩
def setTe (w:World)(b:Nat)(kd:Int)(nm:List UInt8)(hs:Bool):World:=((w.setCell ⟨b,0,none⟩ (.int .i64 kd)).setCell ⟨b,1,none⟩ (.string (bs nm))).setCell ⟨b,2,none⟩ (.bool hs)
theorem setTe_at {w:World}{b:Nat}{kd:Int}{nm:List UInt8}{hs:Bool}{kd':Int}{nm':List UInt8}{hs':Bool}(h:w.heap[b]? =some (boxTe kd' nm' hs')):(setTe w b kd nm hs).heap[b]? =some (boxTe kd nm hs):=by
 unfold setTe
 unfold boxTe at h ⊢
 have h1:=heap_set_at (i:=0) (u:=(.int .i64 kd)) h
 have h2:=heap_set_at (i:=1) (u:=(.string (bs nm))) h1
 have h3:=heap_set_at (i:=2) (u:=(.bool hs)) h2
 exact h3.trans (by simp)
theorem setTe_ne {w:World}{b k:Nat}{kd:Int}{nm:List UInt8}{hs:Bool}(h:k≠b):(setTe w b kd nm hs).heap[k]? =w.heap[k]? :=by
 unfold setTe
 rw[heap_set_ne (a:=⟨b,2,none⟩) h,heap_set_ne (a:=⟨b,1,none⟩) h,heap_set_ne (a:=⟨b,0,none⟩) h]
theorem setTe_size {w:World}{b:Nat}{kd:Int}{nm:List UInt8}{hs:Bool}:(setTe w b kd nm hs).heap.size=w.heap.size:=by simp[setTe]
theorem setTe_below {B b:Nat}{w w':World}{kd:Int}{nm:List UInt8}{hs:Bool}(h:Below B w w')(hb:B≤b):Below B w (setTe w' b kd nm hs):=
 ((h.setCell (p:=⟨b,0,none⟩) hb _).setCell (p:=⟨b,1,none⟩) hb _).setCell (p:=⟨b,2,none⟩) hb _
theorem endCTe {fn:Func}{p:Tmp}(h:fn.results= #[.cell p 60]){a:Act}{R:Ending→World→Prop}{w1:World}(g:Nat){c0 c1 c2:Value}(hk:w1.heap[g]? =some (.cells #[c0,c1,c2] 60 (0,0)))
 (hp:a.tmps.getD p undef= .pointer (some ⟨g,0,none⟩)) (hd:a.defers=[]) (hR:R (.returned (.agg #[c0,c1,c2])) w1):bodyPost Tryz.prog fn R .ret a w1:=by
 have hp':a.tmps[p]?.getD undef= .pointer (some ⟨g,0,none⟩):=by simpa using hp
 have hc:∀i u,(#[c0,c1,c2]:Array Value)[i]? =some u→w1.cell? ⟨g,i,none⟩=some u:=fun i u hu=>by simp[World.cell?,hk,hu]
 have a0:=hc 0 c0 rfl;have a1:=hc 1 c1 rfl;have a2:=hc 2 c2 rfl
 exact bodyPost_ret (by simp[results,h,hp',go_sem,a0,a1,a2]) hd hR
theorem endTe {fn:Func}{p:Tmp}(h:fn.results= #[.cell p 60]){a:Act}{R:Ending→World→Prop}(w1:World)(g:Nat){kd:Int}{nm:List UInt8}{hs:Bool}(hk:w1.heap[g]? =some (boxTe kd nm hs))
 (hp:a.tmps.getD p undef= .pointer (some ⟨g,0,none⟩)) (hd:a.defers=[]) (hR:R (.returned (.agg #[(.int .i64 kd),(.string (bs nm)),(.bool hs)])) w1):bodyPost Tryz.prog fn R .ret a w1:=by
 have hp':a.tmps[p]?.getD undef= .pointer (some ⟨g,0,none⟩):=by simpa using hp
 obtain⟨⟨a0,a1,a2⟩,_⟩:=boxTe_blk hk
 exact bodyPost_ret (by simp[results,h,hp',go_sem,a0,a1,a2]) hd hR
def boxWd (x:Wd):Obj:= .cells #[(.int .i64 (x.k:Int)),(.string (bs x.s)),(.int .i64 (outT x.n)),(.int .i64 (outV x.n))] 89
theorem boxWd_blk {w:World}{b:Nat}{x:Wd}(h:w.heap[b]? =some (boxWd x)):
 (w.cell? ⟨b,0,none⟩=some (.int .i64 (x.k:Int))∧w.cell? ⟨b,1,none⟩=some (.string (bs x.s))∧w.cell? ⟨b,2,none⟩=some (.int .i64 (outT x.n))∧w.cell? ⟨b,3,none⟩=some (.int .i64 (outV x.n)))∧∀i,w.frozen? ⟨b,i,none⟩=false:=by
 unfold boxWd at h
 exact⟨⟨by simp[World.cell?,h],by simp[World.cell?,h],by simp[World.cell?,h],by simp[World.cell?,h]⟩,fun i=>by simp[World.frozen?,h]⟩
def setWd (w:World)(b:Nat)(x:Wd):World:=(((w.setCell ⟨b,0,none⟩ (.int .i64 (x.k:Int))).setCell ⟨b,1,none⟩ (.string (bs x.s))).setCell ⟨b,2,none⟩ (.int .i64 (outT x.n))).setCell ⟨b,3,none⟩ (.int .i64 (outV x.n))
theorem setWd_at {w:World}{b:Nat}{x:Wd}{x':Wd}(h:w.heap[b]? =some (boxWd x')):(setWd w b x).heap[b]? =some (boxWd x):=by
 unfold setWd
 unfold boxWd at h ⊢
 have h1:=heap_set_at (i:=0) (u:=(.int .i64 (x.k:Int))) h
 have h2:=heap_set_at (i:=1) (u:=(.string (bs x.s))) h1
 have h3:=heap_set_at (i:=2) (u:=(.int .i64 (outT x.n))) h2
 have h4:=heap_set_at (i:=3) (u:=(.int .i64 (outV x.n))) h3
 exact h4.trans (by simp)
theorem setWd_ne {w:World}{b k:Nat}{x:Wd}(h:k≠b):(setWd w b x).heap[k]? =w.heap[k]? :=by
 unfold setWd
 rw[heap_set_ne (a:=⟨b,3,none⟩) h,heap_set_ne (a:=⟨b,2,none⟩) h,heap_set_ne (a:=⟨b,1,none⟩) h,heap_set_ne (a:=⟨b,0,none⟩) h]
theorem setWd_size {w:World}{b:Nat}{x:Wd}:(setWd w b x).heap.size=w.heap.size:=by simp[setWd]
theorem setWd_below {B b:Nat}{w w':World}{x:Wd}(h:Below B w w')(hb:B≤b):Below B w (setWd w' b x):=
 (((h.setCell (p:=⟨b,0,none⟩) hb _).setCell (p:=⟨b,1,none⟩) hb _).setCell (p:=⟨b,2,none⟩) hb _).setCell (p:=⟨b,3,none⟩) hb _
theorem endCWd {fn:Func}{p:Tmp}(h:fn.results= #[.cell p 89]){a:Act}{R:Ending→World→Prop}{w1:World}(g:Nat){c0 c1 c2 c3:Value}(hk:w1.heap[g]? =some (.cells #[c0,c1,c2,c3] 89 (0,0)))
 (hp:a.tmps.getD p undef= .pointer (some ⟨g,0,none⟩)) (hd:a.defers=[]) (hR:R (.returned (.agg #[c0,c1,c2,c3])) w1):bodyPost Tryz.prog fn R .ret a w1:=by
 have hp':a.tmps[p]?.getD undef= .pointer (some ⟨g,0,none⟩):=by simpa using hp
 have hc:∀i u,(#[c0,c1,c2,c3]:Array Value)[i]? =some u→w1.cell? ⟨g,i,none⟩=some u:=fun i u hu=>by simp[World.cell?,hk,hu]
 have a0:=hc 0 c0 rfl;have a1:=hc 1 c1 rfl;have a2:=hc 2 c2 rfl;have a3:=hc 3 c3 rfl
 exact bodyPost_ret (by simp[results,h,hp',go_sem,a0,a1,a2,a3]) hd hR
theorem endWd {fn:Func}{p:Tmp}(h:fn.results= #[.cell p 89]){a:Act}{R:Ending→World→Prop}(w1:World)(g:Nat){x:Wd}(hk:w1.heap[g]? =some (boxWd x))
 (hp:a.tmps.getD p undef= .pointer (some ⟨g,0,none⟩)) (hd:a.defers=[]) (hR:R (.returned (.agg #[(.int .i64 (x.k:Int)),(.string (bs x.s)),(.int .i64 (outT x.n)),(.int .i64 (outV x.n))])) w1):bodyPost Tryz.prog fn R .ret a w1:=by
 have hp':a.tmps[p]?.getD undef= .pointer (some ⟨g,0,none⟩):=by simpa using hp
 obtain⟨⟨a0,a1,a2,a3⟩,_⟩:=boxWd_blk hk
 exact bodyPost_ret (by simp[results,h,hp',go_sem,a0,a1,a2,a3]) hd hR
theorem But.box {R:Nat}{w w':World}(h:But R w w')(hR:R<w.heap.size)(o:Obj):But R w (w'.alloc o):=h.trans (But.of (below_box o) (Nat.lt_of_lt_of_le hR h.size))
theorem LfB.box {R:Nat}{ts:List Wd}{w:World}(h:LfB R ts w)(o:Obj):LfB R ts (w.alloc o):=h.below (below_box o)
theorem heap_box (w:World)(o:Obj):(w.alloc o).heap[w.heap.size]? =some o:=World.alloc_heap_new w o
theorem heap_box2 (w:World)(o o2:Obj):((w.alloc o).alloc o2).heap[w.heap.size]? =some o:=by
 rw[Below.heap_alloc _ _ _ (by simp)]
 exact World.alloc_heap_new w o
end Char
namespace Char
open Go.RowKit Go.Lib
theorem ExAt.cells {w:World}{g off:Nat}{x:Ex}{vk vs:Value}(h:ExAt w g off x vk vs):w.cell? ⟨g,off,none⟩=some (.int .i64 x.op)∧w.cell? ⟨g,off+1,none⟩=some (.string (bs x.s))∧w.cell? ⟨g,off+2,none⟩=some (.int .i64 x.tg)∧w.cell? ⟨g,off+3,none⟩=some (.int .i64 x.vl)∧w.cell? ⟨g,off+4,none⟩=some (.bool x.abs)∧w.cell? ⟨g,off+5,none⟩=some vk∧w.cell? ⟨g,off+6,none⟩=some vs:=
 ⟨h 0 _ rfl,h 1 _ rfl,h 2 _ rfl,h 3 _ rfl,h 4 _ rfl,h 5 _ rfl,h 6 _ rfl⟩
theorem StAt.cells {w:World}{g off:Nat}{x:St}{vp:Value}(h:StAt w g off x vp):w.cell? ⟨g,off,none⟩=some (.int .i64 x.ax)∧w.cell? ⟨g,off+1,none⟩=some (.int .i64 x.tk)∧w.cell? ⟨g,off+2,none⟩=some (.string (bs x.nm))∧w.cell? ⟨g,off+3,none⟩=some (.bool x.has)∧w.cell? ⟨g,off+4,none⟩=some vp:=
 ⟨h 0 _ rfl,h 1 _ rfl,h 2 _ rfl,h 3 _ rfl,h 4 _ rfl⟩
theorem ExAt.lt {w:World}{g off:Nat}{x:Ex}{vk vs:Value}(h:ExAt w g off x vk vs):g<w.heap.size:=cell_lt h.cells.1
theorem StAt.lt {w:World}{g off:Nat}{x:St}{vp:Value}(h:StAt w g off x vp):g<w.heap.size:=cell_lt h.cells.1
theorem StOn.below {w w':World}{F:Nat→Prop}{x:St}{vp:Value}(h:StOn w F x vp)(hb:Below w.heap.size w w'):StOn w' F x vp:=
 StOn.move (fun b hb0 hF=>⟨hF,hb.block b hb0⟩) x vp h
theorem KdOn.below {w w':World}{F:Nat→Prop}{v:Value}{ks:List Ex}(h:KdOn w F v ks)(hb:Below w.heap.size w w'):KdOn w' F v ks:=
 KdOn.move (fun b hb0 hF=>⟨hF,hb.block b hb0⟩) h
theorem SdOn.below {w w':World}{F:Nat→Prop}{v:Value}{ks:List St}(h:SdOn w F v ks)(hb:Below w.heap.size w w'):SdOn w' F v ks:=
 SdOn.move (fun b hb0 hF=>⟨hF,hb.block b hb0⟩) h
theorem KdOn.read {w:World}{F:Nat→Prop}{o:Option Addr}{n j:Nat}{ks:List Ex}(h:KdOn w F (.slice o n j) ks)(k:Nat)(hk:k<ks.length):∃g off vk vs,o=some ⟨g,off,none⟩∧F g∧ExAt w g (off+k*7) ks[k] vk vs∧ExOn w F ks[k] vk vs:=by
 obtain⟨o',j',e,h⟩:=h
 cases e
 rcases h with h|⟨g,off,rfl,hg,hK⟩
 ·rw[h]at hk;cases hk
 ·obtain⟨vk,vs,h1,h2⟩:=hK.at k hk
  exact⟨g,off,vk,vs,rfl,hg.1,h1,h2⟩
theorem KdOn.cap {w:World}{F:Nat→Prop}{o:Option Addr}{n j:Nat}{ks:List Ex}(h:KdOn w F (.slice o n j) ks)(hk:0<ks.length):ks.length≤j:=by
 obtain⟨o',j',e,h⟩:=h
 cases e
 rcases h with h|⟨g,off,rfl,hg,hK⟩
 ·rw[h]at hk;cases hk
 ·exact hg.2
theorem KdOn.tail {w:World}{F:Nat→Prop}{g off n j:Nat}{x:Ex}{ks:List Ex}(h:KdOn w F (.slice (some ⟨g,off,none⟩) n j) (x::ks)):KdOn w F (.slice (some ⟨g,off+7,none⟩) ks.length (j-1)) ks:=by
 obtain⟨o',j',e,h⟩:=h
 cases e
 rcases h with h|⟨g',off',e2,hg,hK⟩
 ·cases h
 ·cases e2
  rw[KsOn]at hK
  refine⟨_,_,rfl,.inr ⟨g,off+7,rfl,⟨hg.1,?_⟩,hK.2⟩⟩
  have :=hg.2
  simp only[List.length_cons]at this
  omega
theorem SdOn.read {w:World}{F:Nat→Prop}{o:Option Addr}{n j:Nat}{ks:List St}(h:SdOn w F (.slice o n j) ks)(k:Nat)(hk:k<ks.length):∃g off vp,o=some ⟨g,off,none⟩∧F g∧StAt w g (off+k*5) ks[k] vp∧StOn w F ks[k] vp:=by
 obtain⟨o',j',e,h⟩:=h
 cases e
 rcases h with h|⟨g,off,rfl,hg,hK⟩
 ·rw[h]at hk;cases hk
 ·obtain⟨vp,h1,h2⟩:=hK.at k hk
  exact⟨g,off,vp,rfl,hg.1,h1,h2⟩
def SamC (f c:Nat):Prop:=∀(a b:Ex) (va vk ua uk:Value) (w:World) (F G:Nat→Prop),cntE a≤c→ExOn w F a va vk→ExOn w G b ua uk→
 Calls Tryz.prog f #[exV a va vk,exV b ua uk] w fun e w'=>e= .returned (.bool (eqE a b))∧Below w.heap.size w w'
end Char
namespace Char
open Go.RowKit Go.Lib
def panE (k:Int):Ending:= .panicked [{v:= .iface 29 (.int .i64 k),recovered:=false}]
def CkP (w:World)(x:Int ⊕ Int)(e:Ending)(w':World):Prop:=Below w.heap.size w w'∧match x with
 | .inl k=>e=panE k
 | .inr t=>e= .returned (.int .i64 t)
def PtP (w:World)(x:Option Int)(e:Ending)(w':World):Prop:=Below w.heap.size w w'∧match x with
 |none=>e= .returned (.tuple #[])
 |some k=>e=panE k
theorem PtP.ok {w w':World}(h:Below w.heap.size w w'):PtP w none (.returned (.tuple #[])) w':=⟨h,rfl⟩
theorem PtP.no {w w':World}{k:Int}(h:Below w.heap.size w w'):PtP w (some k) (panE k) w':=⟨h,rfl⟩
theorem CkP.ok {w w':World}{t:Int}(h:Below w.heap.size w w'):CkP w (.inr t) (.returned (.int .i64 t)) w':=⟨h,rfl⟩
theorem CkP.no {w w':World}{k:Int}(h:Below w.heap.size w w'):CkP w (.inl k) (panE k) w':=⟨h,rfl⟩
def okT (m:Bool)(t:Int):Bool:= !m||decide (t=1)
def ptR (m r:Bool):Int ⊕ Bool→Option Int
 | .inl e=>some e
 | .inr b=>if r&&(!m||b) then none else some 35
def orT (t:Int):Option Int→Int ⊕ Int
 |some e=> .inl e
 |none=> .inr t
def orT2 (p s:Option Int):Int ⊕ Int:=match p with
 |some e=> .inl e
 |none=>orT 1 s
theorem finT_eq (m:Bool)(t:Int)(y:Int ⊕ Bool):finT m t y=orT t (ptR m true y):=by
 cases y with
 |inl e=>rfl
 |inr b=>cases m<;>cases b<;>rfl
theorem ptR_step (m r:Bool)(ks:List Ex)(n j:Nat)(h:j<ks.length):ptR m r (ckKs (ks.drop j) n)=match ckE ks[j] n with
 | .inl e=>some e
 | .inr t=>ptR m (r&&okT m t) (ckKs (ks.drop (j+1)) n):=by
 rw[List.drop_eq_getElem_cons h,ckKs]
 cases ckE ks[j] n with
 |inl e=>rfl
 |inr t=>
  dsimp only
  cases ckKs (ks.drop (j+1)) n with
  |inl e=>rfl
  |inr b=>
   unfold ptR okT
   dsimp only
   cases m<;>cases r<;>cases b<;>cases decide (t=1)<;>rfl
theorem ptR_end (m r:Bool)(ks:List Ex)(n:Nat):ptR m r (ckKs (ks.drop ks.length) n)=if r then none else some 35:=by
 rw[List.drop_length,ckKs]
 unfold ptR
 cases m<;>cases r<;>rfl
def ChC (c:Nat):Prop:=∀(n:Nat) (x:Ex) (vk vs:Value) (w:World) (F:Nat→Prop),n≤2→cntE x≤c→rightE x=true→ExOn w F x vk vs→
 Calls Tryz.prog 91 #[.agg #[.int .i64 (n:Int)],exV x vk vs] w (CkP w (ckE x n))
theorem any_cl (t:Int)(w:World):Calls Tryz.prog 137 #[.int .i64 t] w fun e w'=>e= .returned (.bool (okT false t))∧w'=w:=by
 go_enter Tryz.func137,Tryz.ntmps137
 go_wp2_with fail
 go_ret
 exact⟨rfl,rfl⟩
theorem nds_cl (t:Int)(w:World):Calls Tryz.prog 138 #[.int .i64 t] w fun e w'=>e= .returned (.bool (okT true t))∧w'=w:=by
 have h:(t==1)=okT true t:=by unfold okT;rw[Bool.eq_iff_iff];simp
 generalize okT true t=B at *
 go_enter Tryz.func138,Tryz.ntmps138
 go_wp2_with fail
 go_ret
 exact⟨rfl,rfl⟩
theorem fn_cl (p:Nat)(m:Bool)(t:Int)(w:World)(h:w.cell? ⟨p,2,none⟩=some (.bool m)):Calls Tryz.prog 171 #[.int .i64 t,.pointer (some ⟨p,0,none⟩)] w fun e w'=>e= .returned (.bool (okT m t))∧w'=w:=by
 have h1:(t==1)=decide (t=1):=by rw[Bool.eq_iff_iff];simp
 unfold okT
 generalize decide (t=1)=B at *
 cases m
 all_goals
  go_enter Tryz.func171,Tryz.ntmps171
  go_wp2_with fail
  go_ret
  exact⟨rfl,rfl⟩
end Char
end Go.Proofs.YtlmpkpjjakallaaGreatDoor
