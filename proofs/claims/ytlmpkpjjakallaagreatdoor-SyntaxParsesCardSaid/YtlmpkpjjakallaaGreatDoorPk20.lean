import Derived.Test.YtlmpkpjjakallaaGreatDoorPk19
import Derived.Test.YtlmpkpjjakallaaGreatDoorPk18
namespace Go.Proofs.YtlmpkpjjakallaaGreatDoor
namespace Char
open Go.RowKit Go.Lib
open Go.Proofs.YtlmpkpjjakallaaGreatDoor.Fig (outT outV)
def PrP (w:World)(l:List Wd)(q:Option (Ex×List Wd))(e:Ending)(w':World):Prop:=
 Below w.heap.size w w'∧((q=none∧e= .returned (.tuple #[exV ex0 (.slice none 0 0) (.slice none 0 0),.int .i64 0]))∨
  ∃(x:Ex) (vk vs:Value) (m:Nat),q=some (x,l.drop m)∧1≤m∧m≤l.length∧ExOn w' (w.heap.size≤ ·) x vk vs∧e= .returned (.tuple #[exV x vk vs,.int .i64 (m:Int)]))
theorem endExI {fn:Func}(h:fn.results= #[.cell 2 28,.tmp 3]){a:Act}{R:Ending→World→Prop}(w1:World)(g:Nat){x:Ex}{vk vs n:Value}(hk:w1.heap[g]? =some (boxEx x vk vs))
 (hp:a.tmps.getD 2 undef= .pointer (some ⟨g,0,none⟩)) (hq:a.tmps.getD 3 undef=n) (hd:a.defers=[]) (hR:R (.returned (.tuple #[exV x vk vs,n])) w1):bodyPost Tryz.prog fn R .ret a w1:=by
 have hp':a.tmps[2]?.getD undef= .pointer (some ⟨g,0,none⟩):=by simpa using hp
 have hq':a.tmps[3]?.getD undef=n:=by simpa using hq
 obtain⟨⟨a0,a1,a2,a3,a4,a5,a6⟩,_⟩:=boxEx_blk hk
 exact bodyPost_ret (by simp[results,h,hp',hq',go_sem,a0,a1,a2,a3,a4,a5,a6,exV]) hd hR
def P1 (w:World)(x:Wd)(W:World):Prop:=W.heap[w.heap.size]? =some (boxEx ex0 (.slice none 0 0) (.slice none 0 0))∧W.heap[w.heap.size+1]? =some (boxWd x)∧Below w.heap.size w W
theorem P1.new (w:World)(x:Wd):P1 w x ((w.alloc (boxEx ex0 (.slice none 0 0) (.slice none 0 0))).alloc (boxWd x)):=by
 refine⟨(Below.heap_alloc _ _ _ (by simp)).trans (World.alloc_heap_new w _),?_,(below_box _).alloc (by simp) _⟩
 have :=World.alloc_heap_new (w.alloc (boxEx ex0 (.slice none 0 0) (.slice none 0 0))) (boxWd x)
 simpa using this
theorem P1.lt {w W:World}{x:Wd}(h:P1 w x W):w.heap.size+1<W.heap.size:=(Array.getElem?_eq_some_iff.1 h.2.1).1
theorem P1.call {w W W':World}{x:Wd}(h:P1 w x W)(hb:Below W.heap.size W W'):P1 w x W':=⟨(hb.block _ (by have :=h.lt;omega)).trans h.1,(hb.block _ h.lt).trans h.2.1,h.2.2.trans (hb.mono h.2.2.size)⟩
theorem P1.alloc {w W:World}{x:Wd}(h:P1 w x W)(o:Obj):P1 w x (W.alloc o):=h.call (below_box o)
theorem P1.facts {w W:World}{x:Wd}(h:P1 w x W):
 (W.cell? ⟨w.heap.size,0,none⟩=some (.int .i64 0)∧W.cell? ⟨w.heap.size,1,none⟩=some (.string (bs []))∧W.cell? ⟨w.heap.size,2,none⟩=some (.int .i64 0)∧W.cell? ⟨w.heap.size,3,none⟩=some (.int .i64 0)∧W.cell? ⟨w.heap.size,4,none⟩=some (.bool false)∧W.cell? ⟨w.heap.size,5,none⟩=some (.slice none 0 0)∧W.cell? ⟨w.heap.size,6,none⟩=some (.slice none 0 0))∧(∀i,W.frozen? ⟨w.heap.size,i,none⟩=false)∧
 (W.cell? ⟨w.heap.size+1,0,none⟩=some (.int .i64 (x.k:Int))∧W.cell? ⟨w.heap.size+1,1,none⟩=some (.string (bs x.s))∧W.cell? ⟨w.heap.size+1,2,none⟩=some (.int .i64 (outT x.n))∧W.cell? ⟨w.heap.size+1,3,none⟩=some (.int .i64 (outV x.n)))∧w.heap.size+1<W.heap.size∧w.heap.size<W.heap.size:=
 ⟨(boxEx_blk h.1).1,(boxEx_blk h.1).2,(boxWd_blk h.2.1).1,h.lt,by have :=h.lt;omega⟩
theorem prim_no {fn:Func}(h:fn.results= #[.cell 2 28,.tmp 3]){a:Act}{w:World}(W:World){l:List Wd}{x:Wd}{q:Option (Ex×List Wd)}(hs:P1 w x W)(hq:q=none)
 (hp:a.tmps.getD 2 undef= .pointer (some ⟨w.heap.size,0,none⟩)) (hr:a.tmps.getD 3 undef= .int .i64 0) (hd:a.defers=[]):bodyPost Tryz.prog fn (PrP w l q) .ret a (setEx W w.heap.size ex0 (.slice none 0 0) (.slice none 0 0)):=
 endExI h _ w.heap.size (setEx_at hs.1) hp hr hd ⟨setEx_below hs.2.2 (Nat.le_refl _),.inl ⟨hq,rfl⟩⟩
theorem prim_noA {fn:Func}(h:fn.results= #[.cell 2 28,.tmp 3]){a:Act}{w:World}(W:World)(o:Obj){l:List Wd}{x:Wd}{q:Option (Ex×List Wd)}(hs:P1 w x W)(hq:q=none)
 (hp:a.tmps.getD 2 undef= .pointer (some ⟨w.heap.size,0,none⟩)) (hr:a.tmps.getD 3 undef= .int .i64 0) (hd:a.defers=[]):bodyPost Tryz.prog fn (PrP w l q) .ret a ((setEx W w.heap.size ex0 (.slice none 0 0) (.slice none 0 0)).alloc o):=
 have hb:=setEx_below (x:=ex0) (vk:= .slice none 0 0) (vs:= .slice none 0 0) hs.2.2 (Nat.le_refl _)
 endExI h _ w.heap.size (((below_box o).block _ (by rw[setEx_size];have :=hs.lt;omega)).trans (setEx_at hs.1)) hp hr hd ⟨hb.alloc (by rw[setEx_size];exact hs.2.2.size) o,.inl ⟨hq,rfl⟩⟩
theorem prim_ok {fn:Func}(h:fn.results= #[.cell 2 28,.tmp 3]){a:Act}{w:World}(W:World){l:List Wd}{x:Wd}{q:Option (Ex×List Wd)}(y:Ex)(vk vs:Value)(m:Nat)(hs:P1 w x W)(hq:q=some (y,l.drop m))(h1:1≤m)(h2:m≤l.length)(ho:ExOn W (w.heap.size+1≤ ·) y vk vs)
 (hp:a.tmps.getD 2 undef= .pointer (some ⟨w.heap.size,0,none⟩)) (hr:a.tmps.getD 3 undef= .int .i64 (m:Int)) (hd:a.defers=[]):bodyPost Tryz.prog fn (PrP w l q) .ret a (setEx W w.heap.size y vk vs):=
 endExI h _ w.heap.size (setEx_at hs.1) hp hr hd ⟨setEx_below hs.2.2 (Nat.le_refl _),.inr ⟨y,vk,vs,m,hq,h1,h2,ExOn.move (fun k _ hF=>⟨Nat.le_of_succ_le hF,setEx_ne (by omega)⟩) _ _ _ ho,rfl⟩⟩
theorem prim_okA {fn:Func}(h:fn.results= #[.cell 2 28,.tmp 3]){a:Act}{w:World}(W:World)(o:Obj){l:List Wd}{x:Wd}{q:Option (Ex×List Wd)}(y:Ex)(vk vs:Value)(m:Nat)(hs:P1 w x W)(hq:q=some (y,l.drop m))(h1:1≤m)(h2:m≤l.length)(ho:ExOn W (w.heap.size+1≤ ·) y vk vs)
 (hp:a.tmps.getD 2 undef= .pointer (some ⟨w.heap.size,0,none⟩)) (hr:a.tmps.getD 3 undef= .int .i64 (m:Int)) (hd:a.defers=[]):bodyPost Tryz.prog fn (PrP w l q) .ret a ((setEx W w.heap.size y vk vs).alloc o):=
 have hb:=setEx_below (x:=y) (vk:=vk) (vs:=vs) hs.2.2 (Nat.le_refl _)
 endExI h _ w.heap.size (((below_box o).block _ (by rw[setEx_size];have :=hs.lt;omega)).trans (setEx_at hs.1)) hp hr hd ⟨hb.alloc (by rw[setEx_size];exact hs.2.2.size) o,.inr ⟨y,vk,vs,m,hq,h1,h2,ExOn.move (fun k hk hF=>⟨Nat.le_of_succ_le hF,((below_box o).block k (by rw[setEx_size];exact hk)).trans (setEx_ne (by omega))⟩) _ _ _ ho,rfl⟩⟩
abbrev CallC (f:Nat)(w:World)(args:Array Value)(r:Value):Prop:=∀W,Below w.heap.size w W→Calls Tryz.prog f args W fun e w'=>e= .returned r∧Below W.heap.size W w'
end Char
namespace Char
open Go.RowKit Go.Lib
open Go.Proofs.YtlmpkpjjakallaaGreatDoor.Fig (outT outV)
def barWd:Wd:={wd0 with k:=5,s:=[47]}
theorem wdsC_app (xs ys:List Wd):wdsC (xs++ys)=wdsC xs++wdsC ys:=by simp[wdsC]
theorem wdsC_len:∀(xs:List Wd),(wdsC xs).length=xs.length*4
 |[]=>rfl
 |x::r=>by
  show(wdC x++wdsC r).length=(r.length+1)*4
  rw[List.length_append,wdsC_len r]
  show 4+r.length*4=_
  omega
theorem OwnsWd.wsl {B:Nat}{w:World}{o:Option Addr}{j:Nat}{ws:List Wd}(h:OwnsWd B w (.slice o ws.length j) ws):WSl w o j ws:=by
 have h0:=h
 rcases h.2 with⟨h1,h2⟩|⟨g,cap,cur,e1,e2,hg,e3⟩
 ·have :ws=[]:=List.length_eq_zero_iff.1 h2
  subst this
  exact⟨by simp,.inl rfl⟩
 ·cases e1
  have hc:=World.ownsRow.cells h0 (g:=g) rfl
  refine⟨e3.1,.inr ⟨g,0,rfl,fun k hk i u hu=> ?_⟩⟩
  have hi:i<4:=(List.getElem?_eq_some_iff.1 hu).1
  have :=hc (k*4+i) u ((wdsC_at ws k i hk hi).trans hu)
  rw[Addr.add_lit]at this
  rwa [show 0+k*4+i=0+(k*4+i) by omega]
theorem wpList_catWd {ops:Array Oper}{rest:List Oper}{o:Oper}{a:Act}{Q:Exit→Act→World→Prop}{B:Nat}{W:World}{v:Value}{xs ys:List Wd}{g off cap n:Nat}
 (hgd:o.guard=none) (s x:Operand) (ho:o.op= .call {callee:= .builtin .append,args:= #[s,x],argTypes:= #[38,38]})
 (hown:OwnsWd B W v xs) (hys:WdsAt W g off ys) (hn:ys.length=n) (hs:a.eval s=v) (hx:a.eval x= .slice (some ⟨g,off,none⟩) n cap) (hB:B≤W.heap.size) (hlen:xs.length+ys.length≤1000)
 (h:∀v' w1,OwnsWd B w1 v' (xs++ys)→Below B W w1→wpList Tryz.prog ops Q rest (a.put o.dst v') w1):
 wpList Tryz.prog ops Q (o::rest) a W:=by
 subst hn
 obtain⟨i0,hi,hz0,hz1,hz2⟩:=info_parts info_wd
 refine wpList_append_own_at _ hgd s x 38 ho B 89 i0 _ 4 40 Tryz.underlying38 hi hz0 hz1 hz2 rfl (by decide) v xs.length (wdsC xs) hs hown ⟨g,off,none⟩ ys.length cap (wdsC ys) hx (wdsC_len ys) ?_ ?_ ?_ ?_ hB ?_
 ·intro j u hj
  rw[Addr.add_lit]
  have hl:=(List.getElem?_eq_some_iff.1 hj).1
  rw[wdsC_len]at hl
  have hk:j/4<ys.length:=by omega
  have hi:j%4<4:=by omega
  have e:j/4*4+j%4=j:=by omega
  have h1:=wdsC_at ys (j/4) (j%4) hk hi
  rw[e]at h1
  have :=hys (j/4) hk (j%4) u (h1.symm.trans hj)
  rwa [show off+j/4*4+j%4=off+j by omega]at this
 ·intro z hz
  obtain⟨y,_,hz⟩:=List.mem_flatMap.1 hz
  simp[wdC]at hz
  rcases hz with rfl|rfl|rfl|rfl<;>rfl
 ·unfold maxLen;omega
 ·omega
 ·intro v' w' h2 h3 _ _
  refine h v' w' ?_ ((Below.refl B W).grown h3 hB (fun k hk=>(hown.blk hk).1))
  unfold OwnsWd
  rw[List.length_append,wdsC_app]
  exact h2
theorem OwnsWd.one (w:World)(x:Wd){B:Nat}(hB:B≤w.heap.size):OwnsWd B (w.alloc (.cells #[.int .i64 (x.k:Int),.string (bs x.s),.int .i64 (outT x.n),.int .i64 (outV x.n)] 89)) (.slice (some ⟨w.heap.size,0,none⟩) 1 1) [x]:=
 ⟨rfl,.inr ⟨w.heap.size,1,_,rfl,hB,World.alloc_heap_new w _,Nat.le_refl _,by unfold maxLen;omega,rfl,rfl⟩⟩
theorem SsP2.any {w w':World}{q:Option (List St)}{e:Ending}(h:SsP2 w q e w'):∃(ss:List St) (o:Option Addr) (j:Nat) (b:Bool),e= .returned (.tuple #[.slice o ss.length j,.bool b])∧SdOn w' (w.heap.size≤ ·) (.slice o ss.length j) ss∧q=(if b=true then some ss else none)∧Below w.heap.size w w':=by
 obtain⟨hb,⟨hq,he⟩|⟨xs,v,hq,hr,he⟩⟩:=h
 ·exact⟨[],none,0,false,he,SdOn.nil _ _,by rw[hq];rfl,hb⟩
 ·obtain⟨o,j,rfl⟩:=hr.form
  have :=hr.on
  refine⟨xs.map (·.1),o,j,true,by rw[he,List.length_map],by rw[List.length_map];exact this,by rw[hq];rfl,hb⟩
def L1 (w:World)(ab:Bool)(W:World):Prop:=W.heap[w.heap.size]? =some (boxEx ex0 (.slice none 0 0) (.slice none 0 0))∧W.heap[w.heap.size+1]? =some (boxEx (.mk 16 [] 0 0 ab [] []) (.slice none 0 0) (.slice none 0 0))∧Below w.heap.size w W
theorem L1.new (w:World)(ab:Bool):L1 w ab ((w.alloc (boxEx ex0 (.slice none 0 0) (.slice none 0 0))).alloc (boxEx (.mk 16 [] 0 0 ab [] []) (.slice none 0 0) (.slice none 0 0))):=by
 refine⟨(Below.heap_alloc _ _ _ (by simp)).trans (World.alloc_heap_new w _),?_,(below_box _).alloc (by simp) _⟩
 have :=World.alloc_heap_new (w.alloc (boxEx ex0 (.slice none 0 0) (.slice none 0 0))) (boxEx (.mk 16 [] 0 0 ab [] []) (.slice none 0 0) (.slice none 0 0))
 simpa using this
theorem L1.lt {w W:World}{ab:Bool}(h:L1 w ab W):w.heap.size+1<W.heap.size:=(Array.getElem?_eq_some_iff.1 h.2.1).1
theorem L1.call {w W W':World}{ab:Bool}(h:L1 w ab W)(hb:Below W.heap.size W W'):L1 w ab W':=⟨(hb.block _ (by have :=h.lt;omega)).trans h.1,(hb.block _ h.lt).trans h.2.1,h.2.2.trans (hb.mono h.2.2.size)⟩
theorem L1.up {w W W':World}{ab:Bool}(h:L1 w ab W)(hb:Below (w.heap.size+2) W W'):L1 w ab W':=⟨(hb.block _ (by omega)).trans h.1,(hb.block _ (by omega)).trans h.2.1,h.2.2.trans (hb.mono (by omega))⟩
theorem L1.facts {w W:World}{ab:Bool}(h:L1 w ab W):
 (W.cell? ⟨w.heap.size,0,none⟩=some (.int .i64 0)∧W.cell? ⟨w.heap.size,1,none⟩=some (.string (bs []))∧W.cell? ⟨w.heap.size,2,none⟩=some (.int .i64 0)∧W.cell? ⟨w.heap.size,3,none⟩=some (.int .i64 0)∧W.cell? ⟨w.heap.size,4,none⟩=some (.bool false)∧W.cell? ⟨w.heap.size,5,none⟩=some (.slice none 0 0)∧W.cell? ⟨w.heap.size,6,none⟩=some (.slice none 0 0))∧(∀i,W.frozen? ⟨w.heap.size,i,none⟩=false)∧
 (W.cell? ⟨w.heap.size+1,0,none⟩=some (.int .i64 16)∧W.cell? ⟨w.heap.size+1,1,none⟩=some (.string (bs []))∧W.cell? ⟨w.heap.size+1,2,none⟩=some (.int .i64 0)∧W.cell? ⟨w.heap.size+1,3,none⟩=some (.int .i64 0)∧W.cell? ⟨w.heap.size+1,4,none⟩=some (.bool ab)∧W.cell? ⟨w.heap.size+1,5,none⟩=some (.slice none 0 0)∧W.cell? ⟨w.heap.size+1,6,none⟩=some (.slice none 0 0))∧(∀i,W.frozen? ⟨w.heap.size+1,i,none⟩=false)∧w.heap.size+1<W.heap.size∧w.heap.size<W.heap.size:=
 ⟨(boxEx_blk h.1).1,(boxEx_blk h.1).2,(boxEx_blk h.2.1).1,(boxEx_blk h.2.1).2,h.lt,by have :=h.lt;omega⟩
theorem loc_end {fn:Func}(h:fn.results= #[.cell 2 28,.tmp 3]){a:Act}{w:World}(W:World){ab b:Bool}{ss:List St}{o:Option Addr}{j:Nat}{r:Option Ex}(hl:L1 w ab W)(hs:SdOn W (w.heap.size+2≤ ·) (.slice o ss.length j) ss)(hr:r=if b=true then some (.mk 16 [] 0 0 ab [] ss) else none)
 (hp:a.tmps.getD 2 undef= .pointer (some ⟨w.heap.size,0,none⟩)) (hq:a.tmps.getD 3 undef= .bool b) (hd:a.defers=[]):bodyPost Tryz.prog fn (OrP w r) .ret a (setEx (W.setCell ⟨w.heap.size+1,6,none⟩ (.slice o ss.length j)) w.heap.size (.mk 16 [] 0 0 ab [] ss) (.slice none 0 0) (.slice o ss.length j)):=by
 refine endOr h _ (.mk 16 [] 0 0 ab [] ss) (.slice none 0 0) (.slice o ss.length j) b ((heap_set_ne (a:=⟨w.heap.size+1,6,none⟩) (show w.heap.size≠w.heap.size+1 by omega)).trans hl.1) (hl.2.2.setCell (p:=⟨w.heap.size+1,6,none⟩) (by show w.heap.size≤w.heap.size+1;omega) _) (ExOn.iff.2 ⟨KdOn.nil _ _,?_⟩) hr hp hq hd
 exact hs.move fun k _ hF=>⟨by omega,heap_set_ne (a:=⟨w.heap.size+1,6,none⟩) (show k≠w.heap.size+1 by omega)⟩
theorem loc_endO {fn:Func}(h:fn.results= #[.cell 2 28,.tmp 3]){a:Act}{w:World}{b:Bool}{r:Option Ex}(hr:r=if b=true then some (.mk 16 [] 0 0 true [] []) else none)
 (hp:a.tmps.getD 2 undef= .pointer (some ⟨w.heap.size,0,none⟩)) (hq:a.tmps.getD 3 undef= .bool b) (hd:a.defers=[]):bodyPost Tryz.prog fn (OrP w r) .ret a (((w.alloc (boxEx (.mk 16 [] 0 0 true [] []) (.slice none 0 0) (.slice none 0 0))).alloc (boxEx (.mk 16 [] 0 0 true [] []) (.slice none 0 0) (.slice none 0 0))).drew):=by
 have hk:(((w.alloc (boxEx (.mk 16 [] 0 0 true [] []) (.slice none 0 0) (.slice none 0 0))).alloc (boxEx (.mk 16 [] 0 0 true [] []) (.slice none 0 0) (.slice none 0 0))).drew).heap[w.heap.size]? =some (boxEx (.mk 16 [] 0 0 true [] []) (.slice none 0 0) (.slice none 0 0)):=(Below.heap_alloc _ _ _ (by simp)).trans (World.alloc_heap_new w _)
 have hp':a.tmps[2]?.getD undef= .pointer (some ⟨w.heap.size,0,none⟩):=by simpa using hp
 have hq':a.tmps[3]?.getD undef= .bool b:=by simpa using hq
 obtain⟨⟨a0,a1,a2,a3,a4,a5,a6⟩,_⟩:=boxEx_blk hk
 exact bodyPost_ret (by simp[results,h,hp',hq',go_sem,a0,a1,a2,a3,a4,a5,a6,exV]) hd ⟨((below_box _).alloc (by simp) _).trans ((below_drew _).mono (by simp;omega)),.mk 16 [] 0 0 true [] [],.slice none 0 0,.slice none 0 0,b,rfl,ExOn.iff.2 ⟨KdOn.nil _ _,SdOn.nil _ _⟩,hr⟩
theorem stepsD_fuel {O:List Wd→Option Ex}:∀(f f':Nat) (l:List Wd) (acc:List St),l.length<f→l.length<f'→stepsD O f l acc=stepsD O f' l acc
 |0,_,_,_,h,_=>by omega
 |_+1,0,_,_,_,h=>by omega
 |f+1,f'+1,l,acc,h,h'=>by
  rw[stepsD,stepsD]
  cases l with
  |nil=>rfl
  |cons x r=>
   have hne:¬(x::r=[]):=by simp
   rw[if_neg hne,if_neg hne,List.tail_cons]
   cases hs:stpDc O r with
   |none=>rfl
   |some q=>
    obtain⟨s,t⟩:=q
    dsimp only
    obtain⟨m,m1,m2,rfl⟩:=stpDc_suf hs
    rw[List.length_cons]at h h'
    rw[stepsD_fuel f f' _ _ (by rw[List.length_drop];omega) (by rw[List.length_drop];omega),stepsD_fuel f f' _ ((acc++[anySt 11])++[s]) (by rw[List.length_drop];omega) (by rw[List.length_drop];omega)]
end Char
namespace Char
open Go.RowKit Go.Lib
open Go.Proofs.YtlmpkpjjakallaaGreatDoor.Fig (outT outV)
set_option maxRecDepth 100000 in
set_option maxHeartbeats 2000000 in
theorem refStep_at_n0 (w:World)(g off n c:Nat)(ts:List Wd)(x:Wd)(hcx:∀W,Below w.heap.size w W→Wc W g off x)(n0:0<n)(hB:n≤800)(hd:MkC x ⟨#[46]⟩ false)(h2:MkC x ⟨#[46,46]⟩ false)(h3:MkC x ⟨#[64]⟩ true)(kd:Int)(nm:List UInt8)(hs:Bool)(ht:∀W,Below w.heap.size w W→Calls Tryz.prog 220 #[.slice (some ⟨g,off,none⟩) 0 0] W fun e w'=>e= .returned (.tuple #[teV (kd,nm,hs),.int .i64 0])∧Below W.heap.size W w')(hc:c=1)(hn:n=1)(q:Option (St×List Wd))(hq:q=none):
 Calls Tryz.prog 203 #[.slice (some ⟨g,off,none⟩) n c] w (StpP w ts q):=by
 have HCX:=Lib.hid hcx
 obtain⟨hgl,x0,x1,x2,x3⟩:=hcx w (Below.refl _ _)
 have n1:((n:Int)==0)=false:=by rw[beq_eq_false_iff_ne];omega
 have n2:(0:Int)<(n:Int):=by omega
 clear hcx
 have HD1:=Lib.hid hd
 have HD2:=Lib.hid h2
 have HD3:=Lib.hid h3
 clear hd h2 h3
 have HT:=Lib.hid ht
 have HQ:=Lib.hid hq
 clear ht hq
 subst hc hn
 go_enter Tryz.func203,Tryz.ntmps203
 go_wp2_with (first
  |(go_at_call 89
    refine(HD1.out _).mono ?_
    rintro e w1 ⟨rfl,hbw1⟩
    have Aw1:=Lib.hid ((S1.new w).call hbw1)
    clear x0 x1 x2 x3 hgl
    obtain⟨hgl,x0,x1,x2,x3⟩:=HCX.out w1 Aw1.out.2
    obtain⟨⟨r0,r1,r2,r3,r4⟩,rf,rl⟩:=Aw1.out.facts
    clear HD1 hbw1)
  |(go_at_call 89
    refine(HD2.out _).mono ?_
    rintro e w2 ⟨rfl,hbw2⟩
    have Aw2:=Lib.hid (Aw1.out.call hbw2)
    clear x0 x1 x2 x3 hgl
    obtain⟨hgl,x0,x1,x2,x3⟩:=HCX.out w2 Aw2.out.2
    clear r0 r1 r2 r3 r4 rf rl
    obtain⟨⟨r0,r1,r2,r3,r4⟩,rf,rl⟩:=Aw2.out.facts
    clear HD2 hbw2)
  |(go_at_call 89
    refine(HD3.out _).mono ?_
    rintro e w3 ⟨rfl,hbw3⟩
    have Aw3:=Lib.hid ((S2.new Aw2.out (.mk 1 0 [] false []) (.slice none 0 0)).call hbw3)
    clear x0 x1 x2 x3 hgl r0 r1 r2 r3 r4 rf rl
    obtain⟨hgl,x0,x1,x2,x3⟩:=HCX.out w3 Aw3.out.1.2
    obtain⟨⟨s0,s1,s2,s3,s4⟩,sf,sl,⟨r0,r1,r2,r3,r4⟩,rf,rl⟩:=Aw3.out.facts
    dsimp only[St.ax,St.tk,St.nm,St.has]at s0 s1 s2 s3
    have A4:=Lib.hid (Aw3.out.ax 9)
    clear HD3 hbw3)
  |(go_at_call 220
    refine(HT.out _ A4.out.1.2).mono ?_
    rintro e w5 ⟨rfl,hbw5⟩
    unfold teV
    have A5:=Lib.hid (A4.out.call hbw5)
    clear s0 s1 s2 s3 s4 sf sl r0 r1 r2 r3 r4 rf rl
    have B5:=Lib.hid ((A5.out.te (k:=kd) (n:=nm) (hs:=hs)).alloc (boxTe kd nm hs))
    obtain⟨⟨s0,s1,s2,s3,s4⟩,sf,sl,⟨r0,r1,r2,r3,r4⟩,rf,rl⟩:=A5.out.facts
    dsimp only[St.ax,St.tk,St.nm,St.has]at s0 s1 s2 s3
    clear HT hbw5))
 exact step_noA Tryz.results203 w5 (boxTe kd nm hs) A5.out.1 HQ.out rfl rfl rfl
set_option maxRecDepth 100000 in
set_option maxHeartbeats 2000000 in
theorem refStep_at_tn (w:World)(g off n c:Nat)(ts:List Wd)(x:Wd)(hcx:∀W,Below w.heap.size w W→Wc W g off x)(n0:0<n)(hB:n≤800)(hd:MkC x ⟨#[46]⟩ false)(h2:MkC x ⟨#[46,46]⟩ false)(h3:MkC x ⟨#[64]⟩ true)(kd:Int)(nm:List UInt8)(hs:Bool)(ht:∀W,Below w.heap.size w W→Calls Tryz.prog 220 #[.slice (some ⟨g,off+(1)*4,none⟩) (n-(1)) (c-(1))] W fun e w'=>e= .returned (.tuple #[teV (kd,nm,hs),.int .i64 0])∧Below W.heap.size W w')(hk:¬c=1)(hnc:n≤c)(hKn:1≤n)(q:Option (St×List Wd))(hq:q=none):
 Calls Tryz.prog 203 #[.slice (some ⟨g,off,none⟩) n c] w (StpP w ts q):=by
 have HCX:=Lib.hid hcx
 obtain⟨hgl,x0,x1,x2,x3⟩:=hcx w (Below.refl _ _)
 have n1:((n:Int)==0)=false:=by rw[beq_eq_false_iff_ne];omega
 have n2:(0:Int)<(n:Int):=by omega
 clear hcx
 have HD1:=Lib.hid hd
 have HD2:=Lib.hid h2
 have HD3:=Lib.hid h3
 clear hd h2 h3
 have HT:=Lib.hid ht
 have HQ:=Lib.hid hq
 clear ht hq
 have n3:1≤n:=by omega
 have n31:(1:Int)≤(n:Int):=by omega
 have n32:1≤c:=by omega
 go_enter Tryz.func203,Tryz.ntmps203
 go_wp2_with (first
  |(go_at_call 89
    refine(HD1.out _).mono ?_
    rintro e w1 ⟨rfl,hbw1⟩
    have Aw1:=Lib.hid ((S1.new w).call hbw1)
    clear x0 x1 x2 x3 hgl
    obtain⟨hgl,x0,x1,x2,x3⟩:=HCX.out w1 Aw1.out.2
    obtain⟨⟨r0,r1,r2,r3,r4⟩,rf,rl⟩:=Aw1.out.facts
    clear HD1 hbw1)
  |(go_at_call 89
    refine(HD2.out _).mono ?_
    rintro e w2 ⟨rfl,hbw2⟩
    have Aw2:=Lib.hid (Aw1.out.call hbw2)
    clear x0 x1 x2 x3 hgl
    obtain⟨hgl,x0,x1,x2,x3⟩:=HCX.out w2 Aw2.out.2
    clear r0 r1 r2 r3 r4 rf rl
    obtain⟨⟨r0,r1,r2,r3,r4⟩,rf,rl⟩:=Aw2.out.facts
    clear HD2 hbw2)
  |(go_at_call 89
    refine(HD3.out _).mono ?_
    rintro e w3 ⟨rfl,hbw3⟩
    have Aw3:=Lib.hid ((S2.new Aw2.out (.mk 1 0 [] false []) (.slice none 0 0)).call hbw3)
    clear x0 x1 x2 x3 hgl r0 r1 r2 r3 r4 rf rl
    obtain⟨hgl,x0,x1,x2,x3⟩:=HCX.out w3 Aw3.out.1.2
    obtain⟨⟨s0,s1,s2,s3,s4⟩,sf,sl,⟨r0,r1,r2,r3,r4⟩,rf,rl⟩:=Aw3.out.facts
    dsimp only[St.ax,St.tk,St.nm,St.has]at s0 s1 s2 s3
    have A4:=Lib.hid (Aw3.out.ax 9)
    clear HD3 hbw3)
  |(go_at_call 220
    refine(HT.out _ A4.out.1.2).mono ?_
    rintro e w5 ⟨rfl,hbw5⟩
    unfold teV
    have A5:=Lib.hid (A4.out.call hbw5)
    clear s0 s1 s2 s3 s4 sf sl r0 r1 r2 r3 r4 rf rl
    have B5:=Lib.hid ((A5.out.te (k:=kd) (n:=nm) (hs:=hs)).alloc (boxTe kd nm hs))
    obtain⟨⟨s0,s1,s2,s3,s4⟩,sf,sl,⟨r0,r1,r2,r3,r4⟩,rf,rl⟩:=A5.out.facts
    dsimp only[St.ax,St.tk,St.nm,St.has]at s0 s1 s2 s3
    clear HT hbw5))
 exact step_noA Tryz.results203 w5 (boxTe kd nm hs) A5.out.1 HQ.out rfl rfl rfl
set_option maxRecDepth 100000 in
set_option maxHeartbeats 2000000 in
theorem refStep_at_pn (w:World)(g off n c:Nat)(ts:List Wd)(x:Wd)(hcx:∀W,Below w.heap.size w W→Wc W g off x)(n0:0<n)(hB:n≤800)(hd:MkC x ⟨#[46]⟩ false)(h2:MkC x ⟨#[46,46]⟩ false)(h3:MkC x ⟨#[64]⟩ true)(m1:Nat)(kd:Int)(nm:List UInt8)(hs:Bool)(ht:∀W,Below w.heap.size w W→Calls Tryz.prog 220 #[.slice (some ⟨g,off+(1)*4,none⟩) (n-(1)) (c-(1))] W fun e w'=>e= .returned (.tuple #[teV (kd,nm,hs),.int .i64 (m1:Int)])∧Below W.heap.size W w')(hp:∀W,Below w.heap.size w W→Calls Tryz.prog 185 #[.slice (some ⟨g,off+(1+m1)*4,none⟩) (n-(1+m1)) (c-(1+m1))] W fun e w'=>e= .returned (.tuple #[.slice none 0 0,.int .i64 (-1)])∧Below W.heap.size W w')(h1:1≤m1)(hm:1+m1≤n)(hnc:n≤c)(hk:¬c=1)(hk2:¬c=1+m1)(q:Option (St×List Wd))(hq:q=none):
 Calls Tryz.prog 203 #[.slice (some ⟨g,off,none⟩) n c] w (StpP w ts q):=by
 have HCX:=Lib.hid hcx
 obtain⟨hgl,x0,x1,x2,x3⟩:=hcx w (Below.refl _ _)
 have n1:((n:Int)==0)=false:=by rw[beq_eq_false_iff_ne];omega
 have n2:(0:Int)<(n:Int):=by omega
 clear hcx
 have HD1:=Lib.hid hd
 have HD2:=Lib.hid h2
 have HD3:=Lib.hid h3
 clear hd h2 h3
 have HT:=Lib.hid ht
 have HQ:=Lib.hid hq
 clear ht hq
 have HP:=Lib.hid hp
 clear hp
 have n3:1≤n:=by omega
 have n31:(1:Int)≤(n:Int):=by omega
 have n32:1≤c:=by omega
 have n4:(1:Int)+(m1:Int)≤(n:Int):=by omega
 have n5:1+m1≤c:=by omega
 have n6:((m1:Int)==0)=false:=by rw[beq_eq_false_iff_ne];omega
 have n7:(m1:Int)≤(n:Int):=by omega
 go_enter Tryz.func203,Tryz.ntmps203
 go_wp2_with (first
  |(go_at_call 89
    refine(HD1.out _).mono ?_
    rintro e w1 ⟨rfl,hbw1⟩
    have Aw1:=Lib.hid ((S1.new w).call hbw1)
    clear x0 x1 x2 x3 hgl
    obtain⟨hgl,x0,x1,x2,x3⟩:=HCX.out w1 Aw1.out.2
    obtain⟨⟨r0,r1,r2,r3,r4⟩,rf,rl⟩:=Aw1.out.facts
    clear HD1 hbw1)
  |(go_at_call 89
    refine(HD2.out _).mono ?_
    rintro e w2 ⟨rfl,hbw2⟩
    have Aw2:=Lib.hid (Aw1.out.call hbw2)
    clear x0 x1 x2 x3 hgl
    obtain⟨hgl,x0,x1,x2,x3⟩:=HCX.out w2 Aw2.out.2
    clear r0 r1 r2 r3 r4 rf rl
    obtain⟨⟨r0,r1,r2,r3,r4⟩,rf,rl⟩:=Aw2.out.facts
    clear HD2 hbw2)
  |(go_at_call 89
    refine(HD3.out _).mono ?_
    rintro e w3 ⟨rfl,hbw3⟩
    have Aw3:=Lib.hid ((S2.new Aw2.out (.mk 1 0 [] false []) (.slice none 0 0)).call hbw3)
    clear x0 x1 x2 x3 hgl r0 r1 r2 r3 r4 rf rl
    obtain⟨hgl,x0,x1,x2,x3⟩:=HCX.out w3 Aw3.out.1.2
    obtain⟨⟨s0,s1,s2,s3,s4⟩,sf,sl,⟨r0,r1,r2,r3,r4⟩,rf,rl⟩:=Aw3.out.facts
    dsimp only[St.ax,St.tk,St.nm,St.has]at s0 s1 s2 s3
    have A4:=Lib.hid (Aw3.out.ax 9)
    clear HD3 hbw3)
  |(go_at_call 220
    refine(HT.out _ A4.out.1.2).mono ?_
    rintro e w5 ⟨rfl,hbw5⟩
    unfold teV
    have A5:=Lib.hid (A4.out.call hbw5)
    clear s0 s1 s2 s3 s4 sf sl r0 r1 r2 r3 r4 rf rl
    have B5:=Lib.hid ((A5.out.te (k:=kd) (n:=nm) (hs:=hs)).alloc (boxTe kd nm hs))
    obtain⟨⟨s0,s1,s2,s3,s4⟩,sf,sl,⟨r0,r1,r2,r3,r4⟩,rf,rl⟩:=A5.out.facts
    dsimp only[St.ax,St.tk,St.nm,St.has]at s0 s1 s2 s3
    clear HT hbw5)
  |(go_at_call 185
    refine(HP.out _ B5.out.1.2).mono ?_
    rintro e w7 ⟨rfl,hbw7⟩
    have A7:=Lib.hid (B5.out.call hbw7)
    clear s0 s1 s2 s3 s4 sf sl r0 r1 r2 r3 r4 rf rl
    obtain⟨⟨s0,s1,s2,s3,s4⟩,sf,sl,⟨r0,r1,r2,r3,r4⟩,rf,rl⟩:=A7.out.facts
    clear HP hbw7))
 exact step_no Tryz.results203 _ A7.out.1 HQ.out rfl rfl rfl
set_option maxRecDepth 100000 in
set_option maxHeartbeats 2000000 in
theorem refStep_at_ok (w:World)(g off n c:Nat)(ts:List Wd)(x:Wd)(hcx:∀W,Below w.heap.size w W→Wc W g off x)(n0:0<n)(hB:n≤800)(hd:MkC x ⟨#[46]⟩ false)(h2:MkC x ⟨#[46,46]⟩ false)(h3:MkC x ⟨#[64]⟩ true)(m1:Nat)(kd:Int)(nm:List UInt8)(hs:Bool)(ht:∀W,Below w.heap.size w W→Calls Tryz.prog 220 #[.slice (some ⟨g,off+(1)*4,none⟩) (n-(1)) (c-(1))] W fun e w'=>e= .returned (.tuple #[teV (kd,nm,hs),.int .i64 (m1:Int)])∧Below W.heap.size W w')(m2:Nat)(ps:List Ex)(hp:∀W,Below w.heap.size w W→Calls Tryz.prog 185 #[.slice (some ⟨g,off+(1+m1)*4,none⟩) (n-(1+m1)) (c-(1+m1))] W fun e w'=>∃(xs:List (Ex×Value×Value)) (o7:Option Addr) (j7:Nat),e= .returned (.tuple #[.slice o7 xs.length j7,.int .i64 (m2:Int)])∧RowEx W.heap.size w' (.slice o7 xs.length j7) xs∧xs.map (·.1)=ps∧Below W.heap.size W w')(h1:1≤m1)(hm:1+m1≤n)(hnc:n≤c)(hk:¬c=1)(hk2:¬c=1+m1)(q:Option (St×List Wd))(hq:q=some (.mk 9 kd nm hs ps,ts.drop (1+m1+m2)))(hm2:m2≤800)(htot:1≤1+m1+m2∧1+m1+m2≤ts.length):
 Calls Tryz.prog 203 #[.slice (some ⟨g,off,none⟩) n c] w (StpP w ts q):=by
 have HCX:=Lib.hid hcx
 obtain⟨hgl,x0,x1,x2,x3⟩:=hcx w (Below.refl _ _)
 have n1:((n:Int)==0)=false:=by rw[beq_eq_false_iff_ne];omega
 have n2:(0:Int)<(n:Int):=by omega
 clear hcx
 have HD1:=Lib.hid hd
 have HD2:=Lib.hid h2
 have HD3:=Lib.hid h3
 clear hd h2 h3
 have HT:=Lib.hid ht
 have HQ:=Lib.hid hq
 clear ht hq
 have HP:=Lib.hid hp
 clear hp
 have n3:1≤n:=by omega
 have n31:(1:Int)≤(n:Int):=by omega
 have n32:1≤c:=by omega
 have n4:(1:Int)+(m1:Int)≤(n:Int):=by omega
 have n5:1+m1≤c:=by omega
 have n6:((m1:Int)==0)=false:=by rw[beq_eq_false_iff_ne];omega
 have n7:(m1:Int)≤(n:Int):=by omega
 have HTOT:=Lib.hid htot
 clear htot
 have n8:decide ((m2:Int)<0)=false:=decide_eq_false (by omega)
 go_enter Tryz.func203,Tryz.ntmps203
 go_wp2_with (first
  |(go_at_call 89
    refine(HD1.out _).mono ?_
    rintro e w1 ⟨rfl,hbw1⟩
    have Aw1:=Lib.hid ((S1.new w).call hbw1)
    clear x0 x1 x2 x3 hgl
    obtain⟨hgl,x0,x1,x2,x3⟩:=HCX.out w1 Aw1.out.2
    obtain⟨⟨r0,r1,r2,r3,r4⟩,rf,rl⟩:=Aw1.out.facts
    clear HD1 hbw1)
  |(go_at_call 89
    refine(HD2.out _).mono ?_
    rintro e w2 ⟨rfl,hbw2⟩
    have Aw2:=Lib.hid (Aw1.out.call hbw2)
    clear x0 x1 x2 x3 hgl
    obtain⟨hgl,x0,x1,x2,x3⟩:=HCX.out w2 Aw2.out.2
    clear r0 r1 r2 r3 r4 rf rl
    obtain⟨⟨r0,r1,r2,r3,r4⟩,rf,rl⟩:=Aw2.out.facts
    clear HD2 hbw2)
  |(go_at_call 89
    refine(HD3.out _).mono ?_
    rintro e w3 ⟨rfl,hbw3⟩
    have Aw3:=Lib.hid ((S2.new Aw2.out (.mk 1 0 [] false []) (.slice none 0 0)).call hbw3)
    clear x0 x1 x2 x3 hgl r0 r1 r2 r3 r4 rf rl
    obtain⟨hgl,x0,x1,x2,x3⟩:=HCX.out w3 Aw3.out.1.2
    obtain⟨⟨s0,s1,s2,s3,s4⟩,sf,sl,⟨r0,r1,r2,r3,r4⟩,rf,rl⟩:=Aw3.out.facts
    dsimp only[St.ax,St.tk,St.nm,St.has]at s0 s1 s2 s3
    have A4:=Lib.hid (Aw3.out.ax 9)
    clear HD3 hbw3)
  |(go_at_call 220
    refine(HT.out _ A4.out.1.2).mono ?_
    rintro e w5 ⟨rfl,hbw5⟩
    unfold teV
    have A5:=Lib.hid (A4.out.call hbw5)
    clear s0 s1 s2 s3 s4 sf sl r0 r1 r2 r3 r4 rf rl
    have B5:=Lib.hid ((A5.out.te (k:=kd) (n:=nm) (hs:=hs)).alloc (boxTe kd nm hs))
    obtain⟨⟨s0,s1,s2,s3,s4⟩,sf,sl,⟨r0,r1,r2,r3,r4⟩,rf,rl⟩:=A5.out.facts
    dsimp only[St.ax,St.tk,St.nm,St.has]at s0 s1 s2 s3
    clear HT hbw5)
  |(go_at_call 185
    refine(HP.out _ B5.out.1.2).mono ?_
    rintro e w7 ⟨xs,o7,j7,rfl,hr7,hx7,hbw7⟩
    have A7:=Lib.hid (B5.out.call hbw7)
    have HR7:=Lib.hid hr7
    have HX7:=Lib.hid hx7
    clear s0 s1 s2 s3 s4 sf sl r0 r1 r2 r3 r4 rf rl
    obtain⟨⟨s0,s1,s2,s3,s4⟩,sf,sl,⟨r0,r1,r2,r3,r4⟩,rf,rl⟩:=A7.out.facts
    dsimp only[St.ax,St.tk,St.nm,St.has]at s0 s1 s2 s3
    have hne:=A7.out.2.1
    clear HP hbw7 hr7 hx7))
 exact step_ok Tryz.results203 (w7.setCell ⟨w2.heap.size,4,none⟩ (.slice o7 xs.length j7)) (.mk 9 kd nm hs ps) (.slice o7 xs.length j7) (1+m1+m2) (A7.out.1.set A7.out.2.1 _) HQ.out HTOT.out.1 HTOT.out.2 (StOn.iff.2 (by
  rw[←HX7.out]
  exact HR7.out.on.move fun k hk hF=>⟨by have :=B5.out.1.lt;omega,heap_set_ne (a:=⟨w2.heap.size,4,none⟩) (show k≠w2.heap.size by have :=B5.out.lt;omega)⟩)) rfl (by first|rfl|go_num) rfl
set_option maxRecDepth 100000 in
set_option maxHeartbeats 2000000 in
theorem refStep_at_p0 (w:World)(g off n c:Nat)(ts:List Wd)(x:Wd)(hcx:∀W,Below w.heap.size w W→Wc W g off x)(n0:0<n)(hB:n≤800)(hd:MkC x ⟨#[46]⟩ false)(h2:MkC x ⟨#[46,46]⟩ false)(h3:MkC x ⟨#[64]⟩ true)(m1:Nat)(kd:Int)(nm:List UInt8)(hs:Bool)(ht:∀W,Below w.heap.size w W→Calls Tryz.prog 220 #[.slice (some ⟨g,off+1*4,none⟩) m1 m1] W fun e w'=>e= .returned (.tuple #[teV (kd,nm,hs),.int .i64 (m1:Int)])∧Below W.heap.size W w')(m2:Nat)(ps:List Ex)(hp:∀W,Below w.heap.size w W→Calls Tryz.prog 185 #[.slice (some ⟨g,off,none⟩) 0 0] W fun e w'=>∃(xs:List (Ex×Value×Value)) (o7:Option Addr) (j7:Nat),e= .returned (.tuple #[.slice o7 xs.length j7,.int .i64 (m2:Int)])∧RowEx W.heap.size w' (.slice o7 xs.length j7) xs∧xs.map (·.1)=ps∧Below W.heap.size W w')(h1:1≤m1)(hm:1+m1≤n)(hnc:n≤c)(hk:¬c=1)(hc:c=1+m1)(hn:n=1+m1)(q:Option (St×List Wd))(hq:q=some (.mk 9 kd nm hs ps,ts.drop (1+m1+m2)))(hm2:m2≤800)(htot:1≤1+m1+m2∧1+m1+m2≤ts.length):
 Calls Tryz.prog 203 #[.slice (some ⟨g,off,none⟩) n c] w (StpP w ts q):=by
 have HCX:=Lib.hid hcx
 obtain⟨hgl,x0,x1,x2,x3⟩:=hcx w (Below.refl _ _)
 have n1:((n:Int)==0)=false:=by rw[beq_eq_false_iff_ne];omega
 have n2:(0:Int)<(n:Int):=by omega
 clear hcx
 have HD1:=Lib.hid hd
 have HD2:=Lib.hid h2
 have HD3:=Lib.hid h3
 clear hd h2 h3
 have HT:=Lib.hid ht
 have HQ:=Lib.hid hq
 clear ht hq
 have HP:=Lib.hid hp
 clear hp
 have n3:1≤n:=by omega
 have n31:(1:Int)≤(n:Int):=by omega
 have n32:1≤c:=by omega
 have n4:(1:Int)+(m1:Int)≤(n:Int):=by omega
 have n5:1+m1≤c:=by omega
 have n6:((m1:Int)==0)=false:=by rw[beq_eq_false_iff_ne];omega
 have n7:(m1:Int)≤(n:Int):=by omega
 have HTOT:=Lib.hid htot
 clear htot
 have n8:decide ((m2:Int)<0)=false:=decide_eq_false (by omega)
 subst hc hn
 go_enter Tryz.func203,Tryz.ntmps203
 go_wp2_with (first
  |(go_at_call 89
    refine(HD1.out _).mono ?_
    rintro e w1 ⟨rfl,hbw1⟩
    have Aw1:=Lib.hid ((S1.new w).call hbw1)
    clear x0 x1 x2 x3 hgl
    obtain⟨hgl,x0,x1,x2,x3⟩:=HCX.out w1 Aw1.out.2
    obtain⟨⟨r0,r1,r2,r3,r4⟩,rf,rl⟩:=Aw1.out.facts
    clear HD1 hbw1)
  |(go_at_call 89
    refine(HD2.out _).mono ?_
    rintro e w2 ⟨rfl,hbw2⟩
    have Aw2:=Lib.hid (Aw1.out.call hbw2)
    clear x0 x1 x2 x3 hgl
    obtain⟨hgl,x0,x1,x2,x3⟩:=HCX.out w2 Aw2.out.2
    clear r0 r1 r2 r3 r4 rf rl
    obtain⟨⟨r0,r1,r2,r3,r4⟩,rf,rl⟩:=Aw2.out.facts
    clear HD2 hbw2)
  |(go_at_call 89
    refine(HD3.out _).mono ?_
    rintro e w3 ⟨rfl,hbw3⟩
    have Aw3:=Lib.hid ((S2.new Aw2.out (.mk 1 0 [] false []) (.slice none 0 0)).call hbw3)
    clear x0 x1 x2 x3 hgl r0 r1 r2 r3 r4 rf rl
    obtain⟨hgl,x0,x1,x2,x3⟩:=HCX.out w3 Aw3.out.1.2
    obtain⟨⟨s0,s1,s2,s3,s4⟩,sf,sl,⟨r0,r1,r2,r3,r4⟩,rf,rl⟩:=Aw3.out.facts
    dsimp only[St.ax,St.tk,St.nm,St.has]at s0 s1 s2 s3
    have A4:=Lib.hid (Aw3.out.ax 9)
    clear HD3 hbw3)
  |(go_at_call 220
    refine(HT.out _ A4.out.1.2).mono ?_
    rintro e w5 ⟨rfl,hbw5⟩
    unfold teV
    have A5:=Lib.hid (A4.out.call hbw5)
    clear s0 s1 s2 s3 s4 sf sl r0 r1 r2 r3 r4 rf rl
    have B5:=Lib.hid ((A5.out.te (k:=kd) (n:=nm) (hs:=hs)).alloc (boxTe kd nm hs))
    obtain⟨⟨s0,s1,s2,s3,s4⟩,sf,sl,⟨r0,r1,r2,r3,r4⟩,rf,rl⟩:=A5.out.facts
    dsimp only[St.ax,St.tk,St.nm,St.has]at s0 s1 s2 s3
    clear HT hbw5)
  |(go_at_call 185
    refine(HP.out _ B5.out.1.2).mono ?_
    rintro e w7 ⟨xs,o7,j7,rfl,hr7,hx7,hbw7⟩
    have A7:=Lib.hid (B5.out.call hbw7)
    have HR7:=Lib.hid hr7
    have HX7:=Lib.hid hx7
    clear s0 s1 s2 s3 s4 sf sl r0 r1 r2 r3 r4 rf rl
    obtain⟨⟨s0,s1,s2,s3,s4⟩,sf,sl,⟨r0,r1,r2,r3,r4⟩,rf,rl⟩:=A7.out.facts
    dsimp only[St.ax,St.tk,St.nm,St.has]at s0 s1 s2 s3
    have hne:=A7.out.2.1
    clear HP hbw7 hr7 hx7))
 exact step_ok Tryz.results203 (w7.setCell ⟨w2.heap.size,4,none⟩ (.slice o7 xs.length j7)) (.mk 9 kd nm hs ps) (.slice o7 xs.length j7) (1+m1+m2) (A7.out.1.set A7.out.2.1 _) HQ.out HTOT.out.1 HTOT.out.2 (StOn.iff.2 (by
  rw[←HX7.out]
  exact HR7.out.on.move fun k hk hF=>⟨by have :=B5.out.1.lt;omega,heap_set_ne (a:=⟨w2.heap.size,4,none⟩) (show k≠w2.heap.size by have :=B5.out.lt;omega)⟩)) rfl (by first|rfl|go_num) rfl
end Char
end Go.Proofs.YtlmpkpjjakallaaGreatDoor
