import Derived.Test.YtlmpkpjjakallaaGreatDoorPt13
namespace Go.Proofs.YtlmpkpjjakallaaGreatDoor
namespace Char
open Go.RowKit Go.Lib
def filtL (E:List Wd→Option (Ex×List Wd))(ts:List Wd):Option (Ex×List Wd):=match primL E ts with
 |none=>none
 |some (x,r)=>match predsL E (r.length+1) r [] with
  |none=>none
  |some (ps,t)=>if ps=[] then some (x,t) else some (.mk 17 [] 0 0 false (x::ps) [],t)
theorem filt_len {E:List Wd→Option (Ex×List Wd)}(hS:ShrE E){ts t:List Wd}{e:Ex}(h:filtL E ts=some (e,t)):t.length<ts.length:=by
 unfold filtL at h
 cases hp:primL E ts with
 |none=>rw[hp]at h;cases h
 |some p=>
  obtain⟨x,r⟩:=p
  rw[hp]at h
  dsimp only at h
  have h1:=prim_len hS hp
  cases hq:predsL E (r.length+1) r [] with
  |none=>rw[hq]at h;cases h
  |some p=>
   obtain⟨ps,u⟩:=p
   rw[hq]at h
   dsimp only at h
   have h2:=preds_len hS _ _ _ _ _ hq
   split at h<;>(cases h;omega)
set_option maxRecDepth 100000 in
set_option maxHeartbeats 8000000 in
theorem filt_any (R N:Nat)(E:List Wd→Option (Ex×List Wd))(ts:List Wd)(w:World)(hE:SubE R N E)(hS:ShrE E)(h:LfB R ts w)(hn:ts.length≤N)(hl:ts.length≤900):
 Calls Tryz.prog 199 #[.pointer (some ⟨R,0,none⟩)] w (ExP R w (filtL E ts)):=by
 have hlt:=h.lt
 have L0:Hid (LfB R ts (w.alloc (.cells #[.int .i64 0,.string ⟨#[]⟩,.int .i64 0,.int .i64 0,.bool false,.slice none 0 0,.slice none 0 0] 28))):=Lib.hid (h.box _)
 have A0:=Lib.hid (Bx.new hlt (boxEx ex0 (.slice none 0 0) (.slice none 0 0)))
 have C0:=Lib.hid (But.new R w hlt (boxEx ex0 (.slice none 0 0) (.slice none 0 0)))
 have hP:=fun(W:World) (hw:LfB R ts W)=>prim_any R N E ts W hE hS hw hn hl
 unfold filtL
 clear h
 cases h1:primL E ts with
 |none=>
  rw[h1]at hP
  have HP:=Lib.hid hP
  unfold ExP PaP at HP
  dsimp only at HP
  show Calls _ _ _ _ (PaP R w)
  unfold PaP
  clear h1 hP hE
  go_enter Tryz.func199,Tryz.ntmps199
  go_wp2_with (first
   |(go_at_call 217
     refine(HP.out _ L0.out).mono ?_
     rintro e w1 ⟨rfl,q2⟩
     have C1:=Lib.hid (C0.out.trans q2)
     clear q2
     unfold pan31))
  exact⟨rfl,rfl,C1.out⟩
 |some p=>
  obtain⟨x,r⟩:=p
  have h1l:=prim_len hS h1
  rw[h1]at hP
  have HP:=Lib.hid hP
  unfold ExP exV at HP
  dsimp only at HP ⊢
  have hX:=fun(W:World) (hw:LfB R r W)=>preds_any R N E r W hE hS hw (by omega) (by omega)
  have hpl:∀ps t,predsL E (r.length+1) r []=some (ps,t)→ps.length≤900:=fun ps t hh=>by have :=preds_cnt hS _ _ _ _ _ hh;simp at this;omega
  clear h1 hP hE
  cases h2:predsL E (r.length+1) r [] with
  |none=>
   rw[h2]at hX
   have HX:=Lib.hid hX
   unfold EsP PaP at HX
   dsimp only at HX
   show Calls _ _ _ _ (PaP R w)
   unfold PaP
   clear h2 hX
   go_enter Tryz.func199,Tryz.ntmps199
   go_wp2_with (first
    |(go_at_call 217
      refine(HP.out _ L0.out).mono ?_
      rintro e w1 ⟨vk,vs,rfl,q0,q1,q2⟩
      obtain⟨⟨o1,j1,rfl,_⟩,⟨o2,j2,rfl,_⟩⟩:=ExOn.iff.1 q0
      have C1:=Lib.hid ((C0.out.trans q2).box hlt (boxEx x (.slice o1 x.ks.length j1) (.slice o2 x.ss.length j2)))
      have L1:=Lib.hid (q1.box (boxEx x (.slice o1 x.ks.length j1) (.slice o2 x.ss.length j2)))
      have A1:=Lib.hid ((A0.out.next q2).box (boxEx x (.slice o1 x.ks.length j1) (.slice o2 x.ss.length j2)))
      have X1:=Lib.hid (Bx.new (Nat.lt_of_lt_of_le hlt (C0.out.trans q2).size) (boxEx x (.slice o1 x.ks.length j1) (.slice o2 x.ss.length j2)))
      have Y1:=Lib.hid ((ExOn.low (B':=w.heap.size+1) q0 (by simp)).below (below_box (boxEx x (.slice o1 x.ks.length j1) (.slice o2 x.ss.length j2))))
      clear q0 q1 q2 HP)
    |(go_at_call 218
      refine(HX.out _ L1.out).mono ?_
      rintro e w2 ⟨rfl,q2⟩
      have C2:=Lib.hid (C1.out.trans q2)
      clear q2
      unfold pan31))
   exact⟨rfl,rfl,C2.out⟩
  |some p=>
   obtain⟨ps,t⟩:=p
   have hpl2:=hpl ps t h2
   rw[h2]at hX
   have HX:=Lib.hid hX
   unfold EsP at HX
   dsimp only at HX ⊢
   clear h2 hX hpl
   by_cases hps:ps=[]
   ·rw[if_pos hps]
    subst hps
    go_enter Tryz.func199,Tryz.ntmps199
    go_wp2_with (first
     |(go_at_call 217
       refine(HP.out _ L0.out).mono ?_
       rintro e w1 ⟨vk,vs,rfl,q0,q1,q2⟩
       obtain⟨⟨o1,j1,rfl,_⟩,⟨o2,j2,rfl,_⟩⟩:=ExOn.iff.1 q0
       have C1:=Lib.hid ((C0.out.trans q2).box hlt (boxEx x (.slice o1 x.ks.length j1) (.slice o2 x.ss.length j2)))
       have L1:=Lib.hid (q1.box (boxEx x (.slice o1 x.ks.length j1) (.slice o2 x.ss.length j2)))
       have A1:=Lib.hid ((A0.out.next q2).box (boxEx x (.slice o1 x.ks.length j1) (.slice o2 x.ss.length j2)))
       have X1:=Lib.hid (Bx.new (Nat.lt_of_lt_of_le hlt (C0.out.trans q2).size) (boxEx x (.slice o1 x.ks.length j1) (.slice o2 x.ss.length j2)))
       have Y1:=Lib.hid ((ExOn.low (B':=w.heap.size+1) q0 (by simp)).below (below_box (boxEx x (.slice o1 x.ks.length j1) (.slice o2 x.ss.length j2))))
       clear q0 q1 q2 HP)
     |(go_at_call 218
       refine(HX.out _ L1.out).mono ?_
       rintro e w2 ⟨vp,ys,rfl,hys,q0,q1,q2⟩
       obtain⟨o5,j5,rfl⟩:=q0.form
       have hyl:ys.length=0:=by have :=congrArg List.length hys;simpa using this
       have HYS:=Lib.hid hys
       have C2:=Lib.hid (C1.out.trans q2)
       have L2:=Lib.hid q1
       have A2:=Lib.hid (A1.out.next q2)
       have X2:=Lib.hid (X1.out.next q2)
       have R2:=Lib.hid q0
       have Y2:=Lib.hid (Y1.out.but q2 (by omega))
       obtain⟨⟨z0,z1,z2,z3,z4,z5,z6⟩,_⟩:=boxEx_blk (X1.out.next q2).2
       obtain⟨_,gf⟩:=boxEx_blk (A1.out.next q2).2
       rw[hyl]
       clear q0 q1 q2 hys HX))
    have fin:=fun aa=>@endExP _ _ Tryz.results199 aa R w w2 x t _ _ _ _ _ A2.out.2 L2.out C2.out Y2.out hlt
    exact fin _ rfl rfl
   ·rw[if_neg hps]
    have hpos:0<ps.length:=List.length_pos_iff.2 hps
    go_enter Tryz.func199,Tryz.ntmps199
    go_wp2_with (first
     |(go_at_call 217
       refine(HP.out _ L0.out).mono ?_
       rintro e w1 ⟨vk,vs,rfl,q0,q1,q2⟩
       obtain⟨⟨o1,j1,rfl,_⟩,⟨o2,j2,rfl,_⟩⟩:=ExOn.iff.1 q0
       have C1:=Lib.hid ((C0.out.trans q2).box hlt (boxEx x (.slice o1 x.ks.length j1) (.slice o2 x.ss.length j2)))
       have L1:=Lib.hid (q1.box (boxEx x (.slice o1 x.ks.length j1) (.slice o2 x.ss.length j2)))
       have A1:=Lib.hid ((A0.out.next q2).box (boxEx x (.slice o1 x.ks.length j1) (.slice o2 x.ss.length j2)))
       have X1:=Lib.hid (Bx.new (Nat.lt_of_lt_of_le hlt (C0.out.trans q2).size) (boxEx x (.slice o1 x.ks.length j1) (.slice o2 x.ss.length j2)))
       have Y1:=Lib.hid ((ExOn.low (B':=w.heap.size+1) q0 (by simp)).below (below_box (boxEx x (.slice o1 x.ks.length j1) (.slice o2 x.ss.length j2))))
       clear q0 q1 q2 HP)
     |(go_at_call 218
       refine(HX.out _ L1.out).mono ?_
       rintro e w2 ⟨vp,ys,rfl,hys,q0,q1,q2⟩
       obtain⟨o5,j5,rfl⟩:=q0.form
       have hyl:ys.length=ps.length:=by have :=congrArg List.length hys;simpa using this
       have HYS:=Lib.hid hys
       have C2:=Lib.hid (C1.out.trans q2)
       have L2:=Lib.hid q1
       have A2:=Lib.hid (A1.out.next q2)
       have X2:=Lib.hid (X1.out.next q2)
       have R2:=Lib.hid q0
       have Y2:=Lib.hid (Y1.out.but q2 (by omega))
       obtain⟨⟨z0,z1,z2,z3,z4,z5,z6⟩,_⟩:=boxEx_blk (X1.out.next q2).2
       obtain⟨_,gf⟩:=boxEx_blk (A1.out.next q2).2
       have k0:((ys.length:Int)==0)=false:=by rw[beq_eq_false_iff_ne];omega
       have HYL:=Lib.hid hyl
       clear hyl
       clear q0 q1 q2 hys HX)
     |(at_builtin
       refine wpList_catEx (B:=w.heap.size+1) (C:=(w1.alloc (boxEx x (.slice o1 x.ks.length j1) (.slice o2 x.ss.length j2))).heap.size) (ys:=ys) rfl (.tmp 14) (.tmp 15) rfl (RowEx.one x (.slice o1 x.ks.length j1) (.slice o2 x.ss.length j2) Y2.out (by have :=A2.out.lt;omega)) (R2.out.below (below_box _)).1 (fun y hy=> ?_) (fun h0=> ?_) (by simp[Act.eval]) (by simp[Act.eval]) (by have :=A2.out.lt;simp;omega) (by have :=HYL.out;simp;omega) ?_
       ·refine ExOn.move (fun b hb hF=>⟨⟨?_,?_⟩,Below.heap_alloc _ _ b hb⟩) _ _ _ (R2.out.2 y hy)
        ·have :=(X1.out).lt
         have :=A1.out.lt
         have :=hF.1
         simp at this
         have :=C1.out.size
         omega
        ·simp[Value.ownBlock]
         omega
       ·have h9:=HYL.out
        rw[h0]at h9
        have h8:(0:Nat)=ps.length:=h9
        omega
       intro v' w3 hr3 hb3
       obtain⟨o6,j6,hv⟩:=hr3.form
       have hln:([(x,Value.slice o1 x.ks.length j1,Value.slice o2 x.ss.length j2)]++ys).length=ys.length+1:=by rw[List.length_append];exact Nat.add_comm _ _
       rw[hln]at hv
       subst hv
       have hbb:=(below_box (w:=w2) (boxEx x (.slice o1 x.ks.length j1) (.slice o2 x.ss.length j2))).mono (show w.heap.size+1≤w2.heap.size by have :=A2.out.lt;omega)|>.trans hb3
       have L3:=Lib.hid (L2.out.keep (fun k hk=>hbb.block k (by omega)) hbb.size)
       have C3:=Lib.hid (C2.out.up (hbb.mono (by omega)) hlt)
       have A3:=Lib.hid (show w3.heap[w.heap.size]? =some (boxEx ex0 (.slice none 0 0) (.slice none 0 0)) from (hbb.block _ (by omega)).trans A2.out.2)
       have R3:=Lib.hid hr3
       obtain⟨_,hf⟩:=boxEx_blk A3.out
       clear hr3 hb3 hbb hln))
    have hmap:([(x,Value.slice o1 x.ks.length j1,Value.slice o2 x.ss.length j2)]++ys).map (fun z:Ex×Value×Value=>z.1)=x::ps:=by rw[List.map_append,HYS.out];rfl
    have hon:=R3.out.on
    rw[hmap]at hon
    have fin:=fun aa=>@endExP _ _ Tryz.results199 aa R w w3 (.mk 17 [] 0 0 false (x::ps) []) t (.slice o6 (ys.length+1) j6) (.slice none 0 0) _ _ _ A3.out L3.out C3.out (ExOn.iff.2 ⟨hon,SdOn.nil _ _⟩) hlt
    exact fin _ rfl rfl
end Char
namespace Char
open Go.RowKit Go.Lib
theorem step_push {ops:Array Oper}{o:Oper}{a:Act}{K:Act→World→Prop}{Q:Exit→Act→World→Prop}{E:Prop}{B:Nat}{W:World}{v:Value}{n size bytes:Nat}{xs:List Value}{e st:TypeId}{z:Value}
 (hi:(Tryz.prog.info? e).map (fun i=>(i.zero,i.size,i.bytes))=some (some z,size,bytes)) (hst:Tryz.prog.underlying st=some (.slice e)) (hzs:z.cells.size=size) (hsz:0<size) (hby:bytes≤1000)
 (hgd:o.guard=none) (s x:Operand) (ho:o.op= .call {callee:= .builtin .append,args:= #[s,x],argTypes:= #[st,st]})
 (cs:List Value) (hcs:cs.length=size) (h1:∀u∈cs,u.oneCell'=true) (H:Nat) (hH:W.heap[H]? =some (.cells cs.toArray e (0,0))) (hown:W.ownsRow B e size v n xs) (hs:a.eval s=v) (hx:a.eval x= .slice (some ⟨H,0,none⟩) 1 1) (hB:B≤W.heap.size) (hlen:n≤10000000)
 (h:∀g cap w1,w1.ownsRow B e size (.slice (some ⟨g,0,none⟩) (n+1) cap) (n+1) (xs++cs)→Below B W w1→(∀k,k<W.heap.size→some k≠v.ownBlock→w1.heap[k]? =W.heap[k]?)→(v.ownBlock=some g∨W.heap.size≤g)→K (a.put o.dst (.slice (some ⟨g,0,none⟩) (n+1) cap)) w1):
 if Region.wanted o (yielded ops a.tmps)=true then Oper.wp Tryz.prog o a W K Q else E:=by
 obtain⟨i0,hi,hz0,hz1,hz2⟩:=info_parts hi
 refine step_append_lies W hgd s x st ho B e i0 z size bytes hst hi hz0 hz1 hz2 hzs hsz v n xs hs hown ⟨H,0,none⟩ 1 1 cs hx (by rw[hcs,Nat.one_mul]) ?_ h1 (by decide) ?_ ?_ hB W.heap.size rfl ?_
 ·intro j u hj
  rw[Addr.add_lit,Nat.zero_add]
  simp only[World.cell?,hH]
  simpa using hj
 ·unfold maxLen;omega
 ·have :(n+1)*bytes≤(n+1)*1000:=Nat.mul_le_mul_left _ hby
  omega
 ·intro g cap w1 hown' hgrow hlie _
  refine h g cap w1 hown' ((Below.refl B W).grown hgrow hB (fun k hk=>by
   rcases hown.2 with⟨rfl,_⟩|⟨g,cap,cur,rfl,hg,_⟩
   ·simp[Value.ownBlock]at hk
   ·simp[Value.ownBlock]at hk;omega)) (fun k hk hne=>hgrow.block k hk (fun e=>hne e)) ?_
  rcases hlie with hl|hl
  ·exact .inl hl
  ·exact .inr (by omega)
theorem step_pushSt {ops:Array Oper}{o:Oper}{a:Act}{K:Act→World→Prop}{Q:Exit→Act→World→Prop}{E:Prop}{B:Nat}{W:World}{v:Value}{xs:List (St×Value)}
 (hgd:o.guard=none) (s x:Operand) (ho:o.op= .call {callee:= .builtin .append,args:= #[s,x],argTypes:= #[26,26]})
 (y:St) (vp:Value) (H:Nat) (hH:W.heap[H]? =some (boxSt y vp)) (hown:RowSt B W v xs) (hy:StOn W (fun b=>B≤b∧v.ownBlock≠some b) y vp) (hs:a.eval s=v) (hx:a.eval x= .slice (some ⟨H,0,none⟩) 1 1) (hB:B≤W.heap.size) (hlen:xs.length≤1000)
 (h:∀g cap w1,RowSt B w1 (.slice (some ⟨g,0,none⟩) (xs.length+1) cap) (xs++[(y,vp)])→Below B W w1→K (a.put o.dst (.slice (some ⟨g,0,none⟩) (xs.length+1) cap)) w1):
 if Region.wanted o (yielded ops a.tmps)=true then Oper.wp Tryz.prog o a W K Q else E:=by
 refine step_push info_st Tryz.underlying26 rfl (by decide) (by decide) hgd s x ho (stpC y vp) rfl ?_ H hH hown.1 hs hx hB (by omega) fun g cap w1 h1 h2 h3 h4=> ?_
 ·intro u hu
  obtain⟨o1,j1,rfl,_⟩:=StOn.iff.1 hy
  simp[stpC]at hu
  rcases hu with rfl|rfl|rfl|rfl|rfl<;>rfl
 ·refine h g cap w1 ⟨?_,fun z hz=> ?_⟩ h2
  ·rw[List.length_append,stsC_snoc]
   exact h1
  ·have hmv:∀b,b<W.heap.size→(B≤b∧v.ownBlock≠some b)→(B≤b∧(Value.slice (some ⟨g,0,none⟩) (xs.length+1) cap).ownBlock≠some b)∧w1.heap[b]? =W.heap[b]? :=fun b hb hF=>by
    refine⟨⟨hF.1,fun hv=> ?_⟩,h3 b hb (fun e=>hF.2 e.symm)⟩
    simp only[Value.ownBlock,Option.some.injEq]at hv
    subst hv
    rcases h4 with h5|h5
    ·exact hF.2 h5
    ·omega
   rw[List.mem_append,List.mem_singleton]at hz
   rcases hz with hz|rfl
   ·exact StOn.move hmv _ _ (hown.2 z hz)
   ·exact StOn.move hmv _ _ hy
theorem But.bub {R B:Nat}{w w1 w2:World}(h:But R w w1)(k:BuB R B w1 w2)(hB:w.heap.size≤B):But R w w2:=
 ⟨h.1.trans k.1,fun i hi hr=>(k.2 i (by omega) hr).trans (h.2 i hi hr)⟩
theorem Bx.bub {R B b:Nat}{o:Obj}{w1 w2:World}(h:Bx R b o w1)(k:BuB R B w1 w2)(hb:b<B):Bx R b o w2:=
 ⟨h.1,(k.2 b hb (by have :=h.1;omega)).trans h.2⟩
theorem LfB.set_cell {R b i:Nat}{ts:List Wd}{w:World}{u:Value}(h:LfB R ts w)(hb:R<b):LfB R ts (w.setCell ⟨b,i,none⟩ u):=
 h.keep (fun k hk=>heap_set_ne (a:=⟨b,i,none⟩) (by show k≠b;omega)) (by simp)
theorem Bx.set_cell {R b c i:Nat}{o:Obj}{w:World}{u:Value}(h:Bx R b o w)(hb:b≠c):Bx R b o (w.setCell ⟨c,i,none⟩ u):=⟨h.1,(heap_set_ne (a:=⟨c,i,none⟩) hb).trans h.2⟩
theorem But.set_cell {R b i:Nat}{w w1:World}{u:Value}(h:But R w w1)(hR:R<w.heap.size)(hb:w.heap.size≤b):But R w (w1.setCell ⟨b,i,none⟩ u):=
 h.up ((Below.refl _ _).setCell (p:=⟨b,i,none⟩) hb _) hR
theorem Bx.put_ss {R b:Nat}{x:Ex}{vk vs:Value}{w:World}(h:Bx R b (boxEx x vk vs) w)(vs':Value):Bx R b (boxEx x vk vs') (w.setCell ⟨b,6,none⟩ vs'):=by
 refine⟨h.1,?_⟩
 have h0:=h.2
 unfold boxEx at h0 ⊢
 exact(heap_set_at (i:=6) (u:=vs') h0).trans (by simp)
theorem RowSt.set_cell {B b i:Nat}{w:World}{v u:Value}{xs:List (St×Value)}(h:RowSt B w v xs)(hb:b<B):RowSt B (w.setCell ⟨b,i,none⟩ u) v xs:=
 h.keep fun k hk _=>heap_set_ne (a:=⟨b,i,none⟩) (by show k≠b;omega)
theorem StOn.low2 {B C:Nat}{w:World}{x:St}{vp:Value}(h:StOn w (C≤ ·) x vp)(hB:B≤C):StOn w (fun b=>B≤b∧(Value.slice none 0 0).ownBlock≠some b) x vp:=
 StOn.move (fun _ _ hF=>⟨⟨Nat.le_trans hB hF,by simp[Value.ownBlock]⟩,rfl⟩) _ _ h
theorem StOn.move_box {F:Nat→Prop}{w:World}{x:St}{vp:Value}(h:StOn w F x vp)(o:Obj):StOn (w.alloc o) F x vp:=
 StOn.move (fun b hb hF=>⟨hF,Below.heap_alloc _ _ b hb⟩) _ _ h
theorem stp_op {ts:List Wd}{m:List UInt8}(h:stpL ts=true):aheadL 5 m ts=false:=by
 cases ts with
 |nil=>rfl
 |cons x r=>
  simp only[stpL,atL,aheadL]at h ⊢
  by_cases h5:x.k=5
  ·rw[h5]at h
   simp at h
  ·rw[if_neg]
   simp
   omega
end Char
end Go.Proofs.YtlmpkpjjakallaaGreatDoor
