import Derived.Test.YtlmpkpjjakallaaGreatDoorPt15
import Derived.Shelf.Abstract
namespace Go.Proofs.YtlmpkpjjakallaaGreatDoor
namespace Char
open Go.RowKit Go.Lib
def pathL (E:List Wd→Option (Ex×List Wd))(ts:List Wd):Option (Ex×List Wd):=
 if priL ts then (match filtL E ts with
  |none=>none
  |some (x,r)=>match onwL E (r.length+1) r [] with
   |none=>none
   |some (ss,u)=>if ss=[] then some (x,u) else some (.mk 16 [] 0 0 false [x] ss,u)) else locL E ts
theorem path_len {E:List Wd→Option (Ex×List Wd)}(hS:ShrE E):ShrE (pathL E):=fun ts e t h=>by
 unfold pathL at h
 split at h
 ·cases hp:filtL E ts with
  |none=>rw[hp]at h;cases h
  |some p=>
   obtain⟨x,r⟩:=p
   rw[hp]at h
   dsimp only at h
   have h1:=filt_len hS hp
   cases hq:onwL E (r.length+1) r [] with
   |none=>rw[hq]at h;cases h
   |some p=>
    obtain⟨ps,u⟩:=p
    rw[hq]at h
    dsimp only at h
    have h2:=onw_len hS _ _ _ _ _ hq
    split at h<;>(cases h;omega)
 ·exact loc_len hS h
set_option maxRecDepth 100000 in
set_option maxHeartbeats 8000000 in
theorem path_any (R N:Nat)(E:List Wd→Option (Ex×List Wd))(ts:List Wd)(w:World)(hE:SubE R N E)(hS:ShrE E)(h:LfB R ts w)(hn:ts.length≤N)(hl:ts.length≤800):
 Calls Tryz.prog 181 #[.pointer (some ⟨R,0,none⟩)] w (ExP R w (pathL E ts)):=by
 have hlt:=h.lt
 have L0:Hid (LfB R ts (w.alloc (.cells #[.int .i64 0,.string ⟨#[]⟩,.int .i64 0,.int .i64 0,.bool false,.slice none 0 0,.slice none 0 0] 28))):=Lib.hid (h.box _)
 have A0:=Lib.hid (Bx.new hlt (boxEx ex0 (.slice none 0 0) (.slice none 0 0)))
 have C0:=Lib.hid (But.new R w hlt (boxEx ex0 (.slice none 0 0) (.slice none 0 0)))
 have hp:=fun(W:World) (hw:LfB R ts W)=>atPrimary_any R ts W hw
 unfold pathL
 clear h
 cases h1:priL ts with
 |false=>
  rw[h1]at hp
  have HP:=Lib.hid hp
  simp only[Bool.false_eq_true,if_false]
  have hX:=fun(W:World) (hw:LfB R ts W)=>loc_any R N E ts W hE hS hw hn hl
  clear h1 hp hE
  cases h2:locL E ts with
  |none=>
   rw[h2]at hX
   have HX:=Lib.hid hX
   unfold ExP PaP at HX
   dsimp only at HX
   show Calls _ _ _ _ (PaP R w)
   unfold PaP
   clear h2 hX
   go_enter Tryz.func181,Tryz.ntmps181
   go_wp2_with (first
    |(go_at_call 197
      refine(HP.out _ L0.out).mono ?_
      rintro e w3 ⟨rfl,rfl⟩)
    |(go_at_call 198
      refine(HX.out _ L0.out).mono ?_
      rintro e w1 ⟨rfl,q2⟩
      have C1:=Lib.hid (C0.out.trans q2)
      clear q2
      unfold pan31))
   exact⟨rfl,rfl,C1.out⟩
  |some p=>
   obtain⟨x,u⟩:=p
   rw[h2]at hX
   have HX:=Lib.hid hX
   unfold ExP exV at HX
   dsimp only at HX
   clear h2 hX
   go_enter Tryz.func181,Tryz.ntmps181
   go_wp2_with (first
    |(go_at_call 197
      refine(HP.out _ L0.out).mono ?_
      rintro e w3 ⟨rfl,rfl⟩)
    |(go_at_call 198
      refine(HX.out _ L0.out).mono ?_
      rintro e w1 ⟨vk,vs,rfl,q0,q1,q2⟩
      obtain⟨⟨o1,j1,rfl,_⟩,⟨o2,j2,rfl,_⟩⟩:=ExOn.iff.1 q0
      have C1:=Lib.hid (C0.out.trans q2)
      have L1:=Lib.hid q1
      have A1:=Lib.hid (A0.out.next q2)
      have Y1:=Lib.hid (ExOn.low (B':=w.heap.size+1) q0 (by simp))
      obtain⟨_,gf⟩:=boxEx_blk (A0.out.next q2).2
      clear q0 q1 q2 HX))
   have fin:=fun aa=>@endExP _ _ Tryz.results181 aa R w w1 x u _ _ _ _ _ A1.out.2 L1.out C1.out Y1.out hlt
   exact fin _ rfl rfl
 |true=>
  rw[h1]at hp
  have HP:=Lib.hid hp
  simp only[if_true]
  have hX:=fun(W:World) (hw:LfB R ts W)=>filt_any R N E ts W hE hS hw hn (by omega)
  clear h1 hp
  cases h2:filtL E ts with
  |none=>
   rw[h2]at hX
   have HX:=Lib.hid hX
   unfold ExP PaP at HX
   dsimp only at HX
   show Calls _ _ _ _ (PaP R w)
   unfold PaP
   clear h2 hX hE
   go_enter Tryz.func181,Tryz.ntmps181
   go_wp2_with (first
    |(go_at_call 197
      refine(HP.out _ L0.out).mono ?_
      rintro e w3 ⟨rfl,rfl⟩)
    |(go_at_call 199
      refine(HX.out _ L0.out).mono ?_
      rintro e w1 ⟨rfl,q2⟩
      have C1:=Lib.hid (C0.out.trans q2)
      clear q2
      unfold pan31))
   exact⟨rfl,rfl,C1.out⟩
  |some p=>
   obtain⟨x,r⟩:=p
   have h2l:=filt_len hS h2
   rw[h2]at hX
   have HX:=Lib.hid hX
   unfold ExP exV at HX
   dsimp only at HX ⊢
   have hO:=fun(W:World) (hw:LfB R r W)=>onw_any R N W.heap.size E r W none 0 0 [] hE hS hw (RowSt.nil _ _) (Nat.le_refl _) hw.lt (by omega) (by simp;omega)
   have hO:∀(W:World),LfB R r W→Calls Tryz.prog 200 #[.pointer (some ⟨R,0,none⟩),.slice none 0 0] W (SsP R W.heap.size W (onwL E (r.length+1) r [])):=hO
   clear h2 hX hE
   cases h3:onwL E (r.length+1) r [] with
   |none=>
    rw[h3]at hO
    have HO:=Lib.hid hO
    unfold SsP at HO
    dsimp only at HO
    show Calls _ _ _ _ (PaP R w)
    unfold PaP
    clear h3 hO
    go_enter Tryz.func181,Tryz.ntmps181
    go_wp2_with (first
     |(go_at_call 197
       refine(HP.out _ L0.out).mono ?_
       rintro e w3 ⟨rfl,rfl⟩)
     |(go_at_call 199
       refine(HX.out _ L0.out).mono ?_
       rintro e w1 ⟨vk,vs,rfl,q0,q1,q2⟩
       obtain⟨⟨o1,j1,rfl,_⟩,⟨o2,j2,rfl,_⟩⟩:=ExOn.iff.1 q0
       have C1:=Lib.hid ((C0.out.trans q2).box hlt (boxEx x (.slice o1 x.ks.length j1) (.slice o2 x.ss.length j2)))
       have L1:=Lib.hid (q1.box (boxEx x (.slice o1 x.ks.length j1) (.slice o2 x.ss.length j2)))
       have A1:=Lib.hid ((A0.out.next q2).box (boxEx x (.slice o1 x.ks.length j1) (.slice o2 x.ss.length j2)))
       have X1:=Lib.hid (Bx.new (Nat.lt_of_lt_of_le hlt (C0.out.trans q2).size) (boxEx x (.slice o1 x.ks.length j1) (.slice o2 x.ss.length j2)))
       have Y1:=Lib.hid ((ExOn.low (B':=w.heap.size+1) q0 (by simp)).below (below_box (boxEx x (.slice o1 x.ks.length j1) (.slice o2 x.ss.length j2))))
       clear q0 q1 q2 HX)
     |(go_at_call 200
       refine(HO.out _ L1.out).mono ?_
       rintro e w2 ⟨rfl,q2⟩
       have C2:=Lib.hid (C1.out.bub q2 C1.out.size)
       clear q2
       unfold pan31))
    exact⟨rfl,rfl,C2.out⟩
   |some p=>
    obtain⟨ss,u⟩:=p
    rw[h3]at hO
    have HO:=Lib.hid hO
    unfold SsP at HO
    dsimp only at HO ⊢
    clear h3 hO
    by_cases hps:ss=[]
    ·rw[if_pos hps]
     subst hps
     go_enter Tryz.func181,Tryz.ntmps181
     go_wp2_with (first
      |(go_at_call 197
        refine(HP.out _ L0.out).mono ?_
        rintro e w3 ⟨rfl,rfl⟩)
      |(go_at_call 199
        refine(HX.out _ L0.out).mono ?_
        rintro e w1 ⟨vk,vs,rfl,q0,q1,q2⟩
        obtain⟨⟨o1,j1,rfl,_⟩,⟨o2,j2,rfl,_⟩⟩:=ExOn.iff.1 q0
        have C1:=Lib.hid ((C0.out.trans q2).box hlt (boxEx x (.slice o1 x.ks.length j1) (.slice o2 x.ss.length j2)))
        have L1:=Lib.hid (q1.box (boxEx x (.slice o1 x.ks.length j1) (.slice o2 x.ss.length j2)))
        have A1:=Lib.hid ((A0.out.next q2).box (boxEx x (.slice o1 x.ks.length j1) (.slice o2 x.ss.length j2)))
        have X1:=Lib.hid (Bx.new (Nat.lt_of_lt_of_le hlt (C0.out.trans q2).size) (boxEx x (.slice o1 x.ks.length j1) (.slice o2 x.ss.length j2)))
        have Y1:=Lib.hid ((ExOn.low (B':=w.heap.size+1) q0 (by simp)).below (below_box (boxEx x (.slice o1 x.ks.length j1) (.slice o2 x.ss.length j2))))
        clear q0 q1 q2 HX)
      |(go_at_call 200
        refine(HO.out _ L1.out).mono ?_
        rintro e w2 ⟨vp,ys,rfl,hys,q0,q1,q2⟩
        obtain⟨o5,j5,rfl⟩:=q0.form
        have hyl:ys.length=0:=by have :=congrArg List.length hys;simpa using this
        have HYS:=Lib.hid hys
        have L2:=Lib.hid q1
        have A2:=Lib.hid (A1.out.bub q2 A1.out.lt)
        have C2:=Lib.hid (C1.out.bub q2 C1.out.size)
        have R2:=Lib.hid q0
        have Y2:=Lib.hid (ExOn.bub Y1.out q2 (by omega))
        obtain⟨⟨z0,z1,z2,z3,z4,z5,z6⟩,_⟩:=boxEx_blk (X1.out.bub q2 X1.out.lt).2
        obtain⟨_,gf⟩:=boxEx_blk (A1.out.bub q2 A1.out.lt).2
        have ga:=(A1.out.bub q2 A1.out.lt).lt
        rw[hyl]
        clear q0 q1 q2 hys HO))
     have fin:=fun aa=>@endExP _ _ Tryz.results181 aa R w w2 x u _ _ _ _ _ A2.out.2 L2.out C2.out Y2.out hlt
     exact fin _ rfl rfl
    ·rw[if_neg hps]
     have hpos:0<ss.length:=List.length_pos_iff.2 hps
     go_enter Tryz.func181,Tryz.ntmps181
     go_wp2_with (first
      |(go_at_call 197
        refine(HP.out _ L0.out).mono ?_
        rintro e w3 ⟨rfl,rfl⟩)
      |(go_at_call 199
        refine(HX.out _ L0.out).mono ?_
        rintro e w1 ⟨vk,vs,rfl,q0,q1,q2⟩
        obtain⟨⟨o1,j1,rfl,_⟩,⟨o2,j2,rfl,_⟩⟩:=ExOn.iff.1 q0
        have C1:=Lib.hid ((C0.out.trans q2).box hlt (boxEx x (.slice o1 x.ks.length j1) (.slice o2 x.ss.length j2)))
        have L1:=Lib.hid (q1.box (boxEx x (.slice o1 x.ks.length j1) (.slice o2 x.ss.length j2)))
        have A1:=Lib.hid ((A0.out.next q2).box (boxEx x (.slice o1 x.ks.length j1) (.slice o2 x.ss.length j2)))
        have X1:=Lib.hid (Bx.new (Nat.lt_of_lt_of_le hlt (C0.out.trans q2).size) (boxEx x (.slice o1 x.ks.length j1) (.slice o2 x.ss.length j2)))
        have Y1:=Lib.hid ((ExOn.low (B':=w.heap.size+1) q0 (by simp)).below (below_box (boxEx x (.slice o1 x.ks.length j1) (.slice o2 x.ss.length j2))))
        clear q0 q1 q2 HX)
      |(go_at_call 200
        refine(HO.out _ L1.out).mono ?_
        rintro e w2 ⟨vp,ys,rfl,hys,q0,q1,q2⟩
        obtain⟨o5,j5,rfl⟩:=q0.form
        have hyl:ys.length=ss.length:=by have :=congrArg List.length hys;simpa using this
        have HYS:=Lib.hid hys
        have L2:=Lib.hid q1
        have A2:=Lib.hid (A1.out.bub q2 A1.out.lt)
        have C2:=Lib.hid (C1.out.bub q2 C1.out.size)
        have R2:=Lib.hid q0
        have Y2:=Lib.hid (ExOn.bub Y1.out q2 (by omega))
        obtain⟨⟨z0,z1,z2,z3,z4,z5,z6⟩,_⟩:=boxEx_blk (X1.out.bub q2 X1.out.lt).2
        obtain⟨_,gf⟩:=boxEx_blk (A1.out.bub q2 A1.out.lt).2
        have ga:=(A1.out.bub q2 A1.out.lt).lt
        have k0:((ys.length:Int)==0)=false:=by rw[beq_eq_false_iff_ne];omega
        clear hyl
        clear q0 q1 q2 hys HO))
     have hb1:w.heap.size+1≤w2.heap.size:=A2.out.lt
     have hkd:=kids_one (X:= .mk 16 [] 0 0 false [x] ss) (VK:= .slice (some ⟨w2.heap.size,0,none⟩) 1 1) (VS:= .slice o5 ys.length j5) Y2.out (show w.heap.size<w.heap.size+1 by omega) hb1
     have hss:=R2.out.on
     rw[HYS.out]at hss
     have hsd:=SdOn.set_box (X:= .mk 16 [] 0 0 false [x] ss) (VK:= .slice (some ⟨w2.heap.size,0,none⟩) 1 1) (VS:= .slice o5 ys.length j5) (o:=(boxEx x (.slice o1 x.ks.length j1) (.slice o2 x.ss.length j2))) (SdOn.low (B':=w.heap.size+1) hss (by have :=A1.out.lt;omega)) (show w.heap.size<w.heap.size+1 by omega)
     have ho:ExOn (setBox w2 w.heap.size (.mk 16 [] 0 0 false [x] ss) (.slice (some ⟨w2.heap.size,0,none⟩) 1 1) (.slice o5 ys.length j5) (boxEx x (.slice o1 x.ks.length j1) (.slice o2 x.ss.length j2))) (w.heap.size≤ ·) (.mk 16 [] 0 0 false [x] ss) (.slice (some ⟨w2.heap.size,0,none⟩) 1 1) (.slice o5 ys.length j5):=ExOn.iff.2 ⟨hkd.low (by omega),hsd.low (by omega)⟩
     have fin:=fun aa=>@endExPw _ _ Tryz.results181 aa R w (setBox w2 w.heap.size (.mk 16 [] 0 0 false [x] ss) (.slice (some ⟨w2.heap.size,0,none⟩) 1 1) (.slice o5 ys.length j5) (boxEx x (.slice o1 x.ks.length j1) (.slice o2 x.ss.length j2))) (.mk 16 [] 0 0 false [x] ss) u _ _ (setBox_at A2.out.2) (L2.out.set_box hlt) (C2.out.set_box hlt (Nat.le_refl _)) ho
     exact fin _ rfl rfl
end Char
namespace Char
open Go.RowKit Go.Lib Go.Shelf
abbrev Sg:=List UInt8×Int
def opL:List Sg→List Wd→Option (Int×List Wd)
 |[],_=>none
 |p::r,ts=>if aheadL 5 p.1 ts then some (p.2,ts.tail) else opL r ts
theorem op_len:∀(sg:List Sg) (ts t:List Wd) (op:Int),opL sg ts=some (op,t)→t.length+1=ts.length∧∃p∈sg,p.2=op
 |[],_,_,_,h=>by cases h
 |p::r,ts,t,op,h=>by
  unfold opL at h
  split at h
  ·rename_i h1
   cases h
   exact⟨ahead_len h1,p,List.mem_cons_self,rfl⟩
  ·obtain⟨h2,q,hq,he⟩:=op_len r ts t op h
   exact⟨h2,q,List.mem_cons_of_mem _ hq,he⟩
def SgOn (R g:Nat)(sg:List Sg)(w:World):Prop:=R<g∧g<w.heap.size∧∀k (h:k<sg.length),w.cell? ⟨g,k*2,none⟩=some (.string (bs sg[k].1))∧w.cell? ⟨g,k*2+1,none⟩=some (.int .i64 sg[k].2)
theorem SgOn.next {R g:Nat}{sg:List Sg}{w w':World}(h:SgOn R g sg w)(hb:But R w w'):SgOn R g sg w':=by
 have he:=hb.2 g h.2.1 (by have :=h.1;omega)
 exact⟨h.1,Nat.lt_of_lt_of_le h.2.1 hb.size,fun k hk=>⟨(World.cell?_of_block (w:=w) (a:=⟨g,k*2,none⟩) he).trans (h.2.2 k hk).1,(World.cell?_of_block (w:=w) (a:=⟨g,k*2+1,none⟩) he).trans (h.2.2 k hk).2⟩⟩
def OpP (R:Nat)(ts:List Wd)(x:Option (Int×List Wd))(w:World)(e:Ending)(w':World):Prop:=match x with
 |none=>TkP R (.int .i64 0) ts w e w'
 |some (op,t)=>TkP R (.int .i64 op) t w e w'
set_option maxRecDepth 100000 in
set_option maxHeartbeats 8000000 in
theorem oper_any (R g:Nat)(sg:List Sg)(ts:List Wd)(w:World)(h:LfB R ts w)(hg:SgOn R g sg w)(hl:sg.length≤100):
 Calls Tryz.prog 182 #[.pointer (some ⟨R,0,none⟩),.slice (some ⟨g,0,none⟩) sg.length sg.length] w (OpP R ts (opL sg ts) w):=by
 have hlt:=h.lt
 obtain⟨G,hG⟩:∃G,opL sg ts=G:=⟨_,rfl⟩
 rw[hG]
 have HG:=Lib.hid hG
 have H0:=Lib.hid h
 have HS:=Lib.hid hg
 clear hG h hg
 go_enter Tryz.func182,Tryz.ntmps182
 go_wp2_with fail
 go_loopw [9] (fun v wr=>∃k:Nat,v= .int .i64 (k:Int)∧k≤sg.length∧Hid (LfB R ts wr∧SgOn R g sg wr∧But R w wr∧opL (sg.drop k) ts=G)) (fun v _=>sg.length-(RowKit.intOf v).toNat)
 case atStart=>exact⟨0,rfl,Nat.zero_le _,Lib.hid ⟨H0.out,HS.out,But.refl _ _,HG.out⟩⟩
 case round=>
  clear HG H0 HS
  obtain⟨k,rfl,hk,HI⟩:=hrel
  by_cases hlt2:k<sg.length
  ·obtain⟨x0,x1⟩:=HI.out.2.1.2.2 k hlt2
   have k1:decide ((k:Int)<(sg.length:Int))=true:=decide_eq_true (by omega)
   have hz0:(0:Int)≤(k:Int):=by omega
   have hz1:(k:Int)<(sg.length:Int):=by omega
   have hgg:=HI.out.2.1.2.1
   have hg2:=HI.out.2.2.2
   rw[List.drop_eq_getElem_cons hlt2]at hg2
   unfold opL at hg2
   obtain⟨m,op,hp⟩:∃m op,sg[k]=(m,op):=⟨_,_,rfl⟩
   rw[hp]at hg2 x0 x1
   dsimp only at hg2 x0 x1
   have HT:=Lib.hid fun(W:World) (hw:LfB R ts W)=>take_any R 5 m ts W hw
   unfold takeL TkP at HT
   have HL1:=Lib.hid (fun o=>HI.out.1.box o)
   have HC1:=Lib.hid (fun o=>HI.out.2.2.1.box hlt o)
   have HS1:=Lib.hid (fun o=>HI.out.2.1.next (But.new R wr HI.out.1.lt o))
   have HLT:=Lib.hid hlt2
   cases h1:aheadL 5 m ts with
   |true=>
    rw[h1]at HT hg2
    simp only[if_true]at HT hg2
    have HGE:=Lib.hid hg2
    clear hg2 h1 hp hlt2
    generalize bs m=M at *
    go_wp2_with (first
     |(go_at_call 180
       refine(HT.out _ (HL1.out _)).mono ?_
       rintro e w2 ⟨rfl,q1,q2⟩
       have L2:=Lib.hid q1
       have C2:=Lib.hid ((HC1.out _).trans q2)
       have hbx:=(Bx.new HI.out.1.lt (.cells #[.string M,.int .i64 op] 170)).next q2
       have c0:w2.cell? ⟨wr.heap.size,0,none⟩=some (.string M):=by simp[World.cell?,hbx.2]
       have c1:w2.cell? ⟨wr.heap.size,1,none⟩=some (.int .i64 op):=by simp[World.cell?,hbx.2]
       clear q1 q2 HT hbx))
    go_ret
    rw[←HGE.out]
    exact⟨rfl,L2.out,C2.out⟩
   |false=>
    rw[h1]at HT hg2
    simp only[Bool.false_eq_true,if_false]at HT hg2
    have HGE:=Lib.hid hg2
    clear hg2 h1 hp hlt2
    generalize bs m=M at *
    go_wp2_with (first
     |(go_at_call 180
       refine(HT.out _ (HL1.out _)).mono ?_
       rintro e w2 ⟨rfl,q1,q2⟩
       have L2:=Lib.hid q1
       have C2:=Lib.hid ((HC1.out _).trans q2)
       have S2:=Lib.hid ((HS1.out _).next q2)
       clear q1 q2 HT))
    go_roundw
    case rel=>exact⟨k+1,by go_num,HLT.out,Lib.hid ⟨L2.out,S2.out,C2.out,HGE.out⟩⟩
    case measure=>
     have :=HLT.out
     simp[RowKit.intOf]
     omega
  ·have e:k=sg.length:=by omega
   subst e
   have hg2:=HI.out.2.2.2
   rw[List.drop_length]at hg2
   have HGE:=Lib.hid hg2
   have k1:decide ((sg.length:Int)<(sg.length:Int))=false:=decide_eq_false (by omega)
   clear hg2 hlt2
   go_wp2_with fail
   go_ret
   rw[←HGE.out]
   exact⟨rfl,HI.out.1,HI.out.2.2.1⟩
def joinT (S:List Wd→Option (Ex×List Wd))(sg:List Sg):Nat→List Wd→Ex→Option (Ex×List Wd)
 |0,_,_=>none
 |f+1,ts,x=>match opL sg ts with
  |none=>some (x,ts)
  |some (op,t)=>match S t with
   |none=>none
   |some (y,r)=>joinT S sg f r (.mk op [] 0 0 false [x,y] [])
def joinedL (S:List Wd→Option (Ex×List Wd))(sg:List Sg)(ts:List Wd):Option (Ex×List Wd):=match S ts with
 |none=>none
 |some (x,r)=>joinT S sg (r.length+1) r x
theorem joinT_len {S:List Wd→Option (Ex×List Wd)}(hS:ShrE S)(sg:List Sg):∀(f:Nat) (ts t:List Wd) (x y:Ex),joinT S sg f ts x=some (y,t)→t.length≤ts.length
 |0,_,_,_,_,h=>by cases h
 |f+1,ts,t,x,y,h=>by
  unfold joinT at h
  cases ho:opL sg ts with
  |none=>rw[ho]at h;cases h;exact Nat.le_refl _
  |some p=>
   obtain⟨op,u⟩:=p
   rw[ho]at h
   dsimp only at h
   have h1:=(op_len _ _ _ _ ho).1
   cases hs:S u with
   |none=>rw[hs]at h;cases h
   |some q=>
    obtain⟨z,r⟩:=q
    rw[hs]at h
    have h2:=hS _ _ _ hs
    have h3:=joinT_len hS sg f r t _ y h
    omega
theorem joined_len {S:List Wd→Option (Ex×List Wd)}(hS:ShrE S)(sg:List Sg):ShrE (joinedL S sg):=fun ts e t h=>by
 unfold joinedL at h
 cases hs:S ts with
 |none=>rw[hs]at h;cases h
 |some q=>
  obtain⟨z,r⟩:=q
  rw[hs]at h
  have h2:=hS _ _ _ hs
  have h3:=joinT_len hS sg _ _ _ _ _ h
  omega
theorem kids_two' {F:Nat→Prop}{b:Nat}{w:World}{X x y:Ex}{VK VS vk vs uk us:Value}(hx:ExOn w F x vk vs)(hy:ExOn w F y uk us)(hb:∀k,F k→k≠b)(hF:F w.heap.size):
 KdOn (setBox w b X VK VS (.cells #[.int .i64 x.op,.string (bs x.s),.int .i64 x.tg,.int .i64 x.vl,.bool x.abs,vk,vs,.int .i64 y.op,.string (bs y.s),.int .i64 y.tg,.int .i64 y.vl,.bool y.abs,uk,us] 28)) F (.slice (some ⟨w.heap.size,0,none⟩) 2 2) [x,y]:=by
 refine⟨_,_,rfl,.inr ⟨w.heap.size,0,rfl,⟨hF,Nat.le_refl _⟩,kids_of (xs:=[(x,vk,vs),(y,uk,us)]) setBox_new fun z hz=> ?_⟩⟩
 rcases List.mem_cons.1 hz with rfl|hz
 ·exact ExOn.move (fun k hk hF=>⟨hF,setBox_ne hk (hb k hF)⟩) _ _ _ hx
 ·rw[List.mem_singleton]at hz
  subst hz
  exact ExOn.move (fun k hk hF=>⟨hF,setBox_ne hk (hb k hF)⟩) _ _ _ hy
theorem Bx.set_box {R b c:Nat}{o:Obj}{w:World}{x:Ex}{vk vs:Value}{ob:Obj}(h:Bx R b o w)(hb:b≠c):Bx R b o (setBox w c x vk vs ob):=⟨h.1,(setBox_ne h.lt hb).trans h.2⟩
theorem But.bub0 {R B:Nat}{w w':World}(h:But R w w')(hB:B≤w.heap.size):BuB R B w w':=⟨h.1,fun k hk hr=>h.2 k (by omega) hr⟩
theorem SgOn.bub {R g B:Nat}{sg:List Sg}{w w':World}(h:SgOn R g sg w)(hb:BuB R B w w')(hB:g<B):SgOn R g sg w':=by
 have he:=hb.2 g hB (by have :=h.1;omega)
 exact⟨h.1,by have :=h.2.1;have :=hb.1.size;omega,fun k hk=>⟨(World.cell?_of_block (w:=w) (a:=⟨g,k*2,none⟩) he).trans (h.2.2 k hk).1,(World.cell?_of_block (w:=w) (a:=⟨g,k*2+1,none⟩) he).trans (h.2.2 k hk).2⟩⟩
theorem bub_box {R B b:Nat}{w:World}{x:Ex}{vk vs:Value}{o:Obj}(hB:B≤b)(hs:B≤w.heap.size)(hR:R≤b)(hR2:R≤w.heap.size):BuB R B w (setBox w b x vk vs o):=
 ⟨setBox_below (Below.refl _ _) hR hR2,fun k hk _=>setBox_ne (by omega) (by omega)⟩
structure JnK (R:Nat)(w:World)(b:Nat)(Env:World→Prop)(g:Nat)(sg:List Sg)(cur:List Wd)(x:Ex)(vk vs:Value)(W:World):Prop where
 lf:LfB R cur W
 bx:Bx R w.heap.size (boxEx ex0 (.slice none 0 0) (.slice none 0 0)) W
 b7:Bx R b (boxEx x vk vs) W
 lt:w.heap.size<b
 but:But R w W
 env:Env W
 sg:SgOn R g sg W
 ex:ExOn W (fun k=>w.heap.size+1≤k∧k≠b) x vk vs
theorem JnK.next {R:Nat}{w:World}{b:Nat}{Env:World→Prop}{g:Nat}{sg:List Sg}{cur cur':List Wd}{x:Ex}{vk vs:Value}{W W':World}(hE:∀W W',Env W→BuB R w.heap.size W W'→Env W')(h:JnK R w b Env g sg cur x vk vs W)(hl:LfB R cur' W')(hb:But R W W'):JnK R w b Env g sg cur' x vk vs W':=
 ⟨hl,h.bx.next hb,h.b7.next hb,h.lt,h.but.trans hb,hE _ _ h.env (hb.bub0 h.but.size),h.sg.next hb,ExOn.move (fun k hk hF=>⟨hF,hb.2 k hk (by have :=h.bx.1;omega)⟩) _ _ _ h.ex⟩
set_option maxRecDepth 100000 in
set_option maxHeartbeats 8000000 in
theorem joined_m {fg:FuncId}(hfg:Enters Tryz.prog fg)(R N:Nat)(Env:World→Prop)(S:List Wd→Option (Ex×List Wd))(hS:ShrE S)(g:Nat)(sg:List Sg)(ts:List Wd)(w:World)(hEnv:∀W W',Env W→BuB R w.heap.size W W'→Env W')
 (hX:∀(l:List Wd) (W:World),LfB R l W→Env W→l.length≤N→Calls Tryz.prog fg #[.pointer (some ⟨R,0,none⟩)] W (ExP R W (S l)))
 (h:LfB R ts w) (he:Env w) (hg:SgOn R g sg w) (hl:sg.length≤100) (hop:∀p∈sg,p.2≠0) (hn:ts.length≤N):
 Calls Tryz.prog 156 #[.pointer (some ⟨R,0,none⟩),.slice (some ⟨g,0,none⟩) sg.length sg.length,.func (.func fg) #[.pointer (some ⟨R,0,none⟩)] #[]] w (ExP R w (joinedL S sg ts)):=by
 have hfg2:∀(args:Array Value) (w:World),(callFunc fg args).run Tryz.prog w= .ok (.enter fg args) w:=hfg
 have hlt:=h.lt
 have hgw:=hg.2.1
 have L0:Hid (LfB R ts (w.alloc (.cells #[.int .i64 0,.string ⟨#[]⟩,.int .i64 0,.int .i64 0,.bool false,.slice none 0 0,.slice none 0 0] 28))):=Lib.hid (h.box _)
 have E0:Hid (Env (w.alloc (.cells #[.int .i64 0,.string ⟨#[]⟩,.int .i64 0,.int .i64 0,.bool false,.slice none 0 0,.slice none 0 0] 28))):=Lib.hid (hEnv _ _ he ((But.new R w hlt _).bub0 (Nat.le_refl _)))
 have S0:=Lib.hid (hg.next (But.new R w hlt (boxEx ex0 (.slice none 0 0) (.slice none 0 0))))
 have A0:=Lib.hid (Bx.new hlt (boxEx ex0 (.slice none 0 0) (.slice none 0 0)))
 have C0:=Lib.hid (But.new R w hlt (boxEx ex0 (.slice none 0 0) (.slice none 0 0)))
 have HS:=Lib.hid hS
 have HOP:=Lib.hid hop
 have HXA:=Lib.hid hX
 have HEV:=Lib.hid hEnv
 have hx0:=fun(W:World) (hw:LfB R ts W) (he:Env W)=>hX ts W hw he hn
 unfold joinedL
 clear h he hg hX hEnv hS hop
 cases h1:S ts with
 |none=>
  rw[h1]at hx0
  have HX:=Lib.hid hx0
  unfold ExP PaP at HX
  dsimp only at HX
  show Calls _ _ _ _ (PaP R w)
  unfold PaP
  clear h1 hx0
  go_enter Tryz.func156,Tryz.ntmps156
  go_wp2_with (first
 |(go_at_fn fg
   refine(HX.out _ L0.out E0.out).mono ?_
   rintro e w1 ⟨rfl,q2⟩
   have C1:=Lib.hid (C0.out.trans q2)
   clear q2
   unfold pan31))
  exact⟨rfl,rfl,C1.out⟩
 |some p=>
  obtain⟨x0,r0⟩:=p
  have hrl:=HS.out _ _ _ h1
  rw[h1]at hx0
  have HX:=Lib.hid hx0
  unfold ExP exV at HX
  dsimp only at HX
  obtain⟨G,hG⟩:∃G,joinT S sg (r0.length+1) r0 x0=G:=⟨_,rfl⟩
  show Calls _ _ _ _ (ExP R w (joinT S sg (r0.length+1) r0 x0))
  rw[hG]
  have HG:=Lib.hid hG
  clear h1 hx0 hG
  go_enter Tryz.func156,Tryz.ntmps156
  go_wp2_with (first
 |(go_at_fn fg
   refine(HX.out _ L0.out E0.out).mono ?_
   rintro e w1 ⟨vk,vs,rfl,q0,q1,q2⟩
   have hk:∀ob,ob=boxEx x0 vk vs→JnK R w w1.heap.size Env g sg r0 x0 vk vs (w1.alloc ob):=fun ob hob=>by
    subst hob
    exact⟨q1.box _,(A0.out.next q2).box _,Bx.new (Nat.lt_of_lt_of_le hlt (C0.out.trans q2).size) _,by have :=(A0.out.next q2).lt;omega,(C0.out.trans q2).box hlt _,HEV.out _ _ (HEV.out _ _ E0.out (q2.bub0 C0.out.size)) ((But.new R w1 q1.lt _).bub0 (C0.out.trans q2).size),(S0.out.next q2).next (But.new R w1 q1.lt _),ExOn.move (fun k hk hF=>⟨⟨by simpa using hF,by omega⟩,Below.heap_alloc _ _ k hk⟩) _ _ _ q0⟩
   have hk:=hk _ rfl
   obtain⟨⟨o1,j1,rfl,_⟩,⟨o2,j2,rfl,_⟩⟩:=ExOn.iff.1 q0
   have K1:=Lib.hid hk
   have hb7:=hk.lt
   clear q0 q1 q2 HX hk))
  generalize w1.heap.size=b7 at *
  go_loopw [] (fun wr=>∃(f:Nat) (cur:List Wd) (x:Ex) (vk vs:Value),JnK R w b7 Env g sg cur x vk vs wr∧cur.length<f∧joinT S sg f cur x=G∧cur.length≤N) (fun wr=>leftN R wr)
  case atStart=>exact⟨r0.length+1,r0,x0,_,_,K1.out,by omega,HG.out,by omega⟩
  case round=>
   clear HG K1 L0 E0 S0 A0 C0
   obtain⟨f,cur,x,vk,vs,hk,hf,hg,hcn⟩:=hrel
   obtain⟨⟨o1,j1,rfl,_⟩,⟨o2,j2,rfl,_⟩⟩:=ExOn.iff.1 hk.ex
   have HMZ:=Lib.hid (leftN_of hk.lf)
   have HO:=Lib.hid (oper_any R g sg cur wr hk.lf hk.sg hl)
   have HK:=Lib.hid hk
   cases f with
   |zero=>omega
   |succ f=>
   unfold joinT at hg
   clear hk
   cases h2:opL sg cur with
   |none=>
    rw[h2]at HO hg
    have HGE:=Lib.hid hg
    unfold OpP TkP at HO
    dsimp only at HO
    clear h2 hg
    go_wp2_with (first
     |(go_at_call 182
       refine HO.out.mono ?_
       rintro e w2 ⟨rfl,q1,q2⟩
       have K2:=Lib.hid (HK.out.next HEV.out q1 q2)
       obtain⟨⟨z0,z1,z2,z3,z4,z5,z6⟩,_⟩:=boxEx_blk (HK.out.next HEV.out q1 q2).b7.2
       obtain⟨_,gf⟩:=boxEx_blk (HK.out.next HEV.out q1 q2).bx.2
       have ga:=(HK.out.next HEV.out q1 q2).bx.lt
       have gb:=(HK.out.next HEV.out q1 q2).b7.lt
       clear q1 q2 HO))
    rw[←HGE.out]
    have fin:=fun aa=>@endExP _ _ Tryz.results156 aa R w w2 x cur _ _ _ _ _ K2.out.bx.2 K2.out.lf K2.out.but (ExOn.move (fun _ _ hF=>⟨hF.1,rfl⟩) _ _ _ K2.out.ex) hlt
    exact fin _ rfl rfl
   |some p=>
    obtain⟨op,t⟩:=p
    have hol:=op_len _ _ _ _ h2
    have hne:op≠0:=by obtain⟨q,hq,he⟩:=hol.2;rw[←he];exact HOP.out q hq
    have k0:((op==0)=false):=by rw[beq_eq_false_iff_ne];exact hne
    rw[h2]at HO hg
    unfold OpP TkP at HO
    dsimp only at HO hg
    have hx0:=fun(W:World) (hw:LfB R t W) (he:Env W)=>HXA.out t W hw he (by omega)
    clear h2 hne
    cases h3:S t with
    |none=>
     rw[h3]at hx0 hg
     have HGE:=Lib.hid hg
     have HX:=Lib.hid hx0
     unfold ExP PaP at HX
     dsimp only at HX
     clear h3 hx0 hg
     go_wp2_with (first
      |(go_at_call 182
        refine HO.out.mono ?_
        rintro e w2 ⟨rfl,q1,q2⟩
        have K2:=Lib.hid (HK.out.next HEV.out q1 q2)
        have gb:=(HK.out.next HEV.out q1 q2).b7.lt
        clear q1 q2 HO))
     have KD:=Lib.hid (K2.out.next HEV.out (K2.out.lf.below ((Below.refl _ _).drew)) (But.of ((Below.refl _ _).drew) K2.out.lf.lt))
     obtain⟨⟨y0,y1,y2,y3,y4,y5,y6⟩,_⟩:=boxEx_blk KD.out.b7.2
     refine wp_region_any (by kernel_rfl) ?_
     change wpAny _ _ _ _ _ _ _ (World.drew _)
     refine wpAny_take (i:=0) (v:= .int .i64 op) rfl (by kernel_rfl) (by kernel_rfl) (by kernel_rfl) (fun _ _ _ h=>h) (Or.inl ⟨by rfl,?_⟩) ?_
     ·intro w;go_simp
     refine wpAny_take (i:=2) (v:= .func (.func fg) #[.pointer (some ⟨R,0,none⟩)] #[]) rfl (by kernel_rfl) (by kernel_rfl) (by kernel_rfl) (fun _ _ _ h=>h) (Or.inl ⟨by rfl,?_⟩) ?_
     ·intro w;go_simp
     refine wpAny_ready (rs:=[1,3]) (by kernel_rfl) (by simp) ?_
     refine AllReady.cons rfl (fun K hK=> ?_) (AllReady.cons rfl (fun K hK=> ?_) AllReady.nil)
     ·go_simp
      refine hK _ _ ?_
      clear hK K
      refine wpAny_ready (rs:=[3]) (by kernel_rfl) (by simp) ?_
      refine AllReady.cons rfl (fun K hK=> ?_) AllReady.nil
      go_simp
      refine(HX.out _ KD.out.lf KD.out.env).mono ?_
      rintro e w4 ⟨rfl,hb4⟩
      refine⟨rfl,?_⟩
      rw[←HGE.out]
      exact⟨rfl,KD.out.but.trans hb4⟩
     ·go_simp
      refine(HX.out _ KD.out.lf KD.out.env).mono ?_
      rintro e w4 ⟨rfl,hb4⟩
      refine⟨rfl,?_⟩
      rw[←HGE.out]
      exact⟨rfl,KD.out.but.trans hb4⟩
    |some p=>
     obtain⟨y,r⟩:=p
     have hyl:=HS.out _ _ _ h3
     rw[h3]at hx0 hg
     have HGE:=Lib.hid hg
     have HX:=Lib.hid hx0
     unfold ExP exV at HX
     dsimp only at HX
     clear h3 hx0 hg
     go_wp2_with (first
      |(go_at_call 182
        refine HO.out.mono ?_
        rintro e w2 ⟨rfl,q1,q2⟩
        have K2:=Lib.hid (HK.out.next HEV.out q1 q2)
        have gb:=(HK.out.next HEV.out q1 q2).b7.lt
        clear q1 q2 HO))
     have KD:=Lib.hid (K2.out.next HEV.out (K2.out.lf.below ((Below.refl _ _).drew)) (But.of ((Below.refl _ _).drew) K2.out.lf.lt))
     obtain⟨⟨y0,y1,y2,y3,y4,y5,y6⟩,_⟩:=boxEx_blk KD.out.b7.2
     go_region_with (first
      |(go_at_fn fg
        refine(HX.out _ KD.out.lf KD.out.env).mono ?_
        rintro e w4 ⟨uk,us,rfl,q0,q1,q2⟩
        have Y4:=Lib.hid (ExOn.move (F':=fun k=>w.heap.size+1≤k∧k≠b7) (fun k _ hF=>⟨⟨Nat.le_trans KD.out.bx.lt hF,by have :=KD.out.b7.lt;have :wr.heap.size≤wr.heap.size:=Nat.le_refl _;omega⟩,rfl⟩) y uk us q0)
        obtain⟨⟨o3,j3,rfl,_⟩,⟨o4,j4,rfl,_⟩⟩:=ExOn.iff.1 q0
        have K4:=Lib.hid (KD.out.next HEV.out q1 q2)
        obtain⟨⟨z0,z1,z2,z3,z4,z5,z6⟩,zf⟩:=boxEx_blk (KD.out.next HEV.out q1 q2).b7.2
        have gb4:=(KD.out.next HEV.out q1 q2).b7.lt
        clear q0 q1 q2))
     all_goals
      have hkd:=kids_two' (X:= .mk op [] 0 0 false [x,y] []) (VK:= .slice (some ⟨w4.heap.size,0,none⟩) 2 2) (VS:= .slice none 0 0) K4.out.ex Y4.out (fun k hk=>hk.2) ⟨by omega,by omega⟩
      have hbb:=bub_box (R:=R) (B:=w.heap.size) (b:=b7) (w:=w4) (x:= .mk op [] 0 0 false [x,y] []) (vk:= .slice (some ⟨w4.heap.size,0,none⟩) 2 2) (vs:= .slice none 0 0) (o:= .cells #[.int .i64 x.op,.string (bs x.s),.int .i64 x.tg,.int .i64 x.vl,.bool x.abs,.slice o1 x.ks.length j1,.slice o2 x.ss.length j2,.int .i64 y.op,.string (bs y.s),.int .i64 y.tg,.int .i64 y.vl,.bool y.abs,.slice o3 y.ks.length j3,.slice o4 y.ss.length j4] 28) (by omega) (by omega) (by omega) (by omega)
      have hj:JnK R w b7 Env g sg r (.mk op [] 0 0 false [x,y] []) (.slice (some ⟨w4.heap.size,0,none⟩) 2 2) (.slice none 0 0) _:=⟨K4.out.lf.set_box K4.out.b7.1,K4.out.bx.set_box (by omega),⟨K4.out.b7.1,setBox_at K4.out.b7.2⟩,hb7,K4.out.but.set_box hlt (by omega),HEV.out _ _ K4.out.env hbb,K4.out.sg.bub hbb hgw,ExOn.iff.2 ⟨hkd,SdOn.nil _ _⟩⟩
      have HJ:=Lib.hid hj
      clear hj hbb hkd
      go_roundw
      case rel=>exact⟨_,_,_,_,_,_,_,_,_,_,_,_,_,⟨f,r,_,_,_,HJ.out,by omega,HGE.out,by omega⟩,rfl⟩
      case measure=>
       rw[HMZ.out]
       have h9:=leftN_of HJ.out.lf
       unfold setBox at h9
       exact Nat.lt_of_le_of_lt (Nat.le_of_eq h9) (by omega)
set_option maxRecDepth 100000 in
set_option maxHeartbeats 8000000 in
theorem joined_c {fg:FuncId}(hfg:Enters Tryz.prog fg)(R N:Nat)(b2 b3:Nat)(Env:World→Prop)(S:List Wd→Option (Ex×List Wd))(hS:ShrE S)(g:Nat)(sg:List Sg)(ts:List Wd)(w:World)(hEnv:∀W W',Env W→BuB R w.heap.size W W'→Env W')
 (hX:∀(l:List Wd) (W:World),LfB R l W→Env W→l.length≤N→Calls Tryz.prog fg #[.pointer (some ⟨b2,0,none⟩),.pointer (some ⟨b3,0,none⟩)] W (ExP R W (S l)))
 (h:LfB R ts w) (he:Env w) (hg:SgOn R g sg w) (hl:sg.length≤100) (hop:∀p∈sg,p.2≠0) (hn:ts.length≤N):
 Calls Tryz.prog 156 #[.pointer (some ⟨R,0,none⟩),.slice (some ⟨g,0,none⟩) sg.length sg.length,.func (.func fg) #[] #[.pointer (some ⟨b2,0,none⟩),.pointer (some ⟨b3,0,none⟩)]] w (ExP R w (joinedL S sg ts)):=by
 have hfg2:∀(args:Array Value) (w:World),(callFunc fg args).run Tryz.prog w= .ok (.enter fg args) w:=hfg
 have hlt:=h.lt
 have hgw:=hg.2.1
 have L0:Hid (LfB R ts (w.alloc (.cells #[.int .i64 0,.string ⟨#[]⟩,.int .i64 0,.int .i64 0,.bool false,.slice none 0 0,.slice none 0 0] 28))):=Lib.hid (h.box _)
 have E0:Hid (Env (w.alloc (.cells #[.int .i64 0,.string ⟨#[]⟩,.int .i64 0,.int .i64 0,.bool false,.slice none 0 0,.slice none 0 0] 28))):=Lib.hid (hEnv _ _ he ((But.new R w hlt _).bub0 (Nat.le_refl _)))
 have S0:=Lib.hid (hg.next (But.new R w hlt (boxEx ex0 (.slice none 0 0) (.slice none 0 0))))
 have A0:=Lib.hid (Bx.new hlt (boxEx ex0 (.slice none 0 0) (.slice none 0 0)))
 have C0:=Lib.hid (But.new R w hlt (boxEx ex0 (.slice none 0 0) (.slice none 0 0)))
 have HS:=Lib.hid hS
 have HOP:=Lib.hid hop
 have HXA:=Lib.hid hX
 have HEV:=Lib.hid hEnv
 have hx0:=fun(W:World) (hw:LfB R ts W) (he:Env W)=>hX ts W hw he hn
 unfold joinedL
 clear h he hg hX hEnv hS hop
 cases h1:S ts with
 |none=>
  rw[h1]at hx0
  have HX:=Lib.hid hx0
  unfold ExP PaP at HX
  dsimp only at HX
  show Calls _ _ _ _ (PaP R w)
  unfold PaP
  clear h1 hx0
  go_enter Tryz.func156,Tryz.ntmps156
  go_wp2_with (first
 |(go_at_fn fg
   refine(HX.out _ L0.out E0.out).mono ?_
   rintro e w1 ⟨rfl,q2⟩
   have C1:=Lib.hid (C0.out.trans q2)
   clear q2
   unfold pan31))
  exact⟨rfl,rfl,C1.out⟩
 |some p=>
  obtain⟨x0,r0⟩:=p
  have hrl:=HS.out _ _ _ h1
  rw[h1]at hx0
  have HX:=Lib.hid hx0
  unfold ExP exV at HX
  dsimp only at HX
  obtain⟨G,hG⟩:∃G,joinT S sg (r0.length+1) r0 x0=G:=⟨_,rfl⟩
  show Calls _ _ _ _ (ExP R w (joinT S sg (r0.length+1) r0 x0))
  rw[hG]
  have HG:=Lib.hid hG
  clear h1 hx0 hG
  go_enter Tryz.func156,Tryz.ntmps156
  go_wp2_with (first
 |(go_at_fn fg
   refine(HX.out _ L0.out E0.out).mono ?_
   rintro e w1 ⟨vk,vs,rfl,q0,q1,q2⟩
   have hk:∀ob,ob=boxEx x0 vk vs→JnK R w w1.heap.size Env g sg r0 x0 vk vs (w1.alloc ob):=fun ob hob=>by
    subst hob
    exact⟨q1.box _,(A0.out.next q2).box _,Bx.new (Nat.lt_of_lt_of_le hlt (C0.out.trans q2).size) _,by have :=(A0.out.next q2).lt;omega,(C0.out.trans q2).box hlt _,HEV.out _ _ (HEV.out _ _ E0.out (q2.bub0 C0.out.size)) ((But.new R w1 q1.lt _).bub0 (C0.out.trans q2).size),(S0.out.next q2).next (But.new R w1 q1.lt _),ExOn.move (fun k hk hF=>⟨⟨by simpa using hF,by omega⟩,Below.heap_alloc _ _ k hk⟩) _ _ _ q0⟩
   have hk:=hk _ rfl
   obtain⟨⟨o1,j1,rfl,_⟩,⟨o2,j2,rfl,_⟩⟩:=ExOn.iff.1 q0
   have K1:=Lib.hid hk
   have hb7:=hk.lt
   clear q0 q1 q2 HX hk))
  generalize w1.heap.size=b7 at *
  go_loopw [] (fun wr=>∃(f:Nat) (cur:List Wd) (x:Ex) (vk vs:Value),JnK R w b7 Env g sg cur x vk vs wr∧cur.length<f∧joinT S sg f cur x=G∧cur.length≤N) (fun wr=>leftN R wr)
  case atStart=>exact⟨r0.length+1,r0,x0,_,_,K1.out,by omega,HG.out,by omega⟩
  case round=>
   clear HG K1 L0 E0 S0 A0 C0
   obtain⟨f,cur,x,vk,vs,hk,hf,hg,hcn⟩:=hrel
   obtain⟨⟨o1,j1,rfl,_⟩,⟨o2,j2,rfl,_⟩⟩:=ExOn.iff.1 hk.ex
   have HMZ:=Lib.hid (leftN_of hk.lf)
   have HO:=Lib.hid (oper_any R g sg cur wr hk.lf hk.sg hl)
   have HK:=Lib.hid hk
   cases f with
   |zero=>omega
   |succ f=>
   unfold joinT at hg
   clear hk
   cases h2:opL sg cur with
   |none=>
    rw[h2]at HO hg
    have HGE:=Lib.hid hg
    unfold OpP TkP at HO
    dsimp only at HO
    clear h2 hg
    go_wp2_with (first
     |(go_at_call 182
       refine HO.out.mono ?_
       rintro e w2 ⟨rfl,q1,q2⟩
       have K2:=Lib.hid (HK.out.next HEV.out q1 q2)
       obtain⟨⟨z0,z1,z2,z3,z4,z5,z6⟩,_⟩:=boxEx_blk (HK.out.next HEV.out q1 q2).b7.2
       obtain⟨_,gf⟩:=boxEx_blk (HK.out.next HEV.out q1 q2).bx.2
       have ga:=(HK.out.next HEV.out q1 q2).bx.lt
       have gb:=(HK.out.next HEV.out q1 q2).b7.lt
       clear q1 q2 HO))
    rw[←HGE.out]
    have fin:=fun aa=>@endExP _ _ Tryz.results156 aa R w w2 x cur _ _ _ _ _ K2.out.bx.2 K2.out.lf K2.out.but (ExOn.move (fun _ _ hF=>⟨hF.1,rfl⟩) _ _ _ K2.out.ex) hlt
    exact fin _ rfl rfl
   |some p=>
    obtain⟨op,t⟩:=p
    have hol:=op_len _ _ _ _ h2
    have hne:op≠0:=by obtain⟨q,hq,he⟩:=hol.2;rw[←he];exact HOP.out q hq
    have k0:((op==0)=false):=by rw[beq_eq_false_iff_ne];exact hne
    rw[h2]at HO hg
    unfold OpP TkP at HO
    dsimp only at HO hg
    have hx0:=fun(W:World) (hw:LfB R t W) (he:Env W)=>HXA.out t W hw he (by omega)
    clear h2 hne
    cases h3:S t with
    |none=>
     rw[h3]at hx0 hg
     have HGE:=Lib.hid hg
     have HX:=Lib.hid hx0
     unfold ExP PaP at HX
     dsimp only at HX
     clear h3 hx0 hg
     go_wp2_with (first
      |(go_at_call 182
        refine HO.out.mono ?_
        rintro e w2 ⟨rfl,q1,q2⟩
        have K2:=Lib.hid (HK.out.next HEV.out q1 q2)
        have gb:=(HK.out.next HEV.out q1 q2).b7.lt
        clear q1 q2 HO))
     have KD:=Lib.hid (K2.out.next HEV.out (K2.out.lf.below ((Below.refl _ _).drew)) (But.of ((Below.refl _ _).drew) K2.out.lf.lt))
     obtain⟨⟨y0,y1,y2,y3,y4,y5,y6⟩,_⟩:=boxEx_blk KD.out.b7.2
     refine wp_region_any (by kernel_rfl) ?_
     change wpAny _ _ _ _ _ _ _ (World.drew _)
     refine wpAny_take (i:=0) (v:= .int .i64 op) rfl (by kernel_rfl) (by kernel_rfl) (by kernel_rfl) (fun _ _ _ h=>h) (Or.inl ⟨by rfl,?_⟩) ?_
     ·intro w;go_simp
     refine wpAny_take (i:=2) (v:= .func (.func fg) #[] #[.pointer (some ⟨b2,0,none⟩),.pointer (some ⟨b3,0,none⟩)]) rfl (by kernel_rfl) (by kernel_rfl) (by kernel_rfl) (fun _ _ _ h=>h) (Or.inl ⟨by rfl,?_⟩) ?_
     ·intro w;go_simp
     refine wpAny_ready (rs:=[1,3]) (by kernel_rfl) (by simp) ?_
     refine AllReady.cons rfl (fun K hK=> ?_) (AllReady.cons rfl (fun K hK=> ?_) AllReady.nil)
     ·go_simp
      refine hK _ _ ?_
      clear hK K
      refine wpAny_ready (rs:=[3]) (by kernel_rfl) (by simp) ?_
      refine AllReady.cons rfl (fun K hK=> ?_) AllReady.nil
      go_simp
      refine(HX.out _ KD.out.lf KD.out.env).mono ?_
      rintro e w4 ⟨rfl,hb4⟩
      refine⟨rfl,?_⟩
      rw[←HGE.out]
      exact⟨rfl,KD.out.but.trans hb4⟩
     ·go_simp
      refine(HX.out _ KD.out.lf KD.out.env).mono ?_
      rintro e w4 ⟨rfl,hb4⟩
      refine⟨rfl,?_⟩
      rw[←HGE.out]
      exact⟨rfl,KD.out.but.trans hb4⟩
    |some p=>
     obtain⟨y,r⟩:=p
     have hyl:=HS.out _ _ _ h3
     rw[h3]at hx0 hg
     have HGE:=Lib.hid hg
     have HX:=Lib.hid hx0
     unfold ExP exV at HX
     dsimp only at HX
     clear h3 hx0 hg
     go_wp2_with (first
      |(go_at_call 182
        refine HO.out.mono ?_
        rintro e w2 ⟨rfl,q1,q2⟩
        have K2:=Lib.hid (HK.out.next HEV.out q1 q2)
        have gb:=(HK.out.next HEV.out q1 q2).b7.lt
        clear q1 q2 HO))
     have KD:=Lib.hid (K2.out.next HEV.out (K2.out.lf.below ((Below.refl _ _).drew)) (But.of ((Below.refl _ _).drew) K2.out.lf.lt))
     obtain⟨⟨y0,y1,y2,y3,y4,y5,y6⟩,_⟩:=boxEx_blk KD.out.b7.2
     go_region_with (first
      |(go_at_fn fg
        refine(HX.out _ KD.out.lf KD.out.env).mono ?_
        rintro e w4 ⟨uk,us,rfl,q0,q1,q2⟩
        have Y4:=Lib.hid (ExOn.move (F':=fun k=>w.heap.size+1≤k∧k≠b7) (fun k _ hF=>⟨⟨Nat.le_trans KD.out.bx.lt hF,by have :=KD.out.b7.lt;have :wr.heap.size≤wr.heap.size:=Nat.le_refl _;omega⟩,rfl⟩) y uk us q0)
        obtain⟨⟨o3,j3,rfl,_⟩,⟨o4,j4,rfl,_⟩⟩:=ExOn.iff.1 q0
        have K4:=Lib.hid (KD.out.next HEV.out q1 q2)
        obtain⟨⟨z0,z1,z2,z3,z4,z5,z6⟩,zf⟩:=boxEx_blk (KD.out.next HEV.out q1 q2).b7.2
        have gb4:=(KD.out.next HEV.out q1 q2).b7.lt
        clear q0 q1 q2))
     all_goals
      have hkd:=kids_two' (X:= .mk op [] 0 0 false [x,y] []) (VK:= .slice (some ⟨w4.heap.size,0,none⟩) 2 2) (VS:= .slice none 0 0) K4.out.ex Y4.out (fun k hk=>hk.2) ⟨by omega,by omega⟩
      have hbb:=bub_box (R:=R) (B:=w.heap.size) (b:=b7) (w:=w4) (x:= .mk op [] 0 0 false [x,y] []) (vk:= .slice (some ⟨w4.heap.size,0,none⟩) 2 2) (vs:= .slice none 0 0) (o:= .cells #[.int .i64 x.op,.string (bs x.s),.int .i64 x.tg,.int .i64 x.vl,.bool x.abs,.slice o1 x.ks.length j1,.slice o2 x.ss.length j2,.int .i64 y.op,.string (bs y.s),.int .i64 y.tg,.int .i64 y.vl,.bool y.abs,.slice o3 y.ks.length j3,.slice o4 y.ss.length j4] 28) (by omega) (by omega) (by omega) (by omega)
      have hj:JnK R w b7 Env g sg r (.mk op [] 0 0 false [x,y] []) (.slice (some ⟨w4.heap.size,0,none⟩) 2 2) (.slice none 0 0) _:=⟨K4.out.lf.set_box K4.out.b7.1,K4.out.bx.set_box (by omega),⟨K4.out.b7.1,setBox_at K4.out.b7.2⟩,hb7,K4.out.but.set_box hlt (by omega),HEV.out _ _ K4.out.env hbb,K4.out.sg.bub hbb hgw,ExOn.iff.2 ⟨hkd,SdOn.nil _ _⟩⟩
      have HJ:=Lib.hid hj
      clear hj hbb hkd
      go_roundw
      case rel=>exact⟨_,_,_,_,_,_,_,_,_,_,_,_,_,⟨f,r,_,_,_,HJ.out,by omega,HGE.out,by omega⟩,rfl⟩
      case measure=>
       rw[HMZ.out]
       have h9:=leftN_of HJ.out.lf
       unfold setBox at h9
       exact Nat.lt_of_le_of_lt (Nat.le_of_eq h9) (by omega)
end Char
namespace Char
open Go.RowKit Go.Lib Go.Shelf
def barS:List Sg:=[([124],14)]
def signL (E:List Wd→Option (Ex×List Wd)):Nat→List Wd→Option (Ex×List Wd)
 |0,_=>none
 |f+1,ts=>if aheadL 5 [45] ts then (match signL E f ts.tail with
   |none=>none
   |some (x,r)=>some (.mk 15 [] 0 0 false [x] [],r)) else joinedL (pathL E) barS ts
theorem signd_len {E:List Wd→Option (Ex×List Wd)}(hS:ShrE E):∀f,ShrE (signL E f)
 |0,_,_,_,h=>by cases h
 |f+1,ts,e,t,h=>by
  unfold signL at h
  split at h
  ·rename_i h1
   have h2:=ahead_len h1
   cases hp:signL E f ts.tail with
   |none=>rw[hp]at h;cases h
   |some p=>
    obtain⟨x,r⟩:=p
    rw[hp]at h
    cases h
    have h3:=signd_len hS f _ _ _ hp
    omega
  ·exact joined_len (path_len hS) barS _ _ _ h
theorem bar_on {R:Nat}{w:World}(h:R<w.heap.size):SgOn R w.heap.size barS (w.alloc (.cells #[.string ⟨#[124]⟩,.int .i64 14] 170)):=by
 have hb:=World.alloc_heap_new w (.cells #[.string ⟨#[124]⟩,.int .i64 14] 170)
 refine⟨h,by simp,fun k hk=> ?_⟩
 obtain rfl:k=0:=by
  have :barS.length=1:=rfl
  omega
 exact⟨by simp only[World.cell?,Nat.zero_mul,hb];rfl,by simp only[World.cell?,Nat.zero_mul,hb];rfl⟩
set_option maxRecDepth 100000 in
set_option maxHeartbeats 8000000 in
theorem signed_any (R N:Nat)(E:List Wd→Option (Ex×List Wd))(hE:SubE R N E)(hS:ShrE E)(hN:N≤800):∀(f:Nat) (ts:List Wd) (w:World),LfB R ts w→ts.length<f→ts.length≤N→
 Calls Tryz.prog 154 #[.pointer (some ⟨R,0,none⟩)] w (ExP R w (signL E f ts))
 |0,_,_,_,hf,_=>absurd hf (by omega)
 |f+1,ts,w,h,hf,hn=>by
  have hmf:∀(fn:Fn) (first cap:Array Value) (w:World),(Instr.makeFunc fn first cap).run Tryz.prog w= .ok (.func fn first cap) w:=fun _ _ _ _=>rfl
  have hlt:=h.lt
  have L0:Hid (LfB R ts (w.alloc (.cells #[.int .i64 0,.string ⟨#[]⟩,.int .i64 0,.int .i64 0,.bool false,.slice none 0 0,.slice none 0 0] 28))):=Lib.hid (h.box _)
  have A0:=Lib.hid (Bx.new hlt (boxEx ex0 (.slice none 0 0) (.slice none 0 0)))
  have C0:=Lib.hid (But.new R w hlt (boxEx ex0 (.slice none 0 0) (.slice none 0 0)))
  have HT:=Lib.hid fun(W:World) (hw:LfB R ts W)=>take_any R 5 [45] ts W hw
  unfold takeL TkP at HT
  unfold signL
  cases h1:aheadL 5 [45] ts with
  |true=>
   have h1l:=ahead_len h1
   rw[h1]at HT
   simp only[if_true]at HT ⊢
   have hX:=fun(W:World) (hw:LfB R ts.tail W)=>signed_any R N E hE hS hN f ts.tail W hw (by omega) (by omega)
   clear h h1 hf hE
   cases h2:signL E f ts.tail with
   |none=>
    rw[h2]at hX
    have HX:=Lib.hid hX
    unfold ExP PaP at HX
    dsimp only at HX
    show Calls _ _ _ _ (PaP R w)
    unfold PaP
    clear h2 hX
    go_enter Tryz.func154,Tryz.ntmps154
    go_wp2_with (first
     |(go_at_call 180
       refine(HT.out _ L0.out).mono ?_
       rintro e w1 ⟨rfl,q1,q2⟩
       have L1:=Lib.hid q1
       have A1:=Lib.hid (A0.out.next q2)
       have C1:=Lib.hid (C0.out.trans q2)
       have ga:=(A0.out.next q2).lt
       obtain⟨_,gf⟩:=boxEx_blk (A0.out.next q2).2
       clear q1 q2 HT)
     |(go_at_call 154
       refine(HX.out _ L1.out).mono ?_
       rintro e w2 ⟨rfl,q2⟩
       have C2:=Lib.hid (C1.out.trans q2)
       clear q2
       unfold pan31))
    exact⟨rfl,rfl,C2.out⟩
   |some p=>
    obtain⟨x,r⟩:=p
    rw[h2]at hX
    have HX:=Lib.hid hX
    unfold ExP exV at HX
    dsimp only at HX ⊢
    clear h2 hX
    go_enter Tryz.func154,Tryz.ntmps154
    go_wp2_with (first
     |(go_at_call 180
       refine(HT.out _ L0.out).mono ?_
       rintro e w1 ⟨rfl,q1,q2⟩
       have L1:=Lib.hid q1
       have A1:=Lib.hid (A0.out.next q2)
       have C1:=Lib.hid (C0.out.trans q2)
       have ga:=(A0.out.next q2).lt
       obtain⟨_,gf⟩:=boxEx_blk (A0.out.next q2).2
       clear q1 q2 HT)
     |(go_at_call 154
       refine(HX.out _ L1.out).mono ?_
       rintro e w2 ⟨vk,vs,rfl,q0,q1,q2⟩
       obtain⟨⟨o1,j1,rfl,_⟩,⟨o2,j2,rfl,_⟩⟩:=ExOn.iff.1 q0
       have L2:=Lib.hid q1
       have A2:=Lib.hid (A1.out.next q2)
       have C2:=Lib.hid (C1.out.trans q2)
       have Y2:=Lib.hid (ExOn.low (B':=w.heap.size+1) q0 A1.out.lt)
       have gb:=(A1.out.next q2).lt
       obtain⟨_,hf⟩:=boxEx_blk (A1.out.next q2).2
       clear q0 q1 q2 HX))
    have hkd:=kids_one (X:= .mk 15 [] 0 0 false [x] []) (VK:= .slice (some ⟨w2.heap.size,0,none⟩) 1 1) (VS:= .slice none 0 0) Y2.out (show w.heap.size<w.heap.size+1 by omega) A2.out.lt
    have ho:ExOn (setBox w2 w.heap.size (.mk 15 [] 0 0 false [x] []) (.slice (some ⟨w2.heap.size,0,none⟩) 1 1) (.slice none 0 0) (boxEx x (.slice o1 x.ks.length j1) (.slice o2 x.ss.length j2))) (w.heap.size≤ ·) (.mk 15 [] 0 0 false [x] []) (.slice (some ⟨w2.heap.size,0,none⟩) 1 1) (.slice none 0 0):=ExOn.iff.2 ⟨hkd.low (by omega),SdOn.nil _ _⟩
    have fin:=fun aa=>@endExPw _ _ Tryz.results154 aa R w (setBox w2 w.heap.size (.mk 15 [] 0 0 false [x] []) (.slice (some ⟨w2.heap.size,0,none⟩) 1 1) (.slice none 0 0) (boxEx x (.slice o1 x.ks.length j1) (.slice o2 x.ss.length j2))) (.mk 15 [] 0 0 false [x] []) r _ _ (setBox_at A2.out.2) (L2.out.set_box hlt) (C2.out.set_box hlt (Nat.le_refl _)) ho
    exact fin _ rfl rfl
  |false=>
   rw[h1]at HT
   simp only[Bool.false_eq_true,if_false]at HT ⊢
   have hX:=fun(W:World) (g:Nat) (hw:LfB R ts W) (hg:SgOn R g barS W)=>joined_m (enters_of Tryz.func181 (by kernel_rfl) rfl) R N (fun _=>True) (pathL E) (path_len hS) g barS ts W (fun _ _ _ _=>trivial) (fun l W hw _ hl2=>path_any R N E l W hE hS hw hl2 (by omega)) hw trivial hg (by decide) (by decide) hn
   cases h2:joinedL (pathL E) barS ts with
   |none=>
    rw[h2]at hX
    have HX:=Lib.hid hX
    unfold ExP PaP at HX
    dsimp only at HX
    show Calls _ _ _ _ (PaP R w)
    unfold PaP
    clear h h1 h2 hX hf hE
    go_enter Tryz.func154,Tryz.ntmps154
    go_wp2_with (first
     |(go_at_call 180
       refine(HT.out _ L0.out).mono ?_
       rintro e w1 ⟨rfl,q1,q2⟩
       have L1:=Lib.hid q1
       have A1:=Lib.hid (A0.out.next q2)
       have C1:=Lib.hid (C0.out.trans q2)
       have ga:=(A0.out.next q2).lt
       obtain⟨_,gf⟩:=boxEx_blk (A0.out.next q2).2
       clear q1 q2 HT)
     |(go_at_call 156
       refine(HX.out _ _ (L1.out.box _) (bar_on L1.out.lt)).mono ?_
       rintro e w2 ⟨rfl,q2⟩
       have C2:=Lib.hid ((C1.out.box hlt _).trans q2)
       clear q2
       unfold pan31))
    exact⟨rfl,rfl,C2.out⟩
   |some p=>
    obtain⟨x,r⟩:=p
    rw[h2]at hX
    have HX:=Lib.hid hX
    unfold ExP exV at HX
    dsimp only at HX
    clear h h1 h2 hX hf hE
    go_enter Tryz.func154,Tryz.ntmps154
    go_wp2_with (first
     |(go_at_call 180
       refine(HT.out _ L0.out).mono ?_
       rintro e w1 ⟨rfl,q1,q2⟩
       have L1:=Lib.hid q1
       have A1:=Lib.hid (A0.out.next q2)
       have C1:=Lib.hid (C0.out.trans q2)
       have ga:=(A0.out.next q2).lt
       obtain⟨_,gf⟩:=boxEx_blk (A0.out.next q2).2
       clear q1 q2 HT)
     |(go_at_call 156
       refine(HX.out _ _ (L1.out.box _) (bar_on L1.out.lt)).mono ?_
       rintro e w2 ⟨vk,vs,rfl,q0,q1,q2⟩
       obtain⟨⟨o1,j1,rfl,_⟩,⟨o2,j2,rfl,_⟩⟩:=ExOn.iff.1 q0
       have L2:=Lib.hid q1
       have A2:=Lib.hid ((A1.out.box _).next q2)
       have C2:=Lib.hid ((C1.out.box hlt _).trans q2)
       have Y2:=Lib.hid (ExOn.low (B':=w.heap.size+1) q0 (A1.out.box _).lt)
       obtain⟨_,hf⟩:=boxEx_blk ((A1.out.box _).next q2).2
       clear q0 q1 q2 HX))
    have fin:=fun aa=>@endExP _ _ Tryz.results154 aa R w w2 x r _ _ _ _ _ A2.out.2 L2.out C2.out Y2.out hlt
    exact fin _ rfl rfl
end Char
end Go.Proofs.YtlmpkpjjakallaaGreatDoor
