import Derived.Test.YtlmpkpjjakallaaGreatDoorPt05
namespace Go.Proofs.YtlmpkpjjakallaaGreatDoor
namespace Char
open Go.RowKit Go.Lib
def fncV (f:Fn4):Value:= .agg #[.int .i64 f.least,.int .i64 f.most,.bool f.nodes,.int .i64 f.ty]
def fn0:Fn4:=⟨0,0,false,0⟩
def FnP (w:World)(x:Option Fn4)(e:Ending)(w':World):Prop:=Below w.heap.size w w'∧match x with
 |none=>e= .returned (.tuple #[fncV fn0,.bool false])
 |some f=>e= .returned (.tuple #[fncV f,.bool true])
theorem endFn {fn:Func}{p q:Tmp}(h:fn.results= #[.cell p 124,.tmp q]){a:Act}{R:Ending→World→Prop}(w1:World)(g:Nat){c0 c1 c2 c3 c:Value}(h0:w1.cell? ⟨g,0,none⟩=some c0)(h1:w1.cell? ⟨g,1,none⟩=some c1)(h2:w1.cell? ⟨g,2,none⟩=some c2)(h3:w1.cell? ⟨g,3,none⟩=some c3)
 (hp:a.tmps.getD p undef= .pointer (some ⟨g,0,none⟩)) (hq:a.tmps.getD q undef=c) (hd:a.defers=[]) (hR:R (.returned (.tuple #[.agg #[c0,c1,c2,c3],c])) w1):bodyPost Tryz.prog fn R .ret a w1:=by
 have hp':a.tmps[p]?.getD undef= .pointer (some ⟨g,0,none⟩):=by simpa using hp
 have hq':a.tmps[q]?.getD undef=c:=by simpa using hq
 exact bodyPost_ret (by simp[results,h,hp',hq',go_sem,h0,h1,h2,h3]) hd hR
set_option maxRecDepth 100000 in
set_option maxHeartbeats 4000000 in
theorem func_0 (s:List UInt8)(w:World)(h:s=[108,97,115,116]):Calls Tryz.prog 170 #[.string (bs s)] w (FnP w (fnF s)):=by
 have hf:fnF s=some ⟨0,0,false,3⟩:=by rw[h];rfl
 rw[hf]
 have e0:((bs s).toList==[108,97,115,116])=true:=by rw[bs_tl,h];rfl
 have HB:=Lib.hid fun ob=>(Below.refl _ w).alloc (Nat.le_refl _) ob
 generalize bs s=S at *
 clear hf h
 go_enter Tryz.func170,Tryz.ntmps170
 go_wp2_with fail
 refine endFn Tryz.results170 _ w.heap.size (c0:= .int .i64 0) (c1:= .int .i64 0) (c2:= .bool false) (c3:= .int .i64 3) (c:= .bool true) ?_ ?_ ?_ ?_ (by rfl) (by rfl) rfl ⟨HB.out _,rfl⟩
 all_goals go_simp
set_option maxRecDepth 100000 in
set_option maxHeartbeats 4000000 in
theorem func_1 (s:List UInt8)(w:World)(h:s=[112,111,115,105,116,105,111,110]):Calls Tryz.prog 170 #[.string (bs s)] w (FnP w (fnF s)):=by
 have hf:fnF s=some ⟨0,0,false,3⟩:=by rw[h];rfl
 rw[hf]
 have e0:((bs s).toList==[108,97,115,116])=false:=by rw[bs_tl,h];rfl
 have e1:((bs s).toList==[112,111,115,105,116,105,111,110])=true:=by rw[bs_tl,h];rfl
 have HB:=Lib.hid fun ob=>(Below.refl _ w).alloc (Nat.le_refl _) ob
 generalize bs s=S at *
 clear hf h
 go_enter Tryz.func170,Tryz.ntmps170
 go_wp2_with fail
 refine endFn Tryz.results170 _ w.heap.size (c0:= .int .i64 0) (c1:= .int .i64 0) (c2:= .bool false) (c3:= .int .i64 3) (c:= .bool true) ?_ ?_ ?_ ?_ (by rfl) (by rfl) rfl ⟨HB.out _,rfl⟩
 all_goals go_simp
set_option maxRecDepth 100000 in
set_option maxHeartbeats 4000000 in
theorem func_2 (s:List UInt8)(w:World)(h:s=[99,111,117,110,116]):Calls Tryz.prog 170 #[.string (bs s)] w (FnP w (fnF s)):=by
 have hf:fnF s=some ⟨1,1,true,3⟩:=by rw[h];rfl
 rw[hf]
 have e0:((bs s).toList==[108,97,115,116])=false:=by rw[bs_tl,h];rfl
 have e1:((bs s).toList==[112,111,115,105,116,105,111,110])=false:=by rw[bs_tl,h];rfl
 have e2:((bs s).toList==[99,111,117,110,116])=true:=by rw[bs_tl,h];rfl
 have HB:=Lib.hid fun ob=>(Below.refl _ w).alloc (Nat.le_refl _) ob
 generalize bs s=S at *
 clear hf h
 go_enter Tryz.func170,Tryz.ntmps170
 go_wp2_with fail
 refine endFn Tryz.results170 _ w.heap.size (c0:= .int .i64 1) (c1:= .int .i64 1) (c2:= .bool true) (c3:= .int .i64 3) (c:= .bool true) ?_ ?_ ?_ ?_ (by rfl) (by rfl) rfl ⟨HB.out _,rfl⟩
 all_goals go_simp
set_option maxRecDepth 100000 in
set_option maxHeartbeats 4000000 in
theorem func_3 (s:List UInt8)(w:World)(h:s=[115,117,109]):Calls Tryz.prog 170 #[.string (bs s)] w (FnP w (fnF s)):=by
 have hf:fnF s=some ⟨1,1,true,3⟩:=by rw[h];rfl
 rw[hf]
 have e0:((bs s).toList==[108,97,115,116])=false:=by rw[bs_tl,h];rfl
 have e1:((bs s).toList==[112,111,115,105,116,105,111,110])=false:=by rw[bs_tl,h];rfl
 have e2:((bs s).toList==[99,111,117,110,116])=false:=by rw[bs_tl,h];rfl
 have e3:((bs s).toList==[115,117,109])=true:=by rw[bs_tl,h];rfl
 have HB:=Lib.hid fun ob=>(Below.refl _ w).alloc (Nat.le_refl _) ob
 generalize bs s=S at *
 clear hf h
 go_enter Tryz.func170,Tryz.ntmps170
 go_wp2_with fail
 refine endFn Tryz.results170 _ w.heap.size (c0:= .int .i64 1) (c1:= .int .i64 1) (c2:= .bool true) (c3:= .int .i64 3) (c:= .bool true) ?_ ?_ ?_ ?_ (by rfl) (by rfl) rfl ⟨HB.out _,rfl⟩
 all_goals go_simp
set_option maxRecDepth 100000 in
set_option maxHeartbeats 4000000 in
theorem func_4 (s:List UInt8)(w:World)(h:s=[108,111,99,97,108,45,110,97,109,101]):Calls Tryz.prog 170 #[.string (bs s)] w (FnP w (fnF s)):=by
 have hf:fnF s=some ⟨0,1,true,4⟩:=by rw[h];rfl
 rw[hf]
 have e0:((bs s).toList==[108,97,115,116])=false:=by rw[bs_tl,h];rfl
 have e1:((bs s).toList==[112,111,115,105,116,105,111,110])=false:=by rw[bs_tl,h];rfl
 have e2:((bs s).toList==[99,111,117,110,116])=false:=by rw[bs_tl,h];rfl
 have e3:((bs s).toList==[115,117,109])=false:=by rw[bs_tl,h];rfl
 have e4:((bs s).toList==[108,111,99,97,108,45,110,97,109,101])=true:=by rw[bs_tl,h];rfl
 have HB:=Lib.hid fun ob=>(Below.refl _ w).alloc (Nat.le_refl _) ob
 generalize bs s=S at *
 clear hf h
 go_enter Tryz.func170,Tryz.ntmps170
 go_wp2_with fail
 refine endFn Tryz.results170 _ w.heap.size (c0:= .int .i64 0) (c1:= .int .i64 1) (c2:= .bool true) (c3:= .int .i64 4) (c:= .bool true) ?_ ?_ ?_ ?_ (by rfl) (by rfl) rfl ⟨HB.out _,rfl⟩
 all_goals go_simp
set_option maxRecDepth 100000 in
set_option maxHeartbeats 4000000 in
theorem func_5 (s:List UInt8)(w:World)(h:s=[110,97,109,101]):Calls Tryz.prog 170 #[.string (bs s)] w (FnP w (fnF s)):=by
 have hf:fnF s=some ⟨0,1,true,4⟩:=by rw[h];rfl
 rw[hf]
 have e0:((bs s).toList==[108,97,115,116])=false:=by rw[bs_tl,h];rfl
 have e1:((bs s).toList==[112,111,115,105,116,105,111,110])=false:=by rw[bs_tl,h];rfl
 have e2:((bs s).toList==[99,111,117,110,116])=false:=by rw[bs_tl,h];rfl
 have e3:((bs s).toList==[115,117,109])=false:=by rw[bs_tl,h];rfl
 have e4:((bs s).toList==[108,111,99,97,108,45,110,97,109,101])=false:=by rw[bs_tl,h];rfl
 have e5:((bs s).toList==[110,97,109,101])=true:=by rw[bs_tl,h];rfl
 have HB:=Lib.hid fun ob=>(Below.refl _ w).alloc (Nat.le_refl _) ob
 generalize bs s=S at *
 clear hf h
 go_enter Tryz.func170,Tryz.ntmps170
 go_wp2_with fail
 refine endFn Tryz.results170 _ w.heap.size (c0:= .int .i64 0) (c1:= .int .i64 1) (c2:= .bool true) (c3:= .int .i64 4) (c:= .bool true) ?_ ?_ ?_ ?_ (by rfl) (by rfl) rfl ⟨HB.out _,rfl⟩
 all_goals go_simp
set_option maxRecDepth 100000 in
set_option maxHeartbeats 4000000 in
theorem func_6 (s:List UInt8)(w:World)(h:s=[110,97,109,101,115,112,97,99,101,45,117,114,105]):Calls Tryz.prog 170 #[.string (bs s)] w (FnP w (fnF s)):=by
 have hf:fnF s=some ⟨0,1,true,4⟩:=by rw[h];rfl
 rw[hf]
 have e0:((bs s).toList==[108,97,115,116])=false:=by rw[bs_tl,h];rfl
 have e1:((bs s).toList==[112,111,115,105,116,105,111,110])=false:=by rw[bs_tl,h];rfl
 have e2:((bs s).toList==[99,111,117,110,116])=false:=by rw[bs_tl,h];rfl
 have e3:((bs s).toList==[115,117,109])=false:=by rw[bs_tl,h];rfl
 have e4:((bs s).toList==[108,111,99,97,108,45,110,97,109,101])=false:=by rw[bs_tl,h];rfl
 have e5:((bs s).toList==[110,97,109,101])=false:=by rw[bs_tl,h];rfl
 have e6:((bs s).toList==[110,97,109,101,115,112,97,99,101,45,117,114,105])=true:=by rw[bs_tl,h];rfl
 have HB:=Lib.hid fun ob=>(Below.refl _ w).alloc (Nat.le_refl _) ob
 generalize bs s=S at *
 clear hf h
 go_enter Tryz.func170,Tryz.ntmps170
 go_wp2_with fail
 refine endFn Tryz.results170 _ w.heap.size (c0:= .int .i64 0) (c1:= .int .i64 1) (c2:= .bool true) (c3:= .int .i64 4) (c:= .bool true) ?_ ?_ ?_ ?_ (by rfl) (by rfl) rfl ⟨HB.out _,rfl⟩
 all_goals go_simp
set_option maxRecDepth 100000 in
set_option maxHeartbeats 4000000 in
theorem func_7 (s:List UInt8)(w:World)(h:s=[115,116,114,105,110,103]):Calls Tryz.prog 170 #[.string (bs s)] w (FnP w (fnF s)):=by
 have hf:fnF s=some ⟨0,1,false,4⟩:=by rw[h];rfl
 rw[hf]
 have e0:((bs s).toList==[108,97,115,116])=false:=by rw[bs_tl,h];rfl
 have e1:((bs s).toList==[112,111,115,105,116,105,111,110])=false:=by rw[bs_tl,h];rfl
 have e2:((bs s).toList==[99,111,117,110,116])=false:=by rw[bs_tl,h];rfl
 have e3:((bs s).toList==[115,117,109])=false:=by rw[bs_tl,h];rfl
 have e4:((bs s).toList==[108,111,99,97,108,45,110,97,109,101])=false:=by rw[bs_tl,h];rfl
 have e5:((bs s).toList==[110,97,109,101])=false:=by rw[bs_tl,h];rfl
 have e6:((bs s).toList==[110,97,109,101,115,112,97,99,101,45,117,114,105])=false:=by rw[bs_tl,h];rfl
 have e7:((bs s).toList==[115,116,114,105,110,103])=true:=by rw[bs_tl,h];rfl
 have HB:=Lib.hid fun ob=>(Below.refl _ w).alloc (Nat.le_refl _) ob
 generalize bs s=S at *
 clear hf h
 go_enter Tryz.func170,Tryz.ntmps170
 go_wp2_with fail
 refine endFn Tryz.results170 _ w.heap.size (c0:= .int .i64 0) (c1:= .int .i64 1) (c2:= .bool false) (c3:= .int .i64 4) (c:= .bool true) ?_ ?_ ?_ ?_ (by rfl) (by rfl) rfl ⟨HB.out _,rfl⟩
 all_goals go_simp
set_option maxRecDepth 100000 in
set_option maxHeartbeats 4000000 in
theorem func_8 (s:List UInt8)(w:World)(h:s=[110,111,114,109,97,108,105,122,101,45,115,112,97,99,101]):Calls Tryz.prog 170 #[.string (bs s)] w (FnP w (fnF s)):=by
 have hf:fnF s=some ⟨0,1,false,4⟩:=by rw[h];rfl
 rw[hf]
 have e0:((bs s).toList==[108,97,115,116])=false:=by rw[bs_tl,h];rfl
 have e1:((bs s).toList==[112,111,115,105,116,105,111,110])=false:=by rw[bs_tl,h];rfl
 have e2:((bs s).toList==[99,111,117,110,116])=false:=by rw[bs_tl,h];rfl
 have e3:((bs s).toList==[115,117,109])=false:=by rw[bs_tl,h];rfl
 have e4:((bs s).toList==[108,111,99,97,108,45,110,97,109,101])=false:=by rw[bs_tl,h];rfl
 have e5:((bs s).toList==[110,97,109,101])=false:=by rw[bs_tl,h];rfl
 have e6:((bs s).toList==[110,97,109,101,115,112,97,99,101,45,117,114,105])=false:=by rw[bs_tl,h];rfl
 have e7:((bs s).toList==[115,116,114,105,110,103])=false:=by rw[bs_tl,h];rfl
 have e8:((bs s).toList==[110,111,114,109,97,108,105,122,101,45,115,112,97,99,101])=true:=by rw[bs_tl,h];rfl
 have HB:=Lib.hid fun ob=>(Below.refl _ w).alloc (Nat.le_refl _) ob
 generalize bs s=S at *
 clear hf h
 go_enter Tryz.func170,Tryz.ntmps170
 go_wp2_with fail
 refine endFn Tryz.results170 _ w.heap.size (c0:= .int .i64 0) (c1:= .int .i64 1) (c2:= .bool false) (c3:= .int .i64 4) (c:= .bool true) ?_ ?_ ?_ ?_ (by rfl) (by rfl) rfl ⟨HB.out _,rfl⟩
 all_goals go_simp
set_option maxRecDepth 100000 in
set_option maxHeartbeats 4000000 in
theorem func_9 (s:List UInt8)(w:World)(h:s=[99,111,110,99,97,116]):Calls Tryz.prog 170 #[.string (bs s)] w (FnP w (fnF s)):=by
 have hf:fnF s=some ⟨2,120,false,4⟩:=by rw[h];rfl
 rw[hf]
 have e0:((bs s).toList==[108,97,115,116])=false:=by rw[bs_tl,h];rfl
 have e1:((bs s).toList==[112,111,115,105,116,105,111,110])=false:=by rw[bs_tl,h];rfl
 have e2:((bs s).toList==[99,111,117,110,116])=false:=by rw[bs_tl,h];rfl
 have e3:((bs s).toList==[115,117,109])=false:=by rw[bs_tl,h];rfl
 have e4:((bs s).toList==[108,111,99,97,108,45,110,97,109,101])=false:=by rw[bs_tl,h];rfl
 have e5:((bs s).toList==[110,97,109,101])=false:=by rw[bs_tl,h];rfl
 have e6:((bs s).toList==[110,97,109,101,115,112,97,99,101,45,117,114,105])=false:=by rw[bs_tl,h];rfl
 have e7:((bs s).toList==[115,116,114,105,110,103])=false:=by rw[bs_tl,h];rfl
 have e8:((bs s).toList==[110,111,114,109,97,108,105,122,101,45,115,112,97,99,101])=false:=by rw[bs_tl,h];rfl
 have e9:((bs s).toList==[99,111,110,99,97,116])=true:=by rw[bs_tl,h];rfl
 have HB:=Lib.hid fun ob=>(Below.refl _ w).alloc (Nat.le_refl _) ob
 generalize bs s=S at *
 clear hf h
 go_enter Tryz.func170,Tryz.ntmps170
 go_wp2_with fail
 refine endFn Tryz.results170 _ w.heap.size (c0:= .int .i64 2) (c1:= .int .i64 120) (c2:= .bool false) (c3:= .int .i64 4) (c:= .bool true) ?_ ?_ ?_ ?_ (by rfl) (by rfl) rfl ⟨HB.out _,rfl⟩
 all_goals go_simp
set_option maxRecDepth 100000 in
set_option maxHeartbeats 4000000 in
theorem func_10 (s:List UInt8)(w:World)(h:s=[115,116,97,114,116,115,45,119,105,116,104]):Calls Tryz.prog 170 #[.string (bs s)] w (FnP w (fnF s)):=by
 have hf:fnF s=some ⟨2,2,false,2⟩:=by rw[h];rfl
 rw[hf]
 have e0:((bs s).toList==[108,97,115,116])=false:=by rw[bs_tl,h];rfl
 have e1:((bs s).toList==[112,111,115,105,116,105,111,110])=false:=by rw[bs_tl,h];rfl
 have e2:((bs s).toList==[99,111,117,110,116])=false:=by rw[bs_tl,h];rfl
 have e3:((bs s).toList==[115,117,109])=false:=by rw[bs_tl,h];rfl
 have e4:((bs s).toList==[108,111,99,97,108,45,110,97,109,101])=false:=by rw[bs_tl,h];rfl
 have e5:((bs s).toList==[110,97,109,101])=false:=by rw[bs_tl,h];rfl
 have e6:((bs s).toList==[110,97,109,101,115,112,97,99,101,45,117,114,105])=false:=by rw[bs_tl,h];rfl
 have e7:((bs s).toList==[115,116,114,105,110,103])=false:=by rw[bs_tl,h];rfl
 have e8:((bs s).toList==[110,111,114,109,97,108,105,122,101,45,115,112,97,99,101])=false:=by rw[bs_tl,h];rfl
 have e9:((bs s).toList==[99,111,110,99,97,116])=false:=by rw[bs_tl,h];rfl
 have e10:((bs s).toList==[115,116,97,114,116,115,45,119,105,116,104])=true:=by rw[bs_tl,h];rfl
 have HB:=Lib.hid fun ob=>(Below.refl _ w).alloc (Nat.le_refl _) ob
 generalize bs s=S at *
 clear hf h
 go_enter Tryz.func170,Tryz.ntmps170
 go_wp2_with fail
 refine endFn Tryz.results170 _ w.heap.size (c0:= .int .i64 2) (c1:= .int .i64 2) (c2:= .bool false) (c3:= .int .i64 2) (c:= .bool true) ?_ ?_ ?_ ?_ (by rfl) (by rfl) rfl ⟨HB.out _,rfl⟩
 all_goals go_simp
set_option maxRecDepth 100000 in
set_option maxHeartbeats 4000000 in
theorem func_11 (s:List UInt8)(w:World)(h:s=[99,111,110,116,97,105,110,115]):Calls Tryz.prog 170 #[.string (bs s)] w (FnP w (fnF s)):=by
 have hf:fnF s=some ⟨2,2,false,2⟩:=by rw[h];rfl
 rw[hf]
 have e0:((bs s).toList==[108,97,115,116])=false:=by rw[bs_tl,h];rfl
 have e1:((bs s).toList==[112,111,115,105,116,105,111,110])=false:=by rw[bs_tl,h];rfl
 have e2:((bs s).toList==[99,111,117,110,116])=false:=by rw[bs_tl,h];rfl
 have e3:((bs s).toList==[115,117,109])=false:=by rw[bs_tl,h];rfl
 have e4:((bs s).toList==[108,111,99,97,108,45,110,97,109,101])=false:=by rw[bs_tl,h];rfl
 have e5:((bs s).toList==[110,97,109,101])=false:=by rw[bs_tl,h];rfl
 have e6:((bs s).toList==[110,97,109,101,115,112,97,99,101,45,117,114,105])=false:=by rw[bs_tl,h];rfl
 have e7:((bs s).toList==[115,116,114,105,110,103])=false:=by rw[bs_tl,h];rfl
 have e8:((bs s).toList==[110,111,114,109,97,108,105,122,101,45,115,112,97,99,101])=false:=by rw[bs_tl,h];rfl
 have e9:((bs s).toList==[99,111,110,99,97,116])=false:=by rw[bs_tl,h];rfl
 have e10:((bs s).toList==[115,116,97,114,116,115,45,119,105,116,104])=false:=by rw[bs_tl,h];rfl
 have e11:((bs s).toList==[99,111,110,116,97,105,110,115])=true:=by rw[bs_tl,h];rfl
 have HB:=Lib.hid fun ob=>(Below.refl _ w).alloc (Nat.le_refl _) ob
 generalize bs s=S at *
 clear hf h
 go_enter Tryz.func170,Tryz.ntmps170
 go_wp2_with fail
 refine endFn Tryz.results170 _ w.heap.size (c0:= .int .i64 2) (c1:= .int .i64 2) (c2:= .bool false) (c3:= .int .i64 2) (c:= .bool true) ?_ ?_ ?_ ?_ (by rfl) (by rfl) rfl ⟨HB.out _,rfl⟩
 all_goals go_simp
set_option maxRecDepth 100000 in
set_option maxHeartbeats 4000000 in
theorem func_12 (s:List UInt8)(w:World)(h:s=[115,117,98,115,116,114,105,110,103,45,98,101,102,111,114,101]):Calls Tryz.prog 170 #[.string (bs s)] w (FnP w (fnF s)):=by
 have hf:fnF s=some ⟨2,2,false,4⟩:=by rw[h];rfl
 rw[hf]
 have e0:((bs s).toList==[108,97,115,116])=false:=by rw[bs_tl,h];rfl
 have e1:((bs s).toList==[112,111,115,105,116,105,111,110])=false:=by rw[bs_tl,h];rfl
 have e2:((bs s).toList==[99,111,117,110,116])=false:=by rw[bs_tl,h];rfl
 have e3:((bs s).toList==[115,117,109])=false:=by rw[bs_tl,h];rfl
 have e4:((bs s).toList==[108,111,99,97,108,45,110,97,109,101])=false:=by rw[bs_tl,h];rfl
 have e5:((bs s).toList==[110,97,109,101])=false:=by rw[bs_tl,h];rfl
 have e6:((bs s).toList==[110,97,109,101,115,112,97,99,101,45,117,114,105])=false:=by rw[bs_tl,h];rfl
 have e7:((bs s).toList==[115,116,114,105,110,103])=false:=by rw[bs_tl,h];rfl
 have e8:((bs s).toList==[110,111,114,109,97,108,105,122,101,45,115,112,97,99,101])=false:=by rw[bs_tl,h];rfl
 have e9:((bs s).toList==[99,111,110,99,97,116])=false:=by rw[bs_tl,h];rfl
 have e10:((bs s).toList==[115,116,97,114,116,115,45,119,105,116,104])=false:=by rw[bs_tl,h];rfl
 have e11:((bs s).toList==[99,111,110,116,97,105,110,115])=false:=by rw[bs_tl,h];rfl
 have e12:((bs s).toList==[115,117,98,115,116,114,105,110,103,45,98,101,102,111,114,101])=true:=by rw[bs_tl,h];rfl
 have HB:=Lib.hid fun ob=>(Below.refl _ w).alloc (Nat.le_refl _) ob
 generalize bs s=S at *
 clear hf h
 go_enter Tryz.func170,Tryz.ntmps170
 go_wp2_with fail
 refine endFn Tryz.results170 _ w.heap.size (c0:= .int .i64 2) (c1:= .int .i64 2) (c2:= .bool false) (c3:= .int .i64 4) (c:= .bool true) ?_ ?_ ?_ ?_ (by rfl) (by rfl) rfl ⟨HB.out _,rfl⟩
 all_goals go_simp
set_option maxRecDepth 100000 in
set_option maxHeartbeats 4000000 in
theorem func_13 (s:List UInt8)(w:World)(h:s=[115,117,98,115,116,114,105,110,103,45,97,102,116,101,114]):Calls Tryz.prog 170 #[.string (bs s)] w (FnP w (fnF s)):=by
 have hf:fnF s=some ⟨2,2,false,4⟩:=by rw[h];rfl
 rw[hf]
 have e0:((bs s).toList==[108,97,115,116])=false:=by rw[bs_tl,h];rfl
 have e1:((bs s).toList==[112,111,115,105,116,105,111,110])=false:=by rw[bs_tl,h];rfl
 have e2:((bs s).toList==[99,111,117,110,116])=false:=by rw[bs_tl,h];rfl
 have e3:((bs s).toList==[115,117,109])=false:=by rw[bs_tl,h];rfl
 have e4:((bs s).toList==[108,111,99,97,108,45,110,97,109,101])=false:=by rw[bs_tl,h];rfl
 have e5:((bs s).toList==[110,97,109,101])=false:=by rw[bs_tl,h];rfl
 have e6:((bs s).toList==[110,97,109,101,115,112,97,99,101,45,117,114,105])=false:=by rw[bs_tl,h];rfl
 have e7:((bs s).toList==[115,116,114,105,110,103])=false:=by rw[bs_tl,h];rfl
 have e8:((bs s).toList==[110,111,114,109,97,108,105,122,101,45,115,112,97,99,101])=false:=by rw[bs_tl,h];rfl
 have e9:((bs s).toList==[99,111,110,99,97,116])=false:=by rw[bs_tl,h];rfl
 have e10:((bs s).toList==[115,116,97,114,116,115,45,119,105,116,104])=false:=by rw[bs_tl,h];rfl
 have e11:((bs s).toList==[99,111,110,116,97,105,110,115])=false:=by rw[bs_tl,h];rfl
 have e12:((bs s).toList==[115,117,98,115,116,114,105,110,103,45,98,101,102,111,114,101])=false:=by rw[bs_tl,h];rfl
 have e13:((bs s).toList==[115,117,98,115,116,114,105,110,103,45,97,102,116,101,114])=true:=by rw[bs_tl,h];rfl
 have HB:=Lib.hid fun ob=>(Below.refl _ w).alloc (Nat.le_refl _) ob
 generalize bs s=S at *
 clear hf h
 go_enter Tryz.func170,Tryz.ntmps170
 go_wp2_with fail
 refine endFn Tryz.results170 _ w.heap.size (c0:= .int .i64 2) (c1:= .int .i64 2) (c2:= .bool false) (c3:= .int .i64 4) (c:= .bool true) ?_ ?_ ?_ ?_ (by rfl) (by rfl) rfl ⟨HB.out _,rfl⟩
 all_goals go_simp
set_option maxRecDepth 100000 in
set_option maxHeartbeats 4000000 in
theorem func_14 (s:List UInt8)(w:World)(h:s=[115,117,98,115,116,114,105,110,103]):Calls Tryz.prog 170 #[.string (bs s)] w (FnP w (fnF s)):=by
 have hf:fnF s=some ⟨2,3,false,4⟩:=by rw[h];rfl
 rw[hf]
 have e0:((bs s).toList==[108,97,115,116])=false:=by rw[bs_tl,h];rfl
 have e1:((bs s).toList==[112,111,115,105,116,105,111,110])=false:=by rw[bs_tl,h];rfl
 have e2:((bs s).toList==[99,111,117,110,116])=false:=by rw[bs_tl,h];rfl
 have e3:((bs s).toList==[115,117,109])=false:=by rw[bs_tl,h];rfl
 have e4:((bs s).toList==[108,111,99,97,108,45,110,97,109,101])=false:=by rw[bs_tl,h];rfl
 have e5:((bs s).toList==[110,97,109,101])=false:=by rw[bs_tl,h];rfl
 have e6:((bs s).toList==[110,97,109,101,115,112,97,99,101,45,117,114,105])=false:=by rw[bs_tl,h];rfl
 have e7:((bs s).toList==[115,116,114,105,110,103])=false:=by rw[bs_tl,h];rfl
 have e8:((bs s).toList==[110,111,114,109,97,108,105,122,101,45,115,112,97,99,101])=false:=by rw[bs_tl,h];rfl
 have e9:((bs s).toList==[99,111,110,99,97,116])=false:=by rw[bs_tl,h];rfl
 have e10:((bs s).toList==[115,116,97,114,116,115,45,119,105,116,104])=false:=by rw[bs_tl,h];rfl
 have e11:((bs s).toList==[99,111,110,116,97,105,110,115])=false:=by rw[bs_tl,h];rfl
 have e12:((bs s).toList==[115,117,98,115,116,114,105,110,103,45,98,101,102,111,114,101])=false:=by rw[bs_tl,h];rfl
 have e13:((bs s).toList==[115,117,98,115,116,114,105,110,103,45,97,102,116,101,114])=false:=by rw[bs_tl,h];rfl
 have e14:((bs s).toList==[115,117,98,115,116,114,105,110,103])=true:=by rw[bs_tl,h];rfl
 have HB:=Lib.hid fun ob=>(Below.refl _ w).alloc (Nat.le_refl _) ob
 generalize bs s=S at *
 clear hf h
 go_enter Tryz.func170,Tryz.ntmps170
 go_wp2_with fail
 refine endFn Tryz.results170 _ w.heap.size (c0:= .int .i64 2) (c1:= .int .i64 3) (c2:= .bool false) (c3:= .int .i64 4) (c:= .bool true) ?_ ?_ ?_ ?_ (by rfl) (by rfl) rfl ⟨HB.out _,rfl⟩
 all_goals go_simp
set_option maxRecDepth 100000 in
set_option maxHeartbeats 4000000 in
theorem func_15 (s:List UInt8)(w:World)(h:s=[116,114,97,110,115,108,97,116,101]):Calls Tryz.prog 170 #[.string (bs s)] w (FnP w (fnF s)):=by
 have hf:fnF s=some ⟨3,3,false,4⟩:=by rw[h];rfl
 rw[hf]
 have e0:((bs s).toList==[108,97,115,116])=false:=by rw[bs_tl,h];rfl
 have e1:((bs s).toList==[112,111,115,105,116,105,111,110])=false:=by rw[bs_tl,h];rfl
 have e2:((bs s).toList==[99,111,117,110,116])=false:=by rw[bs_tl,h];rfl
 have e3:((bs s).toList==[115,117,109])=false:=by rw[bs_tl,h];rfl
 have e4:((bs s).toList==[108,111,99,97,108,45,110,97,109,101])=false:=by rw[bs_tl,h];rfl
 have e5:((bs s).toList==[110,97,109,101])=false:=by rw[bs_tl,h];rfl
 have e6:((bs s).toList==[110,97,109,101,115,112,97,99,101,45,117,114,105])=false:=by rw[bs_tl,h];rfl
 have e7:((bs s).toList==[115,116,114,105,110,103])=false:=by rw[bs_tl,h];rfl
 have e8:((bs s).toList==[110,111,114,109,97,108,105,122,101,45,115,112,97,99,101])=false:=by rw[bs_tl,h];rfl
 have e9:((bs s).toList==[99,111,110,99,97,116])=false:=by rw[bs_tl,h];rfl
 have e10:((bs s).toList==[115,116,97,114,116,115,45,119,105,116,104])=false:=by rw[bs_tl,h];rfl
 have e11:((bs s).toList==[99,111,110,116,97,105,110,115])=false:=by rw[bs_tl,h];rfl
 have e12:((bs s).toList==[115,117,98,115,116,114,105,110,103,45,98,101,102,111,114,101])=false:=by rw[bs_tl,h];rfl
 have e13:((bs s).toList==[115,117,98,115,116,114,105,110,103,45,97,102,116,101,114])=false:=by rw[bs_tl,h];rfl
 have e14:((bs s).toList==[115,117,98,115,116,114,105,110,103])=false:=by rw[bs_tl,h];rfl
 have e15:((bs s).toList==[116,114,97,110,115,108,97,116,101])=true:=by rw[bs_tl,h];rfl
 have HB:=Lib.hid fun ob=>(Below.refl _ w).alloc (Nat.le_refl _) ob
 generalize bs s=S at *
 clear hf h
 go_enter Tryz.func170,Tryz.ntmps170
 go_wp2_with fail
 refine endFn Tryz.results170 _ w.heap.size (c0:= .int .i64 3) (c1:= .int .i64 3) (c2:= .bool false) (c3:= .int .i64 4) (c:= .bool true) ?_ ?_ ?_ ?_ (by rfl) (by rfl) rfl ⟨HB.out _,rfl⟩
 all_goals go_simp
set_option maxRecDepth 100000 in
set_option maxHeartbeats 4000000 in
theorem func_16 (s:List UInt8)(w:World)(h:s=[115,116,114,105,110,103,45,108,101,110,103,116,104]):Calls Tryz.prog 170 #[.string (bs s)] w (FnP w (fnF s)):=by
 have hf:fnF s=some ⟨0,1,false,3⟩:=by rw[h];rfl
 rw[hf]
 have e0:((bs s).toList==[108,97,115,116])=false:=by rw[bs_tl,h];rfl
 have e1:((bs s).toList==[112,111,115,105,116,105,111,110])=false:=by rw[bs_tl,h];rfl
 have e2:((bs s).toList==[99,111,117,110,116])=false:=by rw[bs_tl,h];rfl
 have e3:((bs s).toList==[115,117,109])=false:=by rw[bs_tl,h];rfl
 have e4:((bs s).toList==[108,111,99,97,108,45,110,97,109,101])=false:=by rw[bs_tl,h];rfl
 have e5:((bs s).toList==[110,97,109,101])=false:=by rw[bs_tl,h];rfl
 have e6:((bs s).toList==[110,97,109,101,115,112,97,99,101,45,117,114,105])=false:=by rw[bs_tl,h];rfl
 have e7:((bs s).toList==[115,116,114,105,110,103])=false:=by rw[bs_tl,h];rfl
 have e8:((bs s).toList==[110,111,114,109,97,108,105,122,101,45,115,112,97,99,101])=false:=by rw[bs_tl,h];rfl
 have e9:((bs s).toList==[99,111,110,99,97,116])=false:=by rw[bs_tl,h];rfl
 have e10:((bs s).toList==[115,116,97,114,116,115,45,119,105,116,104])=false:=by rw[bs_tl,h];rfl
 have e11:((bs s).toList==[99,111,110,116,97,105,110,115])=false:=by rw[bs_tl,h];rfl
 have e12:((bs s).toList==[115,117,98,115,116,114,105,110,103,45,98,101,102,111,114,101])=false:=by rw[bs_tl,h];rfl
 have e13:((bs s).toList==[115,117,98,115,116,114,105,110,103,45,97,102,116,101,114])=false:=by rw[bs_tl,h];rfl
 have e14:((bs s).toList==[115,117,98,115,116,114,105,110,103])=false:=by rw[bs_tl,h];rfl
 have e15:((bs s).toList==[116,114,97,110,115,108,97,116,101])=false:=by rw[bs_tl,h];rfl
 have e16:((bs s).toList==[115,116,114,105,110,103,45,108,101,110,103,116,104])=true:=by rw[bs_tl,h];rfl
 have HB:=Lib.hid fun ob=>(Below.refl _ w).alloc (Nat.le_refl _) ob
 generalize bs s=S at *
 clear hf h
 go_enter Tryz.func170,Tryz.ntmps170
 go_wp2_with fail
 refine endFn Tryz.results170 _ w.heap.size (c0:= .int .i64 0) (c1:= .int .i64 1) (c2:= .bool false) (c3:= .int .i64 3) (c:= .bool true) ?_ ?_ ?_ ?_ (by rfl) (by rfl) rfl ⟨HB.out _,rfl⟩
 all_goals go_simp
set_option maxRecDepth 100000 in
set_option maxHeartbeats 4000000 in
theorem func_17 (s:List UInt8)(w:World)(h:s=[110,117,109,98,101,114]):Calls Tryz.prog 170 #[.string (bs s)] w (FnP w (fnF s)):=by
 have hf:fnF s=some ⟨0,1,false,3⟩:=by rw[h];rfl
 rw[hf]
 have e0:((bs s).toList==[108,97,115,116])=false:=by rw[bs_tl,h];rfl
 have e1:((bs s).toList==[112,111,115,105,116,105,111,110])=false:=by rw[bs_tl,h];rfl
 have e2:((bs s).toList==[99,111,117,110,116])=false:=by rw[bs_tl,h];rfl
 have e3:((bs s).toList==[115,117,109])=false:=by rw[bs_tl,h];rfl
 have e4:((bs s).toList==[108,111,99,97,108,45,110,97,109,101])=false:=by rw[bs_tl,h];rfl
 have e5:((bs s).toList==[110,97,109,101])=false:=by rw[bs_tl,h];rfl
 have e6:((bs s).toList==[110,97,109,101,115,112,97,99,101,45,117,114,105])=false:=by rw[bs_tl,h];rfl
 have e7:((bs s).toList==[115,116,114,105,110,103])=false:=by rw[bs_tl,h];rfl
 have e8:((bs s).toList==[110,111,114,109,97,108,105,122,101,45,115,112,97,99,101])=false:=by rw[bs_tl,h];rfl
 have e9:((bs s).toList==[99,111,110,99,97,116])=false:=by rw[bs_tl,h];rfl
 have e10:((bs s).toList==[115,116,97,114,116,115,45,119,105,116,104])=false:=by rw[bs_tl,h];rfl
 have e11:((bs s).toList==[99,111,110,116,97,105,110,115])=false:=by rw[bs_tl,h];rfl
 have e12:((bs s).toList==[115,117,98,115,116,114,105,110,103,45,98,101,102,111,114,101])=false:=by rw[bs_tl,h];rfl
 have e13:((bs s).toList==[115,117,98,115,116,114,105,110,103,45,97,102,116,101,114])=false:=by rw[bs_tl,h];rfl
 have e14:((bs s).toList==[115,117,98,115,116,114,105,110,103])=false:=by rw[bs_tl,h];rfl
 have e15:((bs s).toList==[116,114,97,110,115,108,97,116,101])=false:=by rw[bs_tl,h];rfl
 have e16:((bs s).toList==[115,116,114,105,110,103,45,108,101,110,103,116,104])=false:=by rw[bs_tl,h];rfl
 have e17:((bs s).toList==[110,117,109,98,101,114])=true:=by rw[bs_tl,h];rfl
 have HB:=Lib.hid fun ob=>(Below.refl _ w).alloc (Nat.le_refl _) ob
 generalize bs s=S at *
 clear hf h
 go_enter Tryz.func170,Tryz.ntmps170
 go_wp2_with fail
 refine endFn Tryz.results170 _ w.heap.size (c0:= .int .i64 0) (c1:= .int .i64 1) (c2:= .bool false) (c3:= .int .i64 3) (c:= .bool true) ?_ ?_ ?_ ?_ (by rfl) (by rfl) rfl ⟨HB.out _,rfl⟩
 all_goals go_simp
set_option maxRecDepth 100000 in
set_option maxHeartbeats 4000000 in
theorem func_18 (s:List UInt8)(w:World)(h:s=[98,111,111,108,101,97,110]):Calls Tryz.prog 170 #[.string (bs s)] w (FnP w (fnF s)):=by
 have hf:fnF s=some ⟨1,1,false,2⟩:=by rw[h];rfl
 rw[hf]
 have e0:((bs s).toList==[108,97,115,116])=false:=by rw[bs_tl,h];rfl
 have e1:((bs s).toList==[112,111,115,105,116,105,111,110])=false:=by rw[bs_tl,h];rfl
 have e2:((bs s).toList==[99,111,117,110,116])=false:=by rw[bs_tl,h];rfl
 have e3:((bs s).toList==[115,117,109])=false:=by rw[bs_tl,h];rfl
 have e4:((bs s).toList==[108,111,99,97,108,45,110,97,109,101])=false:=by rw[bs_tl,h];rfl
 have e5:((bs s).toList==[110,97,109,101])=false:=by rw[bs_tl,h];rfl
 have e6:((bs s).toList==[110,97,109,101,115,112,97,99,101,45,117,114,105])=false:=by rw[bs_tl,h];rfl
 have e7:((bs s).toList==[115,116,114,105,110,103])=false:=by rw[bs_tl,h];rfl
 have e8:((bs s).toList==[110,111,114,109,97,108,105,122,101,45,115,112,97,99,101])=false:=by rw[bs_tl,h];rfl
 have e9:((bs s).toList==[99,111,110,99,97,116])=false:=by rw[bs_tl,h];rfl
 have e10:((bs s).toList==[115,116,97,114,116,115,45,119,105,116,104])=false:=by rw[bs_tl,h];rfl
 have e11:((bs s).toList==[99,111,110,116,97,105,110,115])=false:=by rw[bs_tl,h];rfl
 have e12:((bs s).toList==[115,117,98,115,116,114,105,110,103,45,98,101,102,111,114,101])=false:=by rw[bs_tl,h];rfl
 have e13:((bs s).toList==[115,117,98,115,116,114,105,110,103,45,97,102,116,101,114])=false:=by rw[bs_tl,h];rfl
 have e14:((bs s).toList==[115,117,98,115,116,114,105,110,103])=false:=by rw[bs_tl,h];rfl
 have e15:((bs s).toList==[116,114,97,110,115,108,97,116,101])=false:=by rw[bs_tl,h];rfl
 have e16:((bs s).toList==[115,116,114,105,110,103,45,108,101,110,103,116,104])=false:=by rw[bs_tl,h];rfl
 have e17:((bs s).toList==[110,117,109,98,101,114])=false:=by rw[bs_tl,h];rfl
 have e18:((bs s).toList==[98,111,111,108,101,97,110])=true:=by rw[bs_tl,h];rfl
 have HB:=Lib.hid fun ob=>(Below.refl _ w).alloc (Nat.le_refl _) ob
 generalize bs s=S at *
 clear hf h
 go_enter Tryz.func170,Tryz.ntmps170
 go_wp2_with fail
 refine endFn Tryz.results170 _ w.heap.size (c0:= .int .i64 1) (c1:= .int .i64 1) (c2:= .bool false) (c3:= .int .i64 2) (c:= .bool true) ?_ ?_ ?_ ?_ (by rfl) (by rfl) rfl ⟨HB.out _,rfl⟩
 all_goals go_simp
set_option maxRecDepth 100000 in
set_option maxHeartbeats 4000000 in
theorem func_19 (s:List UInt8)(w:World)(h:s=[110,111,116]):Calls Tryz.prog 170 #[.string (bs s)] w (FnP w (fnF s)):=by
 have hf:fnF s=some ⟨1,1,false,2⟩:=by rw[h];rfl
 rw[hf]
 have e0:((bs s).toList==[108,97,115,116])=false:=by rw[bs_tl,h];rfl
 have e1:((bs s).toList==[112,111,115,105,116,105,111,110])=false:=by rw[bs_tl,h];rfl
 have e2:((bs s).toList==[99,111,117,110,116])=false:=by rw[bs_tl,h];rfl
 have e3:((bs s).toList==[115,117,109])=false:=by rw[bs_tl,h];rfl
 have e4:((bs s).toList==[108,111,99,97,108,45,110,97,109,101])=false:=by rw[bs_tl,h];rfl
 have e5:((bs s).toList==[110,97,109,101])=false:=by rw[bs_tl,h];rfl
 have e6:((bs s).toList==[110,97,109,101,115,112,97,99,101,45,117,114,105])=false:=by rw[bs_tl,h];rfl
 have e7:((bs s).toList==[115,116,114,105,110,103])=false:=by rw[bs_tl,h];rfl
 have e8:((bs s).toList==[110,111,114,109,97,108,105,122,101,45,115,112,97,99,101])=false:=by rw[bs_tl,h];rfl
 have e9:((bs s).toList==[99,111,110,99,97,116])=false:=by rw[bs_tl,h];rfl
 have e10:((bs s).toList==[115,116,97,114,116,115,45,119,105,116,104])=false:=by rw[bs_tl,h];rfl
 have e11:((bs s).toList==[99,111,110,116,97,105,110,115])=false:=by rw[bs_tl,h];rfl
 have e12:((bs s).toList==[115,117,98,115,116,114,105,110,103,45,98,101,102,111,114,101])=false:=by rw[bs_tl,h];rfl
 have e13:((bs s).toList==[115,117,98,115,116,114,105,110,103,45,97,102,116,101,114])=false:=by rw[bs_tl,h];rfl
 have e14:((bs s).toList==[115,117,98,115,116,114,105,110,103])=false:=by rw[bs_tl,h];rfl
 have e15:((bs s).toList==[116,114,97,110,115,108,97,116,101])=false:=by rw[bs_tl,h];rfl
 have e16:((bs s).toList==[115,116,114,105,110,103,45,108,101,110,103,116,104])=false:=by rw[bs_tl,h];rfl
 have e17:((bs s).toList==[110,117,109,98,101,114])=false:=by rw[bs_tl,h];rfl
 have e18:((bs s).toList==[98,111,111,108,101,97,110])=false:=by rw[bs_tl,h];rfl
 have e19:((bs s).toList==[110,111,116])=true:=by rw[bs_tl,h];rfl
 have HB:=Lib.hid fun ob=>(Below.refl _ w).alloc (Nat.le_refl _) ob
 generalize bs s=S at *
 clear hf h
 go_enter Tryz.func170,Tryz.ntmps170
 go_wp2_with fail
 refine endFn Tryz.results170 _ w.heap.size (c0:= .int .i64 1) (c1:= .int .i64 1) (c2:= .bool false) (c3:= .int .i64 2) (c:= .bool true) ?_ ?_ ?_ ?_ (by rfl) (by rfl) rfl ⟨HB.out _,rfl⟩
 all_goals go_simp
set_option maxRecDepth 100000 in
set_option maxHeartbeats 4000000 in
theorem func_20 (s:List UInt8)(w:World)(h:s=[108,97,110,103]):Calls Tryz.prog 170 #[.string (bs s)] w (FnP w (fnF s)):=by
 have hf:fnF s=some ⟨1,1,false,2⟩:=by rw[h];rfl
 rw[hf]
 have e0:((bs s).toList==[108,97,115,116])=false:=by rw[bs_tl,h];rfl
 have e1:((bs s).toList==[112,111,115,105,116,105,111,110])=false:=by rw[bs_tl,h];rfl
 have e2:((bs s).toList==[99,111,117,110,116])=false:=by rw[bs_tl,h];rfl
 have e3:((bs s).toList==[115,117,109])=false:=by rw[bs_tl,h];rfl
 have e4:((bs s).toList==[108,111,99,97,108,45,110,97,109,101])=false:=by rw[bs_tl,h];rfl
 have e5:((bs s).toList==[110,97,109,101])=false:=by rw[bs_tl,h];rfl
 have e6:((bs s).toList==[110,97,109,101,115,112,97,99,101,45,117,114,105])=false:=by rw[bs_tl,h];rfl
 have e7:((bs s).toList==[115,116,114,105,110,103])=false:=by rw[bs_tl,h];rfl
 have e8:((bs s).toList==[110,111,114,109,97,108,105,122,101,45,115,112,97,99,101])=false:=by rw[bs_tl,h];rfl
 have e9:((bs s).toList==[99,111,110,99,97,116])=false:=by rw[bs_tl,h];rfl
 have e10:((bs s).toList==[115,116,97,114,116,115,45,119,105,116,104])=false:=by rw[bs_tl,h];rfl
 have e11:((bs s).toList==[99,111,110,116,97,105,110,115])=false:=by rw[bs_tl,h];rfl
 have e12:((bs s).toList==[115,117,98,115,116,114,105,110,103,45,98,101,102,111,114,101])=false:=by rw[bs_tl,h];rfl
 have e13:((bs s).toList==[115,117,98,115,116,114,105,110,103,45,97,102,116,101,114])=false:=by rw[bs_tl,h];rfl
 have e14:((bs s).toList==[115,117,98,115,116,114,105,110,103])=false:=by rw[bs_tl,h];rfl
 have e15:((bs s).toList==[116,114,97,110,115,108,97,116,101])=false:=by rw[bs_tl,h];rfl
 have e16:((bs s).toList==[115,116,114,105,110,103,45,108,101,110,103,116,104])=false:=by rw[bs_tl,h];rfl
 have e17:((bs s).toList==[110,117,109,98,101,114])=false:=by rw[bs_tl,h];rfl
 have e18:((bs s).toList==[98,111,111,108,101,97,110])=false:=by rw[bs_tl,h];rfl
 have e19:((bs s).toList==[110,111,116])=false:=by rw[bs_tl,h];rfl
 have e20:((bs s).toList==[108,97,110,103])=true:=by rw[bs_tl,h];rfl
 have HB:=Lib.hid fun ob=>(Below.refl _ w).alloc (Nat.le_refl _) ob
 generalize bs s=S at *
 clear hf h
 go_enter Tryz.func170,Tryz.ntmps170
 go_wp2_with fail
 refine endFn Tryz.results170 _ w.heap.size (c0:= .int .i64 1) (c1:= .int .i64 1) (c2:= .bool false) (c3:= .int .i64 2) (c:= .bool true) ?_ ?_ ?_ ?_ (by rfl) (by rfl) rfl ⟨HB.out _,rfl⟩
 all_goals go_simp
set_option maxRecDepth 100000 in
set_option maxHeartbeats 4000000 in
theorem func_21 (s:List UInt8)(w:World)(h:s=[116,114,117,101]):Calls Tryz.prog 170 #[.string (bs s)] w (FnP w (fnF s)):=by
 have hf:fnF s=some ⟨0,0,false,2⟩:=by rw[h];rfl
 rw[hf]
 have e0:((bs s).toList==[108,97,115,116])=false:=by rw[bs_tl,h];rfl
 have e1:((bs s).toList==[112,111,115,105,116,105,111,110])=false:=by rw[bs_tl,h];rfl
 have e2:((bs s).toList==[99,111,117,110,116])=false:=by rw[bs_tl,h];rfl
 have e3:((bs s).toList==[115,117,109])=false:=by rw[bs_tl,h];rfl
 have e4:((bs s).toList==[108,111,99,97,108,45,110,97,109,101])=false:=by rw[bs_tl,h];rfl
 have e5:((bs s).toList==[110,97,109,101])=false:=by rw[bs_tl,h];rfl
 have e6:((bs s).toList==[110,97,109,101,115,112,97,99,101,45,117,114,105])=false:=by rw[bs_tl,h];rfl
 have e7:((bs s).toList==[115,116,114,105,110,103])=false:=by rw[bs_tl,h];rfl
 have e8:((bs s).toList==[110,111,114,109,97,108,105,122,101,45,115,112,97,99,101])=false:=by rw[bs_tl,h];rfl
 have e9:((bs s).toList==[99,111,110,99,97,116])=false:=by rw[bs_tl,h];rfl
 have e10:((bs s).toList==[115,116,97,114,116,115,45,119,105,116,104])=false:=by rw[bs_tl,h];rfl
 have e11:((bs s).toList==[99,111,110,116,97,105,110,115])=false:=by rw[bs_tl,h];rfl
 have e12:((bs s).toList==[115,117,98,115,116,114,105,110,103,45,98,101,102,111,114,101])=false:=by rw[bs_tl,h];rfl
 have e13:((bs s).toList==[115,117,98,115,116,114,105,110,103,45,97,102,116,101,114])=false:=by rw[bs_tl,h];rfl
 have e14:((bs s).toList==[115,117,98,115,116,114,105,110,103])=false:=by rw[bs_tl,h];rfl
 have e15:((bs s).toList==[116,114,97,110,115,108,97,116,101])=false:=by rw[bs_tl,h];rfl
 have e16:((bs s).toList==[115,116,114,105,110,103,45,108,101,110,103,116,104])=false:=by rw[bs_tl,h];rfl
 have e17:((bs s).toList==[110,117,109,98,101,114])=false:=by rw[bs_tl,h];rfl
 have e18:((bs s).toList==[98,111,111,108,101,97,110])=false:=by rw[bs_tl,h];rfl
 have e19:((bs s).toList==[110,111,116])=false:=by rw[bs_tl,h];rfl
 have e20:((bs s).toList==[108,97,110,103])=false:=by rw[bs_tl,h];rfl
 have e21:((bs s).toList==[116,114,117,101])=true:=by rw[bs_tl,h];rfl
 have HB:=Lib.hid fun ob=>(Below.refl _ w).alloc (Nat.le_refl _) ob
 generalize bs s=S at *
 clear hf h
 go_enter Tryz.func170,Tryz.ntmps170
 go_wp2_with fail
 refine endFn Tryz.results170 _ w.heap.size (c0:= .int .i64 0) (c1:= .int .i64 0) (c2:= .bool false) (c3:= .int .i64 2) (c:= .bool true) ?_ ?_ ?_ ?_ (by rfl) (by rfl) rfl ⟨HB.out _,rfl⟩
 all_goals go_simp
set_option maxRecDepth 100000 in
set_option maxHeartbeats 4000000 in
theorem func_22 (s:List UInt8)(w:World)(h:s=[102,97,108,115,101]):Calls Tryz.prog 170 #[.string (bs s)] w (FnP w (fnF s)):=by
 have hf:fnF s=some ⟨0,0,false,2⟩:=by rw[h];rfl
 rw[hf]
 have e0:((bs s).toList==[108,97,115,116])=false:=by rw[bs_tl,h];rfl
 have e1:((bs s).toList==[112,111,115,105,116,105,111,110])=false:=by rw[bs_tl,h];rfl
 have e2:((bs s).toList==[99,111,117,110,116])=false:=by rw[bs_tl,h];rfl
 have e3:((bs s).toList==[115,117,109])=false:=by rw[bs_tl,h];rfl
 have e4:((bs s).toList==[108,111,99,97,108,45,110,97,109,101])=false:=by rw[bs_tl,h];rfl
 have e5:((bs s).toList==[110,97,109,101])=false:=by rw[bs_tl,h];rfl
 have e6:((bs s).toList==[110,97,109,101,115,112,97,99,101,45,117,114,105])=false:=by rw[bs_tl,h];rfl
 have e7:((bs s).toList==[115,116,114,105,110,103])=false:=by rw[bs_tl,h];rfl
 have e8:((bs s).toList==[110,111,114,109,97,108,105,122,101,45,115,112,97,99,101])=false:=by rw[bs_tl,h];rfl
 have e9:((bs s).toList==[99,111,110,99,97,116])=false:=by rw[bs_tl,h];rfl
 have e10:((bs s).toList==[115,116,97,114,116,115,45,119,105,116,104])=false:=by rw[bs_tl,h];rfl
 have e11:((bs s).toList==[99,111,110,116,97,105,110,115])=false:=by rw[bs_tl,h];rfl
 have e12:((bs s).toList==[115,117,98,115,116,114,105,110,103,45,98,101,102,111,114,101])=false:=by rw[bs_tl,h];rfl
 have e13:((bs s).toList==[115,117,98,115,116,114,105,110,103,45,97,102,116,101,114])=false:=by rw[bs_tl,h];rfl
 have e14:((bs s).toList==[115,117,98,115,116,114,105,110,103])=false:=by rw[bs_tl,h];rfl
 have e15:((bs s).toList==[116,114,97,110,115,108,97,116,101])=false:=by rw[bs_tl,h];rfl
 have e16:((bs s).toList==[115,116,114,105,110,103,45,108,101,110,103,116,104])=false:=by rw[bs_tl,h];rfl
 have e17:((bs s).toList==[110,117,109,98,101,114])=false:=by rw[bs_tl,h];rfl
 have e18:((bs s).toList==[98,111,111,108,101,97,110])=false:=by rw[bs_tl,h];rfl
 have e19:((bs s).toList==[110,111,116])=false:=by rw[bs_tl,h];rfl
 have e20:((bs s).toList==[108,97,110,103])=false:=by rw[bs_tl,h];rfl
 have e21:((bs s).toList==[116,114,117,101])=false:=by rw[bs_tl,h];rfl
 have e22:((bs s).toList==[102,97,108,115,101])=true:=by rw[bs_tl,h];rfl
 have HB:=Lib.hid fun ob=>(Below.refl _ w).alloc (Nat.le_refl _) ob
 generalize bs s=S at *
 clear hf h
 go_enter Tryz.func170,Tryz.ntmps170
 go_wp2_with fail
 refine endFn Tryz.results170 _ w.heap.size (c0:= .int .i64 0) (c1:= .int .i64 0) (c2:= .bool false) (c3:= .int .i64 2) (c:= .bool true) ?_ ?_ ?_ ?_ (by rfl) (by rfl) rfl ⟨HB.out _,rfl⟩
 all_goals go_simp
set_option maxRecDepth 100000 in
set_option maxHeartbeats 4000000 in
theorem func_23 (s:List UInt8)(w:World)(h:s=[102,108,111,111,114]):Calls Tryz.prog 170 #[.string (bs s)] w (FnP w (fnF s)):=by
 have hf:fnF s=some ⟨1,1,false,3⟩:=by rw[h];rfl
 rw[hf]
 have e0:((bs s).toList==[108,97,115,116])=false:=by rw[bs_tl,h];rfl
 have e1:((bs s).toList==[112,111,115,105,116,105,111,110])=false:=by rw[bs_tl,h];rfl
 have e2:((bs s).toList==[99,111,117,110,116])=false:=by rw[bs_tl,h];rfl
 have e3:((bs s).toList==[115,117,109])=false:=by rw[bs_tl,h];rfl
 have e4:((bs s).toList==[108,111,99,97,108,45,110,97,109,101])=false:=by rw[bs_tl,h];rfl
 have e5:((bs s).toList==[110,97,109,101])=false:=by rw[bs_tl,h];rfl
 have e6:((bs s).toList==[110,97,109,101,115,112,97,99,101,45,117,114,105])=false:=by rw[bs_tl,h];rfl
 have e7:((bs s).toList==[115,116,114,105,110,103])=false:=by rw[bs_tl,h];rfl
 have e8:((bs s).toList==[110,111,114,109,97,108,105,122,101,45,115,112,97,99,101])=false:=by rw[bs_tl,h];rfl
 have e9:((bs s).toList==[99,111,110,99,97,116])=false:=by rw[bs_tl,h];rfl
 have e10:((bs s).toList==[115,116,97,114,116,115,45,119,105,116,104])=false:=by rw[bs_tl,h];rfl
 have e11:((bs s).toList==[99,111,110,116,97,105,110,115])=false:=by rw[bs_tl,h];rfl
 have e12:((bs s).toList==[115,117,98,115,116,114,105,110,103,45,98,101,102,111,114,101])=false:=by rw[bs_tl,h];rfl
 have e13:((bs s).toList==[115,117,98,115,116,114,105,110,103,45,97,102,116,101,114])=false:=by rw[bs_tl,h];rfl
 have e14:((bs s).toList==[115,117,98,115,116,114,105,110,103])=false:=by rw[bs_tl,h];rfl
 have e15:((bs s).toList==[116,114,97,110,115,108,97,116,101])=false:=by rw[bs_tl,h];rfl
 have e16:((bs s).toList==[115,116,114,105,110,103,45,108,101,110,103,116,104])=false:=by rw[bs_tl,h];rfl
 have e17:((bs s).toList==[110,117,109,98,101,114])=false:=by rw[bs_tl,h];rfl
 have e18:((bs s).toList==[98,111,111,108,101,97,110])=false:=by rw[bs_tl,h];rfl
 have e19:((bs s).toList==[110,111,116])=false:=by rw[bs_tl,h];rfl
 have e20:((bs s).toList==[108,97,110,103])=false:=by rw[bs_tl,h];rfl
 have e21:((bs s).toList==[116,114,117,101])=false:=by rw[bs_tl,h];rfl
 have e22:((bs s).toList==[102,97,108,115,101])=false:=by rw[bs_tl,h];rfl
 have e23:((bs s).toList==[102,108,111,111,114])=true:=by rw[bs_tl,h];rfl
 have HB:=Lib.hid fun ob=>(Below.refl _ w).alloc (Nat.le_refl _) ob
 generalize bs s=S at *
 clear hf h
 go_enter Tryz.func170,Tryz.ntmps170
 go_wp2_with fail
 refine endFn Tryz.results170 _ w.heap.size (c0:= .int .i64 1) (c1:= .int .i64 1) (c2:= .bool false) (c3:= .int .i64 3) (c:= .bool true) ?_ ?_ ?_ ?_ (by rfl) (by rfl) rfl ⟨HB.out _,rfl⟩
 all_goals go_simp
set_option maxRecDepth 100000 in
set_option maxHeartbeats 4000000 in
theorem func_24 (s:List UInt8)(w:World)(h:s=[99,101,105,108,105,110,103]):Calls Tryz.prog 170 #[.string (bs s)] w (FnP w (fnF s)):=by
 have hf:fnF s=some ⟨1,1,false,3⟩:=by rw[h];rfl
 rw[hf]
 have e0:((bs s).toList==[108,97,115,116])=false:=by rw[bs_tl,h];rfl
 have e1:((bs s).toList==[112,111,115,105,116,105,111,110])=false:=by rw[bs_tl,h];rfl
 have e2:((bs s).toList==[99,111,117,110,116])=false:=by rw[bs_tl,h];rfl
 have e3:((bs s).toList==[115,117,109])=false:=by rw[bs_tl,h];rfl
 have e4:((bs s).toList==[108,111,99,97,108,45,110,97,109,101])=false:=by rw[bs_tl,h];rfl
 have e5:((bs s).toList==[110,97,109,101])=false:=by rw[bs_tl,h];rfl
 have e6:((bs s).toList==[110,97,109,101,115,112,97,99,101,45,117,114,105])=false:=by rw[bs_tl,h];rfl
 have e7:((bs s).toList==[115,116,114,105,110,103])=false:=by rw[bs_tl,h];rfl
 have e8:((bs s).toList==[110,111,114,109,97,108,105,122,101,45,115,112,97,99,101])=false:=by rw[bs_tl,h];rfl
 have e9:((bs s).toList==[99,111,110,99,97,116])=false:=by rw[bs_tl,h];rfl
 have e10:((bs s).toList==[115,116,97,114,116,115,45,119,105,116,104])=false:=by rw[bs_tl,h];rfl
 have e11:((bs s).toList==[99,111,110,116,97,105,110,115])=false:=by rw[bs_tl,h];rfl
 have e12:((bs s).toList==[115,117,98,115,116,114,105,110,103,45,98,101,102,111,114,101])=false:=by rw[bs_tl,h];rfl
 have e13:((bs s).toList==[115,117,98,115,116,114,105,110,103,45,97,102,116,101,114])=false:=by rw[bs_tl,h];rfl
 have e14:((bs s).toList==[115,117,98,115,116,114,105,110,103])=false:=by rw[bs_tl,h];rfl
 have e15:((bs s).toList==[116,114,97,110,115,108,97,116,101])=false:=by rw[bs_tl,h];rfl
 have e16:((bs s).toList==[115,116,114,105,110,103,45,108,101,110,103,116,104])=false:=by rw[bs_tl,h];rfl
 have e17:((bs s).toList==[110,117,109,98,101,114])=false:=by rw[bs_tl,h];rfl
 have e18:((bs s).toList==[98,111,111,108,101,97,110])=false:=by rw[bs_tl,h];rfl
 have e19:((bs s).toList==[110,111,116])=false:=by rw[bs_tl,h];rfl
 have e20:((bs s).toList==[108,97,110,103])=false:=by rw[bs_tl,h];rfl
 have e21:((bs s).toList==[116,114,117,101])=false:=by rw[bs_tl,h];rfl
 have e22:((bs s).toList==[102,97,108,115,101])=false:=by rw[bs_tl,h];rfl
 have e23:((bs s).toList==[102,108,111,111,114])=false:=by rw[bs_tl,h];rfl
 have e24:((bs s).toList==[99,101,105,108,105,110,103])=true:=by rw[bs_tl,h];rfl
 have HB:=Lib.hid fun ob=>(Below.refl _ w).alloc (Nat.le_refl _) ob
 generalize bs s=S at *
 clear hf h
 go_enter Tryz.func170,Tryz.ntmps170
 go_wp2_with fail
 refine endFn Tryz.results170 _ w.heap.size (c0:= .int .i64 1) (c1:= .int .i64 1) (c2:= .bool false) (c3:= .int .i64 3) (c:= .bool true) ?_ ?_ ?_ ?_ (by rfl) (by rfl) rfl ⟨HB.out _,rfl⟩
 all_goals go_simp
set_option maxRecDepth 100000 in
set_option maxHeartbeats 4000000 in
theorem func_25 (s:List UInt8)(w:World)(h:s=[114,111,117,110,100]):Calls Tryz.prog 170 #[.string (bs s)] w (FnP w (fnF s)):=by
 have hf:fnF s=some ⟨1,1,false,3⟩:=by rw[h];rfl
 rw[hf]
 have e0:((bs s).toList==[108,97,115,116])=false:=by rw[bs_tl,h];rfl
 have e1:((bs s).toList==[112,111,115,105,116,105,111,110])=false:=by rw[bs_tl,h];rfl
 have e2:((bs s).toList==[99,111,117,110,116])=false:=by rw[bs_tl,h];rfl
 have e3:((bs s).toList==[115,117,109])=false:=by rw[bs_tl,h];rfl
 have e4:((bs s).toList==[108,111,99,97,108,45,110,97,109,101])=false:=by rw[bs_tl,h];rfl
 have e5:((bs s).toList==[110,97,109,101])=false:=by rw[bs_tl,h];rfl
 have e6:((bs s).toList==[110,97,109,101,115,112,97,99,101,45,117,114,105])=false:=by rw[bs_tl,h];rfl
 have e7:((bs s).toList==[115,116,114,105,110,103])=false:=by rw[bs_tl,h];rfl
 have e8:((bs s).toList==[110,111,114,109,97,108,105,122,101,45,115,112,97,99,101])=false:=by rw[bs_tl,h];rfl
 have e9:((bs s).toList==[99,111,110,99,97,116])=false:=by rw[bs_tl,h];rfl
 have e10:((bs s).toList==[115,116,97,114,116,115,45,119,105,116,104])=false:=by rw[bs_tl,h];rfl
 have e11:((bs s).toList==[99,111,110,116,97,105,110,115])=false:=by rw[bs_tl,h];rfl
 have e12:((bs s).toList==[115,117,98,115,116,114,105,110,103,45,98,101,102,111,114,101])=false:=by rw[bs_tl,h];rfl
 have e13:((bs s).toList==[115,117,98,115,116,114,105,110,103,45,97,102,116,101,114])=false:=by rw[bs_tl,h];rfl
 have e14:((bs s).toList==[115,117,98,115,116,114,105,110,103])=false:=by rw[bs_tl,h];rfl
 have e15:((bs s).toList==[116,114,97,110,115,108,97,116,101])=false:=by rw[bs_tl,h];rfl
 have e16:((bs s).toList==[115,116,114,105,110,103,45,108,101,110,103,116,104])=false:=by rw[bs_tl,h];rfl
 have e17:((bs s).toList==[110,117,109,98,101,114])=false:=by rw[bs_tl,h];rfl
 have e18:((bs s).toList==[98,111,111,108,101,97,110])=false:=by rw[bs_tl,h];rfl
 have e19:((bs s).toList==[110,111,116])=false:=by rw[bs_tl,h];rfl
 have e20:((bs s).toList==[108,97,110,103])=false:=by rw[bs_tl,h];rfl
 have e21:((bs s).toList==[116,114,117,101])=false:=by rw[bs_tl,h];rfl
 have e22:((bs s).toList==[102,97,108,115,101])=false:=by rw[bs_tl,h];rfl
 have e23:((bs s).toList==[102,108,111,111,114])=false:=by rw[bs_tl,h];rfl
 have e24:((bs s).toList==[99,101,105,108,105,110,103])=false:=by rw[bs_tl,h];rfl
 have e25:((bs s).toList==[114,111,117,110,100])=true:=by rw[bs_tl,h];rfl
 have HB:=Lib.hid fun ob=>(Below.refl _ w).alloc (Nat.le_refl _) ob
 generalize bs s=S at *
 clear hf h
 go_enter Tryz.func170,Tryz.ntmps170
 go_wp2_with fail
 refine endFn Tryz.results170 _ w.heap.size (c0:= .int .i64 1) (c1:= .int .i64 1) (c2:= .bool false) (c3:= .int .i64 3) (c:= .bool true) ?_ ?_ ?_ ?_ (by rfl) (by rfl) rfl ⟨HB.out _,rfl⟩
 all_goals go_simp
set_option maxRecDepth 100000 in
set_option maxHeartbeats 4000000 in
theorem func_no (s:List UInt8)(w:World)(h0:s≠[108,97,115,116])(h1:s≠[112,111,115,105,116,105,111,110])(h2:s≠[99,111,117,110,116])(h3:s≠[115,117,109])(h4:s≠[108,111,99,97,108,45,110,97,109,101])(h5:s≠[110,97,109,101])(h6:s≠[110,97,109,101,115,112,97,99,101,45,117,114,105])(h7:s≠[115,116,114,105,110,103])(h8:s≠[110,111,114,109,97,108,105,122,101,45,115,112,97,99,101])(h9:s≠[99,111,110,99,97,116])(h10:s≠[115,116,97,114,116,115,45,119,105,116,104])(h11:s≠[99,111,110,116,97,105,110,115])(h12:s≠[115,117,98,115,116,114,105,110,103,45,98,101,102,111,114,101])(h13:s≠[115,117,98,115,116,114,105,110,103,45,97,102,116,101,114])(h14:s≠[115,117,98,115,116,114,105,110,103])(h15:s≠[116,114,97,110,115,108,97,116,101])(h16:s≠[115,116,114,105,110,103,45,108,101,110,103,116,104])(h17:s≠[110,117,109,98,101,114])(h18:s≠[98,111,111,108,101,97,110])(h19:s≠[110,111,116])(h20:s≠[108,97,110,103])(h21:s≠[116,114,117,101])(h22:s≠[102,97,108,115,101])(h23:s≠[102,108,111,111,114])(h24:s≠[99,101,105,108,105,110,103])(h25:s≠[114,111,117,110,100]):Calls Tryz.prog 170 #[.string (bs s)] w (FnP w (fnF s)):=by
 have hf:fnF s=none:=by
  unfold fnF fnT
  simp only[fnG,h0,h1,h2,h3,h4,h5,h6,h7,h8,h9,h10,h11,h12,h13,h14,h15,h16,h17,h18,h19,h20,h21,h22,h23,h24,h25,if_false]
 rw[hf]
 have e0:((bs s).toList==[108,97,115,116])=false:=by rw[bs_tl,beq_eq_false_iff_ne];exact h0
 have e1:((bs s).toList==[112,111,115,105,116,105,111,110])=false:=by rw[bs_tl,beq_eq_false_iff_ne];exact h1
 have e2:((bs s).toList==[99,111,117,110,116])=false:=by rw[bs_tl,beq_eq_false_iff_ne];exact h2
 have e3:((bs s).toList==[115,117,109])=false:=by rw[bs_tl,beq_eq_false_iff_ne];exact h3
 have e4:((bs s).toList==[108,111,99,97,108,45,110,97,109,101])=false:=by rw[bs_tl,beq_eq_false_iff_ne];exact h4
 have e5:((bs s).toList==[110,97,109,101])=false:=by rw[bs_tl,beq_eq_false_iff_ne];exact h5
 have e6:((bs s).toList==[110,97,109,101,115,112,97,99,101,45,117,114,105])=false:=by rw[bs_tl,beq_eq_false_iff_ne];exact h6
 have e7:((bs s).toList==[115,116,114,105,110,103])=false:=by rw[bs_tl,beq_eq_false_iff_ne];exact h7
 have e8:((bs s).toList==[110,111,114,109,97,108,105,122,101,45,115,112,97,99,101])=false:=by rw[bs_tl,beq_eq_false_iff_ne];exact h8
 have e9:((bs s).toList==[99,111,110,99,97,116])=false:=by rw[bs_tl,beq_eq_false_iff_ne];exact h9
 have e10:((bs s).toList==[115,116,97,114,116,115,45,119,105,116,104])=false:=by rw[bs_tl,beq_eq_false_iff_ne];exact h10
 have e11:((bs s).toList==[99,111,110,116,97,105,110,115])=false:=by rw[bs_tl,beq_eq_false_iff_ne];exact h11
 have e12:((bs s).toList==[115,117,98,115,116,114,105,110,103,45,98,101,102,111,114,101])=false:=by rw[bs_tl,beq_eq_false_iff_ne];exact h12
 have e13:((bs s).toList==[115,117,98,115,116,114,105,110,103,45,97,102,116,101,114])=false:=by rw[bs_tl,beq_eq_false_iff_ne];exact h13
 have e14:((bs s).toList==[115,117,98,115,116,114,105,110,103])=false:=by rw[bs_tl,beq_eq_false_iff_ne];exact h14
 have e15:((bs s).toList==[116,114,97,110,115,108,97,116,101])=false:=by rw[bs_tl,beq_eq_false_iff_ne];exact h15
 have e16:((bs s).toList==[115,116,114,105,110,103,45,108,101,110,103,116,104])=false:=by rw[bs_tl,beq_eq_false_iff_ne];exact h16
 have e17:((bs s).toList==[110,117,109,98,101,114])=false:=by rw[bs_tl,beq_eq_false_iff_ne];exact h17
 have e18:((bs s).toList==[98,111,111,108,101,97,110])=false:=by rw[bs_tl,beq_eq_false_iff_ne];exact h18
 have e19:((bs s).toList==[110,111,116])=false:=by rw[bs_tl,beq_eq_false_iff_ne];exact h19
 have e20:((bs s).toList==[108,97,110,103])=false:=by rw[bs_tl,beq_eq_false_iff_ne];exact h20
 have e21:((bs s).toList==[116,114,117,101])=false:=by rw[bs_tl,beq_eq_false_iff_ne];exact h21
 have e22:((bs s).toList==[102,97,108,115,101])=false:=by rw[bs_tl,beq_eq_false_iff_ne];exact h22
 have e23:((bs s).toList==[102,108,111,111,114])=false:=by rw[bs_tl,beq_eq_false_iff_ne];exact h23
 have e24:((bs s).toList==[99,101,105,108,105,110,103])=false:=by rw[bs_tl,beq_eq_false_iff_ne];exact h24
 have e25:((bs s).toList==[114,111,117,110,100])=false:=by rw[bs_tl,beq_eq_false_iff_ne];exact h25
 have HB:=Lib.hid fun ob=>(Below.refl _ w).alloc (Nat.le_refl _) ob
 generalize bs s=S at *
 clear hf h0 h1 h2 h3 h4 h5 h6 h7 h8 h9 h10 h11 h12 h13 h14 h15 h16 h17 h18 h19 h20 h21 h22 h23 h24 h25
 go_enter Tryz.func170,Tryz.ntmps170
 go_wp2_with fail
 refine endFn Tryz.results170 _ w.heap.size (c0:= .int .i64 0) (c1:= .int .i64 0) (c2:= .bool false) (c3:= .int .i64 0) (c:= .bool false) ?_ ?_ ?_ ?_ (by rfl) (by rfl) rfl ⟨HB.out _,rfl⟩
 all_goals go_simp
theorem func_any (s:List UInt8)(w:World):Calls Tryz.prog 170 #[.string (bs s)] w (FnP w (fnF s)):=by
 by_cases h0:s=[108,97,115,116]
 ·exact func_0 s w h0
 by_cases h1:s=[112,111,115,105,116,105,111,110]
 ·exact func_1 s w h1
 by_cases h2:s=[99,111,117,110,116]
 ·exact func_2 s w h2
 by_cases h3:s=[115,117,109]
 ·exact func_3 s w h3
 by_cases h4:s=[108,111,99,97,108,45,110,97,109,101]
 ·exact func_4 s w h4
 by_cases h5:s=[110,97,109,101]
 ·exact func_5 s w h5
 by_cases h6:s=[110,97,109,101,115,112,97,99,101,45,117,114,105]
 ·exact func_6 s w h6
 by_cases h7:s=[115,116,114,105,110,103]
 ·exact func_7 s w h7
 by_cases h8:s=[110,111,114,109,97,108,105,122,101,45,115,112,97,99,101]
 ·exact func_8 s w h8
 by_cases h9:s=[99,111,110,99,97,116]
 ·exact func_9 s w h9
 by_cases h10:s=[115,116,97,114,116,115,45,119,105,116,104]
 ·exact func_10 s w h10
 by_cases h11:s=[99,111,110,116,97,105,110,115]
 ·exact func_11 s w h11
 by_cases h12:s=[115,117,98,115,116,114,105,110,103,45,98,101,102,111,114,101]
 ·exact func_12 s w h12
 by_cases h13:s=[115,117,98,115,116,114,105,110,103,45,97,102,116,101,114]
 ·exact func_13 s w h13
 by_cases h14:s=[115,117,98,115,116,114,105,110,103]
 ·exact func_14 s w h14
 by_cases h15:s=[116,114,97,110,115,108,97,116,101]
 ·exact func_15 s w h15
 by_cases h16:s=[115,116,114,105,110,103,45,108,101,110,103,116,104]
 ·exact func_16 s w h16
 by_cases h17:s=[110,117,109,98,101,114]
 ·exact func_17 s w h17
 by_cases h18:s=[98,111,111,108,101,97,110]
 ·exact func_18 s w h18
 by_cases h19:s=[110,111,116]
 ·exact func_19 s w h19
 by_cases h20:s=[108,97,110,103]
 ·exact func_20 s w h20
 by_cases h21:s=[116,114,117,101]
 ·exact func_21 s w h21
 by_cases h22:s=[102,97,108,115,101]
 ·exact func_22 s w h22
 by_cases h23:s=[102,108,111,111,114]
 ·exact func_23 s w h23
 by_cases h24:s=[99,101,105,108,105,110,103]
 ·exact func_24 s w h24
 by_cases h25:s=[114,111,117,110,100]
 ·exact func_25 s w h25
 exact func_no s w h0 h1 h2 h3 h4 h5 h6 h7 h8 h9 h10 h11 h12 h13 h14 h15 h16 h17 h18 h19 h20 h21 h22 h23 h24 h25
end Char
end Go.Proofs.YtlmpkpjjakallaaGreatDoor
