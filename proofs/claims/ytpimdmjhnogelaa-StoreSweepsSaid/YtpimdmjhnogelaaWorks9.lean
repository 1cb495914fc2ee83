/- The walk of works. -/
import Derived.Test.YtpimdmjhnogelaaPS9
namespace Go.Proofs.Ytpimdmjhnogelaa.Char
open Go.RowKit Go.Lib

def rcA : Rc := ⟨2, [97], [], 1, [], [], false⟩
def chA : ChV := (2, rcA, .slice none 0 0, .slice none 0 0)
def S2 : Sto := instS (freshS newS) 5 ([chA].map toCh)
theorem e_A : instE (freshS newS) 5 ([chA].map toCh) = 0 := by decide
theorem S2_eq : S2 = ⟨[⟨1, ⟨0, rootR⟩⟩, ⟨2, ⟨5, rcA⟩⟩], 2, 5⟩ := by
  unfold S2 instS
  rw [if_pos e_A]
  rfl
theorem at_A : atV (versL S2.L 2) 5 = some rcA := by rw [S2_eq]; decide
theorem at_B : atV (versL S2.L 2) 4 = none := by rw [S2_eq]; decide
theorem chs_one (W : World) : ChsOn (W.alloc (vB 73 (.int .i64 2) (rcA, .slice none 0 0, .slice none 0 0))) (fun g => g = W.heap.size) (.slice (some ⟨W.heap.size, 0, none⟩) [chA].length 1) [chA] := by
  have hk := World.alloc_heap_new W (vB 73 (.int .i64 2) (rcA, .slice none 0 0, .slice none 0 0))
  obtain ⟨⟨d0, d1, d2, d3, d4, d5, d6, d7⟩, _⟩ := vB_blk hk
  refine ⟨⟨_, _, _, rfl, rfl, .inr ⟨W.heap.size, 0, rfl, rfl, fun k hk => ?_⟩⟩, fun x hx => ?_⟩
  · obtain rfl : k = 0 := by simp at hk; exact hk
    exact ⟨d0, d1, d2, d3, d4, d5, d6, d7⟩
  · rw [List.mem_singleton] at hx
    subst hx
    exact ⟨IntsOn.nil _ _ _ _, IntsOn.nil _ _ _ _⟩
set_option maxRecDepth 100000 in
set_option maxHeartbeats 8000000 in
theorem works_any (w : World) : Calls Try.prog 16 #[] w fun e w' => e = .returned (.bool true) ∧ Below w.heap.size w w' := by
  have HN := Lib.hid (ps_new w.heap.size w (Nat.le_refl _))
  go_enter Try.func16, Try.ntmps16
  go_wp2_with (first
    | (go_at_call 8
       refine HN.out.mono ?_
       rintro e w1 ⟨s, rfl, p1, b1⟩
       have HF := Lib.hid (ps_fresh p1 (by decide))
       have HB1 := Lib.hid b1
       have HZ := Lib.hid p1.zB
       clear p1 b1)
    | (go_at_call 31
       refine HF.out.mono ?_
       rintro e w2 ⟨he, p2, o2⟩
       obtain rfl : e = .returned (.int .i64 2) := he
       have hs2 := o2.1.size
       have HB2 := Lib.hid (HB1.out.trans o2.1)
       have p3 := p2.below ((Below.refl _ w2).alloc (Nat.le_refl _) (vB 73 (.int .i64 2) (rcA, .slice none 0 0, .slice none 0 0)))
       have HI := Lib.hid (ps_inst p3 5 [chA] (some ⟨w2.heap.size, 0, none⟩) 1 (by have := HB2.out.size; simp; omega) (fun g (hg : g = w2.heap.size) hz => by have := (p2.zB g hz).2; omega) (chs_one w2) (fun x hx => by rw [List.mem_singleton] at hx; subst hx; exact ⟨by decide, by decide⟩) (by decide) (by decide) (by decide))
       clear p2 o2 p3)
    | (go_at_call 32
       change Calls _ _ #[.pointer (some ⟨s, 0, none⟩), .int .u64 ((5 : Nat) : Int), .slice (some ⟨w2.heap.size, 0, none⟩) [chA].length 1] (w2.alloc (vB 73 (.int .i64 2) (rcA, .slice none 0 0, .slice none 0 0))) _
       refine HI.out.mono ?_
       rintro e w3 ⟨he, o3, Z3, p3, z1, z2⟩
       obtain rfl : e = .returned (.int .i64 0) := by rw [he, e_A]; rfl
       replace p3 : PS Z3 w.heap.size w3 s S2 := p3
       have hs3 := o3.1.size
       have HB3 := Lib.hid ((HB2.out.alloc HB2.out.size _).trans o3.1)
       have hA1 := ps_at p3 2 (by decide) 5 (by rw [S2_eq]; decide)
       rw [at_A] at hA1
       have HA1 := Lib.hid hA1
       have HP3 := Lib.hid p3
       clear p3 o3 z1 z2 hA1)
    | (go_at_call 12
       refine HA1.out.mono ?_
       rintro e w4 ⟨⟨r4, va4, vb4⟩, rfl, q1, q2, q3⟩
       dsimp only [Option.getD_some] at q1
       subst q1
       obtain ⟨ok4, jk4, oa4, ja4, e3, e4⟩ := q2.form
       dsimp only at e3 e4
       subst e3 e4
       have hs4 := q3.size
       have hA2 := fun ob => ps_at (HP3.out.below (q3.alloc q3.size ob)) 2 (by decide) 4 (by rw [S2_eq]; decide)
       rw [at_B] at hA2
       have HA2 := Lib.hid hA2
       have HB4 := Lib.hid (HB3.out.trans (q3.mono HB3.out.size))
       have HP4 := Lib.hid (fun ob => HP3.out.below (q3.alloc q3.size ob))
       clear hA2 q2 q3 HA1
       unfold rcV
       dsimp only)
    | (go_at_call 12
       refine (HA2.out _).mono ?_
       rintro e w5 ⟨⟨r5, va5, vb5⟩, rfl, q1, q2, q3⟩
       dsimp only [Option.getD_none] at q1
       subst q1
       obtain ⟨ok5, jk5, oa5, ja5, e3, e4⟩ := q2.form
       dsimp only at e3 e4
       subst e3 e4
       have hs5 := q3.size
       have HB5 := Lib.hid ((HB4.out.alloc HB4.out.size _).trans (q3.mono (by have := HB4.out.size; simp; omega)))
       have HP5 := Lib.hid (fun ob => ((HP4.out _).below (q3.alloc q3.size ob)))
       have g4 := fun ob => Lib.cell?_alloc_some (v := .string ⟨#[97]⟩) ob ((q3.cell (p := ⟨w4.heap.size, 1, none⟩) (by simp)).trans (rc_blk (x := (rcA, .slice ok4 rcA.ks.length jk4, .slice oa4 rcA.ats.length ja4)) (World.alloc_heap_new w4 _)).1.2.1)
       have HC := Lib.hid (fun ob => ps_count (HP5.out ob) (by rw [S2_eq]; decide) (by rw [S2_eq]; decide))
       clear q2 q3 HA2
       unfold rcV
       dsimp only)
    | (go_at_call 30
       refine (HC.out _).mono ?_
       rintro e w6 ⟨he, q6⟩
       obtain rfl : e = .returned (.int .i64 2) := by rw [he, S2_eq]; rfl
       have HQ6 := Lib.hid q6
       clear q6))
  go_ret
  exact ⟨rfl, (HB5.out.alloc HB5.out.size _).trans (HQ6.out.mono (by have := HB5.out.size; simp; omega))⟩
end Go.Proofs.Ytpimdmjhnogelaa.Char
