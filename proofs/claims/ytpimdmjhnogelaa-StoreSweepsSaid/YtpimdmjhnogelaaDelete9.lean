/- The walk of slices.Delete at versions, from the first one on. -/
import Derived.Test.YtpimdmjhnogelaaPushVe
import Derived.Lib.SliceRun
import Derived.Lib.SlBuf
import Derived.Deep.RegionLaw
import Derived.Shelf.RegionOpenPlain
namespace Go.Proofs.Ytpimdmjhnogelaa.Char
open Go.RowKit Go.Lib

theorem vesC_drop : ∀ (xs : List VeV) (k : Nat), vesC (xs.drop k) = (vesC xs).drop (k * 8)
  | xs, 0 => by simp
  | [], k + 1 => by simp [vesC]
  | x :: r, k + 1 => by
    rw [List.drop_succ_cons, vesC_drop r k]
    show _ = (veC x ++ vesC r).drop ((k + 1) * 8)
    have e1 : (veC x).drop ((k + 1) * 8) = [] := List.drop_eq_nil_of_le (by show 8 ≤ _; omega)
    have e2 : (k + 1) * 8 - (veC x).length = k * 8 := by show (k + 1) * 8 - 8 = _; omega
    rw [List.drop_append, e1, e2, List.nil_append]
theorem set_last : ∀ (l : List Value) (x v : Value), (l ++ [x]).set l.length v = l ++ [v]
  | [], _, _ => rfl
  | a :: l, x, v => by
    show a :: (l ++ [x]).set l.length v = a :: (l ++ [v])
    rw [set_last l x v]
/-- cells laid into a block that is known whole -/
theorem heap_setCells_at {b : Nat} {T : TypeId} : ∀ (vs : List Value) (o : Nat) (w : World) (cur : Array Value), w.heap[b]? = some (.cells cur T (0, 0)) → o + vs.length ≤ cur.size →
    ∃ cur', (w.setCells b o vs).heap[b]? = some (.cells cur' T (0, 0)) ∧ cur'.size = cur.size ∧ cur'.toList = cur.toList.take o ++ vs ++ cur.toList.drop (o + vs.length)
  | [], o, w, cur, h, _ => ⟨cur, h, rfl, by simp⟩
  | v :: r, o, w, cur, h, hl => by
    rw [List.length_cons] at hl
    obtain ⟨cur', h1, h2, h3⟩ := heap_setCells_at r (o + 1) (w.setCell ⟨b, o, none⟩ v) (cur.setIfInBounds o v) (heap_set_at h) (by simp; omega)
    refine ⟨cur', h1, by rw [h2]; simp, ?_⟩
    have hlo : o < cur.toList.length := by simp; omega
    rw [h3, Array.toList_setIfInBounds, List.length_cons, List.take_set, List.drop_set_of_lt (by omega), show o + 1 + r.length = o + (r.length + 1) by omega, List.take_succ_eq_append_getElem hlo]
    have hlo2 : o < cur.size := by simpa using hlo
    have e1 := set_last (cur.toList.take o) cur.toList[o] v
    rw [List.length_take, Nat.min_eq_left (Nat.le_of_lt hlo)] at e1
    rw [e1]
    simp
theorem other_setCells {b : Nat} : ∀ (vs : List Value) (o : Nat) (w : World) (k : Nat), k ≠ b → (w.setCells b o vs).heap[k]? = w.heap[k]?
  | [], _, _, _, _ => rfl
  | _ :: r, o, _, k, h => (other_setCells r (o + 1) _ k h).trans (heap_set_ne h)
theorem size_setCells {b : Nat} : ∀ (vs : List Value) (o : Nat) (w : World), (w.setCells b o vs).heap.size = w.heap.size
  | [], _, _ => rfl
  | _ :: r, o, _ => (size_setCells r (o + 1) _).trans (World.size_setCell ..)
/-- 'clear(s)', of elements of several cells -/
theorem run_clear_any {P : Program} (w : World) (t e ty : TypeId) (z : Value) (ht : P.underlying t = some (.slice e)) (hv : ∀ w, (zeroValue e).run P w = .ok z w) (zs : List Value) (b o n c : Nat) (hn : 0 < n) (hzs : (Builtin.zeroCells z.cells n).toList = zs) (h1 : ∀ v ∈ zs, v.oneCell' = true)
    (hc : ∀ j, j < zs.length → (w.cell? ⟨b, o + j, none⟩).isSome = true) (hf : ∀ j, j < zs.length → w.frozen? ⟨b, o + j, none⟩ = false) :
    (Builtin.clear_ #[t] ty #[.slice (some ⟨b, o, none⟩) n c]).run P w = .ok (.tuple #[]) (w.setCells b o zs) := by
  have hst := run_storeCells_cells (P := P) b o zs 0 w (by simpa using hc) (by simpa using hf) h1
  simp only [Nat.add_zero] at hst
  obtain ⟨m, rfl⟩ : ∃ m, n = m + 1 := ⟨n - 1, by omega⟩
  simp [Builtin.clear_, run_underlying ht, hv, hzs, hst]
def zeV : Value := .agg #[.int .u64 0, .int .i64 0, .string ⟨#[]⟩, .string ⟨#[]⟩, .int .i64 0, .slice none 0 0, .slice none 0 0, .bool false]
theorem zero_ve (w : World) : (zeroValue 45).run Try.prog w = .ok zeV w := Try.zeroValue45 w
theorem zeros_len (n : Nat) : (Builtin.zeroCells zeV.cells n).toList.length = n * 8 := by simp [Builtin.zeroCells]; rfl
theorem zeros_one (n : Nat) : ∀ v ∈ (Builtin.zeroCells zeV.cells n).toList, v.oneCell' = true := by
  have h8 : ∀ i : Fin 8, (zeV.cells[i.val]!).oneCell' = true := by decide
  intro v hv
  have hv2 : v ∈ (List.range (n * zeV.cells.size)).map fun i => zeV.cells[i % zeV.cells.size]! := by simpa [Builtin.zeroCells] using hv
  obtain ⟨i, _, rfl⟩ := List.mem_map.1 hv2
  exact h8 ⟨i % 8, Nat.mod_lt _ (by decide)⟩
set_option maxRecDepth 100000 in
set_option maxHeartbeats 4000000 in
theorem delete_any {B : Nat} {w : World} (g cap : Nat) (xs : List VeV) (k : Nat) (h : OwnsVe B w (.slice (some ⟨g, 0, none⟩) xs.length cap) xs) (hk : k < xs.length) (hl : xs.length ≤ 1000000) (hsl : ∀ x, x ∈ xs → ∃ o i j o' i' j', x.2.2.1 = .slice o i j ∧ x.2.2.2 = .slice o' i' j') :
    Calls Try.prog 52 #[.slice (some ⟨g, 0, none⟩) xs.length cap, .int .i64 0, .int .i64 (k : Int)] w fun e w' => e = .returned (.slice (some ⟨g, 0, none⟩) (xs.length - k) cap) ∧
      OwnsVe B w' (.slice (some ⟨g, 0, none⟩) (xs.length - k) cap) (xs.drop k) ∧ Below B w w' ∧ ∀ i, i ≠ g → w'.heap[i]? = w.heap[i]? := by
  rcases h.2 with ⟨h1, _⟩ | ⟨g', cap', cur, e1, hBg, hg, hnc, hcm, hcs, htk⟩
  · cases h1
  simp only [Value.slice.injEq, Option.some.injEq, Addr.mk.injEq, and_true, true_and] at e1
  obtain ⟨rfl, rfl⟩ := e1
  obtain ⟨i0, hi0, hz0, hz1, hz2⟩ := info_parts info_ve
  by_cases k0 : k = 0
  · subst k0
    have H := Lib.hid h
    clear h hg htk
    go_enter Try.func52, Try.ntmps52
    go_wp2
    go_ret
    exact ⟨by simp, by simpa using H.out, Below.refl _ _, fun _ _ => rfl⟩
  · obtain ⟨news, hnews⟩ : ∃ news, news = vesC (xs.drop k) := ⟨_, rfl⟩
    have hlen : news.length = (xs.length - k) * 8 := by rw [hnews, vesC_len, List.length_drop]
    have hcl := World.ownsRow.cells h (g := g) rfl
    have hsrc : Hid (∀ t u, news[t]? = some u → w.drew.cell? ((⟨g, k * 8, none⟩ : Addr).add t) = some u) := Lib.hid fun t u hu => by
      rw [hnews, vesC_drop, List.getElem?_drop] at hu
      have := hcl _ _ hu
      rw [Addr.add_lit, Nat.zero_add] at this
      rw [Addr.add_lit]
      exact this
    have s1 : Hid (news.length = (xs.length - k) * 8) := Lib.hid hlen
    have s2 : Hid (∀ u ∈ news, u.oneCell' = true) := Lib.hid fun u hu => by
      rw [hnews] at hu
      obtain ⟨x, hxm, hx⟩ := List.mem_flatMap.1 hu
      obtain ⟨_, _, _, _, _, _, e1, e2⟩ := hsl x (List.mem_of_mem_drop hxm)
      obtain ⟨t, r, va, vb⟩ := x
      dsimp only at e1 e2
      subst e1 e2
      simp [veC, rcC] at hx
      rcases hx with rfl | rfl | rfl | rfl | rfl | rfl | rfl | rfl <;> rfl
    have s3 : Hid (∀ t, t < news.length → (w.drew.cell? ⟨g, 0 + 0 * 8 + t, none⟩).isSome = true ∧ w.drew.frozen? ⟨g, 0 + 0 * 8 + t, none⟩ = false) := Lib.hid fun t ht => by
      have hlt : t < cur.size := by rw [hcs]; omega
      have hg2 : w.drew.heap[g]? = some (.cells cur 45 (0, 0)) := hg
      simp [World.cell?, World.frozen?, hg2, hlt]
    have hck : ¬ cap = k := by omega
    have hkc : k ≤ cap := by omega
    have hkl : k ≤ xs.length := by omega
    obtain ⟨W1, hW1⟩ : ∃ W1, W1 = w.drew.setCells g (0 + 0 * 8) news := ⟨_, rfl⟩
    obtain ⟨cur1, q1, q2, q3⟩ := heap_setCells_at news (0 + 0 * 8) w.drew cur hg (by rw [hcs, hlen]; omega)
    rw [← hW1] at q1
    obtain ⟨zs, hzs⟩ : ∃ zs, zs = (Builtin.zeroCells zeV.cells k).toList := ⟨_, rfl⟩
    have hzl : zs.length = k * 8 := by rw [hzs, zeros_len]
    have hclr : ∀ ty, (Builtin.clear_ #[42] ty #[.slice (some ⟨g, (xs.length - k) * 8, none⟩) (xs.length - (xs.length - k)) (cap - (xs.length - k))]).run Try.prog W1 = .ok (.tuple #[]) (W1.setCells g ((xs.length - k) * 8) zs) := fun ty => by
      rw [show xs.length - (xs.length - k) = k by omega]
      refine run_clear_any W1 _ _ ty zeV Try.underlying42 zero_ve zs g _ k _ (by omega) hzs.symm (by rw [hzs]; exact zeros_one k) (fun t ht => ?_) (fun t ht => ?_)
      · have hlt : (xs.length - k) * 8 + t < cur1.size := by rw [q2, hcs]; omega
        simp [World.cell?, q1, hlt]
      · simp [World.frozen?, q1]
    obtain ⟨cur2, r1, r2, r3⟩ := heap_setCells_at zs ((xs.length - k) * 8) W1 cur1 q1 (by rw [q2, hcs, hzl]; omega)
    have hne2 : ¬ cap = xs.length - k := by omega
    have hle2 : xs.length - k ≤ xs.length := by omega
    have HR1 := Lib.hid r1
    have HR2 := Lib.hid (r2.trans (q2.trans hcs))
    have HR3 : Hid (cur2.toList.take ((xs.length - k) * 8) = news) := Lib.hid (by
      rw [r3, List.append_assoc, List.take_append_of_le_length (by rw [List.length_take, q3]; simp; omega), List.take_take, Nat.min_self, q3]
      simp [← hlen])
    have HO : Hid (∀ i, i ≠ g → (W1.setCells g ((xs.length - k) * 8) zs).heap[i]? = w.heap[i]?) := Lib.hid fun i hi => by
      rw [other_setCells _ _ _ _ hi, hW1, other_setCells _ _ _ _ hi]; rfl
    have HBB : Hid (Below B w (W1.setCells g ((xs.length - k) * 8) zs)) := Lib.hid (by
      rw [hW1]
      exact below_setCells g hBg _ _ (below_setCells g hBg _ _ (Below.refl _ _).drew))
    clear q1 q2 q3 r1 r2 r3 hzs hzl
    have HW1 := Lib.hid hW1
    have HG := Lib.hid hg
    have HN := Lib.hid hnews
    clear h hg htk hnews hcl hW1
    go_enter Try.func52, Try.ntmps52
    go_wp2_with fail
    go_region_law (refine step_append_room rfl (.tmp 22) (.tmp 25) 42 rfl 45 i0 8 Try.underlying42 hi0 hz1 g 0 0 cap (by simp [Act.eval, Act.put]) ⟨g, k * 8, none⟩ (xs.length - k) (cap - k) news (by simp [Act.eval, Act.put]) s1.out hsrc.out s2.out (by omega) s3.out ?_; rw [← HW1.out])
    all_goals
      go_wp2
      go_ret
      refine ⟨rfl, ⟨vesC_len _, .inr ⟨g, cap, cur2, by rw [List.length_drop], hBg, HR1.out, by rw [List.length_drop]; omega, hcm, HR2.out, ?_⟩⟩, HBB.out, HO.out⟩
      rw [List.length_drop, HR3.out, HN.out]
end Go.Proofs.Ytpimdmjhnogelaa.Char
