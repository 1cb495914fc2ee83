/- The walks of the document's own Fresh and New. -/
import Derived.Test.YtpimdmjhnogelaaRefS
namespace Go.Proofs.Ytpimdmjhnogelaa.Char
open Go.RowKit Go.Lib

theorem heap_set_ne {w : World} {a : Addr} {u : Value} {k : Nat} (h : k ≠ a.block) : (w.setCell a u).heap[k]? = w.heap[k]? := Below.heap_setCell w a u k h
theorem heap_set_at {w : World} {b i : Nat} {cs : Array Value} {T : TypeId} {u : Value} (h : w.heap[b]? = some (.cells cs T (0, 0))) : (w.setCell ⟨b, i, none⟩ u).heap[b]? = some (.cells (cs.setIfInBounds i u) T (0, 0)) := by
  unfold World.setCell
  dsimp only
  rw [Array.getElem?_modify, if_pos rfl, h]
  rfl
set_option maxRecDepth 100000 in
set_option maxHeartbeats 4000000 in
theorem refFresh_any {B : Nat} {w : World} {b : Nat} {v : Value} {xs : List OnV} {gv lt : Nat} (h : RefS B w b v xs gv lt) (hg : gv ≤ 1000000) :
    Calls Try.prog 41 #[.pointer (some ⟨b, 0, none⟩)] w fun e w' => e = .returned (.int .i64 ((gv + 1 : Nat) : Int)) ∧ RefS B w' b v xs (gv + 1) lt ∧ Only B (ownB b v) w w' := by
  have H := Lib.hid h
  obtain ⟨c0, c1, c2, cf⟩ := h.cells
  have c3 := cf 1
  clear h cf
  go_enter Try.func41, Try.ntmps41
  go_wp2_with fail
  go_ret
  have h := H.out
  have hne : ∀ k, k ≠ b → (w.setCell ⟨b, 1, none⟩ (.int .i64 ((gv : Int) + 1))).heap[k]? = w.heap[k]? := fun k hk => heap_set_ne (a := ⟨b, 1, none⟩) hk
  have hb : Below B w (w.setCell ⟨b, 1, none⟩ (.int .i64 ((gv : Int) + 1))) := (Below.refl _ _).setCell (p := ⟨b, 1, none⟩) h.low _
  refine ⟨rfl, ⟨heap_set_at h.cell, h.row.move (fun g hg => hne g fun e => h.ne (by rw [← e]; exact hg)) (fun k hk hF => ⟨hF, hne k (by have := h.low; omega)⟩), h.low⟩, hb, fun k _ hn => hne k fun e => hn (.inl e)⟩
end Go.Proofs.Ytpimdmjhnogelaa.Char
