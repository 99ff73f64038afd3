/-
  New blocks, and their cells.
-/
import Derived.Test.YtjggiameajndgabSlices
namespace Go.Proofs.Ytjggiameajndgab
open Go.RowKit

/-- Three new blocks. -/
theorem heap3 (w : World) (o1 o2 o3 : Obj) : (((w.alloc o1).alloc o2).alloc o3).heap[w.heap.size]? = some o1 ∧ (((w.alloc o1).alloc o2).alloc o3).heap[w.heap.size + 1]? = some o2 ∧ (((w.alloc o1).alloc o2).alloc o3).heap[w.heap.size + 1 + 1]? = some o3 :=
  ⟨(heap_alloc_old _ _ (by simp; omega)).trans ((heap_alloc_old _ _ (by simp)).trans (heap_alloc_new w o1)), (heap_alloc_old _ _ (by simp)).trans (heap_alloc2_new w o1 o2), by
    have := heap_alloc2_new (w.alloc o1) o2 o3
    simpa using this⟩

theorem row_at {w : World} {A : Nat} {cs : Array Value} {t : TypeId} {mk : Nat × Nat} (h : w.heap[A]? = some (.cells cs t mk)) (k : Nat) {v : Value} (hk : cs[k]? = some v) : w.cell? ⟨A, k, none⟩ = some v := by rw [cell_of_row w A k _ _ _ h]; exact hk

end Go.Proofs.Ytjggiameajndgab
