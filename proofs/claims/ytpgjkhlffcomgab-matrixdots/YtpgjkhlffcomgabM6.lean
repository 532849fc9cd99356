/- What the document's own Copied makes: the same matrix in memory of its own. -/
import Derived.Test.YtpgjkhlffcomgabM5
namespace Go.Proofs.Ytpgjkhlffcomgab
open Go.RowKit

theorem Bw.trans' {a b c : World} (h : Bw a b) (k : Below a.heap.size b c) : Bw a c := Below.trans h k

theorem same_upd {k : Nat} {L L' : Nat → Nat} {Z Z' : Nat → Nat → Int} (h : Hid (∀ r, r < k → L' r = L r ∧ Z' r = Z r)) : Hid (∀ r, r < k + 1 → upd L' k (L k) r = L r ∧ upd Z' k (Z k) r = Z r) := fun r hr => by
  by_cases e : r = k
  · subst e; rw [upd_at, upd_at]; exact ⟨rfl, rfl⟩
  · rw [upd_ne _ _ e, upd_ne _ _ e]; exact h r (by omega)

theorem OwnMat.congr {W : World} {base : Nat} {v : Value} {n : Nat} {R : Nat → Option Addr} {L L' C : Nat → Nat} {Z Z' : Nat → Nat → Int} (h : OwnMat W base v n R L' C Z') (e : ∀ r, r < n → L' r = L r ∧ Z' r = Z r) : OwnMat W base v n R L C Z := by
  refine ⟨?_, fun r hr => ?_, fun r hr => ?_, h.apart⟩
  · rw [rowsU_congr (R' := R) (L' := L') (C' := C) (fun r hr => ⟨rfl, (e r hr).1.symm, rfl⟩)]; exact h.own
  · rw [← (e r hr).1, ← (e r hr).2]; exact h.row r hr
  · rw [← (e r hr).1]; exact h.cap r hr

/-- a block laid anew and appended to: what was there stays -/
theorem bw_fresh {W w1 : World} {o : Obj} {n cap : Nat} (h : (W.alloc o).grownBy w1 (Value.slice (some ⟨W.heap.size, 0, none⟩) n cap).ownBlock) : Bw W w1 :=
  ((Below.refl _ _).alloc (Nat.le_refl _) o).grown h (by rw [size_alloc]; omega) (fun k hk => by simp only [Value.ownBlock, Option.some.injEq] at hk; omega)

end Go.Proofs.Ytpgjkhlffcomgab
