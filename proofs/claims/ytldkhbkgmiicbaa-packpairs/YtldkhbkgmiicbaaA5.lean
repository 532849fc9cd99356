/- The document's own Key (of tabularyref09). -/
import Derived.Test.YtldkhbkgmiicbaaA4
import Derived.Laws.IdiomStrings
namespace Go.Proofs.Ytldkhbkgmiicbaa
open Go.RowKit Go.Deep
set_option linter.unusedVariables false
set_option linter.unusedSimpArgs false

namespace Px
def badB (c : UInt8) : Bool := c == 0 || c == 10 || c == 61
theorem key_bad {l : B} {k : Nat} {c : UInt8} (h : l[k]? = some c) (hb : badB c = true) : keyF l = false := by
  unfold keyF
  have hm : c ∈ l := List.mem_of_getElem? h
  have : (l.all fun c => c != 0 && c != 10 && c != 61) = false := by
    rw [List.all_eq_false]
    refine ⟨c, hm, ?_⟩
    unfold badB at hb
    simp only [Bool.or_eq_true, beq_iff_eq] at hb
    rcases hb with (rfl | rfl) | rfl <;> decide
  rw [this]; rfl
theorem key_good {l : B} (h : ∀ (j : Nat) (c : UInt8), l[j]? = some c → badB c = false) : keyF l = (decide (1 ≤ l.length) && decide (l.length ≤ 32)) := by
  unfold keyF
  have : (l.all fun c => c != 0 && c != 10 && c != 61) = true := by
    rw [List.all_eq_true]
    intro c hc
    obtain ⟨j, hj⟩ := List.getElem?_of_mem hc
    have := h j c hj
    unfold badB at this
    simp only [Bool.or_eq_false_iff, beq_eq_false_iff_ne] at this
    simp [this.1.1, this.1.2, this.2]
  rw [this, Bool.true_and]
end Px

theorem conv_one (W : World) (d : Nat) (hd : d < 10) (z : Int) (hz : z = 48 + (d : Int)) :
    (convert 23 9 (.slice (some ⟨W.heap.size, 0, none⟩) 1 1)).run Try.prog (W.alloc (.cells #[.int .u8 z] 5)) = .ok (.string (Nm.S [UInt8.ofNat (48 + d)])) (W.alloc (.cells #[.int .u8 z] 5)) := by
  refine run_convert_bytes_back _ 23 9 5 ⟨W.heap.size, 0, none⟩ 1 [UInt8.ofNat (48 + d)] Try.underlying23 Try.underlying5 Try.underlying9 ?_
  intro j hj
  obtain rfl : j = 0 := by simpa using hj
  have h1 : ((UInt8.ofNat (48 + d)).toNat : Int) = z := by rw [Px.dig_nat hd, hz]; omega
  show _ = some (Value.int .u8 ((UInt8.ofNat (48 + d)).toNat : Int))
  rw [h1]
  simp [go_sem, Addr.add]
end Go.Proofs.Ytldkhbkgmiicbaa
