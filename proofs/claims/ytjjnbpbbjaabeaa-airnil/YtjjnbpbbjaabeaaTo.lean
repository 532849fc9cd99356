/- Layer 19: what no air answers. -/
import Derived.Test.YtjjnbpbbjaabeaaTn
namespace Go.Proofs.Ytjjnbpbbjaabeaa
open Go.RowKit Go.Deep
set_option linter.unusedVariables false
set_option linter.unusedSimpArgs false

theorem at_nil (i : Int) (w : World) : Calls Try.prog 13 #[.pointer none, .int .i64 i] w fun e w' => e = .returned (.tuple #[.agg #[.int .i64 0, .int .i64 0, .slice none 0 0], .bool false]) ∧ Bw w w' :=
  at_no none i (fun u _ => has_nil i u)
theorem carry_nil (i : Int) (w : World) : Calls Try.prog 14 #[.pointer none, .int .i64 i] w fun e w' => ∃ v, e = .returned (.tuple #[.agg #[.int .i64 0, .int .i64 0, v], .bool false]) ∧ RowV w' v [] ∧ Bw w w' := by
  refine (carry_gen none i Ai.zero false false (fun _ => False) (fun _ => True) (fun _ h => h.elim) (fun u hu => ?_) (fun u hu => ?_) (fun _ _ _ _ => trivial)).mono ?_
  · refine (at_nil i u).mono ?_
    rintro e w' ⟨rfl, hb⟩
    exact ⟨⟨_, rfl, RowV.nil _, VIn.nil _⟩, hb⟩
  · refine (lose_nil i u).mono ?_
    rintro e w' ⟨rfl, rfl⟩
    exact ⟨rfl, trivial, Bx.refl _ _⟩
  · rintro e w' ⟨h1, -, h2⟩
    obtain ⟨v, e1, e2, e3⟩ := h1
    exact ⟨v, e1, e2, ⟨h2.os, h2.tape, h2.output, h2.size, fun b hb => h2.block b hb (fun h => h)⟩⟩
end Go.Proofs.Ytjjnbpbbjaabeaa
