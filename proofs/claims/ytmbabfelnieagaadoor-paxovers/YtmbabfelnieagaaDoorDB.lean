/- Over of the program, as the laws want it. -/
import Derived.Test.YtmbabfelnieagaaDoorDA
namespace Go.Proofs.YtmbabfelnieagaaDoor
open Go.RowKit
set_option linter.unusedVariables false
theorem pover_any (A B : Option Addr) (ca cb : Nat) (L M : List Px.Pr) (hn : L.length ≤ 4611686018427387904) (hm : M.length ≤ 4611686018427387904) (hca : L.length ≤ ca) (hcb : M.length ≤ cb) (hSL : ∀ p ∈ L, p.1.length ≤ 140737488355328 ∧ p.2.length ≤ 140737488355328) (hSM : ∀ p ∈ M, p.1.length ≤ 140737488355328 ∧ p.2.length ≤ 140737488355328) (w : World) (hk : KAt w) (ha : PrsAt w A L) (hb : PrsAt w B M) :
    Calls Tryd.prog 20 #[.slice A L.length ca, .slice B M.length cb] w fun e w' => OverSays L M e w' ∧ Bw w w' :=
  (pover_own sort_spec A B ca cb L M hn hm hca hcb hSL hSM w hk ha hb).mono fun e w' ⟨⟨v, h1, h2⟩, h3⟩ => ⟨⟨v, h1, prsis_own h2⟩, h3⟩
end Go.Proofs.YtmbabfelnieagaaDoor
