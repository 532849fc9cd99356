/- Texts of mine, put together. -/
import Derived.Test.YtldkhbkgmiicbaaGreatDoorBu35
import Derived.Test.YtldkhbkgmiicbaaGreatDoorBu14

/- Layer 12: the program's own lay, as landed at 16cf8173 (written by mkz6.py). -/
namespace Go.Proofs.YtldkhbkgmiicbaaGreatDoor
open Go.RowKit Go.Deep
set_option linter.unusedVariables false
set_option linter.unusedSimpArgs false

theorem zero_roll (w : World) : (zeroValue 69).run Tryz.prog w = .ok (.agg #[.slice none 0 0, .int .i64 0]) w := by kernel_rfl
theorem info_roll (a b : Value) : (Tryz.prog.info? 69).map (·.size) = some (#[a, b] : Array Value).size := by kernel_rfl
theorem roll_one (A : Option Addr) (m c : Nat) (n : Int) : (#[.slice A m c, .int .i64 n] : Array Value).all (·.oneCell') = true := by simp [Value.oneCell']
/-- what lay answers -/
def LayEnds (base g : Nat) (v : Value) (R : Pk.B) (x : Tr.It) (w : World) (e : Ending) (w' : World) : Prop :=
  (131072 < (R ++ Pk.pcs x).length + 1024 ∧ e = .returned (.int .i64 2) ∧ Rolls base g v R R w w' v) ∨ (¬ 131072 < (R ++ Pk.pcs x).length + 1024 ∧ e = .returned (.int .i64 0) ∧ ∃ v', Rolls base g v R (R ++ Pk.pcs x) w w' v')
end Go.Proofs.YtldkhbkgmiicbaaGreatDoor

/- Layer 12: the program's own written, as landed at 16cf8173. -/
namespace Go.Proofs.YtldkhbkgmiicbaaGreatDoor
open Go.RowKit Go.Deep
set_option linter.unusedVariables false
set_option linter.unusedSimpArgs false

def zero6 : Array Value := #[.string ⟨#[]⟩, .int .u8 0, .int .i64 0, .int .i64 0, .slice none 0 0, .string ⟨#[]⟩]
/-- what written answers -/
def WrEnds (t : List Tr.It) (base : Nat) (e : Ending) (w' : World) : Prop :=
  ((Pk.wr t).2.2 ≠ 0 ∧ e = .returned (.tuple #[.agg #[.slice none 0 0, .int .i64 0], .int .i64 ((Pk.wr t).2.1 : Int), .int .i64 (Pk.wr t).2.2])) ∨
  ((Pk.wr t).2.2 = 0 ∧ Pk.wr t = (Pk.flat t ++ List.replicate 1024 0, 0, 0) ∧ (Pk.flat t).length + 1024 ≤ 131072 ∧ ∃ A m c, e = .returned (.tuple #[.agg #[.slice A m c, .int .i64 ((Pk.flat t).length : Int)], .int .i64 0, .int .i64 0]) ∧ RollOwn w' base (.slice A m c) (Pk.flat t))
end Go.Proofs.YtldkhbkgmiicbaaGreatDoor
