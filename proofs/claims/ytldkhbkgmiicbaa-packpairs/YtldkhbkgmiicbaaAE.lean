/- The statements' helpers of layer 9: the same bytes, the same pairs. -/
import Derived.Test.YtldkhbkgmiicbaaAD
import Derived.Laws.StructEq
namespace Go.Proofs.Ytldkhbkgmiicbaa
open Go.RowKit Go.Deep
set_option linter.unusedVariables false
set_option linter.unusedSimpArgs false

theorem drewN_add9 (w : World) (q : Nat) : ∀ n, (w.drewN q).drewN n = w.drewN (q + n)
  | 0 => rfl
  | n + 1 => by show ((w.drewN q).drewN n).drew = (w.drewN (q + n)).drew; rw [drewN_add9 w q n]
theorem list_ext9 {α : Type} {a b : List α} (hl : a.length = b.length) (h : ∀ (i : Nat) (x y : α), i < a.length → a[i]? = some x → b[i]? = some y → x = y) : a = b := by
  refine List.ext_getElem hl fun i h1 h2 => ?_
  exact h i _ _ h1 (List.getElem?_eq_getElem h1) (List.getElem?_eq_getElem h2)
/-- '==' of two pairs -/
theorem equalIn_pair (W : World) (a b c e : ByteArray) : (Op.equalIn 10000 33 (.agg #[.string a, .string b]) (.agg #[.string c, .string e])).run Try.prog W = .ok (a.toList == c.toList && b.toList == e.toList) W := by
  rw [run_equalIn_struct W 9999 33 _ _ (by kernel_rfl) (by kernel_rfl)]
  cases h1 : (a.toList == c.toList) <;> cases h2 : (b.toList == e.toList) <;> simp [go_sem, Op.eqFields, h1, h2]
theorem neq_pair (W : World) (x y : Px.Pr) : (binOp .neq 33 (.agg #[.string (Nm.S x.1), .string (Nm.S x.2)]) (.agg #[.string (Nm.S y.1), .string (Nm.S y.2)])).run Try.prog W = .ok (.bool (decide (x ≠ y))) W := by
  rw [run_neq_struct, equalIn_pair, Px.S_eql, Px.S_eql]
  show Result.ok (Value.bool _) W = _
  congr 2
  obtain ⟨x1, x2⟩ := x
  obtain ⟨y1, y2⟩ := y
  by_cases h1 : x1 = y1 <;> by_cases h2 : x2 = y2 <;> simp [h1, h2]
theorem eql_pair (W : World) (x y : Px.Pr) : (binOp .eql 33 (.agg #[.string (Nm.S x.1), .string (Nm.S x.2)]) (.agg #[.string (Nm.S y.1), .string (Nm.S y.2)])).run Try.prog W = .ok (.bool (decide (x = y))) W := by
  rw [run_eql_struct, equalIn_pair, Px.S_eql, Px.S_eql]
  show Result.ok (Value.bool _) W = _
  congr 2
  obtain ⟨x1, x2⟩ := x
  obtain ⟨y1, y2⟩ := y
  by_cases h1 : x1 = y1 <;> by_cases h2 : x2 = y2 <;> simp [h1, h2]
end Go.Proofs.Ytldkhbkgmiicbaa
