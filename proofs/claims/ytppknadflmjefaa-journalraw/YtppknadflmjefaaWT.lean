/- Layer 15: the statements' own great. -/
import Derived.Test.YtppknadflmjefaaFj
namespace Go.Proofs.Ytppknadflmjefaa
open Go.RowKit Go.Deep Go.Maps
set_option linter.unusedVariables false
set_option linter.unusedSimpArgs false

def sumN (f : Nat → Nat) : Nat → Nat
  | 0 => 0
  | k + 1 => sumN f k + f k
theorem sumN_le (f : Nat → Nat) : ∀ {k n : Nat}, k < n → f k ≤ sumN f n
  | k, 0, h => by omega
  | k, n + 1, h => by
    rw [sumN]
    by_cases e : k = n
    · subst e; omega
    · have := sumN_le f (k := k) (n := n) (by omega); omega
theorem sumN_mono (f : Nat → Nat) {k n : Nat} (h : k ≤ n) : sumN f k ≤ sumN f n := by
  induction n with
  | zero => obtain rfl : k = 0 := by omega
            exact Nat.le_refl _
  | succ n ih =>
    by_cases e : k = n + 1
    · subst e; exact Nat.le_refl _
    · rw [sumN]; have := ih (by omega); omega
theorem recs_succ (n : Nat) (L : Nat → Nat) (Z : Nat → Nat → Int) : recs15 (n + 1) L Z = recs15 n L Z ++ [Jl.data (Z n) (L n)] := by
  unfold recs15; rw [List.range_succ, List.map_append]; rfl
theorem packed_recs (L : Nat → Nat) (Z : Nat → Nat → Int) : ∀ n, (Jl.packed (recs15 n L Z)).length = 2 * n + sumN L n
  | 0 => rfl
  | n + 1 => by
    rw [recs_succ, Jl.packed_append, List.length_append, packed_recs L Z n, sumN]
    simp [Jl.packed, Jl.data_len]
    omega
/-- how much an act has -/
def Ac15.tot (x : Ac15) : Nat := x.n + x.Lr + sumN x.Lm x.n
/-- what great tells -/
def Small15 (n : Nat) (X : Nat → Ac15) : Prop := n ≤ 60 ∧ ∀ i, i < n → (X i).tot ≤ 32768
theorem MatV.sub {w : World} {n : Nat} {vs : List Value} {L : List (List Nat)} {b off : Nat} (h : MatV w (some ⟨b, off, none⟩) n vs L) {p m : Nat} (hpm : p + m ≤ n) : MatV w (some ⟨b, off + p, none⟩) m ((vs.drop p).take m) ((L.drop p).take m) := by
  have hL := h.lenL
  have hv := h.len
  refine ⟨by rw [List.length_take, List.length_drop]; omega, ?_, by rw [List.length_take, List.length_drop, List.length_take, List.length_drop]; omega, fun i v l h1 h2 => ?_⟩
  · by_cases h0 : m = 0
    · exact .inl h0
    · rcases h.cells with h1 | ⟨b', o', e, hc⟩
      · omega
      · cases e
        refine .inr ⟨b, off + p, rfl, fun i v hi => ?_⟩
        rw [List.getElem?_take] at hi
        split at hi
        · rw [List.getElem?_drop] at hi
          have := hc (p + i) v hi
          rw [Nat.add_assoc]; exact this
        · cases hi
  · rw [List.getElem?_take] at h1 h2
    split at h1
    · rename_i hi
      rw [if_pos hi] at h2
      rw [List.getElem?_drop] at h1 h2
      exact h.rows.2 (p + i) v l h1 h2
    · cases h1
/-- a list of rows appended to a list of the call's own -/
theorem wpList_append_mat {w : World} {ops : Array Oper} {rest : List Oper} {o : Oper} {a : Act} {Q : Exit → Act → World → Prop} (hgd : o.guard = none) (s x : Operand)
    (ho : o.op = .call { callee := .builtin .append, args := #[s, x], argTypes := #[42, 42] })
    (base : Nat) (v : Value) (n : Nat) (xs : List Value) (hs : a.eval s = v) (hown : w.ownsRow base 37 1 v n xs)
    (A : Option Addr) (m C : Nat) (us : List Value) (L : List (List Nat)) (hx : a.eval x = .slice A m C) (hM : MatV w A m us L) (hC : A = none → C = 0) (h63 : n + m ≤ 90000000) (hbase : base ≤ w.heap.size)
    (h : ∀ v' w', w'.ownsRow base 37 1 v' (n + m) (xs ++ us) → w.grownBy w' v.ownBlock → wpList Try.prog ops Q rest (a.put o.dst v') w') : wpList Try.prog ops Q (o :: rest) a w := by
  obtain ⟨i0, hi0, hz0, hz1, hz2⟩ := info_parts info_row15
  cases A with
  | some ad =>
    refine wpList_append_own w hgd s x _ ho base 37 i0 _ 1 24 Try.underlying42 hi0 hz0 hz1 hz2 rfl (by decide) v n xs hs hown ad m C us hx (by rw [hM.len, Nat.mul_one]) (fun j u hu => ?_) (fun u hu => ?_) (by unfold maxLen; omega) (by omega) hbase (fun v' w' h1 h2 _ => h v' w' h1 h2)
    · rcases hM.cells with h0 | ⟨b', o', e', hc'⟩
      · have := (List.getElem?_eq_some_iff.1 hu).1
        rw [hM.len] at this
        omega
      · cases e'
        rw [Addr.add_lit]
        exact hc' j u hu
    · obtain ⟨i, hi, rfl⟩ := List.getElem_of_mem hu
      have hi' : i < L.length := hM.rows.1 ▸ hi
      obtain ⟨A2, c2, e2, _⟩ := hM.rows.2 i us[i] (L[i]'hi') (List.getElem?_eq_getElem hi) (List.getElem?_eq_getElem hi')
      rw [e2]; rfl
  | none =>
    have hm0 : m = 0 := by
      rcases hM.cells with h0 | ⟨b', o', e', _⟩
      · exact h0
      · cases e'
    subst hm0
    obtain rfl := hC rfl
    have hus : us = [] := List.length_eq_zero_iff.1 hM.len
    refine wpList_plain hgd fun K hK' => ?_
    have hrun := run_append_owned_none (P := Try.prog) w base 42 o.type 37 i0 1 Try.underlying42 hi0 v n xs hown
    unfold Oper.wp
    simp [execOp, ho, resolve, invoke, builtin, hs, hx, hrun, Result.andThen]
    exact hK' _ _ (h v w (by rw [hus, List.append_nil]; exact hown) (World.grownBy.refl _ _))
end Go.Proofs.Ytppknadflmjefaa
