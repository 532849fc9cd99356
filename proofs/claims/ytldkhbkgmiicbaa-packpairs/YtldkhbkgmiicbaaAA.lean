/- The document's own long (of tabularyref09): the number that bytes begin with. -/
import Derived.Test.YtldkhbkgmiicbaaA9
namespace Go.Proofs.Ytldkhbkgmiicbaa
open Go.RowKit Go.Deep
set_option linter.unusedVariables false
set_option linter.unusedSimpArgs false

namespace Px
theorem val_lt : ∀ (n : Nat) (s : B), s.length = n → (∀ c ∈ s, isD c = true) → val s < 10 ^ n := by
  intro n
  induction n with
  | zero =>
    intro s h _
    rw [List.eq_nil_of_length_eq_zero h]
    decide
  | succ n ih =>
    intro s h hd
    obtain ⟨r, c, rfl⟩ : ∃ r c, s = r ++ [c] := ⟨_, _, (List.dropLast_concat_getLast (by intro e; rw [e] at h; simp at h)).symm⟩
    rw [List.length_append, List.length_singleton] at h
    have h1 := ih r (by omega) (fun x hx => hd x (List.mem_append_left _ hx))
    have h2 := hd c (by simp)
    unfold isD at h2
    rw [decide_eq_true_iff] at h2
    rw [val_snoc, Nat.pow_succ]
    omega
theorem tw_end {b : B} {d : Nat} (hd : ∀ c ∈ b.take d, isD c = true) (hl : d ≤ b.length) (he : ∀ c, b[d]? = some c → isD c = false) : b.takeWhile isD = b.take d := by
  rcases Nat.lt_or_ge d b.length with h | h
  · conv => lhs; rw [← List.take_append_drop d b, List.drop_eq_getElem_cons h]
    exact takeWhile_stop isD _ _ _ hd (he _ (List.getElem?_eq_getElem h))
  · have e : b.take d = b := List.take_of_length_le h
    rw [e] at hd ⊢
    exact takeWhile_whole isD b hd
theorem tw_more {b : B} : ∀ (d : Nat), (∀ c ∈ b.take d, isD c = true) → d ≤ b.length → d ≤ (b.takeWhile isD).length := by
  induction b with
  | nil => intro d _ h; simpa using h
  | cons a b ih =>
    intro d hd h
    cases d with
    | zero => exact Nat.zero_le _
    | succ d =>
      have ha : isD a = true := hd a (by simp)
      rw [List.takeWhile_cons, if_pos ha, List.length_cons]
      have := ih d (fun c hc => hd c (by rw [List.take_succ_cons]; exact List.mem_cons_of_mem _ hc)) (by simpa using h)
      omega
theorem tw_head {b : B} {d : Nat} (h : b.takeWhile isD = b.take d) (hd : 0 < d) : (b.takeWhile isD).head? = b.head? := by
  rw [h]
  cases b with
  | nil => simp
  | cons a b =>
    cases d with
    | zero => omega
    | succ d => rfl
theorem take_snoc {b : B} {d : Nat} {c : UInt8} (h : b[d]? = some c) : b.take (d + 1) = b.take d ++ [c] := by rw [List.take_add_one, h]; rfl
theorem rowF_at {b : B} {i : Nat} {c : UInt8} (h : b[i]? = some c) : rowF b i = (c.toNat : Int) := by
  unfold rowF
  rw [List.getD_eq_getElem?_getD, h]; rfl
end Px
end Go.Proofs.Ytldkhbkgmiicbaa
