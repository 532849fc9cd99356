/- Layer 16, code-free: what Take, Hold and Give make of the free runs, told by how often a cell is in them. -/
import Derived.Test.YtfdfkhmaeeonpaaRa
namespace Go.Proofs.Ytfdfkhmaeeonpaa
namespace Sp

theorem cov_split {L : List Rn} {i : Nat} {r : Rn} (hi : L[i]? = some r) : L.take i ++ r :: L.drop (i + 1) = L := by
  have hlt := (List.getElem?_eq_some_iff.1 hi).1
  have h3 := List.getElem_cons_drop hlt
  rw [(List.getElem?_eq_some_iff.1 hi).2] at h3
  rw [h3, List.take_append_drop]
/-- cells cut out of run i -/
theorem cut_at {n : Nat} {L : List Rn} (h : Norm n L) {i : Nat} {r : Rn} (hi : L[i]? = some r) {x k : Nat} (h1 : r.1 ≤ x) (h2 : x + k ≤ r.1 + r.2) (hk : 1 ≤ k) :
    Norm n (L.take i ++ wc [(r.1, x - r.1), (x + k, r.1 + r.2 - (x + k))] ++ L.drop (i + 1)) ∧ ∀ j, cov (L.take i ++ wc [(r.1, x - r.1), (x + k, r.1 + r.2 - (x + k))] ++ L.drop (i + 1)) j + inr (x, k) j = cov L j := by
  have h3 := cut_norm (n := n) (A := L.take i) (B := L.drop (i + 1)) (r := r) (x := x) (k := k) (by rw [cov_split hi]; exact h) h1 h2 hk
  rw [cov_split hi] at h3
  exact h3
/-- are all cells of a run free? -/
def AllFree (L : List Rn) (x k : Nat) : Prop := ∀ j, x ≤ j → j < x + k → 0 < cov L j
def NoneFree (L : List Rn) (x k : Nat) : Prop := ∀ j, x ≤ j → j < x + k → cov L j = 0
theorem allfree_in {n : Nat} {L : List Rn} (h : Norm n L) {x k : Nat} (hk : 1 ≤ k) : AllFree L x k ↔ ∃ r ∈ L, r.1 ≤ x ∧ x + k ≤ r.1 + r.2 := by
  constructor
  · intro ha
    exact h.window hk ha
  · rintro ⟨r, hr, h1, h2⟩ j hj1 hj2
    exact cov_mem hr ⟨by omega, by omega⟩
theorem nonefree_meets {n : Nat} {L : List Rn} (h : Norm n L) {x k : Nat} (hk : 1 ≤ k) : NoneFree L x k ↔ ∀ r ∈ L, r.1 + r.2 ≤ x ∨ x + k ≤ r.1 := by
  constructor
  · intro hn r hr
    have hr1 := (h.ok r hr).1
    rcases Nat.lt_or_ge x (r.1 + r.2) with h1 | h1
    · rcases Nat.lt_or_ge r.1 (x + k) with h2 | h2
      · have h3 := hn (max x r.1) (by omega) (by omega)
        have h4 := cov_mem hr (i := max x r.1) ⟨by omega, by omega⟩
        omega
      · exact .inr h2
    · exact .inl h1
  · intro ha j hj1 hj2
    refine cov_zero (fun r hr => ?_)
    have := ha r hr
    omega
/-- the least place that has so many free cells -/
structure Place (L : List Rn) (k x : Nat) : Prop where
  here : AllFree L x k
  least : ∀ y, y < x → ¬ AllFree L y k
theorem place_first {n : Nat} {L : List Rn} (h : Norm n L) {k i : Nat} (hk : 1 ≤ k) {r : Rn} (hi : L[i]? = some r) (hr : k ≤ r.2) (hno : ∀ (j : Nat) (q : Rn), j < i → L[j]? = some q → q.2 < k) : Place L k r.1 := by
  refine ⟨(allfree_in h hk).2 ⟨r, List.mem_of_getElem? hi, Nat.le_refl _, by omega⟩, fun y hy ha => ?_⟩
  obtain ⟨s, hs, h1, h2⟩ := (allfree_in h hk).1 ha
  obtain ⟨j, hj⟩ := List.getElem?_of_mem hs
  have hil := List.getElem?_eq_some_iff.1 hi
  have hjl := List.getElem?_eq_some_iff.1 hj
  rcases Nat.lt_trichotomy j i with e | e | e
  · have := hno j s e hj; omega
  · subst e
    rw [hi, Option.some.injEq] at hj
    subst hj
    omega
  · have h3 := List.pairwise_iff_getElem.1 h.apart i j hil.1 hjl.1 e
    rw [hil.2, hjl.2] at h3
    omega
theorem place_none {n : Nat} {L : List Rn} (h : Norm n L) {k : Nat} (hk : 1 ≤ k) (hno : ∀ r ∈ L, r.2 < k) (y : Nat) : ¬ AllFree L y k := fun ha => by
  obtain ⟨s, hs, h1, h2⟩ := (allfree_in h hk).1 ha
  have := hno s hs
  omega
theorem place_uniq {L : List Rn} {k x y : Nat} (h : Place L k x) (h' : Place L k y) : x = y := by
  rcases Nat.lt_trichotomy x y with e | e | e
  · exact absurd h.here (h'.least x e)
  · exact e
  · exact absurd h'.here (h.least y e)
/-- from three parts of a list -/
theorem parts {L : List Rn} {f t : Nat} (hft : f ≤ t) : L.take f ++ (L.drop f).take (t - f) ++ L.drop t = L := by
  have e : L.drop t = (L.drop f).drop (t - f) := by rw [List.drop_drop]; congr 1; omega
  rw [e, List.append_assoc, List.take_append_drop, List.take_append_drop]
end Sp
end Go.Proofs.Ytfdfkhmaeeonpaa
