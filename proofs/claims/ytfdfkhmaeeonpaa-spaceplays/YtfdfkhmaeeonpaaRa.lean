/- Layer 16, code-free: lists of runs of cells, and how often a cell is in them. -/
import Derived.Test.YtfdfkhmaeeonpaaK0
namespace Go.Proofs.Ytfdfkhmaeeonpaa
namespace Sp

abbrev Rn := Nat × Nat
/-- is a cell in a run? -/
def inr (r : Rn) (i : Nat) : Nat := if r.1 ≤ i ∧ i < r.1 + r.2 then 1 else 0
/-- in how many runs of a list is a cell? -/
def cov : List Rn → Nat → Nat
  | [], _ => 0
  | r :: L, i => inr r i + cov L i
/-- runs that rise, none of them empty, with a cell at least between two -/
structure Norm (n : Nat) (L : List Rn) : Prop where
  ok : ∀ r ∈ L, 1 ≤ r.2 ∧ r.1 + r.2 ≤ n
  apart : L.Pairwise (fun r s => r.1 + r.2 < s.1)

theorem inr_yes {r : Rn} {i : Nat} (h : r.1 ≤ i ∧ i < r.1 + r.2) : inr r i = 1 := if_pos h
theorem inr_no {r : Rn} {i : Nat} (h : ¬ (r.1 ≤ i ∧ i < r.1 + r.2)) : inr r i = 0 := if_neg h
theorem inr_le (r : Rn) (i : Nat) : inr r i ≤ 1 := by unfold inr; split <;> omega
theorem inr_pos {r : Rn} {i : Nat} (h : 0 < inr r i) : r.1 ≤ i ∧ i < r.1 + r.2 := by
  unfold inr at h; split at h
  · assumption
  · omega
theorem cov_append : ∀ (A B : List Rn) (i : Nat), cov (A ++ B) i = cov A i + cov B i
  | [], B, i => by simp [cov]
  | r :: A, B, i => by rw [List.cons_append, cov, cov, cov_append A B i]; omega
theorem cov_zero : ∀ {L : List Rn} {i : Nat}, (∀ r ∈ L, ¬ (r.1 ≤ i ∧ i < r.1 + r.2)) → cov L i = 0
  | [], _, _ => rfl
  | r :: L, i, h => by rw [cov, inr_no (h r (by simp)), cov_zero (fun s hs => h s (by simp [hs]))]
theorem cov_ex : ∀ {L : List Rn} {i : Nat}, 0 < cov L i → ∃ r ∈ L, r.1 ≤ i ∧ i < r.1 + r.2
  | [], _, h => absurd h (by simp [cov])
  | r :: L, i, h => by
    by_cases hr : r.1 ≤ i ∧ i < r.1 + r.2
    · exact ⟨r, by simp, hr⟩
    · rw [cov, inr_no hr, Nat.zero_add] at h
      obtain ⟨s, hs, h⟩ := cov_ex h
      exact ⟨s, by simp [hs], h⟩
theorem cov_mem : ∀ {L : List Rn} {r : Rn} {i : Nat}, r ∈ L → r.1 ≤ i ∧ i < r.1 + r.2 → 0 < cov L i
  | s :: L, r, i, hm, h => by
    rcases List.mem_cons.1 hm with rfl | hm
    · rw [cov, inr_yes h]; omega
    · have := cov_mem hm h; rw [cov]; omega
namespace Norm
variable {n : Nat} {L : List Rn}
theorem nil (n : Nat) : Norm n [] := ⟨fun _ h => absurd h (by simp), List.Pairwise.nil⟩
theorem tail {r : Rn} (h : Norm n (r :: L)) : Norm n L := ⟨fun s hs => h.ok s (by simp [hs]), (List.pairwise_cons.1 h.apart).2⟩
theorem head {r : Rn} (h : Norm n (r :: L)) : ∀ s ∈ L, r.1 + r.2 < s.1 := (List.pairwise_cons.1 h.apart).1
theorem cov_le : ∀ {L : List Rn}, Norm n L → ∀ i, cov L i ≤ 1
  | [], _, i => by simp [cov]
  | r :: L, h, i => by
    have := inr_le r i
    by_cases hr : r.1 ≤ i ∧ i < r.1 + r.2
    · rw [cov, cov_zero (fun s hs e => by have := h.head s hs; omega)]; omega
    · rw [cov, inr_no hr]; have := h.tail.cov_le i; omega
theorem tri (h : Norm n L) {r s : Rn} (hr : r ∈ L) (hs : s ∈ L) : r = s ∨ r.1 + r.2 < s.1 ∨ s.1 + s.2 < r.1 := by
  obtain ⟨i, hi, rfl⟩ := List.getElem_of_mem hr
  obtain ⟨j, hj, rfl⟩ := List.getElem_of_mem hs
  rcases Nat.lt_trichotomy i j with e | e | e
  · exact .inr (.inl (List.pairwise_iff_getElem.1 h.apart i j hi hj e))
  · subst e; exact .inl rfl
  · exact .inr (.inr (List.pairwise_iff_getElem.1 h.apart j i hj hi e))
/-- free cells side by side are in one run -/
theorem window (h : Norm n L) {x : Nat} : ∀ {k : Nat}, 1 ≤ k → (∀ i, x ≤ i → i < x + k → 0 < cov L i) → ∃ r ∈ L, r.1 ≤ x ∧ x + k ≤ r.1 + r.2
  | 0, hk, _ => absurd hk (by omega)
  | 1, _, hc => by
    obtain ⟨r, hr, h1, h2⟩ := cov_ex (hc x (by omega) (by omega))
    exact ⟨r, hr, h1, by omega⟩
  | k + 2, _, hc => by
    obtain ⟨r, hr, h1, h2⟩ := h.window (k := k + 1) (by omega) (fun i hi hj => hc i hi (by omega))
    obtain ⟨s, hs, h3, h4⟩ := cov_ex (hc (x + (k + 1)) (by omega) (by omega))
    rcases h.tri hr hs with rfl | e | e
    · exact ⟨r, hr, h1, by omega⟩
    · omega
    · omega
theorem uniq : ∀ {L M : List Rn} {m : Nat}, Norm n L → Norm m M → (∀ i, cov L i = cov M i) → L = M
  | [], [], _, _, _, _ => rfl
  | [], s :: M, _, _, hM, e => by
    have h1 := (hM.ok s (by simp)).1
    have h2 : 0 < cov (s :: M) s.1 := cov_mem (r := s) (by simp) (by omega)
    rw [← e] at h2
    exact absurd h2 (by simp [cov])
  | r :: L, [], _, hL, _, e => by
    have h1 := (hL.ok r (by simp)).1
    have h2 : 0 < cov (r :: L) r.1 := cov_mem (r := r) (by simp) (by omega)
    rw [e] at h2
    exact absurd h2 (by simp [cov])
  | r :: L, s :: M, m, hL, hM, e => by
    have h1 := (hL.ok r (by simp)).1
    have h2 := (hM.ok s (by simp)).1
    have a1 : s.1 ≤ r.1 := by
      have h : 0 < cov (r :: L) r.1 := cov_mem (r := r) (by simp) (by omega)
      rw [e] at h
      obtain ⟨t, ht, h3, h4⟩ := cov_ex h
      rcases List.mem_cons.1 ht with rfl | ht
      · exact h3
      · have := hM.head t ht; omega
    have a2 : r.1 ≤ s.1 := by
      have h : 0 < cov (s :: M) s.1 := cov_mem (r := s) (by simp) (by omega)
      rw [← e] at h
      obtain ⟨t, ht, h3, h4⟩ := cov_ex h
      rcases List.mem_cons.1 ht with rfl | ht
      · exact h3
      · have := hL.head t ht; omega
    have b1 : ¬ r.1 + r.2 < s.1 + s.2 := fun hlt => by
      have h : 0 < cov (s :: M) (r.1 + r.2) := cov_mem (r := s) (by simp) (by omega)
      rw [← e] at h
      obtain ⟨t, ht, h3, h4⟩ := cov_ex h
      rcases List.mem_cons.1 ht with rfl | ht
      · omega
      · have := hL.head t ht; omega
    have b2 : ¬ s.1 + s.2 < r.1 + r.2 := fun hlt => by
      have h : 0 < cov (r :: L) (s.1 + s.2) := cov_mem (r := r) (by simp) (by omega)
      rw [e] at h
      obtain ⟨t, ht, h3, h4⟩ := cov_ex h
      rcases List.mem_cons.1 ht with rfl | ht
      · omega
      · have := hM.head t ht; omega
    have hrs : r = s := Prod.ext (by omega) (by omega)
    subst hrs
    rw [uniq hL.tail hM.tail (fun i => by have := e i; rw [cov, cov] at this; omega)]
end Norm
/-- the runs that have cells -/
def wc (L : List Rn) : List Rn := L.filter fun r => r.2 != 0
theorem wc_cov : ∀ (L : List Rn) (i : Nat), cov (wc L) i = cov L i
  | [], _ => rfl
  | r :: L, i => by
    unfold wc
    rw [List.filter_cons]
    by_cases h : r.2 = 0
    · rw [if_neg (by simp [h]), cov, inr_no (by omega)]
      have := wc_cov L i; unfold wc at this; omega
    · rw [if_pos (by simp [h]), cov, cov]
      have := wc_cov L i; unfold wc at this; omega
theorem wc_mem {L : List Rn} {r : Rn} (h : r ∈ wc L) : r ∈ L ∧ 1 ≤ r.2 := by
  unfold wc at h
  rw [List.mem_filter] at h
  refine ⟨h.1, ?_⟩
  have := h.2; simp at this; omega
/-- cells taken out of a run -/
theorem cut_norm {n : Nat} {A B : List Rn} {r : Rn} {x k : Nat} (h : Norm n (A ++ r :: B)) (h1 : r.1 ≤ x) (h2 : x + k ≤ r.1 + r.2) (hk : 1 ≤ k) :
    Norm n (A ++ wc [(r.1, x - r.1), (x + k, r.1 + r.2 - (x + k))] ++ B) ∧ ∀ i, cov (A ++ wc [(r.1, x - r.1), (x + k, r.1 + r.2 - (x + k))] ++ B) i + inr (x, k) i = cov (A ++ r :: B) i := by
  have hp := List.pairwise_append.1 h.apart
  have hq := List.pairwise_cons.1 hp.2.1
  have hr := h.ok r (by simp)
  have hm : ∀ t ∈ wc [(r.1, x - r.1), (x + k, r.1 + r.2 - (x + k))], r.1 ≤ t.1 ∧ t.1 + t.2 ≤ r.1 + r.2 ∧ 1 ≤ t.2 := fun t ht => by
    obtain ⟨ht, h0⟩ := wc_mem ht
    simp only [List.mem_cons, List.not_mem_nil, or_false] at ht
    rcases ht with rfl | rfl
    · exact ⟨Nat.le_refl _, by show r.1 + (x - r.1) ≤ _; omega, h0⟩
    · exact ⟨by show r.1 ≤ x + k; omega, by show x + k + (r.1 + r.2 - (x + k)) ≤ _; omega, h0⟩
  refine ⟨⟨fun t ht => ?_, ?_⟩, fun i => ?_⟩
  · rcases List.mem_append.1 ht with ht | ht
    · rcases List.mem_append.1 ht with ht | ht
      · exact h.ok t (by simp [ht])
      · have := hm t ht; omega
    · exact h.ok t (by simp [ht])
  · refine List.pairwise_append.2 ⟨List.pairwise_append.2 ⟨hp.1, ?_, fun a ha t ht => ?_⟩, hq.2, fun t ht b hb => ?_⟩
    · unfold wc
      refine List.Pairwise.filter _ ?_
      refine List.pairwise_cons.2 ⟨fun t ht => ?_, List.pairwise_singleton _ _⟩
      simp only [List.mem_cons, List.not_mem_nil, or_false] at ht
      subst ht
      show r.1 + (x - r.1) < x + k
      omega
    · have h3 := hp.2.2 a ha r (by simp)
      have := hm t ht
      omega
    · rcases List.mem_append.1 ht with ht | ht
      · exact hp.2.2 t ht b (by simp [hb])
      · have h3 := hq.1 b hb
        have := hm t ht
        omega
  · rw [cov_append, cov_append, wc_cov, cov_append, cov, cov, cov, cov]
    have e : inr (r.1, x - r.1) i + inr (x + k, r.1 + r.2 - (x + k)) i + inr (x, k) i = inr r i := by
      unfold inr
      dsimp only
      split <;> split <;> split <;> split <;> omega
    omega
/-- a run and those beside it as one -/
def joinF (r : Rn) (M : List Rn) : Rn := M.foldl (fun r o => (min r.1 o.1, r.2 + o.2)) r
theorem join_one {n : Nat} {A M B : List Rn} {x k : Nat} (h : Norm n (A ++ M ++ B)) (hk : 1 ≤ k) (hn : x + k ≤ n) (hA : ∀ a ∈ A, a.1 + a.2 < x) (hB : ∀ b ∈ B, x + k < b.1)
    (hM : ∀ m ∈ M, x ≤ m.1 + m.2 ∧ m.1 ≤ x + k ∧ (m.1 + m.2 ≤ x ∨ x + k ≤ m.1)) :
    1 ≤ (joinF (x, k) M).2 ∧ (joinF (x, k) M).1 + (joinF (x, k) M).2 ≤ n ∧ (∀ a ∈ A, a.1 + a.2 < (joinF (x, k) M).1) ∧ (∀ b ∈ B, (joinF (x, k) M).1 + (joinF (x, k) M).2 < b.1) ∧ ∀ i, inr (joinF (x, k) M) i = inr (x, k) i + cov M i := by
  have hp := List.pairwise_append.1 h.apart
  have hq := List.pairwise_append.1 hp.1
  have hok : ∀ m ∈ M, 1 ≤ m.2 ∧ m.1 + m.2 ≤ n := fun m hm => h.ok m (by simp [hm])
  have hAM : ∀ a ∈ A, ∀ m ∈ M, a.1 + a.2 < m.1 := hq.2.2
  have hMB : ∀ m ∈ M, ∀ b ∈ B, m.1 + m.2 < b.1 := fun m hm b hb => hp.2.2 m (by simp [hm]) b hb
  have hPM := hq.2.1
  clear hp hq
  match M, hM, hok, hAM, hMB, hPM with
  | [], _, _, _, _, _ =>
    refine ⟨hk, hn, hA, hB, fun i => ?_⟩
    rfl
  | [m], hM, hok, hAM, hMB, _ =>
    have m1 := hM m (by simp)
    have m2 := hok m (by simp)
    have e : joinF (x, k) [m] = (min x m.1, k + m.2) := rfl
    rw [e]
    refine ⟨by show 1 ≤ k + m.2; omega, by show min x m.1 + (k + m.2) ≤ n; omega, fun a ha => ?_, fun b hb => ?_, fun i => ?_⟩
    · have := hA a ha; have := hAM a ha m (by simp)
      show a.1 + a.2 < min x m.1; omega
    · have := hB b hb; have := hMB m (by simp) b hb
      show min x m.1 + (k + m.2) < b.1; omega
    · rw [cov, cov]
      unfold inr
      dsimp only
      split <;> split <;> split <;> omega
  | [m, o], hM, hok, hAM, hMB, hPM =>
    have m1 := hM m (by simp)
    have m2 := hok m (by simp)
    have o1 := hM o (by simp)
    have o2 := hok o (by simp)
    have hmo : m.1 + m.2 < o.1 := (List.pairwise_cons.1 hPM).1 o (by simp)
    have e : joinF (x, k) [m, o] = (min (min x m.1) o.1, k + m.2 + o.2) := rfl
    rw [e]
    refine ⟨by show 1 ≤ k + m.2 + o.2; omega, by show min (min x m.1) o.1 + (k + m.2 + o.2) ≤ n; omega, fun a ha => ?_, fun b hb => ?_, fun i => ?_⟩
    · have := hA a ha; have := hAM a ha m (by simp)
      show a.1 + a.2 < min (min x m.1) o.1; omega
    · have := hB b hb; have := hMB m (by simp) b hb; have := hMB o (by simp) b hb
      show min (min x m.1) o.1 + (k + m.2 + o.2) < b.1; omega
    · rw [cov, cov, cov]
      unfold inr
      dsimp only
      split <;> split <;> split <;> split <;> omega
  | m :: o :: p :: M, hM, hok, _, _, hPM =>
    have m1 := hM m (by simp)
    have m2 := hok m (by simp)
    have o1 := hM o (by simp)
    have o2 := hok o (by simp)
    have p1 := hM p (by simp)
    have hmo : m.1 + m.2 < o.1 := (List.pairwise_cons.1 hPM).1 o (by simp)
    have hop : o.1 + o.2 < p.1 := (List.pairwise_cons.1 (List.pairwise_cons.1 hPM).2).1 p (by simp)
    omega
theorem join_norm {n : Nat} {A M B : List Rn} {x k : Nat} (h : Norm n (A ++ M ++ B)) (hk : 1 ≤ k) (hn : x + k ≤ n) (hA : ∀ a ∈ A, a.1 + a.2 < x) (hB : ∀ b ∈ B, x + k < b.1)
    (hM : ∀ m ∈ M, x ≤ m.1 + m.2 ∧ m.1 ≤ x + k ∧ (m.1 + m.2 ≤ x ∨ x + k ≤ m.1)) :
    Norm n (A ++ [joinF (x, k) M] ++ B) ∧ ∀ i, cov (A ++ [joinF (x, k) M] ++ B) i = cov (A ++ M ++ B) i + inr (x, k) i := by
  obtain ⟨j1, j2, j3, j4, j5⟩ := join_one h hk hn hA hB hM
  have hp := List.pairwise_append.1 h.apart
  have hq := List.pairwise_append.1 hp.1
  refine ⟨⟨fun t ht => ?_, ?_⟩, fun i => ?_⟩
  · rcases List.mem_append.1 ht with ht | ht
    · rcases List.mem_append.1 ht with ht | ht
      · exact h.ok t (by simp [ht])
      · simp only [List.mem_cons, List.not_mem_nil, or_false] at ht; subst ht; exact ⟨j1, j2⟩
    · exact h.ok t (by simp [ht])
  · refine List.pairwise_append.2 ⟨List.pairwise_append.2 ⟨hq.1, List.pairwise_singleton _ _, fun a ha t ht => ?_⟩, hp.2.1, fun t ht b hb => ?_⟩
    · simp only [List.mem_cons, List.not_mem_nil, or_false] at ht; subst ht; exact j3 a ha
    · rcases List.mem_append.1 ht with ht | ht
      · exact hp.2.2 t (by simp [ht]) b hb
      · simp only [List.mem_cons, List.not_mem_nil, or_false] at ht; subst ht; exact j4 b hb
  · rw [cov_append, cov_append, cov_append, cov_append, cov, cov, j5 i]; omega
/-- how many cells -/
def tot : List Rn → Nat
  | [] => 0
  | r :: L => r.2 + tot L
theorem tot_append : ∀ (A B : List Rn), tot (A ++ B) = tot A + tot B
  | [], B => by simp [tot]
  | r :: A, B => by rw [List.cons_append, tot, tot, tot_append A B]; omega
def sumTo (f : Nat → Nat) : Nat → Nat
  | 0 => 0
  | n + 1 => sumTo f n + f n
theorem sumTo_add (f g : Nat → Nat) : ∀ n, sumTo (fun i => f i + g i) n = sumTo f n + sumTo g n
  | 0 => rfl
  | n + 1 => by rw [sumTo, sumTo, sumTo, sumTo_add f g n]; omega
theorem sumTo_congr {f g : Nat → Nat} : ∀ {n}, (∀ i, i < n → f i = g i) → sumTo f n = sumTo g n
  | 0, _ => rfl
  | n + 1, h => by rw [sumTo, sumTo, sumTo_congr (fun i hi => h i (by omega)), h n (by omega)]
theorem sumTo_one : ∀ n, sumTo (fun _ => 1) n = n
  | 0 => rfl
  | n + 1 => by rw [sumTo, sumTo_one n]
theorem sumTo_inr (r : Rn) : ∀ n, sumTo (inr r) n = min n (r.1 + r.2) - min n r.1
  | 0 => by simp [sumTo]
  | n + 1 => by
    rw [sumTo, sumTo_inr r n]
    unfold inr
    split <;> omega
theorem tot_sum {n : Nat} : ∀ {L : List Rn}, (∀ r ∈ L, r.1 + r.2 ≤ n) → sumTo (cov L) n = tot L
  | [], hx => by
    have : sumTo (cov []) n = sumTo (fun _ => 0) n := sumTo_congr (fun i _ => rfl)
    rw [this, tot]
    clear this hx
    induction n with
    | zero => rfl
    | succ n ih => rw [sumTo, ih]
  | r :: L, h => by
    have h0 := h r (by simp)
    have e : sumTo (cov (r :: L)) n = sumTo (inr r) n + sumTo (cov L) n := by rw [← sumTo_add]; rfl
    rw [e, sumTo_inr, tot_sum (fun s hs => h s (by simp [hs])), tot]
    omega
end Sp
end Go.Proofs.Ytfdfkhmaeeonpaa
