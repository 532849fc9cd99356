/- The frame for texts and lists of texts that came in. -/
import Derived.Test.YtpkdnockbbppiaaN7
import Derived.ChangeMaps5
import Derived.SliceStrings
import Derived.Deep.Strs
import Derived.Deep.CondSized
namespace Go.Proofs.Ytpkdnockbbppiaa
open Go.ChangeShapes Go.WideShapes Go.RowKit Go.Deep
set_option linter.unusedVariables false
set_option linter.unusedSimpArgs false

theorem open_str {H : Type} {enc : TypeId × Value → H} {W : World} {base : Nat} {v : Value} {d : DataW H} {p : List MemPlace} (hval : Value.okWide Try.prog W .any base 9 v)
    (h : DataW.Trod enc Try.prog W 0 (fun _ => true) true 9 v d p) (hw : ∀ x ∈ d.weights Try.prog 9, x ≤ reachBytes) : ∃ s : ByteArray, v = .string s ∧ d = .lit (.string s.data.toList) ∧ s.size ≤ 140737488351232 := by
  obtain ⟨s, rfl, rfl, rfl, hs⟩ := Go.ChangeMaps.open_string Try.underlying9 hval h
  refine ⟨s, rfl, rfl, ?_⟩
  have := hw s.data.toList.length (by simp [DataW.weights])
  rw [Array.length_toList] at this
  exact this
/-- what the bound says of one part -/
theorem upto_part {H : Type} {ds : List (DataW H)} {d : DataW H} (hd : d ∈ ds) (hk : Rows.uptoSmall H ds = true) : Rows.uptoBulk d ≤ 1048576 := by
  have h : Rows.uptoBulkAll ds ≤ 1048576 := of_decide_eq_true hk
  refine Nat.le_trans ?_ h
  clear h hk
  induction ds with
  | nil => cases hd
  | cons x r ih =>
    simp only [Rows.uptoBulkAll]
    cases List.mem_cons.1 hd with
    | inl e => subst e; omega
    | inr e => have := ih e; omega
theorem upto_str {H : Type} {ds : List (DataW H)} {s : ByteArray} (hd : DataW.lit (.string s.data.toList) ∈ ds) (hk : Rows.uptoSmall H ds = true) : s.size ≤ 1048576 := by
  have h := upto_part hd hk
  simp only [Rows.uptoBulk] at h
  have e : s.data.toList.length = s.size := by rw [Array.length_toList]; rfl
  omega
/-- a list of texts that came in, all of it small -/
structure InStrs (w : World) (A : Option Addr) (n cap : Nat) (T : Nat → ByteArray) : Prop where
  strs : StrsAt w A n T
  le : n ≤ cap
  room : cap ≤ 1048576
  nil : A = none → cap = 0
  each : ∀ i, (T i).size ≤ 1048576
  all : Nm.tot (partsL T n) ≤ 1048576
theorem bulk_strs {H : Type} (T : Nat → ByteArray) : ∀ n, Rows.uptoBulkAll ((List.range n).map fun i => DataW.lit (H := H) (.string (T i).data.toList)) = Nm.tot (partsL T n)
  | 0 => rfl
  | n + 1 => by
    have happ : ∀ l r : List (DataW H), Rows.uptoBulkAll (l ++ r) = Rows.uptoBulkAll l + Rows.uptoBulkAll r := by
      intro l
      induction l with
      | nil => intro r; simp [Rows.uptoBulkAll]
      | cons x l ih => intro r; simp only [List.cons_append, Rows.uptoBulkAll, ih]; omega
    have e : (T n).data.toList.length = (T n).toList.length := by rw [ByteArray.toList_eq]
    rw [List.range_succ, List.map_append, happ, bulk_strs T n, partsL_succ, Nm.tot_append]
    simp only [List.map_cons, List.map_nil, Rows.uptoBulkAll, Rows.uptoBulk, Nm.tot, e]
theorem open_texts {H : Type} {enc : TypeId × Value → H} {W : World} {A : Option Addr} {n cap : Nat} {ds : List (DataW H)} {d : DataW H} {p : List MemPlace}
    (h : DataW.Trod enc Try.prog W 0 (fun _ => true) true 29 (.slice A n cap) d p) (hd : d ∈ ds) (hk : Rows.uptoSmall H ds = true) : ∃ T, InStrs W A n cap T := by
  obtain ⟨fuel, hf⟩ := h
  have hb := upto_part hd hk
  rcases open_strs Try.underlying29 Try.underlying9 (by kernel_rfl) hf with ⟨hcs, _⟩ | ⟨a, len, cap', m, Sx, hcs, _, hl, hm, hmm, hx, hc⟩
  · simp [Value.cells] at hcs
    obtain ⟨rfl, rfl, rfl⟩ := hcs
    exact ⟨fun _ => ⟨#[]⟩, Or.inl rfl, Nat.le_refl _, by omega, fun _ => rfl, fun _ => by show 0 ≤ 1048576; omega, by show 0 ≤ 1048576; omega⟩
  · simp [Value.cells] at hcs
    obtain ⟨rfl, rfl, rfl⟩ := hcs
    simp only [Prod.mk.injEq] at hx
    obtain ⟨rfl, _⟩ := hx
    simp only [if_true] at hmm
    subst hmm
    simp only [Rows.uptoBulk] at hb
    have hlen : ∀ k (f : Nat → DataW H), k ≤ Rows.uptoBulkAll ((List.range k).map f) := by
      intro k f
      have : ∀ l : List (DataW H), l.length ≤ Rows.uptoBulkAll l := by
        intro l
        induction l with
        | nil => simp [Rows.uptoBulkAll]
        | cons x r ih =>
          have h1 : 1 ≤ Rows.uptoBulk x := by cases x with
            | lit l => cases l <;> simp [Rows.uptoBulk]
            | nil => simp [Rows.uptoBulk]
            | ptr d => simp [Rows.uptoBulk]
            | slice elems spare => simp [Rows.uptoBulk]
            | agg parts => simp [Rows.uptoBulk]
            | iface t d => simp [Rows.uptoBulk]
            | map entries => simp [Rows.uptoBulk]
            | held h => simp [Rows.uptoBulk]
          simp only [Rows.uptoBulkAll, List.length_cons]; omega
      have := this ((List.range k).map f)
      simpa using this
    have h1 := bulk_strs (H := H) Sx n
    have h2 := hlen (m - n) (fun j => DataW.lit (Lit.string (Sx (n + j)).data.toList))
    have h3 := hlen n (fun j => DataW.lit (Lit.string (Sx j).data.toList))
    rw [h1] at h3
    have htot : Nm.tot (partsL Sx n) ≤ 1048576 := by omega
    have heach : ∀ i, i < n → (Sx i).size ≤ 1048576 := fun i hi => by
      have hm : (Sx i).toList ∈ partsL Sx n := by unfold partsL; exact List.mem_map.2 ⟨i, List.mem_range.2 hi, rfl⟩
      have : ∀ ps : List Nm.B, (Sx i).toList ∈ ps → (Sx i).toList.length + 1 ≤ Nm.tot ps := fun ps => by
        induction ps with
        | nil => intro h; cases h
        | cons q r ih =>
          intro h
          rcases List.mem_cons.1 h with h | h
          · rw [h]; unfold Nm.tot; omega
          · have := ih h; unfold Nm.tot; omega
      have h4 := this _ hm
      rw [Nm.size_toList] at h4
      omega
    refine ⟨fun i => if i < n then Sx i else ⟨#[]⟩, ?_, by omega, by omega, (fun e => by cases e), fun i => ?_, ?_⟩
    · rcases Nat.eq_zero_or_pos n with h0 | h0
      · exact Or.inl h0
      · obtain ⟨b, off, rfl, hcc⟩ := cells_plain (n := m) (V := fun i => .string (Sx i)) (fun i hi => (hc i hi).1) (by omega)
        exact Or.inr ⟨b, off, rfl, fun i hi => by rw [hcc i (by omega)]; dsimp only; rw [if_pos hi]⟩
    · split
      · rename_i hi; exact heach i hi
      · show 0 ≤ 1048576; omega
    · have e : partsL (fun i => if i < n then Sx i else ⟨#[]⟩) n = partsL Sx n := by
        unfold partsL
        exact List.map_congr_left fun i hi => by dsimp only; rw [if_pos (List.mem_range.1 hi)]
      rw [e]; exact htot
end Go.Proofs.Ytpkdnockbbppiaa
