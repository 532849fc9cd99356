/- Layer 14: the statements' own great and stays. -/
import Derived.Test.YtppknadflmjefaaFa
namespace Go.Proofs.Ytppknadflmjefaa
open Go.RowKit Go.Deep Go.Maps
set_option linter.unusedVariables false
set_option linter.unusedSimpArgs false

theorem InActs.cell {w : World} {A : Option Addr} {n cap : Nat} {X : Nat → Ac} (h : InActs w A n cap X) {i : Nat} (hi : i < n) : ∃ b off, A = some ⟨b, off, none⟩ ∧ ∀ k v, (X i).vals[k]? = some v → w.cell? ⟨b, off + i * 6 + k, none⟩ = some v := by
  rcases h.at_ with h0 | ⟨b, off, e, hc⟩
  · omega
  · exact ⟨b, off, e, hc i hi⟩
/-- it tells yes or no -/
def Tells14 (e : Ending) : Prop := ∃ B : Bool, e = .returned (.bool B)
/-- an act that writes to a sector -/
def Tch (x : Ac) (s : Nat) : Prop := x.do_ = 0 ∧ 0 ≤ x.at_ ∧ x.at_ ≤ (s : Int) ∧ (s : Int) < x.at_ + ((x.L / 64 : Nat) : Int)
/-- truths in a block -/
def TrAt (w : World) (g n : Nat) (T : Nat → Bool) : Prop := ∃ cur, w.heap[g]? = some (.cells cur 4 (0, 0)) ∧ cur.size = n ∧ ∀ c, c < n → cur[c]? = some (.bool (T c))
theorem TrAt.cell {w : World} {g n : Nat} {T : Nat → Bool} (h : TrAt w g n T) {c : Nat} (hc : c < n) : w.cell? ⟨g, c, none⟩ = some (.bool (T c)) ∧ w.frozen? ⟨g, c, none⟩ = false := by
  obtain ⟨cur, h1, h2, h3⟩ := h
  exact ⟨(cell_of_row w g c cur _ _ h1).trans (h3 c hc), frozen_of_row w g c cur _ h1⟩
theorem TrAt.set {w : World} {g n : Nat} {T : Nat → Bool} (h : TrAt w g n T) {j : Nat} (hj : j < n) : TrAt (w.setCell ⟨g, j, none⟩ (.bool true)) g n (fun i => if i = j then true else T i) := by
  obtain ⟨cur, h1, h2, h3⟩ := h
  refine ⟨_, heap_setCell_same w g j cur _ _ h1, by simpa using h2, fun c hc => ?_⟩
  by_cases hcj : c = j
  · subst hcj; rw [Array.getElem?_setIfInBounds_self_of_lt (by omega)]; dsimp only; rw [if_pos rfl]
  · rw [Array.getElem?_setIfInBounds_ne (Ne.symm hcj), h3 c hc]; dsimp only; rw [if_neg hcj]
theorem TrAt.keep {w w' : World} {g n : Nat} {T : Nat → Bool} (h : TrAt w g n T) (k : Bw w w') : TrAt w' g n T := by
  obtain ⟨cur, h1, h2⟩ := h
  exact ⟨cur, (k.block g (Array.getElem?_eq_some_iff.1 h1).1).trans h1, h2⟩
theorem info_bool14 : (Try.prog.info? 4).map (fun i => (i.zero, i.size, i.bytes)) = some (some (.bool false), 1, 1) := by kernel_rfl
end Go.Proofs.Ytppknadflmjefaa
