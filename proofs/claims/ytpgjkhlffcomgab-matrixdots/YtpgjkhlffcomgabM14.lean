/- What the document's own Inverse makes. -/
import Derived.Test.YtpgjkhlffcomgabM13
import Derived.Test.YtpgjkhlffcomgabM10
import Derived.Deep.Slices
namespace Go.Proofs.Ytpgjkhlffcomgab
open Go.RowKit

/-- what is told of a matrix that is to be taken back -/
def InvSays (n : Nat) (Z : Nat → Nat → Int) (e : Ending) (w' : World) : Prop :=
  (e = .returned (.tuple #[.slice none 0 0, .int .i64 20]) ∧ ¬ ∃ B, ∀ i j, i < n → j < n → La.mm n (fm Z) B i j = La.one i j) ∨
  ∃ A' cap' R' C' Y, e = .returned (.tuple #[.slice A' n cap', .int .i64 0]) ∧ MatAt w' A' n R' (fun _ => n) C' Y ∧ ∀ i j, i < n → j < n → La.mm n (fm Z) (fm Y) i j = La.one i j

theorem rank_congr {n m : Nat} {A B : Nat → Nat → La.F8} {r : Nat} (h : La.IsRank n m A r) (e : ∀ i j, i < n → j < m → B i j = A i j) : La.IsRank n m B r := by
  obtain ⟨P, Q, U, V, h1, h2⟩ := h
  refine ⟨P, Q, U, V, fun i j hi hj => by rw [e i j hi hj, h1 i j hi hj], fun i j hi hj => ?_⟩
  rw [← h2 i j hi hj]
  exact La.mm_congr (fun t ht => La.mm_congr (fun _ _ => rfl) (fun s hs => e s t hs ht)) (fun _ _ => rfl)

/-- a row and another one behind it -/
def wideZ (n : Nat) (Z Y : Nat → Nat → Int) (i c : Nat) : Int := if c < n then Z i c else Y i (c - n)

theorem cellsU_append (f g : Nat → Int) (n k : Nat) : cellsU f n ++ cellsU g k = cellsU (fun c => if c < n then f c else g (c - n)) (n + k) := by
  induction k with
  | zero =>
    show cellsU f n ++ [] = cellsU _ (n + 0)
    rw [List.append_nil, Nat.add_zero]
    exact List.map_congr_left fun i hi => by dsimp only; rw [if_pos (List.mem_range.1 hi)]
  | succ k ih =>
    rw [cellsU_succ, ← List.append_assoc, ih, Nat.add_succ, cellsU_succ]
    rw [if_neg (by omega), show n + k - n = k by omega]

theorem rowat_news {w : World} {b o L : Nat} {f : Nat → Int} (h : RowAt w (some ⟨b, o, none⟩) L f) : ∀ j u, (cellsU f L)[j]? = some u → w.cell? ((⟨b, o, none⟩ : Addr).add j) = some u := by
  intro j u hu
  obtain ⟨hj, rfl⟩ := cellsU_get f L j u hu
  obtain ⟨b', o', e, hc⟩ := h.at hj
  cases e
  rw [Addr.add_lit]; exact hc j hj

theorem grown_drew {X y : World} {r : Option Nat} (h : X.drew.grownBy y r) : X.grownBy y r := ⟨h.os, h.tape, h.output, h.size, h.block⟩

/-- a row of the call's own, appended to: what lay below its base stays -/
theorem bw_grow {W X y : World} {base : Nat} {e : TypeId} {size n : Nat} {v : Value} {xs : List Value} (h : X.grownBy y v.ownBlock) (b : Below base W X) (hX : base ≤ X.heap.size) (hown : X.ownsRow base e size v n xs) : Below base W y := b.grown h hX (own_ge hown)

theorem wide_fm (n : Nat) (Z : Nat → Nat → Int) (i j : Nat) : fm (wideZ n Z oneZ) i j = if j < n then fm Z i j else La.one i (j - n) := by
  unfold fm wideZ
  by_cases h : j < n
  · rw [if_pos h, if_pos h]
  · rw [if_neg h, if_neg h]
    unfold oneZ La.one
    split <;> rfl

theorem inv_none_of {n r : Nat} {Z Z9 : Nat → Nat → Int} {p : Nat → Nat} (h : StepInv n (n + n) n r (wideZ n Z oneZ) Z9 p) (hr : r < n) : ¬ ∃ B, ∀ i j, i < n → j < n → La.mm n (fm Z) B i j = La.one i j := by
  rintro ⟨B, hB⟩
  have h1 : La.IsRank n n (fm (wideZ n Z oneZ)) r := La.Stepped.rank (h.1.less (by omega)) h.2
  have h2 : La.IsRank n n (fm (wideZ n Z oneZ)) n := rank_congr (La.rank_of_inv hB) (fun i j _ hj => by rw [wide_fm, if_pos hj])
  have := La.rank_unique h1 h2
  omega

theorem inv_some_of {n : Nat} {Z Z9 : Nat → Nat → Int} {p : Nat → Nat} (h : StepInv n (n + n) n n (wideZ n Z oneZ) Z9 p) : ∀ i j, i < n → j < n → La.mm n (fm Z) (fm (fun i j => Z9 i (n + j))) i j = La.one i j := by
  have e : La.RowEq n (n + n) (fun i j => if j < n then fm Z i j else La.one i (j - n)) (fm Z9) := (La.RowEq.of_eq (fun i j _ _ => wide_fm n Z i j)).trans h.1
  exact La.Stepped.inverse e h.2

/-- an outer row of the call's own over rows in memory -/
theorem mat_of_own {W : World} {base n : Nat} {v : Value} {R : Nat → Option Addr} {L C : Nat → Nat} {Z : Nat → Nat → Int} (h : W.ownsRow base 22 1 v n (rowsU R L C n)) (hr : ∀ r, r < n → RowAt W (R r) (L r) (Z r)) :
    ∃ A cap, v = .slice A n cap ∧ MatAt W A n R L C Z := by
  obtain ⟨_, h2⟩ := h
  rcases h2 with ⟨rfl, rfl⟩ | ⟨g, cap, cur, rfl, hb, hg, h3, h4, h5, h6⟩
  · exact ⟨_, _, rfl, Or.inl rfl, hr⟩
  · refine ⟨_, _, rfl, Or.inr ⟨g, 0, rfl, fun r hr' => ?_⟩, hr⟩
    rw [Nat.zero_add, cell_of_row W g r cur _ _ hg]
    have e : (cur.toList.take (n * 1))[r]? = (rowsU R L C n)[r]? := by rw [h6]
    rw [Nat.mul_one, List.getElem?_take, if_pos hr'] at e
    rw [← Array.getElem?_toList, e]
    unfold rowsU
    rw [List.getElem?_map, List.getElem?_range hr']; rfl

/-- a row from some place on -/
theorem RowAt.from_ {w : World} {b o L s : Nat} {f : Nat → Int} (h : RowAt w (some ⟨b, o, none⟩) (s + L) f) : RowAt w (some ⟨b, o + s, none⟩) L (fun i => f (s + i)) := by
  refine ⟨?_, fun i => h.2 _⟩
  rcases Nat.eq_zero_or_pos L with h0 | h0
  · exact Or.inl h0
  · obtain ⟨b', o', e, hc⟩ := h.at (k := 0) (by omega)
    cases e
    exact Or.inr ⟨b, o + s, rfl, fun i hi => by rw [Nat.add_assoc]; exact hc (s + i) (by omega)⟩

end Go.Proofs.Ytpgjkhlffcomgab
