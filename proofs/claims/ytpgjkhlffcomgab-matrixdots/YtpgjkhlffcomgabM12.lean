/- What the document's own Steps makes of rows: they are brought to steps. -/
import Derived.Test.YtpgjkhlffcomgabM11
namespace Go.Proofs.Ytpgjkhlffcomgab
open Go.RowKit

/-- what is kept from turn to turn -/
def StepInv (n m j r : Nat) (Z0 Z : Nat → Nat → Int) (p : Nat → Nat) : Prop := La.RowEq n m (fm Z0) (fm Z) ∧ La.Stepped n j (fm Z) r p

theorem stepped_full {n j c : Nat} {W : Nat → Nat → La.F8} {p : Nat → Nat} (h : La.Stepped n j W n p) (hc : j ≤ c) : La.Stepped n c W n p :=
  ⟨h.le, fun i hi => by have := h.lt i hi; omega, h.rise, h.at_, fun k l h1 h2 _ => by omega⟩

/-- the numbers behind the change of rows: row q scaled stands in the row r, row r in the row q -/
def swapZ (Z : Nat → Nat → Int) (r q j : Nat) : Nat → Nat → Int := upd (upd Z q (Z r)) r (fun i => mulI (Z q i) (invR (Z q j)))
/-- i rows are done -/
def doneZ (Z : Nat → Nat → Int) (r j i : Nat) : Nat → Nat → Int := fun k l => if k < i ∧ k ≠ r then addI (Z k l) (mulI (Z k j) (Z r l)) else Z k l

theorem doneZ_zero (Z : Nat → Nat → Int) (r j : Nat) : doneZ Z r j 0 = Z := by
  funext k l; unfold doneZ; rw [if_neg (by omega)]
theorem doneZ_skip (Z : Nat → Nat → Int) (r j : Nat) : doneZ Z r j (r + 1) = doneZ Z r j r := by
  funext k l; unfold doneZ
  by_cases h : k < r
  · rw [if_pos ⟨by omega, by omega⟩, if_pos ⟨h, by omega⟩]
  · rw [if_neg (fun e => by omega), if_neg (fun e => by omega)]
theorem doneZ_at (Z : Nat → Nat → Int) (r j i : Nat) : doneZ Z r j i i = Z i := by
  funext l; unfold doneZ; rw [if_neg (by omega)]
theorem doneZ_piv (Z : Nat → Nat → Int) (r j i : Nat) : doneZ Z r j i r = Z r := by
  funext l; unfold doneZ; rw [if_neg (fun e => e.2 rfl)]
theorem doneZ_next (Z : Nat → Nat → Int) (r j i : Nat) (h : i ≠ r) : doneZ Z r j (i + 1) = upd (doneZ Z r j i) i (fun l => addI (Z i l) (mulI (Z i j) (Z r l))) := by
  funext k l
  unfold upd doneZ
  by_cases e : k = i
  · subst e; rw [if_pos ⟨by omega, h⟩, if_pos rfl]
  · rw [if_neg e]
    by_cases h2 : k < i ∧ k ≠ r
    · rw [if_pos ⟨by omega, h2.2⟩, if_pos h2]
    · rw [if_neg (fun e => h2 ⟨by omega, e.2⟩), if_neg h2]

theorem turn_is {n : Nat} {Z : Nat → Nat → Int} {r q j : Nat} (hZ : ∀ i, i < n → ∀ l, 0 ≤ Z i l ∧ Z i l < 256) (hr : r < n) (hq : q < n) :
    ∀ k l, k < n → fm (doneZ (swapZ Z r q j) r j n) k l = La.turn (fm Z) r q j (fi (invR (Z q j))) k l := by
  intro k l hk
  have hqj := hZ q hq j
  have hinv := invR_bd (Z q j)
  have hpiv : ∀ l, swapZ Z r q j r l = mulI (Z q l) (invR (Z q j)) := fun l => by unfold swapZ; rw [upd_at]
  have hpf : ∀ l, fi (swapZ Z r q j r l) = La.ml (fi (invR (Z q j))) (fm Z q l) := fun l => by
    rw [hpiv, fi_mul (hZ q hq l) hinv, La.mul_comm]; rfl
  have hpb : ∀ l, 0 ≤ swapZ Z r q j r l ∧ swapZ Z r q j r l < 256 := fun l => by rw [hpiv]; exact mulI_bd _ _ (hZ q hq l).2
  unfold La.turn
  by_cases e : k = r
  · subst e
    rw [if_pos rfl]
    show fi (doneZ _ _ _ _ _ _) = _
    rw [doneZ_piv, hpf]
  · rw [if_neg e]
    have hsk : ∀ l, swapZ Z r q j k l = if k = q then Z r l else Z k l := fun l => by
      unfold swapZ; rw [upd_ne _ _ e]; unfold upd
      by_cases e2 : k = q
      · rw [if_pos e2, if_pos e2]
      · rw [if_neg e2, if_neg e2]
    have hkb : ∀ l, 0 ≤ swapZ Z r q j k l ∧ swapZ Z r q j k l < 256 := fun l => by
      rw [hsk]; split
      · exact hZ r hr l
      · exact hZ k hk l
    have hkf : ∀ l, fi (swapZ Z r q j k l) = if k = q then fm Z r l else fm Z k l := fun l => by
      rw [hsk]; split <;> rfl
    show fi (doneZ (swapZ Z r q j) r j n k l) = _
    have e3 : doneZ (swapZ Z r q j) r j n k l = addI (swapZ Z r q j k l) (mulI (swapZ Z r q j k j) (swapZ Z r q j r l)) := by
      unfold doneZ; rw [if_pos ⟨hk, e⟩]
    rw [e3, fi_add (hkb l) (mulI_bd _ _ (hkb j).2), fi_mul (hkb j) (hpb l), hkf, hkf, hpf]

theorem inv_next {n m j r q : Nat} {Z0 Z : Nat → Nat → Int} {p : Nat → Nat} (h : StepInv n m j r Z0 Z p) (hZ : ∀ i, i < n → ∀ l, 0 ≤ Z i l ∧ Z i l < 256) (hr : r < n) (hrq : r ≤ q) (hq : q < n) (hne : Z q j ≠ 0) (hjm : j < m) :
    StepInv n m (j + 1) (r + 1) Z0 (doneZ (swapZ Z r q j) r j n) (fun i => if i = r then j else p i) := by
  have hpos : 0 < Z q j := by have := hZ q hq j; omega
  have hc : La.ml (fm Z q j) (fi (invR (Z q j))) = La.f1 := fi_inv hpos (hZ q hq j).2
  have ht := turn_is (j := j) hZ hr hq
  refine ⟨h.1.trans ((La.turn_eq hr hq hc).trans (La.RowEq.of_eq fun i l hi _ => ht i l hi)), ?_⟩
  have hs := h.2.next hr hrq hq hc
  have hjm' := hjm
  refine ⟨hs.le, hs.lt, hs.rise, fun k i hk hi => ?_, fun k l h1 h2 h3 => ?_⟩
  · rw [ht k _ hk]; exact hs.at_ k i hk hi
  · rw [ht k l h2]; exact hs.none k l h1 h2 h3

theorem inv_skip {n m j r : Nat} {Z0 Z : Nat → Nat → Int} {p : Nat → Nat} (h : StepInv n m j r Z0 Z p) (hz : ∀ k, r ≤ k → k < n → Z k j = 0) : StepInv n m (j + 1) r Z0 Z p :=
  ⟨h.1, h.2.skip (fun k h1 h2 => by show fi (Z k j) = La.f0; rw [hz k h1 h2]; rfl)⟩

theorem cell_bw {W W' : World} (h : Bw W W') {a : Addr} {v : Value} (hc : W.cell? a = some v) : W'.cell? a = some v := by
  rw [h.cell (p := a) (block_lt_of_cell hc)]; exact hc

end Go.Proofs.Ytpgjkhlffcomgab
