/- What the document's own Mul of two matrices makes. -/
import Derived.Test.YtpgjkhlffcomgabM9
import Derived.Deep.RegionWith
import Derived.BigRegion
import Derived.Deep.DrawnRows
namespace Go.Proofs.Ytpgjkhlffcomgab
open Go.RowKit

attribute [local go_sem ↓] Go.wp_at_zero Go.wp_at_succ

/-- the product's numbers -/
def prodZ (m : Nat) (Z Y : Nat → Nat → Int) (i j : Nat) : Int := dotU (Z i) (fun t => Y t j) m
/-- a row of the product under way: j numbers are there, t terms of the next one -/
def wayZ (m : Nat) (Z Y : Nat → Nat → Int) (i j t c : Nat) : Int := if c < j then prodZ m Z Y i c else if c = j then dotU (Z i) (fun t => Y t j) t else 0

theorem wayZ_at (m : Nat) (Z Y : Nat → Nat → Int) (k j t : Nat) (hZ : ∀ i, 0 ≤ Z k i ∧ Z k i < 256) : 0 ≤ wayZ m Z Y k j t j ∧ wayZ m Z Y k j t j < 256 ∧ addI (wayZ m Z Y k j t j) (mulI (Z k t) (Y t j)) = wayZ m Z Y k j (t + 1) j := by
  have e : ∀ s, wayZ m Z Y k j s j = dotU (Z k) (fun t => Y t j) s := fun s => by unfold wayZ; rw [if_neg (by omega), if_pos rfl]
  have b := dotU_bd (Z k) (fun t => Y t j) hZ t
  rw [e, e]
  exact ⟨b.1, b.2, rfl⟩

theorem wayZ_ne (m : Nat) (Z Y : Nat → Nat → Int) (k j t s c : Nat) (h : c ≠ j) : wayZ m Z Y k j s c = wayZ m Z Y k j t c := by
  unfold wayZ; rw [if_neg h, if_neg h]
theorem wayZ_next (m : Nat) (Z Y : Nat → Nat → Int) (k j c : Nat) : wayZ m Z Y k (j + 1) 0 c = wayZ m Z Y k j m c := by
  unfold wayZ
  by_cases h1 : c < j
  · rw [if_pos h1, if_pos (by omega)]
  · by_cases h2 : c = j
    · subst h2; rw [if_pos (by omega), if_neg (by omega), if_pos rfl]; rfl
    · rw [if_neg (by omega), if_neg h1, if_neg h2]; split <;> rfl
theorem wayZ_end (m : Nat) (Z Y : Nat → Nat → Int) (k q c : Nat) (h : c < q) : wayZ m Z Y k q 0 c = prodZ m Z Y k c := by
  unfold wayZ; rw [if_pos h]

/-- a row of bytes that fills a block -/
def BlockIs (w : World) (g q : Nat) (f : Nat → Int) : Prop := ∃ cur, w.heap[g]? = some (.cells cur 5 (0, 0)) ∧ cur.size = q ∧ ∀ c, c < q → cur[c]? = some (.int .u8 (f c))

theorem BlockIs.keep {w w' : World} {g q : Nat} {f : Nat → Int} (h : BlockIs w g q f) (b : Bw w w') : BlockIs w' g q f := by
  obtain ⟨cur, h1, h2⟩ := h
  exact ⟨cur, by rw [b.block g (Array.getElem?_eq_some_iff.1 h1).1, h1], h2⟩

theorem BlockIs.cell {w : World} {g q : Nat} {f : Nat → Int} (h : BlockIs w g q f) {c : Nat} (hc : c < q) : w.cell? ⟨g, c, none⟩ = some (.int .u8 (f c)) ∧ w.frozen? ⟨g, c, none⟩ = false := by
  obtain ⟨cur, h1, h2, h3⟩ := h
  exact ⟨(cell_of_row w g c cur _ _ h1).trans (h3 c hc), frozen_of_row w g c cur _ h1⟩

theorem BlockIs.set {w : World} {g q : Nat} {f f' : Nat → Int} (h : BlockIs w g q f) {j : Nat} {x : Int} (hj : j < q) (e : f' j = x) (hf : ∀ c, c < q → c ≠ j → f' c = f c) : BlockIs (w.setCell ⟨g, j, none⟩ (.int .u8 x)) g q f' := by
  obtain ⟨cur, h1, h2, h3⟩ := h
  refine ⟨_, heap_setCell_same w g j cur _ _ h1, by simpa using h2, fun c hc => ?_⟩
  by_cases hcj : c = j
  · subst hcj; rw [Array.getElem?_setIfInBounds_self_of_lt (by omega), e]
  · rw [Array.getElem?_setIfInBounds_ne (Ne.symm hcj), h3 c hc, hf c hc hcj]

theorem BlockIs.congr {w : World} {g q : Nat} {f f' : Nat → Int} (h : BlockIs w g q f) (hf : ∀ c, c < q → f' c = f c) : BlockIs w g q f' := by
  obtain ⟨cur, h1, h2, h3⟩ := h
  exact ⟨cur, h1, h2, fun c hc => by rw [h3 c hc, hf c hc]⟩

theorem BlockIs.row {w : World} {g q : Nat} {f : Nat → Int} (h : BlockIs w g q f) (hf : ∀ i, 0 ≤ f i ∧ f i < 256) : RowAt w (some ⟨g, 0, none⟩) q f :=
  ⟨Or.inr ⟨g, 0, rfl, fun i hi => by rw [Nat.zero_add]; exact (h.cell hi).1⟩, hf⟩

theorem Bw.put {w w' : World} (h : Bw w w') {g : Nat} (hg : w.heap.size ≤ g) (j : Nat) (v : Value) : Bw w (w'.setCell ⟨g, j, none⟩ v) := Below.setCell h hg v

end Go.Proofs.Ytpgjkhlffcomgab
