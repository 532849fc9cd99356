/- Rows under work: what lies where while rows are changed about, and the numbers as numbers of the field. -/
import Derived.Test.YtpgjkhlffcomgaaM9
import Derived.Test.YtpgjkhlffcomgaaLa2
namespace Go.Proofs.Ytpgjkhlffcomgaa
open Go.RowKit

/-- a byte as a number of the field -/
def fi (a : Int) : La.F8 := ⟨a.toNat % 256, Nat.mod_lt _ (by decide)⟩

theorem fi_v {a : Int} (h : 0 ≤ a ∧ a < 256) : (fi a).v = a.toNat := Nat.mod_eq_of_lt (by omega)
theorem fi_inj {a b : Int} (ha : 0 ≤ a ∧ a < 256) (hb : 0 ≤ b ∧ b < 256) (h : fi a = fi b) : a = b := by
  have := congrArg La.F8.v h
  rw [fi_v ha, fi_v hb] at this
  omega
theorem fi_add {a b : Int} (ha : 0 ≤ a ∧ a < 256) (hb : 0 ≤ b ∧ b < 256) : fi (addI a b) = La.ad (fi a) (fi b) := by
  apply La.F8.ext
  rw [fi_v (addI_bd a b ha.2 hb.2), La.add_v, fi_v ha, fi_v hb]
  unfold addI; rw [Int.toNat_natCast]
theorem fi_mul {a b : Int} (ha : 0 ≤ a ∧ a < 256) (hb : 0 ≤ b ∧ b < 256) : fi (mulI a b) = La.ml (fi a) (fi b) := by
  apply La.F8.ext
  rw [fi_v (mulI_bd a b ha.2), La.mul_v, fi_v ha, fi_v hb]
  unfold mulI; rw [Int.toNat_natCast]
theorem fi_zero : fi 0 = La.f0 := rfl
theorem fi_one : fi 1 = La.f1 := rfl
theorem fi_inv {a : Int} (ha : 0 < a) (h1 : a < 256) : La.ml (fi a) (fi (invR a)) = La.f1 := by
  have e : invR a = invI a := by unfold invR; rw [if_neg (by omega)]
  rw [← fi_mul ⟨by omega, h1⟩ (invR_bd a), e, mul_comm (invI a) a (invI_bd a).2 h1, inv_mul a ha h1]
  rfl

/-- a matrix's numbers as numbers of the field -/
def fm (Z : Nat → Nat → Int) (i j : Nat) : La.F8 := fi (Z i j)

/-- n rows of m numbers, their heads in the block g, the rows elsewhere -/
structure Work (W : World) (g n m : Nat) (R : Nat → Option Addr) (C : Nat → Nat) (Z : Nat → Nat → Int) : Prop where
  outer : ∃ cur, W.heap[g]? = some (.cells cur 22 (0, 0)) ∧ ∀ r, r < n → cur[r]? = some (.slice (R r) m (C r))
  row : ∀ r, r < n → RowAt W (R r) m (Z r)
  apart : ∀ r a, r < n → R r = some a → a.block ≠ g
  room : ∀ r, r < n → m ≤ C r

theorem Work.keep {W W' : World} {g n m : Nat} {R : Nat → Option Addr} {C : Nat → Nat} {Z : Nat → Nat → Int} (h : Work W g n m R C Z) (b : Bw W W') : Work W' g n m R C Z := by
  obtain ⟨cur, h1, h2⟩ := h.outer
  exact ⟨⟨cur, by rw [b.block g (Array.getElem?_eq_some_iff.1 h1).1, h1], h2⟩, fun r hr => (h.row r hr).keep b, h.apart, h.room⟩

theorem Work.cell {W : World} {g n m : Nat} {R : Nat → Option Addr} {C : Nat → Nat} {Z : Nat → Nat → Int} (h : Work W g n m R C Z) {r : Nat} (hr : r < n) : W.cell? ⟨g, r, none⟩ = some (.slice (R r) m (C r)) ∧ W.frozen? ⟨g, r, none⟩ = false := by
  obtain ⟨cur, h1, h2⟩ := h.outer
  exact ⟨(cell_of_row W g r cur _ _ h1).trans (h2 r hr), frozen_of_row W g r cur _ h1⟩

theorem Work.lt {W : World} {g n m : Nat} {R : Nat → Option Addr} {C : Nat → Nat} {Z : Nat → Nat → Int} (h : Work W g n m R C Z) : g < W.heap.size := by
  obtain ⟨cur, h1, _⟩ := h.outer
  exact (Array.getElem?_eq_some_iff.1 h1).1

theorem RowAt.set {W : World} {A : Option Addr} {m g p : Nat} {v : Value} {f : Nat → Int} (h : RowAt W A m f) (hne : ∀ a, A = some a → a.block ≠ g) : RowAt (W.setCell ⟨g, p, none⟩ v) A m f := by
  refine ⟨?_, h.2⟩
  rcases h.1 with h0 | ⟨b, off, hA, hc⟩
  · exact Or.inl h0
  · refine Or.inr ⟨b, off, hA, fun i hi => ?_⟩
    rw [World.cell?_of_block (w := W) (heap_setCell_other W ⟨g, p, none⟩ b v (hne _ hA))]
    exact hc i hi

theorem Work.set {W : World} {g n m p : Nat} {R : Nat → Option Addr} {C : Nat → Nat} {Z : Nat → Nat → Int} (h : Work W g n m R C Z) (hp : p < n) {A : Option Addr} {c : Nat} {z : Nat → Int} (hr : RowAt W A m z) (hA : ∀ a, A = some a → a.block ≠ g) (hc : m ≤ c) :
    Work (W.setCell ⟨g, p, none⟩ (.slice A m c)) g n m (upd R p A) (upd C p c) (upd Z p z) := by
  obtain ⟨cur, h1, h2⟩ := h.outer
  have hsz : p < cur.size := by
    have := h2 p hp
    rcases Nat.lt_or_ge p cur.size with h | h
    · exact h
    · rw [Array.getElem?_eq_none h] at this; cases this
  refine ⟨⟨_, heap_setCell_same W g p cur _ _ h1, fun r hr' => ?_⟩, fun r hr' => ?_, fun r a hr' ha => ?_, fun r hr' => ?_⟩
  · by_cases e : r = p
    · subst e; rw [Array.getElem?_setIfInBounds_self_of_lt hsz, upd_at, upd_at]
    · rw [Array.getElem?_setIfInBounds_ne (Ne.symm e), h2 r hr', upd_ne _ _ e, upd_ne _ _ e]
  · by_cases e : r = p
    · subst e; rw [upd_at, upd_at]; exact hr.set hA
    · rw [upd_ne _ _ e, upd_ne _ _ e]; exact (h.row r hr').set (fun a ha => h.apart r a hr' ha)
  · by_cases e : r = p
    · subst e; rw [upd_at] at ha; exact hA a ha
    · rw [upd_ne _ _ e] at ha; exact h.apart r a hr' ha
  · by_cases e : r = p
    · subst e; rw [upd_at]; exact hc
    · rw [upd_ne _ _ e]; exact h.room r hr'

theorem Work.congr {W : World} {g n m : Nat} {R : Nat → Option Addr} {C : Nat → Nat} {Z Z' : Nat → Nat → Int} (h : Work W g n m R C Z) (e : ∀ r, r < n → Z' r = Z r) : Work W g n m R C Z' :=
  ⟨h.outer, fun r hr => by rw [e r hr]; exact h.row r hr, h.apart, h.room⟩

/-- a matrix that was made, as rows under work -/
theorem Work.of_own {W : World} {base n m : Nat} {v : Value} {R : Nat → Option Addr} {L C : Nat → Nat} {Z : Nat → Nat → Int} (h : OwnMat W base v n R L C Z) (hn : 0 < n) (hL : ∀ r, r < n → L r = m) :
    ∃ g cap, v = .slice (some ⟨g, 0, none⟩) n cap ∧ base ≤ g ∧ Work W g n m R C Z := by
  obtain ⟨h1, h2⟩ := h.own
  rcases h2 with ⟨_, h0⟩ | ⟨g, cap, cur, rfl, hb, hg, h3, h4, h5, h6⟩
  · omega
  · refine ⟨g, cap, rfl, hb, ⟨cur, hg, fun r hr => ?_⟩, fun r hr => by rw [← hL r hr]; exact h.row r hr, fun r a hr ha e => (h.apart r a hr ha).2.2 (by simp only [Value.ownBlock, Option.some.injEq]; exact e.symm), fun r hr => by rw [← hL r hr]; exact (h.cap r hr).1⟩
    have e : (cur.toList.take (n * 1))[r]? = (rowsU R L C n)[r]? := by rw [h6]
    rw [Nat.mul_one, List.getElem?_take, if_pos hr] at e
    rw [← Array.getElem?_toList, e]
    unfold rowsU
    rw [List.getElem?_map, List.getElem?_range hr, ← hL r hr]; rfl

/-- and as a matrix in memory -/
theorem Work.mat {W : World} {g n m : Nat} {R : Nat → Option Addr} {C : Nat → Nat} {Z : Nat → Nat → Int} (h : Work W g n m R C Z) : MatAt W (some ⟨g, 0, none⟩) n R (fun _ => m) C Z :=
  ⟨Or.inr ⟨g, 0, rfl, fun r hr => by rw [Nat.zero_add]; exact (h.cell hr).1⟩, h.row⟩

end Go.Proofs.Ytpgjkhlffcomgaa
