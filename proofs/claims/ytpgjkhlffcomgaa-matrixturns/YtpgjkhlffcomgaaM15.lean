/- Writing over a matrix's rows: what else is in memory stays. -/
import Derived.Test.YtpgjkhlffcomgaaM3
import Derived.Deep.RegionWith
import Derived.BigRegion
import Derived.Deep.DrawnRows
import Derived.Laws.Unary
namespace Go.Proofs.Ytpgjkhlffcomgaa
open Go.RowKit

attribute [local go_sem ↓] Go.wp_at_zero Go.wp_at_succ

/-- only blocks from lo on and below hi have turned -/
structure Only (lo hi : Nat) (w w' : World) : Prop where
  os : w'.os = w.os
  tape : w'.tape = w.tape
  output : w'.output = w.output
  size : w'.heap.size = w.heap.size
  block : ∀ b, b < lo ∨ hi ≤ b → w'.heap[b]? = w.heap[b]?

theorem Only.refl (lo hi : Nat) (w : World) : Only lo hi w w := ⟨rfl, rfl, rfl, rfl, fun _ _ => rfl⟩
theorem Only.put {lo hi : Nat} {w w' : World} (h : Only lo hi w w') {b i : Nat} {v : Value} (h1 : lo ≤ b) (h2 : b < hi) : Only lo hi w (w'.setCell ⟨b, i, none⟩ v) :=
  ⟨h.os, h.tape, h.output, by rw [← h.size]; simp [World.setCell], fun k hk => (Below.heap_setCell _ _ _ _ (by simp only; omega)).trans (h.block k hk)⟩
theorem Only.drew {lo hi : Nat} {w w' : World} (h : Only lo hi w w') : Only lo hi w w'.drew := ⟨h.os, h.tape, h.output, h.size, h.block⟩
theorem Only.below {lo hi : Nat} {w w' : World} (h : Only lo hi w w') : Below lo w w' := ⟨h.os, h.tape, h.output, Nat.le_of_eq h.size.symm, fun k hk => h.block k (Or.inl hk)⟩

theorem cell_other {w : World} {a b : Addr} {v : Value} (h : a ≠ b) : (w.setCell a v).cell? b = w.cell? b := by
  first | exact World.cell?_setCell_other h | exact World.cell?_setCell_other w h | exact World.cell?_setCell_other w a v h | exact World.cell?_setCell_other w a b v h | exact World.cell?_setCell_other _ _ _ _ h

/-- a row that may be written over -/
def RowW (w : World) (lo hi : Nat) (A : Option Addr) (L : Nat) : Prop :=
  L = 0 ∨ ∃ b off, A = some ⟨b, off, none⟩ ∧ lo ≤ b ∧ b < hi ∧ ∀ i, i < L → (∃ x, w.cell? ⟨b, off + i, none⟩ = some (.int .u8 x) ∧ 0 ≤ x ∧ x < 256) ∧ w.frozen? ⟨b, off + i, none⟩ = false

theorem RowW.put {w : World} {lo hi : Nat} {A : Option Addr} {L : Nat} (h : RowW w lo hi A L) {b i : Nat} {x : Int} (hx : 0 ≤ x ∧ x < 256) : RowW (w.setCell ⟨b, i, none⟩ (.int .u8 x)) lo hi A L := by
  rcases h with h | ⟨b', off, hA, h1, h2, hr⟩
  · exact Or.inl h
  · refine Or.inr ⟨b', off, hA, h1, h2, fun j hj => ?_⟩
    obtain ⟨⟨y, hy, hb⟩, hf⟩ := hr j hj
    refine ⟨?_, by rw [World.frozen?_setCell]; exact hf⟩
    by_cases e : (⟨b, i, none⟩ : Addr) = ⟨b', off + j, none⟩
    · rw [e]
      exact ⟨x, World.cell?_setCell_same' _ _ _ (by rw [hy]; rfl), hx⟩
    · exact ⟨y, (cell_other e).trans hy, hb⟩

/-- a matrix whose rows may be written over; its heads lie outside -/
structure MatW (w : World) (lo hi : Nat) (A : Option Addr) (n : Nat) (R : Nat → Option Addr) (L C : Nat → Nat) : Prop where
  outer : n = 0 ∨ ∃ b off, A = some ⟨b, off, none⟩ ∧ (b < lo ∨ hi ≤ b) ∧ ∀ r, r < n → w.cell? ⟨b, off + r, none⟩ = some (.slice (R r) (L r) (C r))
  row : ∀ r, r < n → RowW w lo hi (R r) (L r)

theorem MatW.put {w : World} {lo hi : Nat} {A : Option Addr} {n : Nat} {R : Nat → Option Addr} {L C : Nat → Nat} (h : MatW w lo hi A n R L C) {b i : Nat} {x : Int} (hx : 0 ≤ x ∧ x < 256) (h1 : lo ≤ b) (h2 : b < hi) : MatW (w.setCell ⟨b, i, none⟩ (.int .u8 x)) lo hi A n R L C := by
  refine ⟨?_, fun r hr => (h.row r hr).put hx⟩
  rcases h.outer with h0 | ⟨b', off, hA, hb, hc⟩
  · exact Or.inl h0
  · refine Or.inr ⟨b', off, hA, hb, fun r hr => ?_⟩
    exact (cell_other (fun e => by simp only [Addr.mk.injEq] at e; omega)).trans (hc r hr)

theorem MatW.drew {w : World} {lo hi : Nat} {A : Option Addr} {n : Nat} {R : Nat → Option Addr} {L C : Nat → Nat} (h : MatW w lo hi A n R L C) : MatW w.drew lo hi A n R L C := ⟨h.outer, h.row⟩

set_option maxRecDepth 100000 in
set_option maxHeartbeats 2000000 in
theorem spoilt_any (A : Option Addr) (n cap lo hi : Nat) (R : Nat → Option Addr) (L C : Nat → Nat) (hn : n ≤ 140737488355328) (hL : ∀ r, r < n → L r ≤ 140737488355328) (w : World) (h : MatW w lo hi A n R L C) :
    Calls Try.prog 12 #[.slice A n cap] w fun e w' => e = .returned (.tuple #[]) ∧ Only lo hi w w' := by
  go_enter Try.func12, Try.ntmps12
  go_wp2
  go_loopw [2, 3] (fun i _ wr => ∃ k : Nat, k ≤ n ∧ i = .int .i64 k ∧ MatW wr lo hi A n R L C ∧ Only lo hi w wr) (fun i _ _ => n - (intOf i).toNat)
  case atStart => exact ⟨0, Nat.zero_le _, rfl, h, Only.refl _ _ _⟩
  case round =>
    rename World => wo
    obtain ⟨k, hk, rfl, hm, ho⟩ := hrel
    by_cases hlt : k < n
    · have hLk := hL k hlt
      go_wp2
      go_loopw [3] (fun i wr => ∃ j : Nat, j ≤ L k ∧ i = .int .i64 j ∧ MatW wr lo hi A n R L C ∧ Only lo hi w wr) (fun i _ => L k - (intOf i).toNat)
      case atStart => exact ⟨0, Nat.zero_le _, rfl, hm, ho⟩
      case round =>
        obtain ⟨j, hj, rfl, hmr, hor⟩ := hrel
        obtain ⟨b1, o1, rfl, hb1, hc1⟩ : ∃ b off, A = some ⟨b, off, none⟩ ∧ (b < lo ∨ hi ≤ b) ∧ ∀ r, r < n → wr.cell? ⟨b, off + r, none⟩ = some (.slice (R r) (L r) (C r)) := hmr.outer.resolve_left (by omega)
        have h1 := hc1 k hlt
        by_cases hjl : j < L k
        · obtain ⟨b2, o2, e2, hlo, hhi, hc2⟩ := (hmr.row k hlt).resolve_left (by omega)
          obtain ⟨⟨x, hx, hxb⟩, hfx⟩ := hc2 j hjl
          rw [e2] at h1
          have hne : b1 ≠ b2 := by omega
          have ik : (k : Int) < (n : Int) := by omega
          have ij : (j : Int) < (L k : Int) := by omega
          have ik0 : (0 : Int) ≤ (k : Int) := Int.natCast_nonneg _
          have ij0 : (0 : Int) ≤ (j : Int) := Int.natCast_nonneg _
          clear hc1 hc2
          go_wp2
          have hnb : 0 ≤ bits BinOp.xor IntKind.u8 (if IntKind.u8.signed = true then -1 else IntKind.u8.max) x ∧ bits BinOp.xor IntKind.u8 (if IntKind.u8.signed = true then -1 else IntKind.u8.max) x < 256 := by
            rw [show (if IntKind.u8.signed = true then (-1 : Int) else IntKind.u8.max) = 255 from rfl, u8_xor 255 x (by decide) (by decide) hxb.1 hxb.2]
            have := Gf.xor_lt (255 : Int).toNat x.toNat (by decide) (by omega)
            omega
          go_region
          go_wp2
          go_roundw
          case rel => exact ⟨j + 1, by omega, by go_num, (hmr.put hnb hlo hhi).drew, (hor.put hlo hhi).drew⟩
          case measure => simp [intOf]; omega
        · have ej : L k = j := by omega
          go_wp2
          go_roundw
          case rel => exact ⟨k + 1, by omega, by go_num, hmr, hor⟩
          case measure => simp [intOf]; omega
    · have ek : n = k := by omega
      subst ek
      go_wp2
      go_end0
      exact ⟨rfl, ho⟩

end Go.Proofs.Ytpgjkhlffcomgaa
