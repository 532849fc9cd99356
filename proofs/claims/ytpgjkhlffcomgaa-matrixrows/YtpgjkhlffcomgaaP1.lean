/- Contracts of the program's own calls that multiply by one number. -/
import Derived.Test.YtpgjkhlffcomgaaM10
import Derived.Test.YtpgjkhlffcomgaaM11
namespace Go.Proofs.Ytpgjkhlffcomgaa
open Go.RowKit

/-- the blocks of S alone may have turned, and new ones may have come -/
structure Bx (S : Nat → Prop) (w w' : World) : Prop where
  os : w'.os = w.os
  tape : w'.tape = w.tape
  output : w'.output = w.output
  size : w.heap.size ≤ w'.heap.size
  block : ∀ b, b < w.heap.size → ¬ S b → w'.heap[b]? = w.heap[b]?

theorem Bx.of_bw {S : Nat → Prop} {w w' : World} (h : Bw w w') : Bx S w w' := ⟨h.os, h.tape, h.output, h.size, fun b hb _ => h.block b hb⟩
theorem Bx.refl (S : Nat → Prop) (w : World) : Bx S w w := ⟨rfl, rfl, rfl, Nat.le_refl _, fun _ _ _ => rfl⟩
theorem Bx.trans {S : Nat → Prop} {a b c : World} (h : Bx S a b) (k : Bx S b c) : Bx S a c :=
  ⟨k.os.trans h.os, k.tape.trans h.tape, k.output.trans h.output, Nat.le_trans h.size k.size, fun x hx hs => (k.block x (Nat.lt_of_lt_of_le hx h.size) hs).trans (h.block x hx hs)⟩
theorem Bx.more {S T : Nat → Prop} {w w' : World} (h : Bx S w w') (k : ∀ b, S b → T b) : Bx T w w' := ⟨h.os, h.tape, h.output, h.size, fun b hb hs => h.block b hb (fun e => hs (k b e))⟩
/-- what turned alone lies from lo on: what was below lo stays -/
theorem Bx.below {S : Nat → Prop} {lo : Nat} {w w' : World} (h : Bx S w w') (hlo : lo ≤ w.heap.size) (k : ∀ b, S b → lo ≤ b) : Below lo w w' :=
  ⟨h.os, h.tape, h.output, h.size, fun b hb => h.block b (Nat.lt_of_lt_of_le hb hlo) (fun e => by have := k b e; omega)⟩
theorem Bx.put {S : Nat → Prop} {w w' : World} (h : Bx S w w') {g j : Nat} {v : Value} (hg : S g) : Bx S w (w'.setCell ⟨g, j, none⟩ v) :=
  ⟨h.os, h.tape, h.output, by have := h.size; simp only [World.size_setCell]; exact this, fun b hb hs => (heap_setCell_other w' ⟨g, j, none⟩ b v (fun e => hs (by simp only at e; rw [e]; exact hg))).trans (h.block b hb hs)⟩
theorem Bx.drew {S : Nat → Prop} {w w' : World} (h : Bx S w w') : Bx S w w'.drew := ⟨h.os, h.tape, h.output, h.size, h.block⟩

theorem RowAt.keepx {S : Nat → Prop} {w w' : World} {A : Option Addr} {L : Nat} {f : Nat → Int} (h : RowAt w A L f) (k : Bx S w w') (hA : ∀ b o, A = some ⟨b, o, none⟩ → 0 < L → ¬ S b) : RowAt w' A L f := by
  refine ⟨?_, h.2⟩
  rcases h.1 with h0 | ⟨b, off, e, hc⟩
  · exact Or.inl h0
  · by_cases h0 : L = 0
    · exact Or.inl h0
    · refine Or.inr ⟨b, off, e, fun i hi => ?_⟩
      have h1 := hc i hi
      rw [World.cell?_of_block (w := w) (k.block b (block_lt_of_cell h1) (hA b off e (by omega)))]
      exact h1

/-- a call that multiplies by c -/
def FnMul (w : World) (f : Value) (g : Nat) (c : Int) : Prop :=
  (f = .func (.func 46) #[] #[.pointer (some ⟨g, 0, none⟩)] ∧ w.heap[g]? = some (.cells #[.int .u8 c] 5 (0, 0))) ∨
  (f = .func (.func 47) #[] #[.pointer (some ⟨g, 0, none⟩)] ∧ ∃ cur, w.heap[g]? = some (.cells cur 57 (0, 0)) ∧ ∀ b : Nat, b < 256 → cur[b]? = some (.int .u8 (mulI c (b : Int))))

theorem fn1_any (c b : Int) (g : Nat) (c0 : 0 ≤ c) (c1 : c < 256) (b0 : 0 ≤ b) (b1 : b < 256) (w : World) (h : w.heap[g]? = some (.cells #[.int .u8 c] 5 (0, 0))) :
    Calls Try.prog 46 #[.int .u8 b, .pointer (some ⟨g, 0, none⟩)] w fun e w' => e = .returned (.int .u8 (mulI c b)) ∧ w' = w := by
  have hc := cell_of_one h
  go_enter Try.func46, Try.ntmps46
  go_wp2_with (go_at_call 32; refine (mul_any _ _ (by omega) (by omega) (by omega) (by omega) _).mono ?_; rintro e w' ⟨rfl, rfl⟩)
  go_ret
  exact ⟨rfl, rfl⟩

theorem fn2_any (c b : Int) (g : Nat) (b0 : 0 ≤ b) (b1 : b < 256) (w : World) (cur : Array Value) (h : w.heap[g]? = some (.cells cur 57 (0, 0))) (hc : ∀ b : Nat, b < 256 → cur[b]? = some (.int .u8 (mulI c (b : Int)))) :
    Calls Try.prog 47 #[.int .u8 b, .pointer (some ⟨g, 0, none⟩)] w fun e w' => e = .returned (.int .u8 (mulI c b)) ∧ w' = w := by
  obtain ⟨k, rfl⟩ := Int.eq_ofNat_of_zero_le b0
  have hx : w.cell? ⟨g, k, none⟩ = some (.int .u8 (mulI c (k : Int))) := (cell_of_row w g k cur _ _ h).trans (hc k (by omega))
  go_enter Try.func47, Try.ntmps47
  go_wp2
  go_ret
  exact ⟨rfl, rfl⟩

theorem fnz (w : World) : (zeroValue 57).run Try.prog w = .ok (.agg (Array.replicate 256 (.int .u8 0))) w := by kernel_rfl

set_option maxRecDepth 100000 in
theorem times_any (c n : Int) (c0 : 0 ≤ c) (c1 : c < 256) (w : World) :
    Calls Try.prog 40 #[.int .u8 c, .int .i64 n] w fun e w' => ∃ f g, e = .returned f ∧ FnMul w' f g c ∧ w.heap.size ≤ g ∧ Bw w w' := by
  have hz := fnz
  by_cases hn : n ≤ 256
  · go_enter Try.func40, Try.ntmps40
    go_wp2
    go_ret
    exact ⟨_, _, rfl, Or.inl ⟨rfl, heap_alloc_new _ _⟩, Nat.le_refl _, (Below.refl _ _).alloc (Nat.le_refl _) _⟩
  · go_enter Try.func40, Try.ntmps40
    go_wp2
    go_loopw [10] (fun i wr => ∃ k : Nat, k ≤ 256 ∧ i = .int .i64 k ∧ wr.heap[w.heap.size]? = some (.cells #[.int .u8 c] 5 (0, 0)) ∧ (∃ cur, wr.heap[w.heap.size + 1]? = some (.cells cur 57 (0, 0)) ∧ cur.size = 256 ∧ ∀ b : Nat, b < k → cur[b]? = some (.int .u8 (mulI c (b : Int)))) ∧ Bw w wr) (fun i _ => 256 - (intOf i).toNat)
    case atStart => exact ⟨0, Nat.zero_le _, rfl, heap_alloc2_old _ _ _, ⟨_, heap_alloc2_new _ _ _, by simp, fun b hb => by omega⟩, ((Below.refl _ _).alloc (Nat.le_refl _) _).alloc (by rw [size_alloc]; omega) _⟩
    case round =>
      obtain ⟨k, hk, rfl, hc, ⟨cur, hcur, hs, hv⟩, hb⟩ := hrel
      have cc := cell_of_one hc
      by_cases hlt : k < 256
      · obtain ⟨v1, hv1⟩ : ∃ v, cur[k]? = some v := ⟨_, Array.getElem?_eq_getElem (by omega)⟩
        have hx : wr.cell? ⟨w.heap.size + 1, k, none⟩ = some v1 := (cell_of_row wr (w.heap.size + 1) k cur _ _ hcur).trans hv1
        have hf : wr.frozen? ⟨w.heap.size + 1, k, none⟩ = false := frozen_of_row wr (w.heap.size + 1) k cur _ hcur
        go_wp2_with (go_at_call 32; refine (mul_any _ _ (by omega) (by omega) (by omega) (by omega) _).mono ?_; rintro e w' ⟨rfl, hw'⟩; subst w')
        go_roundw
        case rel =>
          refine ⟨k + 1, by omega, by go_num, (heap_setCell_other wr _ _ _ (by simp only; omega)).trans hc, ⟨_, heap_setCell_same wr _ k cur _ _ hcur, by simpa using hs, fun b hb' => ?_⟩, Bw.put hb (by omega) _ _⟩
          by_cases e : b = k
          · subst e; rw [Array.getElem?_setIfInBounds_self_of_lt (by omega)]
          · rw [Array.getElem?_setIfInBounds_ne (Ne.symm e), hv b (by omega)]
        case measure => simp [intOf]; omega
      · have e8 : k = 256 := by omega
        subst e8
        go_wp2
        go_ret
        exact ⟨_, _, rfl, Or.inr ⟨rfl, cur, hcur, hv⟩, by omega, hb⟩

end Go.Proofs.Ytpgjkhlffcomgaa
