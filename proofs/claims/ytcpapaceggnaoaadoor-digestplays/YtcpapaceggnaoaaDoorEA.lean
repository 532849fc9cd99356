/- Contract of the program's own Write. -/
import Derived.Test.YtcpapaceggnaoaaDoorE9
namespace Go.Proofs.YtcpapaceggnaoaaDoor
open Go.RowKit Go.Deep

/-- the len bytes F, and behind them f -/
def joinF (F : Nat → Int) (len : Nat) (f : Nat → Int) (c : Nat) : Int := if c < len then F c else f (c - len)
theorem joinF_bd {F f : Nat → Int} {len : Nat} (hF : ∀ i, 0 ≤ F i ∧ F i < 256) (hf : ∀ i, 0 ≤ f i ∧ f i < 256) (i : Nat) : 0 ≤ joinF F len f i ∧ joinF F len f i < 256 := by
  unfold joinF; split
  · exact hF i
  · exact hf _
theorem row_less {w : World} {A : Option Addr} {n m : Nat} {f : Nat → Int} (h : RowAt w A n f) (hm : m ≤ n) : RowAt w A m f := by
  refine ⟨?_, h.2⟩
  rcases h.1 with h0 | ⟨b, off, e, hc⟩
  · exact Or.inl (by omega)
  · exact Or.inr ⟨b, off, e, fun i hi => hc i (by omega)⟩
theorem row_congr {w : World} {A : Option Addr} {n : Nat} {f h : Nat → Int} (hr : RowAt w A n f) (e : ∀ i, i < n → h i = f i) (hb : ∀ i, 0 ≤ h i ∧ h i < 256) : RowAt w A n h := by
  refine ⟨?_, hb⟩
  rcases hr.1 with h0 | ⟨b, off, eA, hc⟩
  · exact Or.inl h0
  · exact Or.inr ⟨b, off, eA, fun i hi => by rw [e i hi]; exact hc i hi⟩

theorem wpList_load_state {w : World} {ops : Array Oper} {rest : List Oper} {op : Oper} {a : Act} {Q : Exit → Act → World → Prop} (hgd : op.guard = none) (x : Operand) (ho : op.op = .load 43 x)
    (g : Nat) (hx : a.eval x = .pointer (some ⟨g, 0, none⟩)) (s : Nat → Nat) (hc : w.rangeAt g 0 (cells8 s).toList) (h : wpList Tryd.prog ops Q rest (a.put op.dst (.agg (cells8 s))) w) : wpList Tryd.prog ops Q (op :: rest) a w :=
  wpList_load_mid hgd 43 x ho g 0 hx (cells8 s).toList _ hc Tryd.underlying43 rfl (by kernel_rfl) h
theorem wpList_store_state {w : World} {ops : Array Oper} {rest : List Oper} {op : Oper} {a : Act} {Q : Exit → Act → World → Prop} (hgd : op.guard = none) (x y : Operand) (ho : op.op = .store 43 x y)
    (g : Nat) (s : Nat → Nat) (hx : a.eval x = .pointer (some ⟨g, 0, none⟩)) (hy : a.eval y = .agg (cells8 s)) (ht : w.there g 0 8) (h : wpList Tryd.prog ops Q rest (a.put op.dst undef) (w.setCells g 0 (cells8 s).toList)) : wpList Tryd.prog ops Q (op :: rest) a w :=
  wpList_store_mid hgd 43 x y ho g 0 (cells8 s) hx hy ht (info8 s) (cells8_all s) h

theorem run_append_zero (w : World) (A B : Option Addr) (n c : Nat) (ty : TypeId) (hA : A = none → n = 0) :
    (Builtin.append_ #[22, 22] ty #[.slice A n n, .slice B 0 c]).run Tryd.prog w = .ok (.slice A n n) w := by
  obtain ⟨i0, hi0, hz0, hz1, hz2⟩ := info_parts info_u8
  cases A with
  | none =>
    obtain rfl := hA rfl
    cases B <;> simp [Builtin.append_, run_underlying Tryd.underlying22, sizeOf, typeInfo, hi0, Builtin.lenOf, Builtin.firstCells, loadCells, loadCellsFrom]
  | some a =>
    cases B <;> simp [Builtin.append_, run_underlying Tryd.underlying22, sizeOf, typeInfo, hi0, Builtin.lenOf, Builtin.firstCells, loadCells, loadCellsFrom, storeCells]

/-- a hash behind a Write that fills no block -/
theorem hash_small {w : World} {g len L : Nat} {F f : Nat → Int} {A' : Option Addr} (hF : ∀ i, 0 ≤ F i ∧ F i < 256) (hf : ∀ i, 0 ≤ f i ∧ f i < 256) (hs : len % 64 + L < 64)
    (hH : HAt w g (Sha.after (nbD F) (len / 64)) A' (len % 64 + L) (len + L)) (hr : RowAt w A' (len % 64 + L) (fun c => if c < len % 64 then F (64 * (len / 64) + c) else f (c - len % 64))) : HashAt w g (joinF F len f) (len + L) A' := by
  have e1 : (len + L) / 64 = len / 64 := by omega
  have e2 : (len + L) % 64 = len % 64 + L := by omega
  refine ⟨?_, ?_, joinF_bd hF hf⟩
  · rw [e1, e2, Sha.after_congr (g := nbD (joinF F len f)) (h := nbD F) (len / 64) (fun i hi => by unfold nbD joinF; rw [if_pos (by omega)])]
    exact hH
  · rw [e1, e2]
    refine row_congr hr (fun i hi => ?_) (fun i => joinF_bd hF hf _)
    unfold joinF
    by_cases h : i < len % 64
    · rw [if_pos (by omega), if_pos h]
    · rw [if_neg (by omega), if_neg h, show 64 * (len / 64) + i - len = i - len % 64 by omega]
/-- the state behind a Write that fills blocks -/
theorem state_great {F f : Nat → Int} {len L : Nat} (hs : 64 ≤ len % 64 + L) :
    runS (runS (Sha.after (nbD F) (len / 64)) (nbD (fun c => if c < len % 64 then F (64 * (len / 64) + c) else f (c - len % 64))) (64 / 64)) (nbD (fun c => f (64 - len % 64 + c))) ((L - (64 - len % 64)) / 64) = Sha.after (nbD (joinF F len f)) ((len + L) / 64) := by
  have e1 : (len + L) / 64 = len / 64 + 1 + (L - (64 - len % 64)) / 64 := by omega
  have h0 : Sha.after (nbD F) (len / 64) = runS Sha.iv (nbD (joinF F len f)) (len / 64) := by
    rw [← runS_after]
    exact runS_congr _ (fun i hi => by unfold nbD joinF; rw [if_pos (by omega)])
  have h1 : runS (Sha.after (nbD F) (len / 64)) (nbD (fun c => if c < len % 64 then F (64 * (len / 64) + c) else f (c - len % 64))) (64 / 64) = runS Sha.iv (nbD (joinF F len f)) (len / 64 + 1) := by
    rw [← runS_add, h0]
    refine runS_congr 1 (fun i hi => ?_)
    unfold nbD joinF
    dsimp only
    by_cases h : i < len % 64
    · rw [if_pos h, if_pos (by omega)]
    · rw [if_neg h, if_neg (by omega), show 64 * (len / 64) + i - len = i - len % 64 by omega]
  rw [h1, e1, ← runS_after, ← runS_add Sha.iv _ (len / 64 + 1)]
  refine runS_congr _ (fun i hi => ?_)
  unfold nbD joinF
  rw [if_neg (by omega), show 64 * (len / 64 + 1) + i - len = 64 - len % 64 + i by omega]
end Go.Proofs.YtcpapaceggnaoaaDoor
