/- Blocks' bytes are alike just if the blocks are. -/
import Derived.Test.YtcnafcoifhdigaaGE
import Derived.Deep.MidRow
namespace Go.Proofs.Ytcnafcoifhdigaa
open Go.RowKit Go.Deep
set_option linter.unusedVariables false
set_option linter.unusedSimpArgs false

theorem key_congr {f g : Nat → Int} (h : ∀ i, i < 128 → f i = g i) : Blk.keyOf f = Blk.keyOf g := Blk.num_congr 8 (fun i hi => by unfold nb; rw [h _ (by omega)])
theorem stripe_congr {f g : Nat → Int} (h : ∀ i, i < 128 → f i = g i) : Blk.stripeOf f = Blk.stripeOf g := Blk.num_congr 4 (fun i hi => by unfold nb; rw [h _ (by omega)])
theorem shard_congr {f g : Nat → Int} (h : ∀ i, i < 128 → f i = g i) : Blk.shardOf f = Blk.shardOf g := by unfold Blk.shardOf nb; rw [h _ (by omega)]
theorem len_congr {f g : Nat → Int} (h : ∀ i, i < 128 → f i = g i) : Blk.lenOf f = Blk.lenOf g := by unfold Blk.lenOf nb; rw [h _ (by omega)]
theorem body_congr {k s h L : Nat} {d d' : Nat → Int} (e : ∀ i, i < L → d i = d' i) (i : Nat) : Blk.body k s h L d i = Blk.body k s h L d' i := by
  unfold Blk.body
  split
  · rfl
  · split
    · exact e _ (by omega)
    · rfl
theorem pack_same {k s h L k' s' h' L' : Nat} {d d' : Nat → Int} (hk : k < 18446744073709551616) (hs : s < 4294967296) (hL : L ≤ 96) (hk' : k' < 18446744073709551616) (hs' : s' < 4294967296) (hL' : L' ≤ 96) :
    (∀ i, i < 128 → sealF (Blk.body k s h L d) 124 i = sealF (Blk.body k' s' h' L' d') 124 i) ↔ SameB k s h k' s' h' L L' d d' := by
  obtain ⟨-, a1, a2, a3, a4, a5⟩ := pack_good (h := h) (d := d) hk hs hL
  obtain ⟨-, b1, b2, b3, b4, b5⟩ := pack_good (h := h') (d := d') hk' hs' hL'
  constructor
  · intro e
    refine ⟨by rw [← a1, ← b1]; exact key_congr e, by rw [← a2, ← b2]; exact stripe_congr e, by rw [← a3, ← b3]; exact shard_congr e, ?_⟩
    have el : L = L' := by rw [← a4, ← b4]; exact len_congr e
    exact ⟨el, fun i hi => by rw [← a5 i hi, ← b5 i (by omega)]; exact e _ (by omega)⟩
  · rintro ⟨rfl, rfl, rfl, rfl, e⟩ i _
    rw [show Blk.body k s h L d = Blk.body k s h L d' from funext (body_congr e)]

/-- a whole row's load in a drawn region: it may be taken first under an S that gives the row -/
theorem yieldsIf_load_blk {ops : Array Oper} {S : World → Prop} {op : Oper} {a : Act} (hw : Region.wanted op (yielded ops a.tmps) = true) (x : Operand) (ho : op.op = .load 26 x)
    (g : Nat) (hx : a.eval x = .pointer (some ⟨g, 0, none⟩)) {k s h : Int} {A : Option Addr} {n c : Nat} (hS : ∀ w, S w → BlkAt w g k s h A n c) : YieldsIf Try.prog ops S op (.agg (blkCells k s h A n c)) a :=
  .inl ⟨hw, fun w hw' => by
    unfold execOp
    simp only [ho, hx, Instr.loadAt, Instr.sureAddr, Sem.run_bind, Sem.run_pure, Result.andThen_ok, run_loadVar_row w g 26 26 (blkCells k s h A n c) (0, 0) _ (hS w hw') Try.underlying26 rfl (blk_info _ _ _ _ _ _)]⟩
theorem equalIn_bool6 (W : World) (d : Nat) (a b : Bool) : (Op.equalIn (d + 1) 4 (.bool a) (.bool b)).run Try.prog W = .ok (a == b) W := by
  simp [Op.equalIn, run_underlying Try.underlying4]
theorem eql_bool6 (W : World) (a b : Bool) : (binOp .eql 4 (.bool a) (.bool b)).run Try.prog W = .ok (.bool (a == b)) W := by
  have h : (Op.equal 4 (.bool a) (.bool b)).run Try.prog W = .ok (a == b) W := equalIn_bool6 W 9999 a b
  simp only [binOp]
  simp [h]
end Go.Proofs.Ytcnafcoifhdigaa
