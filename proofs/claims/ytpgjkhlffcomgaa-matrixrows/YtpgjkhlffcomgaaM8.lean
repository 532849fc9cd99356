/- What the document's own One makes. -/
import Derived.Test.YtpgjkhlffcomgaaM7
import Derived.Deep.OwnRows
namespace Go.Proofs.Ytpgjkhlffcomgaa
open Go.RowKit Go.Deep

theorem made_bytes (n : Nat) (h : n ≤ 140737488355328) : ∃ M : Array Value, M.size = n ∧ (∀ i, i < n → M[i]? = some (.int .u8 0)) ∧
    ∀ w, (Instr.makeSlice 22 (.int .i64 (n : Int)) (.int .i64 (n : Int))).run Try.prog w = .ok (.slice (some ⟨w.heap.size, 0, none⟩) n n) (w.alloc (.cells M 5)) := by
  refine ⟨madeCells #[.int .u8 0] n, ?_, ?_, fun w => run_make_row' 22 5 (.int .u8 0) 1 Try.underlying22 info_u8 rfl .i64 .i64 n (by omega) (by omega) w⟩
  · simp [madeCells]
  · intro i hi
    simp [madeCells, hi, Nat.mod_one]

/-- a row that has just been laid -/
theorem row_new (W : World) (cs : Array Value) (t : TypeId) (n : Nat) (f : Nat → Int) (hf : ∀ i, 0 ≤ f i ∧ f i < 256) (h : ∀ i, i < n → cs[i]? = some (.int .u8 (f i))) : RowAt (W.alloc (.cells cs t)) (some ⟨W.heap.size, 0, none⟩) n f :=
  ⟨Or.inr ⟨W.heap.size, 0, rfl, fun i hi => by rw [Nat.zero_add, World.cell?_alloc_at cs t _ i rfl]; exact h i hi⟩, hf⟩

def oneZ (i j : Nat) : Int := if i = j then 1 else 0
theorem oneZ_bd (i j : Nat) : 0 ≤ oneZ i j ∧ oneZ i j < 256 := by unfold oneZ; split <;> decide

theorem rone_neg (n : Int) (h : n < 0) (w : World) : Calls Try.prog 21 #[.int .i64 n] w fun e w' => e = .returned (.tuple #[.slice none 0 0, .int .i64 1]) ∧ w' = w := by
  go_enter Try.func21, Try.ntmps21
  go_wp2
  go_ret2
  exact ⟨rfl, rfl⟩

theorem rone_long (n : Int) (h : 32 < n) (w : World) : Calls Try.prog 21 #[.int .i64 n] w fun e w' => e = .returned (.tuple #[.slice none 0 0, .int .i64 2]) ∧ w' = w := by
  go_enter Try.func21, Try.ntmps21
  go_wp2
  go_ret2
  exact ⟨rfl, rfl⟩

set_option maxHeartbeats 1000000 in
theorem rone_ok (n : Nat) (hn : n ≤ 32) (w : World) : Calls Try.prog 21 #[.int .i64 (n : Int)] w fun e w' => ∃ v R C, e = .returned (.tuple #[v, .int .i64 0]) ∧ OwnMat w' w.heap.size v n R (fun _ => n) C oneZ ∧ Bw w w' := by
  obtain ⟨j0, hj0, hy0, hy1, hy2⟩ := info_parts info_row
  obtain ⟨M, hM, hM0, hmk⟩ := made_bytes n (by omega)
  have HM : Hid (∀ i, i < n → M[i]? = some (.int .u8 0)) := hM0
  clear hM0
  go_enter Try.func21, Try.ntmps21
  go_wp2
  go_loopw [4, 5] (fun v i wr => ∃ (k : Nat) (R' : Nat → Option Addr) (L' C' : Nat → Nat) (Z' : Nat → Nat → Int), k ≤ n ∧ i = .int .i64 k ∧ OwnMat wr w.heap.size v k R' L' C' Z' ∧ Hid (∀ r, r < k → L' r = n ∧ Z' r = oneZ r) ∧ Bw w wr) (fun _ i _ => n - (intOf i).toNat)
  case atStart => exact ⟨0, fun _ => none, fun _ => 0, fun _ => 0, oneZ, Nat.zero_le _, rfl, OwnMat.nil _ _ _ _ _ _, (fun r hr => by omega), Bw.refl _⟩
  case round =>
    obtain ⟨k, R', L', C', Z', hk, rfl, hmat, hsame, hw⟩ := hrel
    by_cases hlt : k < n
    · have hsz := hw.size
      have hmx2 : k + 1 ≤ maxLen := by unfold maxLen; omega
      have hMk := HM.out k hlt
      have hrow1 : RowAt (wr.alloc (.cells (M.setIfInBounds k (.int .u8 1)) 5)) (some ⟨wr.heap.size, 0, none⟩) n (oneZ k) := row_new wr _ _ n (oneZ k) (oneZ_bd k) (fun i hi => by
        by_cases e : k = i
        · subst e; rw [Array.getElem?_setIfInBounds_self_of_lt (by omega)]; unfold oneZ; rw [if_pos rfl]
        · rw [Array.getElem?_setIfInBounds_ne e, HM.out i hi]; unfold oneZ; rw [if_neg e])
      have bw1 : Bw wr (wr.alloc (.cells (M.setIfInBounds k (.int .u8 1)) 5)) := (Below.refl _ _).alloc (Nat.le_refl _) _
      go_wp2_with (at_builtin; refine wpList_append_lies _ (by rfl) (.tmp 21) (.tmp 23) _ (by rfl) w.heap.size 22 j0 _ 1 24 Try.underlying30 hj0 hy0 hy1 hy2 rfl (by omega) _ _ _ (by rfl) ((own_keep hmat.own bw1).alloc _) ⟨wr.heap.size + 1, 0, none⟩ 1 1 [.slice (some ⟨wr.heap.size, 0, none⟩) n n] (by rfl) (by rfl) (World.news_of_block (cs := #[.slice (some ⟨wr.heap.size, 0, none⟩) n n]) (t := 22) (fr := (0, 0)) (heap_alloc2_new wr _ _)) (by simp [Value.oneCell']) (by omega) hmx2 (by omega) (by simp; omega) (wr.heap.size + 2) (by simp) ?_; intro gg c2 w2 hown2 hgrow2 hat hlt')
      have hp := OwnMat.push hmat bw1 hsz hrow1 ⟨Nat.le_refl _, by unfold maxLen; omega⟩ (fun a ha => by cases ha; exact ⟨Nat.le_refl _, by rw [size_alloc]; exact Nat.lt_succ_self _⟩) hgrow2 (by rw [size_alloc]; exact hat) hown2
      go_roundw
      case rel => exact ⟨k + 1, _, _, _, _, by omega, by go_num, hp.1, same_upd (L := fun _ => n) (Z := oneZ) hsame, hw.trans' hp.2⟩
      case measure => simp [intOf]; omega
    · have ek : n = k := by omega
      subst ek
      go_wp2
      go_ret2
      exact ⟨_, _, _, rfl, hmat.congr hsame, hw⟩

end Go.Proofs.Ytpgjkhlffcomgaa
