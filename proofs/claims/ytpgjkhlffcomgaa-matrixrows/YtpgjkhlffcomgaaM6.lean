/- What the document's own Copied makes: the same matrix in memory of its own. -/
import Derived.Test.YtpgjkhlffcomgaaM5
namespace Go.Proofs.Ytpgjkhlffcomgaa
open Go.RowKit

theorem Bw.trans' {a b c : World} (h : Bw a b) (k : Below a.heap.size b c) : Bw a c := Below.trans h k

theorem same_upd {k : Nat} {L L' : Nat → Nat} {Z Z' : Nat → Nat → Int} (h : Hid (∀ r, r < k → L' r = L r ∧ Z' r = Z r)) : Hid (∀ r, r < k + 1 → upd L' k (L k) r = L r ∧ upd Z' k (Z k) r = Z r) := fun r hr => by
  by_cases e : r = k
  · subst e; rw [upd_at, upd_at]; exact ⟨rfl, rfl⟩
  · rw [upd_ne _ _ e, upd_ne _ _ e]; exact h r (by omega)

theorem OwnMat.congr {W : World} {base : Nat} {v : Value} {n : Nat} {R : Nat → Option Addr} {L L' C : Nat → Nat} {Z Z' : Nat → Nat → Int} (h : OwnMat W base v n R L' C Z') (e : ∀ r, r < n → L' r = L r ∧ Z' r = Z r) : OwnMat W base v n R L C Z := by
  refine ⟨?_, fun r hr => ?_, fun r hr => ?_, h.apart⟩
  · rw [rowsU_congr (R' := R) (L' := L') (C' := C) (fun r hr => ⟨rfl, (e r hr).1.symm, rfl⟩)]; exact h.own
  · rw [← (e r hr).1, ← (e r hr).2]; exact h.row r hr
  · rw [← (e r hr).1]; exact h.cap r hr

/-- a block laid anew and appended to: what was there stays -/
theorem bw_fresh {W w1 : World} {o : Obj} {n cap : Nat} (h : (W.alloc o).grownBy w1 (Value.slice (some ⟨W.heap.size, 0, none⟩) n cap).ownBlock) : Bw W w1 :=
  ((Below.refl _ _).alloc (Nat.le_refl _) o).grown h (by rw [size_alloc]; omega) (fun k hk => by simp only [Value.ownBlock, Option.some.injEq] at hk; omega)

set_option maxHeartbeats 1000000 in
theorem rcopied_any (A : Option Addr) (n cap : Nat) (R : Nat → Option Addr) (L C : Nat → Nat) (Z : Nat → Nat → Int) (w : World) (h : MatAt w A n R L C Z) (hC : ∀ r, r < n → R r = none → C r = 0)
    (hL : ∀ r, r < n → L r ≤ 140737488351232) (hn : n ≤ 5000000000) :
    Calls Try.prog 16 #[.slice A n cap] w fun e w' => ∃ v R' C', e = .returned v ∧ OwnMat w' w.heap.size v n R' L C' Z ∧ Bw w w' := by
  obtain ⟨i0, hi0, hz0, hz1, hz2⟩ := info_parts info_u8
  obtain ⟨j0, hj0, hy0, hy1, hy2⟩ := info_parts info_row
  go_enter Try.func16, Try.ntmps16
  go_wp2
  go_loopw [3, 4] (fun v i wr => ∃ (k : Nat) (R' : Nat → Option Addr) (L' C' : Nat → Nat) (Z' : Nat → Nat → Int), k ≤ n ∧ i = .int .i64 k ∧ OwnMat wr w.heap.size v k R' L' C' Z' ∧ Hid (∀ r, r < k → L' r = L r ∧ Z' r = Z r) ∧ Bw w wr) (fun _ i _ => n - (intOf i).toNat)
  case atStart => exact ⟨0, fun _ => none, fun _ => 0, fun _ => 0, Z, Nat.zero_le _, rfl, OwnMat.nil _ _ _ _ _ _, (fun r hr => by omega), Bw.refl _⟩
  case round =>
    obtain ⟨k, R', L', C', Z', hk, rfl, hmat, hsame, hw⟩ := hrel
    by_cases hlt : k < n
    · obtain ⟨b1, o1, rfl, hc1⟩ := (h.keep hw).at hlt
      have h1 := hc1 k hlt
      have hr := (h.2 k hlt).keep hw
      have hCk := hC k hlt
      have hLk := hL k hlt
      have hsz := hw.size
      have hmx : 0 + L k ≤ maxLen := by unfold maxLen; omega
      have hmx2 : k + 1 ≤ maxLen := by unfold maxLen; omega
      have hb1 : b1 < wr.heap.size := block_lt_of_cell h1
      have hZ := hr.2
      clear hc1
      go_wp2_with (first | (at_builtin; refine wpList_append_rowat _ (by rfl) (.tmp 12) (.tmp 16) _ (by rfl) wr.heap.size 5 i0 _ 1 Try.underlying22 hi0 hz0 hz1 hz2 rfl _ _ _ (by rfl) (own_empty wr wr.heap.size _ (Nat.le_refl _)) (R k) (L k) (C k) (Z k) (by rfl) (hr.keep ((Below.refl _ _).alloc (Nat.le_refl _) _)) hCk hmx (by omega) (by simp) ?_; intro v1 w1 hown1 hgrow1; simp only [Nat.zero_add, List.nil_append] at hown1; obtain ⟨A1, cap1, rfl, hl1, hc1, hrow1, hA1⟩ := row_of_own hZ hown1; have bw1 := bw_fresh hgrow1; have sz1 := bw1.size; clear hown1 hgrow1) | (at_builtin; refine wpList_append_lies _ (by rfl) (.tmp 11) (.tmp 18) _ (by rfl) w.heap.size 22 j0 _ 1 24 Try.underlying30 hj0 hy0 hy1 hy2 rfl (by omega) _ _ _ (by rfl) ((own_keep hmat.own bw1).alloc _) ⟨w1.heap.size, 0, none⟩ 1 1 [.slice A1 (L k) cap1] (by rfl) (by rfl) (World.news_of_block (cs := #[.slice A1 (L k) cap1]) (t := 22) (fr := (0, 0)) (heap_alloc_new w1 _)) (by simp [Value.oneCell']) (by omega) hmx2 (by omega) (by simp; omega) (w1.heap.size + 1) (by simp) ?_; intro gg c2 w2 hown2 hgrow2 hat hlt'))
      have hp := OwnMat.push hmat bw1 hsz hrow1 ⟨hl1, hc1⟩ hA1 hgrow2 hat hown2
      go_roundw
      case rel => exact ⟨k + 1, _, _, _, _, by omega, by go_num, hp.1, same_upd hsame, hw.trans' hp.2⟩
      case measure => simp [intOf]; omega
    · have ek : n = k := by omega
      subst ek
      go_wp2
      go_ret
      exact ⟨_, _, _, rfl, hmat.congr hsame, hw⟩

end Go.Proofs.Ytpgjkhlffcomgaa
