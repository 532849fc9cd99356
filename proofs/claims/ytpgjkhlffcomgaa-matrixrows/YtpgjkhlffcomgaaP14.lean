/- A matrix copied, whose rows may be written over; writing over rows: what else is in memory stays. -/
import Derived.Test.YtpgjkhlffcomgaaP13
import Derived.Deep.RegionWith
import Derived.BigRegion
import Derived.Deep.DrawnRows
import Derived.Laws.Unary
namespace Go.Proofs.Ytpgjkhlffcomgaa
open Go.RowKit

/-- rows whose blocks may be written over -/
def FreeRows (W : World) (n : Nat) (R : Nat → Option Addr) : Prop := ∀ r a, r < n → R r = some a → ∃ cur, W.heap[a.block]? = some (.cells cur 5 (0, 0))

theorem FreeRows.keep {W W' : World} {n : Nat} {R : Nat → Option Addr} (h : FreeRows W n R) (b : Bw W W') : FreeRows W' n R := fun r a hr ha => by
  obtain ⟨cur, hc⟩ := h r a hr ha
  exact ⟨cur, (b.block _ (Array.getElem?_eq_some_iff.1 hc).1).trans hc⟩

theorem own_free {W : World} {base n : Nat} {A : Option Addr} {c : Nat} {xs : List Value} (h : W.ownsRow base 5 1 (.slice A n c) n xs) : ∀ a, A = some a → ∃ cur, W.heap[a.block]? = some (.cells cur 5 (0, 0)) := by
  intro a ha
  rcases h.2 with ⟨hv, _⟩ | ⟨g, cap, cur, hv, hb, hg, _⟩
  · cases hv; cases ha
  · cases hv; cases ha; exact ⟨cur, hg⟩

theorem own_free' {W : World} {base n : Nat} {v : Value} {xs : List Value} (h : W.ownsRow base 5 1 v n xs) : ∀ A m c, v = .slice A m c → ∀ a, A = some a → ∃ cur, W.heap[a.block]? = some (.cells cur 5 (0, 0)) := by
  intro A m c e a ha
  rcases h.2 with ⟨hv, _⟩ | ⟨g, cap, cur, hv, hb, hg, _⟩
  · rw [hv] at e; cases e; cases ha
  · rw [hv] at e; cases e; cases ha; exact ⟨cur, hg⟩

theorem FreeRows.push {W W1 w2 : World} {base : Nat} {v : Value} {n : Nat} {R : Nat → Option Addr} {L C : Nat → Nat} {Z : Nat → Nat → Int} (f : FreeRows W n R) (h : OwnMat W base v n R L C Z) (b1 : Bw W W1) {A1 : Option Addr}
    (hf : ∀ a, A1 = some a → ∃ cur, W1.heap[a.block]? = some (.cells cur 5 (0, 0))) (hA : ∀ a, A1 = some a → W.heap.size ≤ a.block ∧ a.block < W1.heap.size) {o : Obj} (hgrow : (W1.alloc o).grownBy w2 v.ownBlock) : FreeRows w2 (n + 1) (upd R n A1) := by
  have ba : Bw W1 (W1.alloc o) := (Below.refl _ _).alloc (Nat.le_refl _) o
  have hlt := own_lt h.own
  intro r a hr ha
  by_cases e : r = n
  · subst e
    rw [upd_at] at ha
    obtain ⟨cur, hc⟩ := hf a ha
    have h1 := (ba.block _ (Array.getElem?_eq_some_iff.1 hc).1).trans hc
    exact ⟨cur, (hgrow.block _ (Array.getElem?_eq_some_iff.1 h1).1 (fun e => by have := hA a ha; have := hlt _ e.symm; omega)).trans h1⟩
  · rw [upd_ne _ _ e] at ha
    obtain ⟨cur, hc⟩ := f r a (by omega) ha
    have h0 := (b1.block _ (Array.getElem?_eq_some_iff.1 hc).1).trans hc
    have h1 := (ba.block _ (Array.getElem?_eq_some_iff.1 h0).1).trans h0
    exact ⟨cur, (hgrow.block _ (Array.getElem?_eq_some_iff.1 h1).1 (fun e => (h.apart r a (by omega) ha).2.2 e.symm)).trans h1⟩

set_option maxHeartbeats 1000000 in
theorem rcopied_free (A : Option Addr) (n cap : Nat) (R : Nat → Option Addr) (L C : Nat → Nat) (Z : Nat → Nat → Int) (w : World) (h : MatAt w A n R L C Z) (hC : ∀ r, r < n → R r = none → C r = 0)
    (hL : ∀ r, r < n → L r ≤ 140737488351232) (hn : n ≤ 5000000000) :
    Calls Try.prog 16 #[.slice A n cap] w fun e w' => ∃ v R' C', e = .returned v ∧ OwnMat w' w.heap.size v n R' L C' Z ∧ FreeRows w' n R' ∧ Bw w w' := by
  obtain ⟨i0, hi0, hz0, hz1, hz2⟩ := info_parts info_u8
  obtain ⟨j0, hj0, hy0, hy1, hy2⟩ := info_parts info_row
  go_enter Try.func16, Try.ntmps16
  go_wp2
  go_loopw [3, 4] (fun v i wr => ∃ (k : Nat) (R' : Nat → Option Addr) (L' C' : Nat → Nat) (Z' : Nat → Nat → Int), k ≤ n ∧ i = .int .i64 k ∧ OwnMat wr w.heap.size v k R' L' C' Z' ∧ Hid (∀ r, r < k → L' r = L r ∧ Z' r = Z r) ∧ FreeRows wr k R' ∧ Bw w wr) (fun _ i _ => n - (intOf i).toNat)
  case atStart => exact ⟨0, fun _ => none, fun _ => 0, fun _ => 0, Z, Nat.zero_le _, rfl, OwnMat.nil _ _ _ _ _ _, (fun r hr => by omega), (fun r a hr => by omega), Bw.refl _⟩
  case round =>
    obtain ⟨k, R', L', C', Z', hk, rfl, hmat, hsame, hfree, hw⟩ := hrel
    by_cases hlt : k < n
    · obtain ⟨b1, o1, rfl, hc1⟩ := (h.keep hw).at hlt
      have h1 := hc1 k hlt
      have hr := (h.2 k hlt).keep hw
      have hCk := hC k hlt
      have hLk := hL k hlt
      have hsz := hw.size
      have hmx : 0 + L k ≤ maxLen := by unfold maxLen; omega
      have hmx2 : k + 1 ≤ maxLen := by unfold maxLen; omega
      have hb1 : b1 < wr.heap.size := block_lt_of_cell h1
      have hZ := hr.2
      clear hc1
      go_wp2_with (first | (at_builtin; refine wpList_append_rowat _ (by rfl) (.tmp 12) (.tmp 16) _ (by rfl) wr.heap.size 5 i0 _ 1 Try.underlying22 hi0 hz0 hz1 hz2 rfl _ _ _ (by rfl) (own_empty wr wr.heap.size _ (Nat.le_refl _)) (R k) (L k) (C k) (Z k) (by rfl) (hr.keep ((Below.refl _ _).alloc (Nat.le_refl _) _)) hCk hmx (by omega) (by simp) ?_; intro v1 w1 hown1 hgrow1; simp only [Nat.zero_add, List.nil_append] at hown1; obtain ⟨A1, cap1, rfl, hl1, hc1, hrow1, hA1⟩ := row_of_own hZ hown1; have hfr1 := own_free hown1; have bw1 := bw_fresh hgrow1; have sz1 := bw1.size; clear hown1 hgrow1) | (at_builtin; refine wpList_append_lies _ (by rfl) (.tmp 11) (.tmp 18) _ (by rfl) w.heap.size 22 j0 _ 1 24 Try.underlying30 hj0 hy0 hy1 hy2 rfl (by omega) _ _ _ (by rfl) ((own_keep hmat.own bw1).alloc _) ⟨w1.heap.size, 0, none⟩ 1 1 [.slice A1 (L k) cap1] (by rfl) (by rfl) (World.news_of_block (cs := #[.slice A1 (L k) cap1]) (t := 22) (fr := (0, 0)) (heap_alloc_new w1 _)) (by simp [Value.oneCell']) (by omega) hmx2 (by omega) (by simp; omega) (w1.heap.size + 1) (by simp) ?_; intro gg c2 w2 hown2 hgrow2 hat hlt'))
      have hp := OwnMat.push hmat bw1 hsz hrow1 ⟨hl1, hc1⟩ hA1 hgrow2 hat hown2
      have hfp := hfree.push hmat bw1 hfr1 hA1 hgrow2
      go_roundw
      case rel => exact ⟨k + 1, _, _, _, _, by omega, by go_num, hp.1, same_upd hsame, hfp, hw.trans' hp.2⟩
      case measure => simp [intOf]; omega
    · have ek : n = k := by omega
      subst ek
      go_wp2
      go_ret
      exact ⟨_, _, _, rfl, hmat.congr hsame, hfree, hw⟩


/-- a row that may be written over -/
def RowW (w : World) (S : Nat → Prop) (A : Option Addr) (L : Nat) : Prop :=
  L = 0 ∨ ∃ b off, A = some ⟨b, off, none⟩ ∧ S b ∧ ∀ i, i < L → (∃ x, w.cell? ⟨b, off + i, none⟩ = some (.int .u8 x) ∧ 0 ≤ x ∧ x < 256) ∧ w.frozen? ⟨b, off + i, none⟩ = false

theorem RowW.put {w : World} {S : Nat → Prop} {A : Option Addr} {L : Nat} (h : RowW w S A L) {b i : Nat} {x : Int} (hx : 0 ≤ x ∧ x < 256) : RowW (w.setCell ⟨b, i, none⟩ (.int .u8 x)) S A L := by
  rcases h with h | ⟨b', off, hA, h1, hr⟩
  · exact Or.inl h
  · refine Or.inr ⟨b', off, hA, h1, fun j hj => ?_⟩
    obtain ⟨⟨y, hy, hb⟩, hf⟩ := hr j hj
    refine ⟨?_, by rw [World.frozen?_setCell]; exact hf⟩
    by_cases e : (⟨b, i, none⟩ : Addr) = ⟨b', off + j, none⟩
    · rw [e]
      exact ⟨x, World.cell?_setCell_same' _ _ _ (by rw [hy]; rfl), hx⟩
    · exact ⟨y, (cell_other' e).trans hy, hb⟩

/-- a matrix whose rows may be written over; its heads lie outside -/
structure MatW (w : World) (S : Nat → Prop) (A : Option Addr) (n : Nat) (R : Nat → Option Addr) (L C : Nat → Nat) : Prop where
  outer : n = 0 ∨ ∃ b off, A = some ⟨b, off, none⟩ ∧ ¬ S b ∧ ∀ r, r < n → w.cell? ⟨b, off + r, none⟩ = some (.slice (R r) (L r) (C r))
  row : ∀ r, r < n → RowW w S (R r) (L r)

theorem MatW.put {w : World} {S : Nat → Prop} {A : Option Addr} {n : Nat} {R : Nat → Option Addr} {L C : Nat → Nat} (h : MatW w S A n R L C) {b i : Nat} {x : Int} (hx : 0 ≤ x ∧ x < 256) (h1 : S b) : MatW (w.setCell ⟨b, i, none⟩ (.int .u8 x)) S A n R L C := by
  refine ⟨?_, fun r hr => (h.row r hr).put hx⟩
  rcases h.outer with h0 | ⟨b', off, hA, hb, hc⟩
  · exact Or.inl h0
  · refine Or.inr ⟨b', off, hA, hb, fun r hr => ?_⟩
    exact (cell_other' (fun e => by simp only [Addr.mk.injEq] at e; exact hb (e.1 ▸ h1))).trans (hc r hr)

theorem MatW.drew {w : World} {S : Nat → Prop} {A : Option Addr} {n : Nat} {R : Nat → Option Addr} {L C : Nat → Nat} (h : MatW w S A n R L C) : MatW w.drew S A n R L C := ⟨h.outer, h.row⟩

section
attribute [local go_sem ↓] Go.wp_at_zero Go.wp_at_succ
set_option maxRecDepth 100000 in
set_option maxHeartbeats 2000000 in
theorem spoilt_any (A : Option Addr) (n cap : Nat) (S : Nat → Prop) (R : Nat → Option Addr) (L C : Nat → Nat) (hn : n ≤ 140737488355328) (hL : ∀ r, r < n → L r ≤ 140737488355328) (w : World) (h : MatW w S A n R L C) :
    Calls Try.prog 12 #[.slice A n cap] w fun e w' => e = .returned (.tuple #[]) ∧ Bx S w w' := by
  go_enter Try.func12, Try.ntmps12
  go_wp2
  go_loopw [2, 3] (fun i _ wr => ∃ k : Nat, k ≤ n ∧ i = .int .i64 k ∧ MatW wr S A n R L C ∧ Bx S w wr) (fun i _ _ => n - (intOf i).toNat)
  case atStart => exact ⟨0, Nat.zero_le _, rfl, h, Bx.refl _ _⟩
  case round =>
    rename World => wo
    obtain ⟨k, hk, rfl, hm, ho⟩ := hrel
    by_cases hlt : k < n
    · have hLk := hL k hlt
      go_wp2
      go_loopw [3] (fun i wr => ∃ j : Nat, j ≤ L k ∧ i = .int .i64 j ∧ MatW wr S A n R L C ∧ Bx S w wr) (fun i _ => L k - (intOf i).toNat)
      case atStart => exact ⟨0, Nat.zero_le _, rfl, hm, ho⟩
      case round =>
        obtain ⟨j, hj, rfl, hmr, hor⟩ := hrel
        obtain ⟨b1, o1, rfl, hb1, hc1⟩ : ∃ b off, A = some ⟨b, off, none⟩ ∧ ¬ S b ∧ ∀ r, r < n → wr.cell? ⟨b, off + r, none⟩ = some (.slice (R r) (L r) (C r)) := hmr.outer.resolve_left (by omega)
        have h1 := hc1 k hlt
        by_cases hjl : j < L k
        · obtain ⟨b2, o2, e2, hS, hc2⟩ := (hmr.row k hlt).resolve_left (by omega)
          obtain ⟨⟨x, hx, hxb⟩, hfx⟩ := hc2 j hjl
          rw [e2] at h1
          have hne : b1 ≠ b2 := fun e => hb1 (e ▸ hS)
          have ik : (k : Int) < (n : Int) := by omega
          have ij : (j : Int) < (L k : Int) := by omega
          have ik0 : (0 : Int) ≤ (k : Int) := Int.natCast_nonneg _
          have ij0 : (0 : Int) ≤ (j : Int) := Int.natCast_nonneg _
          clear hc1 hc2
          go_wp2
          have hnb : 0 ≤ bits BinOp.xor IntKind.u8 (if IntKind.u8.signed = true then -1 else IntKind.u8.max) x ∧ bits BinOp.xor IntKind.u8 (if IntKind.u8.signed = true then -1 else IntKind.u8.max) x < 256 := by
            rw [show (if IntKind.u8.signed = true then (-1 : Int) else IntKind.u8.max) = 255 from rfl, u8_xor 255 x (by decide) (by decide) hxb.1 hxb.2]
            have := Gf.xor_lt (255 : Int).toNat x.toNat (by decide) (by omega)
            omega
          go_region
          go_wp2
          go_roundw
          case rel => exact ⟨j + 1, by omega, by go_num, (hmr.put hnb hS).drew, (hor.put hS).drew⟩
          case measure => simp [intOf]; omega
        · have ej : L k = j := by omega
          go_wp2
          go_roundw
          case rel => exact ⟨k + 1, by omega, by go_num, hmr, hor⟩
          case measure => simp [intOf]; omega
    · have ek : n = k := by omega
      subst ek
      go_wp2
      go_end0
      exact ⟨rfl, ho⟩
end

/-- the rows' blocks of a matrix -/
def RowsOf (n : Nat) (R : Nat → Option Addr) (b : Nat) : Prop := ∃ r a, r < n ∧ R r = some a ∧ a.block = b

theorem matw_of {W : World} {base : Nat} {v : Value} {n : Nat} {R : Nat → Option Addr} {L C : Nat → Nat} {Z : Nat → Nat → Int} (h : OwnMat W base v n R L C Z) (f : FreeRows W n R) :
    ∃ A cap, v = .slice A n cap ∧ MatAt W A n R L C Z ∧ MatW W (RowsOf n R) A n R L C := by
  obtain ⟨A, cap, rfl, hm⟩ := mat_of_own h.own h.row
  refine ⟨A, cap, rfl, hm, ?_, fun r hr => ?_⟩
  · rcases hm.1 with h0 | ⟨b, off, e, hc⟩
    · exact Or.inl h0
    · refine Or.inr ⟨b, off, e, ?_, hc⟩
      rintro ⟨r, a, hr, ha, rfl⟩
      refine (h.apart r a hr ha).2.2 ?_
      rw [e]
      rcases h.own.2 with ⟨hv, hn0⟩ | ⟨g, cap', cur, hv, _⟩
      · omega
      · rw [e] at hv; cases hv; rfl
  · rcases (h.row r hr).1 with h0 | ⟨b, off, e, hc⟩
    · exact Or.inl h0
    · refine Or.inr ⟨b, off, e, ⟨r, _, hr, e, rfl⟩, fun i hi => ?_⟩
      obtain ⟨cur, hcur⟩ := f r _ hr e
      exact ⟨⟨_, hc i hi, (h.row r hr).2 i⟩, frozen_of_row W b (off + i) cur _ hcur⟩

theorem MatAt.keepx {S : Nat → Prop} {w w' : World} {A : Option Addr} {n : Nat} {R : Nat → Option Addr} {L C : Nat → Nat} {Z : Nat → Nat → Int} {base : Nat} (h : NewMat w base A n R L C Z) (k : Bx S w w') (hS : ∀ b, S b → b < base) : NewMat w' base A n R L C Z := by
  refine ⟨⟨?_, fun r hr => ?_⟩, ?_, fun r hr => ?_⟩
  · rcases h.mat.1 with h0 | ⟨b, off, e, hc⟩
    · exact Or.inl h0
    · by_cases hn : n = 0
      · exact Or.inl hn
      · obtain ⟨g, o, e', hg, hl⟩ := h.head.resolve_left hn
        rw [e] at e'; cases e'
        refine Or.inr ⟨b, off, e, fun r hr => ?_⟩
        rw [World.cell?_of_block (w := w) (k.block b hl (fun e => by have := hS b e; omega))]
        exact hc r hr
  · refine (h.mat.2 r hr).keepx k (fun b o e hL hs => ?_)
    obtain ⟨g, o', e', hg, hl⟩ := (h.rows r hr).resolve_left (by omega)
    rw [e] at e'; cases e'
    have := hS b hs; omega
  · rcases h.head with h0 | ⟨g, o, e, h1, h2⟩
    · exact Or.inl h0
    · exact Or.inr ⟨g, o, e, h1, Nat.lt_of_lt_of_le h2 k.size⟩
  · rcases h.rows r hr with h0 | ⟨g, o, e, h1, h2⟩
    · exact Or.inl h0
    · exact Or.inr ⟨g, o, e, h1, Nat.lt_of_lt_of_le h2 k.size⟩

end Go.Proofs.Ytpgjkhlffcomgaa
