/- Texts of mine, put together. -/
import Derived.Test.YtbhbdhkifkmkbaaB6
import Derived.Deep.RegionWith
import Derived.BigRegion
import Derived.Deep.DrawnRows
import Derived.Laws.Unary

set_option linter.unusedVariables false

/- A matrix copied, whose rows may be written over; writing over rows: what else is in memory stays. -/
namespace Go.Proofs.Ytbhbdhkifkmkbaa
open Go.RowKit

/-- rows whose blocks may be written over -/
def FreeRows (W : World) (n : Nat) (R : Nat → Option Addr) : Prop := ∀ r a, r < n → R r = some a → ∃ cur, W.heap[a.block]? = some (.cells cur 5 (0, 0))

theorem FreeRows.keep {W W' : World} {n : Nat} {R : Nat → Option Addr} (h : FreeRows W n R) (b : Bw W W') : FreeRows W' n R := fun r a hr ha => by
  obtain ⟨cur, hc⟩ := h r a hr ha
  exact ⟨cur, (b.block _ (Array.getElem?_eq_some_iff.1 hc).1).trans hc⟩

theorem own_free {W : World} {base n : Nat} {A : Option Addr} {c : Nat} {xs : List Value} (h : W.ownsRow base 5 1 (.slice A n c) n xs) : ∀ a, A = some a → ∃ cur, W.heap[a.block]? = some (.cells cur 5 (0, 0)) := by
  intro a ha
  rcases h.2 with ⟨hv, _⟩ | ⟨g, cap, cur, hv, hb, hg, _⟩
  · cases hv; cases ha
  · cases hv; cases ha; exact ⟨cur, hg⟩

theorem own_free' {W : World} {base n : Nat} {v : Value} {xs : List Value} (h : W.ownsRow base 5 1 v n xs) : ∀ A m c, v = .slice A m c → ∀ a, A = some a → ∃ cur, W.heap[a.block]? = some (.cells cur 5 (0, 0)) := by
  intro A m c e a ha
  rcases h.2 with ⟨hv, _⟩ | ⟨g, cap, cur, hv, hb, hg, _⟩
  · rw [hv] at e; cases e; cases ha
  · rw [hv] at e; cases e; cases ha; exact ⟨cur, hg⟩

theorem FreeRows.push {W W1 w2 : World} {base : Nat} {v : Value} {n : Nat} {R : Nat → Option Addr} {L C : Nat → Nat} {Z : Nat → Nat → Int} (f : FreeRows W n R) (h : OwnMat W base v n R L C Z) (b1 : Bw W W1) {A1 : Option Addr}
    (hf : ∀ a, A1 = some a → ∃ cur, W1.heap[a.block]? = some (.cells cur 5 (0, 0))) (hA : ∀ a, A1 = some a → W.heap.size ≤ a.block ∧ a.block < W1.heap.size) {o : Obj} (hgrow : (W1.alloc o).grownBy w2 v.ownBlock) : FreeRows w2 (n + 1) (upd R n A1) := by
  have ba : Bw W1 (W1.alloc o) := (Below.refl _ _).alloc (Nat.le_refl _) o
  have hlt := own_lt h.own
  intro r a hr ha
  by_cases e : r = n
  · subst e
    rw [upd_at] at ha
    obtain ⟨cur, hc⟩ := hf a ha
    have h1 := (ba.block _ (Array.getElem?_eq_some_iff.1 hc).1).trans hc
    exact ⟨cur, (hgrow.block _ (Array.getElem?_eq_some_iff.1 h1).1 (fun e => by have := hA a ha; have := hlt _ e.symm; omega)).trans h1⟩
  · rw [upd_ne _ _ e] at ha
    obtain ⟨cur, hc⟩ := f r a (by omega) ha
    have h0 := (b1.block _ (Array.getElem?_eq_some_iff.1 hc).1).trans hc
    have h1 := (ba.block _ (Array.getElem?_eq_some_iff.1 h0).1).trans h0
    exact ⟨cur, (hgrow.block _ (Array.getElem?_eq_some_iff.1 h1).1 (fun e => (h.apart r a (by omega) ha).2.2 e.symm)).trans h1⟩

set_option maxHeartbeats 1000000 in
theorem rcopied_free (A : Option Addr) (n cap : Nat) (R : Nat → Option Addr) (L C : Nat → Nat) (Z : Nat → Nat → Int) (w : World) (h : MatAt w A n R L C Z) (hC : ∀ r, r < n → R r = none → C r = 0)
    (hL : ∀ r, r < n → L r ≤ 140737488351232) (hn : n ≤ 5000000000) :
    Calls Try.prog 13 #[.slice A n cap] w fun e w' => ∃ v R' C', e = .returned v ∧ OwnMat w' w.heap.size v n R' L C' Z ∧ FreeRows w' n R' ∧ Bw w w' := by
  obtain ⟨i0, hi0, hz0, hz1, hz2⟩ := info_parts info_u8
  obtain ⟨j0, hj0, hy0, hy1, hy2⟩ := info_parts info_row
  go_enter Try.func13, Try.ntmps13
  go_wp2
  go_loopw [3, 4] (fun v i wr => ∃ (k : Nat) (R' : Nat → Option Addr) (L' C' : Nat → Nat) (Z' : Nat → Nat → Int), k ≤ n ∧ i = .int .i64 k ∧ OwnMat wr w.heap.size v k R' L' C' Z' ∧ Hid (∀ r, r < k → L' r = L r ∧ Z' r = Z r) ∧ FreeRows wr k R' ∧ Bw w wr) (fun _ i _ => n - (intOf i).toNat)
  case atStart => exact ⟨0, fun _ => none, fun _ => 0, fun _ => 0, Z, Nat.zero_le _, rfl, OwnMat.nil _ _ _ _ _ _, (fun r hr => by omega), (fun r a hr => by omega), Bw.refl _⟩
  case round =>
    obtain ⟨k, R', L', C', Z', hk, rfl, hmat, hsame, hfree, hw⟩ := hrel
    by_cases hlt : k < n
    · obtain ⟨b1, o1, rfl, hc1⟩ := (h.keep hw).at hlt
      have h1 := hc1 k hlt
      have hr := (h.2 k hlt).keep hw
      have hCk := hC k hlt
      have hLk := hL k hlt
      have hsz := hw.size
      have hmx : 0 + L k ≤ maxLen := by unfold maxLen; omega
      have hmx2 : k + 1 ≤ maxLen := by unfold maxLen; omega
      have hb1 : b1 < wr.heap.size := block_lt_of_cell h1
      have hZ := hr.2
      clear hc1
      go_wp2_with (first | (at_builtin; refine wpList_append_rowat _ (by rfl) (.tmp 12) (.tmp 16) _ (by rfl) wr.heap.size 5 i0 _ 1 Try.underlying37 hi0 hz0 hz1 hz2 rfl _ _ _ (by rfl) (own_empty wr wr.heap.size _ (Nat.le_refl _)) (R k) (L k) (C k) (Z k) (by rfl) (hr.keep ((Below.refl _ _).alloc (Nat.le_refl _) _)) hCk hmx (by omega) (by simp) ?_; intro v1 w1 hown1 hgrow1; simp only [Nat.zero_add, List.nil_append] at hown1; obtain ⟨A1, cap1, rfl, hl1, hc1, hrow1, hA1⟩ := row_of_own hZ hown1; have hfr1 := own_free hown1; have bw1 := bw_fresh hgrow1; have sz1 := bw1.size; clear hown1 hgrow1) | (at_builtin; refine wpList_append_lies _ (by rfl) (.tmp 11) (.tmp 18) _ (by rfl) w.heap.size 37 j0 _ 1 24 Try.underlying22 hj0 hy0 hy1 hy2 rfl (by omega) _ _ _ (by rfl) ((own_keep hmat.own bw1).alloc _) ⟨w1.heap.size, 0, none⟩ 1 1 [.slice A1 (L k) cap1] (by rfl) (by rfl) (World.news_of_block (cs := #[.slice A1 (L k) cap1]) (t := 37) (fr := (0, 0)) (heap_alloc_new w1 _)) (by simp [Value.oneCell']) (by omega) hmx2 (by omega) (by simp; omega) (w1.heap.size + 1) (by simp) ?_; intro gg c2 w2 hown2 hgrow2 hat hlt'))
      have hp := OwnMat.push hmat bw1 hsz hrow1 ⟨hl1, hc1⟩ hA1 hgrow2 hat hown2
      have hfp := hfree.push hmat bw1 hfr1 hA1 hgrow2
      go_roundw
      case rel => exact ⟨k + 1, _, _, _, _, by omega, by go_num, hp.1, same_upd hsame, hfp, hw.trans' hp.2⟩
      case measure => simp [intOf]; omega
    · have ek : n = k := by omega
      subst ek
      go_wp2
      go_ret
      exact ⟨_, _, _, rfl, hmat.congr hsame, hfree, hw⟩


/-- a row that may be written over -/
def RowW (w : World) (S : Nat → Prop) (A : Option Addr) (L : Nat) : Prop :=
  L = 0 ∨ ∃ b off, A = some ⟨b, off, none⟩ ∧ S b ∧ ∀ i, i < L → (∃ x, w.cell? ⟨b, off + i, none⟩ = some (.int .u8 x) ∧ 0 ≤ x ∧ x < 256) ∧ w.frozen? ⟨b, off + i, none⟩ = false

theorem RowW.put {w : World} {S : Nat → Prop} {A : Option Addr} {L : Nat} (h : RowW w S A L) {b i : Nat} {x : Int} (hx : 0 ≤ x ∧ x < 256) : RowW (w.setCell ⟨b, i, none⟩ (.int .u8 x)) S A L := by
  rcases h with h | ⟨b', off, hA, h1, hr⟩
  · exact Or.inl h
  · refine Or.inr ⟨b', off, hA, h1, fun j hj => ?_⟩
    obtain ⟨⟨y, hy, hb⟩, hf⟩ := hr j hj
    refine ⟨?_, by rw [World.frozen?_setCell]; exact hf⟩
    by_cases e : (⟨b, i, none⟩ : Addr) = ⟨b', off + j, none⟩
    · rw [e]
      exact ⟨x, World.cell?_setCell_same' _ _ _ (by rw [hy]; rfl), hx⟩
    · exact ⟨y, (cell_other' e).trans hy, hb⟩

/-- a matrix whose rows may be written over; its heads lie outside -/
structure MatW (w : World) (S : Nat → Prop) (A : Option Addr) (n : Nat) (R : Nat → Option Addr) (L C : Nat → Nat) : Prop where
  outer : n = 0 ∨ ∃ b off, A = some ⟨b, off, none⟩ ∧ ¬ S b ∧ ∀ r, r < n → w.cell? ⟨b, off + r, none⟩ = some (.slice (R r) (L r) (C r))
  row : ∀ r, r < n → RowW w S (R r) (L r)

theorem MatW.put {w : World} {S : Nat → Prop} {A : Option Addr} {n : Nat} {R : Nat → Option Addr} {L C : Nat → Nat} (h : MatW w S A n R L C) {b i : Nat} {x : Int} (hx : 0 ≤ x ∧ x < 256) (h1 : S b) : MatW (w.setCell ⟨b, i, none⟩ (.int .u8 x)) S A n R L C := by
  refine ⟨?_, fun r hr => (h.row r hr).put hx⟩
  rcases h.outer with h0 | ⟨b', off, hA, hb, hc⟩
  · exact Or.inl h0
  · refine Or.inr ⟨b', off, hA, hb, fun r hr => ?_⟩
    exact (cell_other' (fun e => by simp only [Addr.mk.injEq] at e; exact hb (e.1 ▸ h1))).trans (hc r hr)

theorem MatW.drew {w : World} {S : Nat → Prop} {A : Option Addr} {n : Nat} {R : Nat → Option Addr} {L C : Nat → Nat} (h : MatW w S A n R L C) : MatW w.drew S A n R L C := ⟨h.outer, h.row⟩

section
attribute [local go_sem ↓] Go.wp_at_zero Go.wp_at_succ
end

/-- the rows' blocks of a matrix -/
def RowsOf (n : Nat) (R : Nat → Option Addr) (b : Nat) : Prop := ∃ r a, r < n ∧ R r = some a ∧ a.block = b

theorem matw_of {W : World} {base : Nat} {v : Value} {n : Nat} {R : Nat → Option Addr} {L C : Nat → Nat} {Z : Nat → Nat → Int} (h : OwnMat W base v n R L C Z) (f : FreeRows W n R) :
    ∃ A cap, v = .slice A n cap ∧ MatAt W A n R L C Z ∧ MatW W (RowsOf n R) A n R L C := by
  obtain ⟨A, cap, rfl, hm⟩ := mat_of_own h.own h.row
  refine ⟨A, cap, rfl, hm, ?_, fun r hr => ?_⟩
  · rcases hm.1 with h0 | ⟨b, off, e, hc⟩
    · exact Or.inl h0
    · refine Or.inr ⟨b, off, e, ?_, hc⟩
      rintro ⟨r, a, hr, ha, rfl⟩
      refine (h.apart r a hr ha).2.2 ?_
      rw [e]
      rcases h.own.2 with ⟨hv, hn0⟩ | ⟨g, cap', cur, hv, _⟩
      · omega
      · rw [e] at hv; cases hv; rfl
  · rcases (h.row r hr).1 with h0 | ⟨b, off, e, hc⟩
    · exact Or.inl h0
    · refine Or.inr ⟨b, off, e, ⟨r, _, hr, e, rfl⟩, fun i hi => ?_⟩
      obtain ⟨cur, hcur⟩ := f r _ hr e
      exact ⟨⟨_, hc i hi, (h.row r hr).2 i⟩, frozen_of_row W b (off + i) cur _ hcur⟩

theorem MatAt.keepx {S : Nat → Prop} {w w' : World} {A : Option Addr} {n : Nat} {R : Nat → Option Addr} {L C : Nat → Nat} {Z : Nat → Nat → Int} {base : Nat} (h : NewMat w base A n R L C Z) (k : Bx S w w') (hS : ∀ b, S b → b < base) : NewMat w' base A n R L C Z := by
  refine ⟨⟨?_, fun r hr => ?_⟩, ?_, fun r hr => ?_⟩
  · rcases h.mat.1 with h0 | ⟨b, off, e, hc⟩
    · exact Or.inl h0
    · by_cases hn : n = 0
      · exact Or.inl hn
      · obtain ⟨g, o, e', hg, hl⟩ := h.head.resolve_left hn
        rw [e] at e'; cases e'
        refine Or.inr ⟨b, off, e, fun r hr => ?_⟩
        rw [World.cell?_of_block (w := w) (k.block b hl (fun e => by have := hS b e; omega))]
        exact hc r hr
  · refine (h.mat.2 r hr).keepx k (fun b o e hL hs => ?_)
    obtain ⟨g, o', e', hg, hl⟩ := (h.rows r hr).resolve_left (by omega)
    rw [e] at e'; cases e'
    have := hS b hs; omega
  · rcases h.head with h0 | ⟨g, o, e, h1, h2⟩
    · exact Or.inl h0
    · exact Or.inr ⟨g, o, e, h1, Nat.lt_of_lt_of_le h2 k.size⟩
  · rcases h.rows r hr with h0 | ⟨g, o, e, h1, h2⟩
    · exact Or.inl h0
    · exact Or.inr ⟨g, o, e, h1, Nat.lt_of_lt_of_le h2 k.size⟩

end Go.Proofs.Ytbhbdhkifkmkbaa

/- The document's own Mul for whatever matrices; results of one and the other held side by side. -/
namespace Go.Proofs.Ytbhbdhkifkmkbaa
open Go.RowKit

/-- a matrix in memory, as a value -/
def MatVal (w : World) (v : Value) (n : Nat) (L : Nat → Nat) (Z : Nat → Nat → Int) : Prop := ∃ A cap R C, v = .slice A n cap ∧ MatAt w A n R L C Z

theorem val_none (w : World) (L : Nat → Nat) (Z : Nat → Nat → Int) : MatVal w (.slice none 0 0) 0 L Z := ⟨_, _, fun _ => none, fun _ => 0, rfl, Or.inl rfl, fun r hr => by omega⟩
theorem OwnMat.val {w : World} {base n : Nat} {v : Value} {R : Nat → Option Addr} {L C : Nat → Nat} {Z : Nat → Nat → Int} (h : OwnMat w base v n R L C Z) : MatVal w v n L Z := by
  obtain ⟨A, cap, rfl, hm⟩ := mat_of_own h.own h.row
  exact ⟨A, cap, R, C, rfl, hm⟩

theorem mulsays_unique {n m k q k' q' : Nat} {L M : Nat → Nat} {x x' : Int} (h : MulSays n L m M x k q) (h' : MulSays n L m M x' k' q') : x = x' ∧ k = k' ∧ (k = 0 ∨ q = q') := by
  rcases h with ⟨a, b, c⟩ | ⟨a, b, c, d⟩ | ⟨a, b, c, d, e⟩ | ⟨a, b, c, d, e, f⟩ <;> rcases h' with ⟨a', b', c'⟩ | ⟨a', b', c', d'⟩ | ⟨a', b', c', d', e'⟩ | ⟨a', b', c', d', e', f'⟩
  · exact ⟨Wrong.unique a a', by omega, Or.inl c⟩
  · exact absurd (Wrong.unique a a') b
  · exact absurd (Wrong.unique a a') b
  · exact absurd (Wrong.unique a a') b
  · exact absurd (Wrong.unique a' a) b'
  · exact ⟨Wrong.unique b b', by omega, Or.inl d⟩
  · exact absurd (Wrong.unique b b') c
  · exact absurd (Wrong.unique b b') c
  · exact absurd (Wrong.unique a' a) b'
  · exact absurd (Wrong.unique b' b) c'
  · exact ⟨by omega, by omega, Or.inl e⟩
  · exact absurd c' c
  · exact absurd (Wrong.unique a' a) b'
  · exact absurd (Wrong.unique b' b) c'
  · exact absurd c c'
  · exact ⟨by omega, by omega, Or.inr (by omega)⟩

/-- what One says -/
def OneSays (n x : Int) (k : Nat) : Prop := (n < 0 ∧ x = 1 ∧ k = 0) ∨ (32 < n ∧ x = 2 ∧ k = 0) ∨ (0 ≤ n ∧ n ≤ 32 ∧ x = 0 ∧ (k : Int) = n)
theorem onesays_unique {n x x' : Int} {k k' : Nat} (h : OneSays n x k) (h' : OneSays n x' k') : x = x' ∧ k = k' := by
  unfold OneSays at h h'; omega

theorem bulk_le (L : Nat → Nat) : ∀ k, k ≤ bulk L k ∧ ∀ r, r < k → L r ≤ bulk L k
  | 0 => ⟨Nat.zero_le _, fun r hr => by omega⟩
  | k + 1 => by
    have h := bulk_le L k
    have e : bulk L (k + 1) = bulk L k + 1 + L k := rfl
    refine ⟨by omega, fun r hr => ?_⟩
    by_cases e' : r = k
    · subst e'; omega
    · have := h.2 r (by omega); omega

theorem OwnMat.keepx {S : Nat → Prop} {W W' : World} {base : Nat} {v : Value} {n : Nat} {R : Nat → Option Addr} {L C : Nat → Nat} {Z : Nat → Nat → Int} (h : OwnMat W base v n R L C Z) (k : Bx S W W') (hS : ∀ b, S b → b < base) : OwnMat W' base v n R L C Z := by
  refine ⟨?_, fun r hr => ?_, h.cap, fun r a hr ha => ?_⟩
  · obtain ⟨h1, h2⟩ := h.own
    refine ⟨h1, ?_⟩
    rcases h2 with h | ⟨b, cap, cur, hv, hb, hg, hr⟩
    · exact Or.inl h
    · exact Or.inr ⟨b, cap, cur, hv, hb, (k.block b (Array.getElem?_eq_some_iff.1 hg).1 (fun e => by have := hS b e; omega)).trans hg, hr⟩
  · refine (h.row r hr).keepx k (fun b o e hL hs => ?_)
    have h1 := (h.apart r _ hr e).1
    have h2 := hS b hs
    simp only at h1
    omega
  · have h1 := h.apart r a hr ha
    exact ⟨h1.1, Nat.lt_of_lt_of_le h1.2.1 k.size, h1.2.2⟩

theorem FreeRows.keepx {S : Nat → Prop} {W W' : World} {base : Nat} {v : Value} {n : Nat} {R : Nat → Option Addr} {L C : Nat → Nat} {Z : Nat → Nat → Int} (f : FreeRows W n R) (h : OwnMat W base v n R L C Z) (k : Bx S W W') (hS : ∀ b, S b → b < base) : FreeRows W' n R := by
  intro r a hr ha
  obtain ⟨cur, hc⟩ := f r a hr ha
  have h1 := (h.apart r a hr ha).1
  exact ⟨cur, (k.block _ (Array.getElem?_eq_some_iff.1 hc).1 (fun e => by have := hS _ e; omega)).trans hc⟩

theorem own_mat {W : World} {base : Nat} {A : Option Addr} {cap : Nat} {n : Nat} {R : Nat → Option Addr} {L C : Nat → Nat} {Z : Nat → Nat → Int} (h : OwnMat W base (.slice A n cap) n R L C Z) : MatAt W A n R L C Z := by
  obtain ⟨A', cap', e, hm⟩ := mat_of_own h.own h.row
  cases e; exact hm
theorem own_matw {W : World} {base : Nat} {A : Option Addr} {cap : Nat} {n : Nat} {R : Nat → Option Addr} {L C : Nat → Nat} {Z : Nat → Nat → Int} (h : OwnMat W base (.slice A n cap) n R L C Z) (f : FreeRows W n R) : MatW W (RowsOf n R) A n R L C := by
  obtain ⟨A', cap', e, _, hm⟩ := matw_of h f
  cases e; exact hm
theorem rows_in {W : World} {base : Nat} {v : Value} {n : Nat} {R : Nat → Option Addr} {L C : Nat → Nat} {Z : Nat → Nat → Int} (h : OwnMat W base v n R L C Z) : ∀ b, RowsOf n R b → base ≤ b ∧ b < W.heap.size := by
  rintro b ⟨r, a, hr, ha, rfl⟩
  have := h.apart r a hr ha
  exact ⟨this.1, this.2.1⟩

theorem mulsays_le {n m k q : Nat} {L M : Nat → Nat} {x : Int} (h : MulSays n L m M x k q) : k ≤ 32 := by
  rcases h with ⟨_, _, h⟩ | ⟨_, _, _, h⟩ | ⟨_, _, _, _, h⟩ | ⟨h1, _, _, _, h, _⟩
  · omega
  · omega
  · omega
  · have := (wrong_ok h1).1; omega
theorem onesays_le {n x : Int} {k : Nat} (h : OneSays n x k) : k ≤ 32 := by unfold OneSays at h; omega

/-- a part of a tuple, as a step of its own -/
theorem wpList_extract {P : Program} {w : World} {ops : Array Oper} {rest : List Oper} {o : Oper} {a : Act} {Q : Exit → Act → World → Prop} (hgd : o.guard = none) (x : Operand) (i : Nat) (ho : o.op = .extract x i) (vs : Array Value) (hx : a.eval x = .tuple vs) (v : Value) (hv : vs[i]? = some v)
    (h : wpList P ops Q rest (a.put o.dst v) w) : wpList P ops Q (o :: rest) a w := by
  refine wpList_plain hgd fun K hK => ?_
  have hrun : (Instr.extract (.tuple vs) i).run P w = .ok v w := by simp [Instr.extract, hv]
  unfold Oper.wp
  simp [execOp, ho, hx, hrun, Result.andThen]
  exact hK _ _ h

theorem same_self (n : Nat) (L : Nat → Nat) (Z : Nat → Nat → Int) : SameM n n L L Z Z := ⟨rfl, fun _ _ => ⟨rfl, fun _ _ => rfl⟩⟩

end Go.Proofs.Ytbhbdhkifkmkbaa

/- The program's powers, its rows picked out of a table, its Table, Encode and shard. -/
namespace Go.Proofs.Ytbhbdhkifkmkbaa
open Go.RowKit

attribute [local go_sem ↓] Go.wp_at_zero Go.wp_at_succ

/-- rows laid into an outer block, one by one: t of n -/
structure Rws (W : World) (g n t : Nat) (R : Nat → Option Addr) (L C : Nat → Nat) (Z : Nat → Nat → Int) : Prop where
  outer : ∃ cur, W.heap[g]? = some (.cells cur 37 (0, 0)) ∧ cur.size = n ∧ ∀ r, r < t → cur[r]? = some (.slice (R r) (L r) (C r))
  row : ∀ r, r < t → RowAt W (R r) (L r) (Z r)
  apart : ∀ r a, r < t → R r = some a → L r = 0 ∨ a.block ≠ g

theorem Rws.lt {W : World} {g n t : Nat} {R : Nat → Option Addr} {L C : Nat → Nat} {Z : Nat → Nat → Int} (h : Rws W g n t R L C Z) : g < W.heap.size := by
  obtain ⟨cur, h1, _⟩ := h.outer
  exact (Array.getElem?_eq_some_iff.1 h1).1
theorem Rws.keep {W W' : World} {g n t : Nat} {R : Nat → Option Addr} {L C : Nat → Nat} {Z : Nat → Nat → Int} (h : Rws W g n t R L C Z) (b : Bw W W') : Rws W' g n t R L C Z := by
  have hl := h.lt
  obtain ⟨cur, h1, h2⟩ := h.outer
  exact ⟨⟨cur, by rw [b.block g hl, h1], h2⟩, fun r hr => (h.row r hr).keep b, h.apart⟩
theorem Rws.re {W : World} {g n t : Nat} {R R' : Nat → Option Addr} {L C : Nat → Nat} {Z : Nat → Nat → Int} (h : Rws W g n t R L C Z) (e : ∀ r, r < t → R' r = R r) : Rws W g n t R' L C Z := by
  obtain ⟨cur, h1, h2, h3⟩ := h.outer
  exact ⟨⟨cur, h1, h2, fun r hr => by rw [h3 r hr, e r hr]⟩, fun r hr => by rw [e r hr]; exact h.row r hr, fun r a hr ha => h.apart r a hr (by rw [← e r hr]; exact ha)⟩
theorem Rws.next {W : World} {g n t : Nat} {R : Nat → Option Addr} {L C : Nat → Nat} {Z : Nat → Nat → Int} (h : Rws W g n t R L C Z) (ht : t < n) (hr : RowAt W (R t) (L t) (Z t)) (ha : ∀ a, R t = some a → L t = 0 ∨ a.block ≠ g) :
    Rws (W.setCell ⟨g, t, none⟩ (.slice (R t) (L t) (C t))) g n (t + 1) R L C Z := by
  have apart : ∀ r a, r < t + 1 → R r = some a → L r = 0 ∨ a.block ≠ g := fun r a h1 h2 => by
    by_cases e : r = t
    · subst e; exact ha a h2
    · exact h.apart r a (by omega) h2
  obtain ⟨cur, h1, h2, h3⟩ := h.outer
  refine ⟨⟨_, heap_setCell_same W g t cur _ _ h1, by simpa using h2, fun r hr' => ?_⟩, fun r hr' => ?_, apart⟩
  · by_cases e : r = t
    · subst e; rw [Array.getElem?_setIfInBounds_self_of_lt (by omega)]
    · rw [Array.getElem?_setIfInBounds_ne (Ne.symm e), h3 r (by omega)]
  · have hrow : RowAt W (R r) (L r) (Z r) := by
      by_cases e : r = t
      · subst e; exact hr
      · exact h.row r (by omega)
    by_cases h0 : L r = 0
    · exact ⟨Or.inl h0, hrow.2⟩
    · exact RowAt.set hrow (fun a h4 => (apart r a hr' h4).resolve_left h0)
theorem Rws.cell {W : World} {g n t : Nat} {R : Nat → Option Addr} {L C : Nat → Nat} {Z : Nat → Nat → Int} (h : Rws W g n t R L C Z) {r : Nat} (hr : r < n) : ∃ v, W.cell? ⟨g, r, none⟩ = some v ∧ W.frozen? ⟨g, r, none⟩ = false := by
  obtain ⟨cur, h1, h2, h3⟩ := h.outer
  exact ⟨cur[r], (cell_of_row W g r cur _ _ h1).trans (Array.getElem?_eq_getElem (by omega)), frozen_of_row W g r cur _ h1⟩
theorem Rws.mat {W : World} {g n : Nat} {R : Nat → Option Addr} {L C : Nat → Nat} {Z : Nat → Nat → Int} (h : Rws W g n n R L C Z) : MatAt W (some ⟨g, 0, none⟩) n R L C Z := by
  obtain ⟨cur, h1, h2, h3⟩ := h.outer
  exact ⟨Or.inr ⟨g, 0, rfl, fun r hr => by rw [Nat.zero_add, cell_of_row W g r cur _ _ h1]; exact h3 r hr⟩, h.row⟩

/-- a row of powers under way -/
def wayP (x : Int) (t c : Nat) : Int := if c < t then pwrI x c else 0
theorem wayP_bd (x : Int) (t c : Nat) : 0 ≤ wayP x t c ∧ wayP x t c < 256 := by
  unfold wayP; split
  · exact pwrI_bd _ _
  · exact ⟨Int.le_refl 0, show (0 : Int) < 256 by decide⟩

set_option maxRecDepth 100000 in
set_option maxHeartbeats 1000000 in
theorem powers_any (k n : Nat) (hk : k ≤ 32) (hn : n ≤ 32) (w : World) :
    Calls Try.prog 26 #[.int .i64 (k : Int), .int .i64 (n : Int)] w fun e w' => ∃ g R, e = .returned (.slice (some ⟨g, 0, none⟩) n n) ∧ MatAt w' (some ⟨g, 0, none⟩) n R (fun _ => k) (fun _ => k) (fun r c => wayP (r : Int) k c) ∧ Bw w w' := by
  obtain ⟨M0, hs0, hM0, hmk⟩ := made_bytes k (by omega)
  have HM : Hid (∀ i, i < k → M0[i]? = some (.int .u8 0)) := hM0
  obtain ⟨H0, hH, hmh⟩ := made_rows n (by omega)
  have hst : Rws (w.alloc (.cells H0 37)) w.heap.size n 0 (fun _ => none) (fun _ => k) (fun _ => k) (fun r c => wayP (r : Int) k c) := ⟨⟨H0, heap_alloc_new _ _, hH, fun r hr => by omega⟩, fun r hr => by omega, fun r a hr => by omega⟩
  have hbw0 : Bw w (w.alloc (.cells H0 37)) := (Below.refl _ _).alloc (Nat.le_refl _) _
  clear hM0
  go_enter Try.func26, Try.ntmps26
  go_wp2
  go_loopw [14] (fun i wr => ∃ (t : Nat) (R : Nat → Option Addr), t ≤ n ∧ i = .int .i64 t ∧ Rws wr w.heap.size n t R (fun _ => k) (fun _ => k) (fun r c => wayP (r : Int) k c) ∧ Bw w wr) (fun i _ => n - (intOf i).toNat)
  case atStart => exact ⟨0, _, Nat.zero_le _, rfl, hst, hbw0⟩
  case round =>
    rename World => wo
    obtain ⟨t, R, ht, rfl, hr, hw⟩ := hrel
    by_cases hlt : t < n
    · have hsz := hr.lt
      have hblk : BlockIs (wo.alloc (.cells M0 5)) wo.heap.size k (wayP (t : Int) 0) := ⟨M0, heap_alloc_new _ _, hs0, fun c hc => by rw [HM.out c hc]; unfold wayP; rw [if_neg (by omega)]⟩
      have hbw1 : Bw wo (wo.alloc (.cells M0 5)) := (Below.refl _ _).alloc (Nat.le_refl _) _
      have wr8 : IntKind.u8.wrap (t : Int) = (t : Int) := by simp [IntKind.wrap, IntKind.bits, IntKind.signed]; omega
      go_wp2
      go_loopw [8, 21] (fun p i wr => ∃ s : Nat, s ≤ k ∧ i = .int .i64 s ∧ p = .int .u8 (pwrI (t : Int) s) ∧ BlockIs wr wo.heap.size k (wayP (t : Int) s) ∧ Bw wo wr) (fun _ i _ => k - (intOf i).toNat)
      case atStart => exact ⟨0, Nat.zero_le _, rfl, rfl, hblk, hbw1⟩
      case round =>
        obtain ⟨s, hs, rfl, rfl, hb, hws⟩ := hrel
        by_cases hsk : s < k
        · obtain ⟨c1, c2⟩ := hb.cell hsk
          have p1 := pwrI_bd (t : Int) s
          have s0 : (0 : Int) ≤ (s : Int) := Int.natCast_nonneg _
          have s1 : (s : Int) < (k : Int) := by omega
          go_wp2_with (go_at_call 38; refine (mul_any _ _ (by omega) (by omega) (by omega) (by omega) _).mono ?_; rintro e w' ⟨rfl, hw'⟩; subst w')
          go_roundw
          case rel =>
            refine ⟨s + 1, by omega, by go_num, rfl, BlockIs.set hb hsk (by unfold wayP; rw [if_pos (by omega)]) (fun c _ hne => ?_), Bw.put hws (Nat.le_refl _) s _⟩
            unfold wayP
            by_cases e : c < s
            · rw [if_pos e, if_pos (by omega)]
            · rw [if_neg e, if_neg (by omega)]
          case measure => simp [intOf]; omega
        · have ek : k = s := by omega
          subst ek
          have hr2 := (hr.keep hws).re (R' := upd R t (some ⟨wo.heap.size, 0, none⟩)) (fun r h1 => by rw [upd_ne _ _ (by omega)])
          obtain ⟨v1, c1, c2⟩ := hr2.cell hlt
          have t0 : (0 : Int) ≤ (t : Int) := Int.natCast_nonneg _
          have t1 : (t : Int) < (n : Int) := by omega
          have hnx := hr2.next hlt (by rw [upd_at]; exact hb.row (fun i => wayP_bd _ _ _)) (fun a ha => by rw [upd_at] at ha; cases ha; right; simp only; omega)
          rw [upd_at] at hnx
          have hbn : Bw w wr := hw.trans hws
          go_wp2
          go_roundw
          case rel => exact ⟨t + 1, _, by omega, by go_num, hnx, Bw.put hbn (Nat.le_refl _) t _⟩
          case measure => simp [intOf]; omega
    · have ek : n = t := by omega
      subst ek
      go_wp2
      go_ret
      exact ⟨_, rfl, ⟨R, hr.mat⟩, hw⟩

set_option maxRecDepth 100000 in
theorem pick_any (A B : Option Addr) (n l ca cb : Nat) (R : Nat → Option Addr) (L C : Nat → Nat) (Z : Nat → Nat → Int) (f : Nat → Int) (w : World) (ha : MatAt w A n R L C Z) (hb : IntsAt w B l f) (hl : l ≤ 1048576) (hf : Hid (∀ i, i < l → 0 ≤ f i ∧ f i < (n : Int))) :
    Calls Try.prog 48 #[.slice A n ca, .slice B l cb] w fun e w' => ∃ g, e = .returned (.slice (some ⟨g, 0, none⟩) l l) ∧ MatAt w' (some ⟨g, 0, none⟩) l (fun i => R (f i).toNat) (fun i => L (f i).toNat) (fun i => C (f i).toNat) (fun i => Z (f i).toNat) ∧ Bw w w' := by
  obtain ⟨H0, hH, hmh⟩ := made_rows l (by omega)
  have hst : Rws (w.alloc (.cells H0 37)) w.heap.size l 0 (fun i => R (f i).toNat) (fun i => L (f i).toNat) (fun i => C (f i).toNat) (fun i => Z (f i).toNat) := ⟨⟨H0, heap_alloc_new _ _, hH, fun r hr => by omega⟩, fun r hr => by omega, fun r a hr => by omega⟩
  have hbw0 : Bw w (w.alloc (.cells H0 37)) := (Below.refl _ _).alloc (Nat.le_refl _) _
  go_enter Try.func48, Try.ntmps48
  go_wp2
  go_loopw [13] (fun i wr => ∃ t : Nat, t ≤ l ∧ i = .int .i64 t ∧ Rws wr w.heap.size l t (fun i => R (f i).toNat) (fun i => L (f i).toNat) (fun i => C (f i).toNat) (fun i => Z (f i).toNat) ∧ Bw w wr) (fun i _ => l - (intOf i).toNat)
  case atStart => exact ⟨0, Nat.zero_le _, rfl, hst, hbw0⟩
  case round =>
    obtain ⟨t, ht, rfl, hr, hw⟩ := hrel
    by_cases hlt : t < l
    · obtain ⟨y, hy⟩ : ∃ y : Nat, f t = (y : Int) := ⟨(f t).toNat, by have := hf.out t hlt; omega⟩
      have hyn : y < n := by have := hf.out t hlt; omega
      have hyt : (f t).toNat = y := by omega
      have hrow := ha.2 y hyn
      have hap : ∀ a, R y = some a → L y = 0 ∨ a.block ≠ w.heap.size := fun a h3 => by
        by_cases h0 : L y = 0
        · exact Or.inl h0
        · right
          obtain ⟨b3, o3, e3, hc3⟩ := hrow.at (k := 0) (by omega)
          rw [h3] at e3; cases e3
          have := block_lt_of_cell (hc3 0 (by omega))
          simp only at this ⊢
          omega
      have hnx := hr.next hlt (by rw [hyt]; exact hrow.keep hw) (by rw [hyt]; exact hap)
      rw [hyt] at hnx
      obtain ⟨v1, c1, c2⟩ := hr.cell hlt
      obtain ⟨b1, o1, rfl, hc1⟩ := (ha.keep hw).at hyn
      have h1 := hc1 y hyn
      obtain ⟨b2, o2, rfl, hc2⟩ := (hb.keep hw).resolve_left (by omega)
      have h2 := hc2 t hlt
      rw [hy] at h2
      have t0 : (0 : Int) ≤ (t : Int) := Int.natCast_nonneg _
      have t1 : (t : Int) < (l : Int) := by omega
      have y0 : (0 : Int) ≤ (y : Int) := Int.natCast_nonneg _
      have y1 : (y : Int) < (n : Int) := by omega
      have hnx' : Hid _ := hnx
      clear hc1 hc2 hap hrow hy hyt hnx
      go_wp2
      go_roundw
      case rel => exact ⟨t + 1, by omega, by go_num, hnx'.out, Bw.put hw (Nat.le_refl _) t _⟩
      case measure => simp [intOf]; omega
    · have ek : l = t := by omega
      subst ek
      go_wp2
      go_ret
      exact ⟨_, rfl, hr.mat, hw⟩

end Go.Proofs.Ytbhbdhkifkmkbaa

/- What the document's own Inverse tells where there is nothing to take back, or where the matrix is wrong. -/
namespace Go.Proofs.Ytbhbdhkifkmkbaa
open Go.RowKit

end Go.Proofs.Ytbhbdhkifkmkbaa

/- The document's own Inverse, Rank and Turned for whatever matrices; each tells one thing alone. -/
namespace Go.Proofs.Ytbhbdhkifkmkbaa
open Go.RowKit

theorem ivsays_unique {n k k' : Nat} {L : Nat → Nat} {Z Y Y' : Nat → Nat → Int} {x x' : Int} (h : IvSays n L Z Y x k) (h' : IvSays n L Z Y' x' k') : x = x' ∧ k = k' ∧ (k = 0 ∨ (k = n ∧ ∀ i j, i < n → j < n → fm Y i j = fm Y' i j)) := by
  rcases h with ⟨a, b, c⟩ | ⟨a, b, c, d⟩ | ⟨a, b, ⟨c, d, e⟩ | ⟨c, d, e⟩⟩ <;> rcases h' with ⟨a', b', c'⟩ | ⟨a', b', c', d'⟩ | ⟨a', b', ⟨c', d', e'⟩ | ⟨c', d', e'⟩⟩
  · exact ⟨Wrong.unique a a', by omega, Or.inl c⟩
  · exact absurd (Wrong.unique a a') b
  · exact absurd (Wrong.unique a a') b
  · exact absurd (Wrong.unique a a') b
  · exact absurd (Wrong.unique a' a) b'
  · exact ⟨by omega, by omega, Or.inl d⟩
  · exact absurd b' b
  · exact absurd b' b
  · exact absurd (Wrong.unique a' a) b'
  · exact absurd b b'
  · exact ⟨by omega, by omega, Or.inl d⟩
  · exact absurd ⟨_, e'⟩ e
  · exact absurd (Wrong.unique a' a) b'
  · exact absurd b b'
  · exact absurd ⟨_, e⟩ e'
  · exact ⟨by omega, by omega, Or.inr ⟨d, La.inv_unique _ _ _ _ e e'⟩⟩

theorem ranksays_unique {n r r' : Nat} {L : Nat → Nat} {Z : Nat → Nat → Int} {x x' : Int} (h : RankSays n L Z x r) (h' : RankSays n L Z x' r') : x = x' ∧ r = r' := by
  rcases h with ⟨a, b, c⟩ | ⟨a, b, c⟩ <;> rcases h' with ⟨a', b', c'⟩ | ⟨a', b', c'⟩
  · exact ⟨Wrong.unique a a', by omega⟩
  · exact absurd (Wrong.unique a a') b
  · exact absurd (Wrong.unique a' a) b'
  · exact ⟨by omega, La.rank_unique c c'⟩

theorem turnsays_unique {n k k' : Nat} {L : Nat → Nat} {x x' : Int} (h : TurnSays n L x k) (h' : TurnSays n L x' k') : x = x' ∧ k = k' := by
  rcases h with ⟨a, b, c⟩ | ⟨a, b, c, d⟩ | ⟨a, b, c, d⟩ <;> rcases h' with ⟨a', b', c'⟩ | ⟨a', b', c', d'⟩ | ⟨a', b', c', d'⟩
  · exact ⟨Wrong.unique a a', by omega⟩
  · exact absurd (Wrong.unique a a') b
  · exact absurd (Wrong.unique a a') b
  · exact absurd (Wrong.unique a' a) b'
  · exact ⟨by omega, by omega⟩
  · omega
  · exact absurd (Wrong.unique a' a) b'
  · omega
  · exact ⟨by omega, by omega⟩

/-- what was new stays, whatever else was made -/
theorem NewMat.keep {w w' : World} {base : Nat} {A : Option Addr} {n : Nat} {R : Nat → Option Addr} {L C : Nat → Nat} {Z : Nat → Nat → Int} (h : NewMat w base A n R L C Z) (k : Bw w w') : NewMat w' base A n R L C Z :=
  ⟨h.mat.keep k, h.head.imp id (fun ⟨g, o, e, h1, h2⟩ => ⟨g, o, e, h1, Nat.lt_of_lt_of_le h2 k.size⟩), fun r hr => (h.rows r hr).imp id (fun ⟨g, o, e, h1, h2⟩ => ⟨g, o, e, h1, Nat.lt_of_lt_of_le h2 k.size⟩)⟩

theorem ivsays_le {n k : Nat} {L : Nat → Nat} {Z Y : Nat → Nat → Int} {x : Int} (h : IvSays n L Z Y x k) : k ≤ 32 := by
  rcases h with ⟨a, b, c⟩ | ⟨a, b, c, d⟩ | ⟨a, b, ⟨c, d, e⟩ | ⟨c, d, e⟩⟩
  · omega
  · omega
  · omega
  · have := (wrong_ok a).1; omega
theorem turnsays_le {n k : Nat} {L : Nat → Nat} {x : Int} (h : TurnSays n L x k) : k ≤ 32 := by
  rcases h with ⟨a, b, c⟩ | ⟨a, b, c, d⟩ | ⟨a, b, c, d⟩ <;> omega

end Go.Proofs.Ytbhbdhkifkmkbaa

/- Two rows of the call's own, written over. -/
namespace Go.Proofs.Ytbhbdhkifkmkbaa
open Go.RowKit

/-- the blocks of two rows -/
def TwoOf (A B : Option Addr) (b : Nat) : Prop := (∃ a, A = some a ∧ a.block = b) ∨ ∃ a, B = some a ∧ a.block = b

/-- a row's block may be written over -/
def FreeAt (W : World) (A : Option Addr) : Prop := ∀ a, A = some a → ∃ cur, W.heap[a.block]? = some (.cells cur 5 (0, 0))
theorem FreeAt.keep {W W' : World} {A : Option Addr} (h : FreeAt W A) (b : Bw W W') : FreeAt W' A := fun a ha => by
  obtain ⟨cur, hc⟩ := h a ha
  exact ⟨cur, (b.block _ (Array.getElem?_eq_some_iff.1 hc).1).trans hc⟩

theorem roww_of {W : World} {S : Nat → Prop} {A : Option Addr} {L : Nat} {f : Nat → Int} (h : RowAt W A L f) (fr : FreeAt W A) (hS : ∀ a, A = some a → S a.block) : RowW W S A L := by
  rcases h.1 with h0 | ⟨b, off, e, hc⟩
  · exact Or.inl h0
  · refine Or.inr ⟨b, off, e, hS _ e, fun i hi => ?_⟩
    obtain ⟨cur, hcur⟩ := fr _ e
    exact ⟨⟨_, hc i hi, h.2 i⟩, frozen_of_row W b (off + i) cur _ hcur⟩

theorem matw_two {w : World} {A B : Option Addr} {la ca lb cb : Nat} {f g : Nat → Int} (ha : RowAt w A la f) (hb : RowAt w B lb g) (fa : FreeAt w A) (fb : FreeAt w B) :
    MatW (w.alloc (.cells #[.slice A la ca, .slice B lb cb] 37)) (TwoOf A B) (some ⟨w.heap.size, 0, none⟩) 2 (fun r => if r = 0 then A else B) (fun r => if r = 0 then la else lb) (fun r => if r = 0 then ca else cb) := by
  have hm := mat_two w A B la ca lb cb f g ha hb
  have hbw : Bw w (w.alloc (.cells #[.slice A la ca, .slice B lb cb] 37)) := (Below.refl _ _).alloc (Nat.le_refl _) _
  refine ⟨?_, fun r hr => ?_⟩
  · rcases hm.1 with h0 | ⟨b, off, e, hc⟩
    · omega
    · refine Or.inr ⟨b, off, e, ?_, hc⟩
      cases e
      rintro (⟨a, ha', e⟩ | ⟨a, ha', e⟩)
      · obtain ⟨cur, hc'⟩ := fa a ha'
        have := (Array.getElem?_eq_some_iff.1 hc').1
        omega
      · obtain ⟨cur, hc'⟩ := fb a ha'
        have := (Array.getElem?_eq_some_iff.1 hc').1
        omega
  · rcases (show r = 0 ∨ r = 1 by omega) with rfl | rfl
    · exact roww_of (ha.keep hbw) (fa.keep hbw) (fun a e => Or.inl ⟨a, e, rfl⟩)
    · exact roww_of (hb.keep hbw) (fb.keep hbw) (fun a e => Or.inr ⟨a, e, rfl⟩)

theorem two_in {A B : Option Addr} {lo hi : Nat} (hA : ∀ a, A = some a → lo ≤ a.block ∧ a.block < hi) (hB : ∀ a, B = some a → lo ≤ a.block ∧ a.block < hi) : ∀ b, TwoOf A B b → lo ≤ b ∧ b < hi := by
  rintro b (⟨a, e, rfl⟩ | ⟨a, e, rfl⟩)
  · exact hA a e
  · exact hB a e

theorem NewRow.keep {w w' : World} {base n : Nat} {A : Option Addr} {f : Nat → Int} (h : NewRow w base A n f) (k : Bw w w') : NewRow w' base A n f :=
  ⟨h.row.keep k, h.new.imp id (fun ⟨g, o, e, h1, h2⟩ => ⟨g, o, e, h1, Nat.lt_of_lt_of_le h2 k.size⟩)⟩
theorem NewRow.keepx {S : Nat → Prop} {w w' : World} {base n : Nat} {A : Option Addr} {f : Nat → Int} (h : NewRow w base A n f) (k : Bx S w w') (hS : ∀ b, S b → b < base) : RowAt w' A n f :=
  h.row.keepx k (fun b o e hL hs => by
    obtain ⟨g, o', e', h1, h2⟩ := h.new.resolve_left (by omega)
    rw [e] at e'; cases e'
    have := hS b hs; omega)

end Go.Proofs.Ytbhbdhkifkmkbaa

/- Layer 3's statements' own tests: what is great; two matrices held side by side, told as a call that only reads. -/
namespace Go.Proofs.Ytbhbdhkifkmkbaa
open Go.RowKit

set_option maxHeartbeats 1000000 in
theorem rsame_quiet (A B : Option Addr) (n m ca cb : Nat) (R S : Nat → Option Addr) (L C M D : Nat → Nat) (Z Y : Nat → Nat → Int) (hn : n ≤ 9223372036854775807) (w : World) (ha : MatAt w A n R L C Z) (hb : MatAt w B m S M D Y) :
    Calls Try.prog 15 #[.slice A n ca, .slice B m cb] w fun e w' => ∃ x, e = .returned (.bool x) ∧ (x = true ↔ SameM n m L M Z Y) ∧ ∃ q, w' = w.drewN q := by
  by_cases hnm : n = m
  · subst hnm
    go_enter Try.func15, Try.ntmps15
    go_wp2
    go_loopw [5] (fun i wr => ∃ k : Nat, k ≤ n ∧ i = .int .i64 k ∧ Hid (∀ r, r < k → L r = M r ∧ ∀ i, i < L r → Z r i = Y r i) ∧ ∃ q, wr = w.drewN q) (fun i _ => n - (intOf i).toNat)
    case atStart => exact ⟨0, Nat.zero_le _, rfl, (fun r hr => by omega), 0, rfl⟩
    case round =>
      obtain ⟨k, hk, rfl, hsame, q0, rfl⟩ := hrel
      have hw : Bw w (w.drewN q0) := Bw.drewN _ _
      by_cases hlt : k < n
      · obtain ⟨b1, o1, rfl, hc1⟩ := ha.at hlt
        obtain ⟨b2, o2, rfl, hc2⟩ := hb.at hlt
        have h1 := hc1 k hlt
        have h2 := hc2 k hlt
        have r1 := ha.2 k hlt
        have r2 := hb.2 k hlt
        have cv1 : ∀ q, (convert 37 9 (.slice (R k) (L k) (C k))).run Try.prog (w.drewN q) = .ok (.string (str (Z k) (L k))) (w.drewN q) := fun q => conv_row (r1.keep (Bw.drewN _ q))
        have cv2 : ∀ q, (convert 37 9 (.slice (S k) (M k) (D k))).run Try.prog (w.drewN q) = .ok (.string (str (Y k) (M k))) (w.drewN q) := fun q => conv_row (r2.keep (Bw.drewN _ q))
        have hk0 : (0 : Int) ≤ (k : Int) := Int.natCast_nonneg _
        have hk1 : (k : Int) < (n : Int) := by omega
        have hin := str_inj (L := L k) (M := M k) r1.2 r2.2
        clear hc1 hc2
        by_cases he : (str (Z k) (L k)).toList = (str (Y k) (M k)).toList
        · have he2 : ((str (Z k) (L k)).toList == (str (Y k) (M k)).toList) = true := by simpa using he
          go_wp2
          go_quiet (fail)
          go_wp2
          go_roundw
          case rel => exact ⟨k + 1, by omega, by go_num, (fun r hr => by by_cases e : r = k; (subst e; exact hin.1 he); exact hsame r (by omega)), by first | exact ⟨_, World.drewN_drewN _ _ _⟩ | exact ⟨_, rfl⟩⟩
          case measure => simp [intOf]; omega
        · have he2 : ((str (Z k) (L k)).toList == (str (Y k) (M k)).toList) = false := by simpa using he
          go_wp2
          go_quiet (fail)
          go_wp2
          go_ret
          exact ⟨false, rfl, ⟨fun h => (by cases h), fun h => absurd (hin.2 (h.2 k hlt)) he⟩, by first | exact ⟨_, World.drewN_drewN _ _ _⟩ | exact ⟨_, rfl⟩⟩
      · have ek : n = k := by omega
        subst ek
        go_wp2
        go_ret
        exact ⟨true, rfl, ⟨fun _ => ⟨rfl, hsame.out⟩, fun _ => rfl⟩, q0, rfl⟩
  · have hne : ((n : Int) != (m : Int)) = true := by simp; omega
    go_enter Try.func15, Try.ntmps15
    go_wp2
    go_ret
    exact ⟨false, rfl, ⟨fun h => (by cases h), fun h => absurd h.1 hnm⟩, 0, rfl⟩


/-- how many numbers as far as row k -/
def bulk3 (L : Nat → Nat) : Nat → Nat
  | 0 => 0
  | k + 1 => bulk3 L k + L k
/-- great, as layer 3's statements mean it -/
def great3 (n : Nat) (L : Nat → Nat) : Bool := decide (100 < n) || decide (2048 < bulk3 L (min n 101))

theorem bulk3_bd (L : Nat → Nat) (B : Nat) : ∀ k, (∀ r, r < k → L r ≤ B) → bulk3 L k ≤ k * B
  | 0, _ => Nat.zero_le _
  | k + 1, h => by
    have h1 := bulk3_bd L B k (fun r hr => h r (by omega))
    have h2 := h k (by omega)
    rw [Nat.succ_mul]
    show bulk3 L k + L k ≤ k * B + B
    omega
theorem bulk3_le (L : Nat → Nat) : ∀ k r, r < k → L r ≤ bulk3 L k
  | 0, r, hr => by omega
  | k + 1, r, hr => by
    show L r ≤ bulk3 L k + L k
    by_cases e : r = k
    · subst e; omega
    · have := bulk3_le L k r (by omega); omega
theorem great3_no {n : Nat} {L : Nat → Nat} (h : great3 n L = false) : n ≤ 100 ∧ ∀ r, r < n → L r ≤ 2048 := by
  unfold great3 at h
  rw [Bool.or_eq_false_iff, decide_eq_false_iff_not, decide_eq_false_iff_not] at h
  refine ⟨by omega, fun r hr => ?_⟩
  have := bulk3_le L (min n 101) r (by omega)
  omega

set_option maxRecDepth 100000 in
theorem great3_any (A : Option Addr) (n cap : Nat) (R : Nat → Option Addr) (L C : Nat → Nat) (Z : Nat → Nat → Int) (hL : ∀ r, r < n → L r ≤ 140737488355328) (hn : n ≤ 140737488355328) (w : World) (h : MatAt w A n R L C Z) :
    Calls Try.prog 9 #[.slice A n cap] w fun e w' => e = .returned (.bool (great3 n L)) ∧ w' = w := by
  have HB : Hid (∀ k, k ≤ n → k ≤ 101 → bulk3 L k ≤ 14214486323888128) := fun k hk h1 => by
    have h2 := bulk3_bd L 140737488355328 k (fun r hr => hL r (by omega))
    have h3 := Nat.mul_le_mul_right 140737488355328 h1
    omega
  go_enter Try.func9, Try.ntmps9
  go_wp2
  go_loopw [3, 4] (fun s i wr => ∃ k : Nat, k ≤ n ∧ k ≤ 101 ∧ i = .int .i64 k ∧ s = .int .i64 (bulk3 L k : Int) ∧ wr = w) (fun _ i _ => 101 - (intOf i).toNat)
  case atStart => exact ⟨0, Nat.zero_le _, by omega, rfl, rfl, rfl⟩
  case round =>
    obtain ⟨k, hk, hk1, rfl, rfl, e⟩ := hrel
    subst e
    by_cases hlt : k < n ∧ k ≤ 100
    · obtain ⟨b, off, rfl, hc⟩ := h.at hlt.1
      have h1 := hc k hlt.1
      have h2 := HB.out k hk hk1
      have h3 := hL k hlt.1
      have k0 : (0 : Int) ≤ (k : Int) := Int.natCast_nonneg _
      have k1 : (k : Int) < (n : Int) := by omega
      have k2 : (k : Int) ≤ 100 := by omega
      clear hc
      go_wp2
      go_roundw
      case rel => exact ⟨k + 1, by omega, by omega, by go_num, (by show Value.int .i64 ((bulk3 L k : Int) + (L k : Int)) = .int .i64 ((bulk3 L k + L k : Nat) : Int); rw [Int.natCast_add]), by first | rfl | trivial⟩
      case measure => simp [intOf]; omega
    · have em : min n 101 = k := by omega
      have eg : Hid (great3 n L = (decide (100 < n) || decide (2048 < bulk3 L k))) := show great3 n L = (decide (100 < n) || decide (2048 < bulk3 L k)) by unfold great3; rw [em]
      clear em
      by_cases g1 : 100 < n
      · have d1 : decide (100 < n) = true := decide_eq_true g1
        rcases (show (k : Int) < (n : Int) ∨ ¬ (k : Int) < (n : Int) by omega) with g2 | g2
        · have g3 : ¬ (k : Int) ≤ 100 := by omega
          go_wp2
          go_ret
          exact ⟨ret_of_bool (a := true) (by rw [eg.out, decide_eq_true g1, Bool.true_or]), rfl⟩
        · go_wp2
          go_ret
          exact ⟨ret_of_bool (a := true) (by rw [eg.out, decide_eq_true g1, Bool.true_or]), rfl⟩
      · have g2 : ¬ (k : Int) < (n : Int) := by omega
        have g5 : ¬ (100 : Int) < (n : Int) := by omega
        by_cases g4 : 2048 < bulk3 L k
        · have g6 : (2048 : Int) < (bulk3 L k : Int) := by omega
          go_wp2
          go_ret
          exact ⟨ret_of_bool (a := true) (by rw [eg.out, decide_eq_true g4, Bool.or_true]), rfl⟩
        · have g6 : ¬ (2048 : Int) < (bulk3 L k : Int) := by omega
          go_wp2
          go_ret
          exact ⟨ret_of_bool (a := false) (by rw [eg.out, decide_eq_false g4, decide_eq_false g1]; rfl), rfl⟩

end Go.Proofs.Ytbhbdhkifkmkbaa

/- Words of unlike data differ in many shards: the statement CodeFar, out of what Encode answers. -/
namespace Go.Proofs.Ytbhbdhkifkmkbaa
open Go.RowKit

/-- what is to be shown of the program's Encode -/
def EncSpec : Prop := ∀ (A : Option Addr) (k cap : Nat) (R : Nat → Option Addr) (L C : Nat → Nat) (Z : Nat → Nat → Int) (N : Int) (w : World), MatAt w A k R L C Z → k ≤ 140737488355328 →
  Calls Try.prog 14 #[.slice A k cap, .int .i64 N] w fun e w' => ∃ v x kk, e = .returned (.tuple #[v, .int .i64 x]) ∧ MatVal3 w' v kk (fun _ => L 0) (wordI k Z) ∧ EncSays k L N x kk ∧ Bw w w'
/-- .. and of the statements' wakes -/
def WakeSpec : Prop := ∀ w : World, Calls Try.prog 10 #[] w fun e w' => e = .returned (.bool true) ∧ Bw w w'

theorem enc_some (k : Nat) (L : Nat → Nat) (N : Int) : ∃ x kk, EncSays k L N x kk := by
  obtain ⟨x, hx⟩ := kn_some (k : Int) N
  by_cases h0 : x = 0
  · subst h0
    obtain ⟨y, hy⟩ := rows_some k L
    by_cases h1 : y = 0
    · subst h1
      have := kn_ok hx
      exact ⟨0, N.toNat, Or.inr (Or.inr ⟨hx, hy, rfl, by omega⟩)⟩
    · exact ⟨y, 0, Or.inr (Or.inl ⟨hx, hy, h1, rfl⟩)⟩
  · exact ⟨x, 0, Or.inl ⟨hx, h0, rfl⟩⟩
theorem encsays_ok {k kk : Nat} {L : Nat → Nat} {N : Int} (h : EncSays k L N 0 kk) : KnWrong (k : Int) N 0 ∧ RowsWrong k L 0 ∧ (kk : Int) = N := by
  rcases h with ⟨_, h, _⟩ | ⟨_, _, h, _⟩ | ⟨a, b, _, d⟩
  · exact absurd rfl h
  · exact absurd rfl h
  · exact ⟨a, b, d⟩

theorem rsame_q (A B : Option Addr) (n m ca cb : Nat) (R S : Nat → Option Addr) (L C M D : Nat → Nat) (Z Y : Nat → Nat → Int) (hn : n ≤ 9223372036854775807) (w : World) (ha : MatAt w A n R L C Z) (hb : MatAt w B m S M D Y) (b : Bool) (h : b = true ↔ SameM n m L M Z Y) :
    Calls Try.prog 15 #[.slice A n ca, .slice B m cb] w fun e w' => e = .returned (.bool b) ∧ ∃ q, w' = w.drewN q := by
  refine (rsame_quiet A B n m ca cb R S L C M D Z Y hn w ha hb).mono ?_
  rintro e w' ⟨x, rfl, hx, hq⟩
  obtain rfl : x = b := by
    cases x <;> cases b
    · rfl
    · exact absurd (hx.2 (h.1 rfl)) (by decide)
    · exact absurd (h.2 (hx.1 rfl)) (by decide)
    · rfl
  exact ⟨rfl, hq⟩

theorem far_great (hwk : WakeSpec) (A B : Option Addr) (n m ca cb : Nat) (R S : Nat → Option Addr) (L C M E : Nat → Nat) (Z Y : Nat → Nat → Int) (N : Int) (w : World) (ha : InMat w A n ca R L C Z) (hb : InMat w B m cb S M E Y)
    (hg : great3 n L = true ∨ (great3 n L = false ∧ great3 m M = true)) :
    Calls Try.prog 7 #[.slice A n ca, .slice B m cb, .int .i64 N] w fun e w' => e = .returned (.bool true) ∧ Bw w w' := by
  have a1 := ha.le
  have a2 := ha.room
  have b1 := hb.le
  have b2 := hb.room
  have al : ∀ r, r < n → L r ≤ 140737488355328 := fun r hr => by have := ha.rows r hr; omega
  have bl : ∀ r, r < m → M r ≤ 140737488355328 := fun r hr => by have := hb.rows r hr; omega
  have AL : Hid (∀ r, r < n → L r ≤ 140737488355328) := al
  have BL : Hid (∀ r, r < m → M r ≤ 140737488355328) := bl
  clear al bl
  rcases hg with h1 | ⟨h1, h2⟩
  · go_enter Try.func7, Try.ntmps7
    go_wp2_with (first
      | (go_at_call 9; refine (great3_any A n ca R L C Z AL.out (by omega) _ ha.mat).mono ?_; rintro e w' ⟨rfl, hw'⟩; subst w'; rw [h1])
      | (go_at_call 10; refine (hwk _).mono ?_; rintro e w1 ⟨rfl, hw1⟩))
    go_ret
    exact ⟨rfl, hw1⟩
  · go_enter Try.func7, Try.ntmps7
    go_wp2_with (first
      | (go_at_call_of 9 (Value.slice A n ca); refine (great3_any A n ca R L C Z AL.out (by omega) _ ha.mat).mono ?_; rintro e w' ⟨rfl, hw'⟩; subst w'; rw [h1])
      | (go_at_call_of 9 (Value.slice B m cb); refine (great3_any B m cb S M E Y BL.out (by omega) _ hb.mat).mono ?_; rintro e w' ⟨rfl, hw'⟩; subst w'; rw [h2])
      | (go_at_call 10; refine (hwk _).mono ?_; rintro e w1 ⟨rfl, hw1⟩))
    go_ret
    exact ⟨rfl, hw1⟩

set_option maxRecDepth 100000 in
set_option maxHeartbeats 2000000 in
theorem far_err (henc : EncSpec) (hwk : WakeSpec) (A B : Option Addr) (n m ca cb : Nat) (R S : Nat → Option Addr) (L C M E : Nat → Nat) (Z Y : Nat → Nat → Int) (N : Int) (w : World) (ha : InMat w A n ca R L C Z) (hb : InMat w B m cb S M E Y)
    (h1 : great3 n L = false) (h2 : great3 m M = false) (x y : Int) (k1 k2 : Nat) (hx : EncSays n L N x k1) (hy : EncSays m M N y k2)
    (hc : (x != 0) = true ∨ ((x != 0) = false ∧ (y != 0) = true) ∨ ((x != 0) = false ∧ (y != 0) = false ∧ ((n : Int) != (m : Int)) = true)) :
    Calls Try.prog 7 #[.slice A n ca, .slice B m cb, .int .i64 N] w fun e w' => e = .returned (.bool true) ∧ Bw w w' := by
  have hn := (great3_no h1).1
  have hm := (great3_no h2).1
  have AL : Hid (∀ r, r < n → L r ≤ 140737488355328) := fun r hr => by have := (great3_no h1).2 r hr; omega
  have BL : Hid (∀ r, r < m → M r ≤ 140737488355328) := fun r hr => by have := (great3_no h2).2 r hr; omega
  rcases hc with c1 | ⟨c1, c2⟩ | ⟨c1, c2, c3⟩
  all_goals
    go_enter Try.func7, Try.ntmps7
    go_wp2_with (first
      | (go_at_call_of 9 (Value.slice A n ca); refine (great3_any A n ca R L C Z AL.out (by omega) _ ha.mat).mono ?_; rintro e w' ⟨rfl, hw'⟩; subst w'; rw [h1])
      | (go_at_call_of 9 (Value.slice B m cb); refine (great3_any B m cb S M E Y BL.out (by omega) _ hb.mat).mono ?_; rintro e w' ⟨rfl, hw'⟩; subst w'; rw [h2])
      | (go_at_call_of 14 (Value.slice A n ca); refine (henc A n ca R L C Z N _ ha.mat (by omega)).mono ?_; rintro e w1 ⟨v, x', kk, rfl, hv1, hs, hw1⟩; obtain ⟨e1, -⟩ := encsays_unique hx hs; subst e1; have hb1 := hb.mat.keep hw1; clear hs)
      | (go_at_call_of 14 (Value.slice B m cb); refine (henc B m cb S M E Y N _ hb1 (by omega)).mono ?_; rintro e w2 ⟨v2, y', kk2, rfl, hv2, hs, hw2⟩; obtain ⟨e1, -⟩ := encsays_unique hy hs; subst e1; clear hs))
    go_quiet (fail)
    go_wp2_with (go_at_call 10; refine (hwk _).mono ?_; rintro e w3 ⟨rfl, hw3⟩)
    go_ret
    exact ⟨rfl, hw1.trans (hw2.trans ((Bw.drewN _ _).trans hw3))⟩

/-- two data of one shape: their words differ enough -/
theorem far_math {k n q : Nat} {Z Y : Nat → Nat → Int} (hk : k ≤ 32) (hn : n ≤ 32) (hkn : k ≤ n) (hZ : ∀ r, r < k → ∀ c, 0 ≤ Z r c ∧ Z r c < 256) (hY : ∀ r, r < k → ∀ c, 0 ≤ Y r c ∧ Y r c < 256) (hne : ¬ ∀ r, r < k → ∀ c, c < q → Z r c = Y r c)
    (like : Nat → Bool) (hl : ∀ i, i < n → like i = true → ∀ c, c < q → wordI k Z i c = wordI k Y i c) : n - k + 1 ≤ cntB (fun i => !like i) n := by
  have ⟨r, hr, c, hc, h⟩ : ∃ r, r < k ∧ ∃ c, c < q ∧ Z r c ≠ Y r c := Classical.byContradiction fun e => hne fun r hr c hc => Classical.byContradiction fun h => e ⟨r, hr, c, hc, h⟩
  have h1 := word_far (k := k) (n := n) (c := c) (by omega) (by omega) (fun j hj => hZ j hj c) (fun j hj => hY j hj c) hr h like (fun i hi h2 => hl i hi h2 c hc)
  have h2 := cntB_not like n
  omega

attribute [local go_sem] List.getElem?_cons_zero Option.getD_some

set_option maxRecDepth 100000 in
set_option maxHeartbeats 4000000 in
theorem far_main (henc : EncSpec) (hwk : WakeSpec) (A B : Option Addr) (k ca cb : Nat) (R S : Nat → Option Addr) (L C M E : Nat → Nat) (Z Y : Nat → Nat → Int) (n : Nat) (w : World) (ha : InMat w A k ca R L C Z) (hb : InMat w B k cb S M E Y)
    (h1 : great3 k L = false) (h2 : great3 k M = false) (hx : EncSays k L (n : Int) 0 n) (hy : EncSays k M (n : Int) 0 n)
    (hc : ((L 0 : Int) != (M 0 : Int)) = true ∨ (((L 0 : Int) != (M 0 : Int)) = false ∧ SameM k k L M Z Y) ∨ (L 0 = M 0 ∧ ¬ SameM k k L M Z Y)) :
    Calls Try.prog 7 #[.slice A k ca, .slice B k cb, .int .i64 (n : Int)] w fun e w' => e = .returned (.bool true) ∧ Bw w w' := by
  have hk := (great3_no h1).1
  have AL : Hid (∀ r, r < k → L r ≤ 140737488355328) := fun r hr => by have := (great3_no h1).2 r hr; omega
  have BL : Hid (∀ r, r < k → M r ≤ 140737488355328) := fun r hr => by have := (great3_no h2).2 r hr; omega
  obtain ⟨hkn, hra, -⟩ := encsays_ok hx
  obtain ⟨-, hrb, -⟩ := encsays_ok hy
  obtain ⟨n1, n2, n3⟩ := kn_ok hkn
  have c3 : ((k : Int) != (k : Int)) = false := by simp
  have c4 : ((n : Int) != (n : Int)) = false := by simp
  have k0 : (0 : Int) < (k : Int) := by omega
  obtain ⟨b1, o1, rfl, hc1⟩ := ha.mat.at (k := 0) (by omega)
  obtain ⟨b2, o2, rfl, hc2⟩ := hb.mat.at (k := 0) (by omega)
  have g1 := hc1 0 (by omega)
  have g2 := hc2 0 (by omega)
  rw [Nat.add_zero] at g1 g2
  have am := ha.mat
  have bm := hb.mat
  clear hc1 hc2 ha hb
  rcases hc with d1 | ⟨d1, d2⟩ | ⟨d1, d2⟩
  · go_enter Try.func7, Try.ntmps7
    go_wp2_with (first
      | (go_at_call_of 9 ca; refine (great3_any _ k ca R L C Z AL.out (by omega) _ am).mono ?_; rintro e w' ⟨rfl, hw'⟩; subst w'; rw [h1])
      | (go_at_call_of 9 cb; refine (great3_any _ k cb S M E Y BL.out (by omega) _ bm).mono ?_; rintro e w' ⟨rfl, hw'⟩; subst w'; rw [h2])
      | (go_at_call_of 14 ca; refine (henc _ k ca R L C Z n _ am (by omega)).mono ?_; rintro e w1 ⟨v, x', kk, rfl, hv1, hs, hw1⟩; obtain ⟨e1, -⟩ := encsays_unique hx hs; subst e1; have bm1 := bm.keep hw1; clear hs)
      | (go_at_call_of 14 cb; refine (henc _ k cb S M E Y n _ bm1 (by omega)).mono ?_; rintro e w2 ⟨v2, y', kk2, rfl, hv2, hs, hw2⟩; obtain ⟨e1, -⟩ := encsays_unique hy hs; subst e1; clear hs; have g1' := cell_bw (hw1.trans hw2) g1; have g2' := cell_bw (hw1.trans hw2) g2))
    go_quiet (fail)
    go_wp2_with (go_at_call 10; refine (hwk _).mono ?_; rintro e w3 ⟨rfl, hw3⟩)
    go_ret
    exact ⟨rfl, hw1.trans (hw2.trans ((Bw.drewN _ _).trans hw3))⟩
  · go_enter Try.func7, Try.ntmps7
    go_wp2_with (first
      | (go_at_call_of 9 ca; refine (great3_any _ k ca R L C Z AL.out (by omega) _ am).mono ?_; rintro e w' ⟨rfl, hw'⟩; subst w'; rw [h1])
      | (go_at_call_of 9 cb; refine (great3_any _ k cb S M E Y BL.out (by omega) _ bm).mono ?_; rintro e w' ⟨rfl, hw'⟩; subst w'; rw [h2])
      | (go_at_call_of 14 ca; refine (henc _ k ca R L C Z n _ am (by omega)).mono ?_; rintro e w1 ⟨v, x', kk, rfl, hv1, hs, hw1⟩; obtain ⟨e1, e2⟩ := encsays_unique hx hs; subst e1; subst e2; obtain ⟨X, xc, RX, CX, rfl, hX⟩ := hv1; have bm1 := bm.keep hw1; clear hs)
      | (go_at_call_of 14 cb; refine (henc _ k cb S M E Y n _ bm1 (by omega)).mono ?_; rintro e w2 ⟨v2, y', kk2, rfl, hv2, hs, hw2⟩; obtain ⟨e1, e2⟩ := encsays_unique hy hs; subst e1; subst e2; obtain ⟨U, uc, RU, CU, rfl, hU⟩ := hv2; clear hs; have g1' := cell_bw (hw1.trans hw2) g1; have g2' := cell_bw (hw1.trans hw2) g2; have am2 := am.keep (hw1.trans hw2); have bm2 := bm1.keep hw2; have hX2 := hX.keep hw2))
    go_quiet ((go_at_call 15; exact Calls.quiet_of (rsame_q _ _ k k _ _ R S L C M E Z Y (by omega) _ (am2.keep (Bw.drewN _ _)) (bm2.keep (Bw.drewN _ _)) true ⟨fun _ => d2, fun _ => rfl⟩)))
    go_wp2_with (go_at_call 10; refine (hwk _).mono ?_; rintro e w3 ⟨rfl, hw3⟩)
    go_ret
    exact ⟨rfl, hw1.trans (hw2.trans ((Bw.drewN _ _).trans hw3))⟩
  · have d1' : ((L 0 : Int) != (M 0 : Int)) = false := by rw [d1]; simp
    have hne : ¬ ∀ r, r < k → ∀ c, c < L 0 → Z r c = Y r c := fun h => d2 ⟨rfl, fun r hr => ⟨by rw [(rows_ok hra).2 r hr, (rows_ok hrb).2 r hr, d1], fun i hi => h r hr i (by rw [(rows_ok hra).2 r hr] at hi; exact hi)⟩⟩
    have hfar : Hid (n - k + 1 ≤ cntB (fun i => !((str (wordI k Z i) (L 0)).toList == (str (wordI k Y i) (L 0)).toList)) n) := far_math (q := L 0) (by omega) (by omega) (by omega) (fun r hr => (am.2 r hr).2) (fun r hr => (bm.2 r hr).2) hne (fun i => ((str (wordI k Z i) (L 0)).toList == (str (wordI k Y i) (L 0)).toList)) (fun i _ h c hc => ((str_inj (fun c => wordI_bd k Z i c) (fun c => wordI_bd k Y i c)).1 (by simpa using h)).2 c hc)
    generalize hun : (fun i => !((str (wordI k Z i) (L 0)).toList == (str (wordI k Y i) (L 0)).toList)) = un at hfar
    have HU : Hid (∀ i, un i = !((str (wordI k Z i) (L 0)).toList == (str (wordI k Y i) (L 0)).toList)) := fun i => by rw [← hun]
    have HD : Hid (L 0 = M 0) := d1
    clear hun hne d1
    go_enter Try.func7, Try.ntmps7
    go_wp2_with (first
      | (go_at_call_of 9 ca; refine (great3_any _ k ca R L C Z AL.out (by omega) _ am).mono ?_; rintro e w' ⟨rfl, hw'⟩; subst w'; rw [h1])
      | (go_at_call_of 9 cb; refine (great3_any _ k cb S M E Y BL.out (by omega) _ bm).mono ?_; rintro e w' ⟨rfl, hw'⟩; subst w'; rw [h2])
      | (go_at_call_of 14 ca; refine (henc _ k ca R L C Z n _ am (by omega)).mono ?_; rintro e w1 ⟨v, x', kk, rfl, hv1, hs, hw1⟩; obtain ⟨e1, e2⟩ := encsays_unique hx hs; subst e1; subst e2; obtain ⟨X, xc, RX, CX, rfl, hX⟩ := hv1; have bm1 := bm.keep hw1; clear hs)
      | (go_at_call_of 14 cb; refine (henc _ k cb S M E Y n _ bm1 (by omega)).mono ?_; rintro e w2 ⟨v2, y', kk2, rfl, hv2, hs, hw2⟩; obtain ⟨e1, e2⟩ := encsays_unique hy hs; subst e1; subst e2; obtain ⟨U, uc, RU, CU, rfl, hU⟩ := hv2; clear hs; have g1' := cell_bw (hw1.trans hw2) g1; have g2' := cell_bw (hw1.trans hw2) g2; have am2 := am.keep (hw1.trans hw2); have bm2 := bm1.keep hw2; have hX2 := hX.keep hw2))
    go_quiet ((go_at_call 15; exact Calls.quiet_of (rsame_q _ _ k k _ _ R S L C M E Z Y (by omega) _ (am2.keep (Bw.drewN _ _)) (bm2.keep (Bw.drewN _ _)) false ⟨fun h => (by cases h), fun h => absurd h d2⟩)))
    go_wp2
    go_loopw [11, 12] (fun u i wr => ∃ t : Nat, t ≤ n ∧ i = .int .i64 t ∧ u = .int .i64 (cntB un t : Int) ∧ ∃ p, wr = w2.drewN p) (fun _ i _ => n - (intOf i).toNat)
    case atStart => exact ⟨0, Nat.zero_le _, rfl, rfl, nq, rfl⟩
    case round =>
      obtain ⟨t, ht, rfl, rfl, p0, rfl⟩ := hrel
      by_cases hlt : t < n
      · obtain ⟨b3, o3, rfl, hc3⟩ := hX2.at hlt
        obtain ⟨b4, o4, rfl, hc4⟩ := hU.at hlt
        have i3 : w2.cell? ⟨b3, o3 + t, none⟩ = some (.slice (RX t) (L 0) (CX t)) := hc3 t hlt
        have i4 : w2.cell? ⟨b4, o4 + t, none⟩ = some (.slice (RU t) (M 0) (CU t)) := hc4 t hlt
        have r3 := hX2.2 t hlt
        have r4 := hU.2 t hlt
        have hcb := cntB_le un t
        have cv3 : ∀ q, (convert 37 9 (.slice (RX t) (L 0) (CX t))).run Try.prog (w2.drewN q) = .ok (.string (str (wordI k Z t) (L 0))) (w2.drewN q) := fun q => conv_row (r3.keep (Bw.drewN _ q))
        have cv4 : ∀ q, (convert 37 9 (.slice (RU t) (M 0) (CU t))).run Try.prog (w2.drewN q) = .ok (.string (str (wordI k Y t) (M 0))) (w2.drewN q) := fun q => conv_row (r4.keep (Bw.drewN _ q))
        have t0 : (0 : Int) ≤ (t : Int) := Int.natCast_nonneg _
        have t1 : (t : Int) < (n : Int) := by omega
        rw [← HD.out] at i4 cv4
        have hut := HU.out t
        clear hc3 hc4 r3 r4
        by_cases he : (str (wordI k Z t) (L 0)).toList = (str (wordI k Y t) (L 0)).toList
        · have he2 : ((str (wordI k Z t) (L 0)).toList == (str (wordI k Y t) (L 0)).toList) = true := by simpa using he
          have hs : Hid (cntB un (t + 1) = cntB un t) := show cntB un t + (if un t then 1 else 0) = cntB un t by rw [hut, he2]; rfl
          clear hut he
          go_wp2
          go_quiet (fail)
          go_wp2
          go_roundw
          case rel => exact ⟨t + 1, by omega, by go_num, by rw [hs.out], by first | exact ⟨_, World.drewN_drewN _ _ _⟩ | exact ⟨_, rfl⟩⟩
          case measure => simp [intOf]; omega
        · have he2 : ((str (wordI k Z t) (L 0)).toList == (str (wordI k Y t) (L 0)).toList) = false := by simpa using he
          have hs : Hid (cntB un (t + 1) = cntB un t + 1) := show cntB un t + (if un t then 1 else 0) = cntB un t + 1 by rw [hut, he2]; rfl
          clear hut he
          go_wp2
          go_quiet (fail)
          go_wp2
          go_roundw
          case rel => exact ⟨t + 1, by omega, by go_num, by rw [hs.out]; go_num, by first | exact ⟨_, World.drewN_drewN _ _ _⟩ | exact ⟨_, rfl⟩⟩
          case measure => simp [intOf]; omega
      · have ek : n = t := by omega
        subst ek
        have hf := hfar.out
        have hf2 : (n : Int) - (k : Int) + 1 ≤ (cntB un n : Int) := by omega
        go_wp2_with (go_at_call 10; refine (hwk _).mono ?_; rintro e w3 ⟨rfl, hw3⟩)
        go_ret
        exact ⟨rfl, hw1.trans (hw2.trans ((Bw.drewN _ _).trans hw3))⟩

end Go.Proofs.Ytbhbdhkifkmkbaa
