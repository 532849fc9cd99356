/- Texts of mine, put together. -/
import Derived.Test.YtbhbdhkifkmkbaaB9

set_option linter.unusedVariables false

/- Mul and Encode once more, with the room behind what they hand out. -/
namespace Go.Proofs.Ytbhbdhkifkmkbaa
open Go.RowKit

attribute [local go_sem ↓] Go.wp_at_zero Go.wp_at_succ

set_option maxRecDepth 100000 in
set_option maxHeartbeats 1000000 in
theorem mul_ok2 (A B : Option Addr) (n m q ca cb : Nat) (R S : Nat → Option Addr) (L C M D : Nat → Nat) (Z Y : Nat → Nat → Int) (w : World) (ha : MatAt w A n R L C Z) (hb : MatAt w B m S M D Y)
    (hx : Wrong n L 0) (hy : Wrong m M 0) (hcA : colsI n L = (m : Int)) (hcB : colsI m M = (q : Int)) :
    Calls Try.prog 28 #[.slice A n ca, .slice B m cb] w fun e w' => ∃ h0, e = .returned (.tuple #[.slice (some ⟨h0, 0, none⟩) n n, .int .i64 0]) ∧ MatRes w' w.heap.size (.slice (some ⟨h0, 0, none⟩) n n) n (fun _ => q) (prodZ m Z Y) ∧ Bw w w' := by
  obtain ⟨hn, -, -⟩ := wrong_ok hx
  obtain ⟨hm, -, -⟩ := wrong_ok hy
  obtain ⟨-, hLm⟩ := wrong_cols hx hcA
  obtain ⟨hq, hMq⟩ := wrong_cols hy hcB
  have hLm' : Hid (∀ r, r < n → L r = m) := hLm
  have hMq' : Hid (∀ r, r < m → M r = q) := hMq
  clear hLm hMq
  have hnq : n * q ≤ 32 * 131072 := Nat.mul_le_mul hn hq
  have e1 : (colsI n L != (m : Int)) = false := by rw [hcA]; simp
  have hcb := capZ_bd ha
  go_enter Try.func28, Try.ntmps28
  go_wp2_with (first
    | (go_at_call_of 39 (Value.slice A n ca); refine (wrong_any _ _ _ _ _ _ _ _ ha).mono ?_; rintro e w' ⟨x, rfl, hx', hw'⟩; subst w'; obtain rfl := Wrong.unique hx' hx)
    | (go_at_call_of 39 (Value.slice B m cb); refine (wrong_any _ _ _ _ _ _ _ _ hb).mono ?_; rintro e w' ⟨x, rfl, hx', hw'⟩; subst w'; obtain rfl := Wrong.unique hx' hy)
    | (go_at_call_of 40 (Value.slice A n ca); refine (columns_any _ _ _ _ _ _ _ _ ha).mono ?_; rintro e w' ⟨rfl, hw'⟩; subst w')
    | (go_at_call_of 40 (Value.slice B m cb); refine (columns_any _ _ _ _ _ _ _ _ hb).mono ?_; rintro e w' ⟨rfl, hw'⟩; subst w'; rw [hcB])
    | (go_at_call 41; refine (space_any n q (by omega) (by omega) (by omega) _).mono ?_; rintro e w1 ⟨g, h, rfl, d, hg, hh, hbw⟩))
  obtain ⟨P, d⟩ : ∃ P, Grid w1 g h n q P (fun _ _ => 0) := ⟨_, d⟩
  go_loopw [35] (fun i wr => ∃ k : Nat, k ≤ n ∧ i = .int .i64 k ∧ Grid wr g h n q P (wayM m (capZ n Z) Y k 0) ∧ Bw w wr) (fun i _ => n - (intOf i).toNat)
  case atStart => exact ⟨0, Nat.zero_le _, rfl, d.congr (fun r c => wayM_bd hcb _ _ _ _) (fun r c _ _ => by unfold wayM; rw [if_neg (by omega)]; split <;> rfl), hbw⟩
  case round =>
    rename World => wo
    obtain ⟨k, hk, rfl, dk, hbk⟩ := hrel
    have hao := ha.keep hbk
    by_cases hlt : k < n
    · have hLk := hLm'.out k hlt
      obtain ⟨b1, o1, e2, hc1⟩ := hao.at hlt
      have h1 := hc1 k hlt
      rw [hLk] at h1
      have hrow := ha.2 k hlt
      rw [hLk] at hrow
      have k0 : (0 : Int) ≤ (k : Int) := Int.natCast_nonneg _
      have k1 : (k : Int) < (n : Int) := by omega
      subst e2
      clear hc1 hLk hao
      generalize R k = RK at h1 hrow
      go_wp2
      go_loopw [42] (fun i wr => ∃ t : Nat, t ≤ m ∧ i = .int .i64 t ∧ Grid wr g h n q P (wayM m (capZ n Z) Y k t) ∧ Bw w wr) (fun i _ => m - (intOf i).toNat)
      case atStart => exact ⟨0, Nat.zero_le _, rfl, dk, hbk⟩
      case round =>
        obtain ⟨t, ht, rfl, dt, hbt⟩ := hrel
        by_cases htm : t < m
        · obtain ⟨b3, o3, e3, hc3⟩ := (hrow.keep hbt).at htm
          have h3 := hc3 t htm
          have z3 := hrow.2 t
          have hMt := hMq'.out t htm
          obtain ⟨b4, o4, e4, hc4⟩ := (hb.keep hbt).at htm
          have h4 := hc4 t htm
          rw [hMt] at h4
          have hr4 := hb.2 t htm
          rw [hMt] at hr4
          have hdis : ∀ a, S t = some a → a.block ≠ g ∨ a.off + q ≤ P k * q ∨ P k * q + q ≤ a.off := by
            intro a e
            by_cases h0 : q = 0
            · subst h0; right; right; rw [Nat.mul_zero]; omega
            · left
              obtain ⟨b, o, e', hc⟩ := hr4.at (k := 0) (by omega)
              have := block_lt_of_cell (hc 0 (by omega))
              rw [e] at e'; cases e'; simp only at this ⊢; omega
          obtain ⟨c1, -⟩ := dt.head hlt
          have hrb := hr4.keep hbt
          have t0 : (0 : Int) ≤ (t : Int) := Int.natCast_nonneg _
          have t1 : (t : Int) < (m : Int) := by omega
          subst e3
          subst e4
          clear hc3 hc4 hMt
          have dt' : Grid wr.drew g h n q P (wayM m (capZ n Z) Y k t) := ⟨dt.heads, dt.cells, dt.lt, dt.inj, dt.ne, dt.bd⟩
          have hbt' : Bw w wr.drew := hbt.drew
          go_wp2
          go_region_with (go_at_call 43; refine (add_grid (by omega) (by omega) dt' hlt (by omega) hrb.drew hdis).mono ?_; rintro e w3 ⟨rfl, d3, hx3⟩)
          all_goals
            go_wp2
            go_roundw
            case rel =>
              refine ⟨t + 1, by omega, by go_num, d3.congr (fun r c => wayM_bd hcb _ _ _ _) (fun r c _ _ => ?_), Below.trans hbt' (hx3.below hbt'.size (fun b e => by omega))⟩
              rw [wayM_term, capZ_at hlt]
            case measure => simp [intOf]; omega
        · have ek : m = t := by omega
          subst ek
          go_wp2
          go_roundw
          case rel => exact ⟨k + 1, by omega, by go_num, dt.congr (fun r c => wayM_bd hcb _ _ _ _) (fun r c _ _ => wayM_row _ _ _ _ _ _), hbt⟩
          case measure => simp [intOf]; omega
    · have ek : n = k := by omega
      subst ek
      go_wp2
      go_ret2
      refine ⟨_, rfl, (dk.new hg hh).congr (fun r hr => ?_), hbk⟩
      funext c
      unfold wayM prodZ
      rw [if_pos hr, capZ_at hr]


set_option maxRecDepth 100000 in
theorem enc_ok2 (A : Option Addr) (k n cap : Nat) (R : Nat → Option Addr) (L C : Nat → Nat) (Z : Nat → Nat → Int) (w : World) (h : MatAt w A k R L C Z) (hkn : KnWrong (k : Int) (n : Int) 0) (hrw : RowsWrong k L 0) :
    Calls Try.prog 14 #[.slice A k cap, .int .i64 (n : Int)] w fun e w' => ∃ h0 R' C', e = .returned (.tuple #[.slice (some ⟨h0, 0, none⟩) n n, .int .i64 0]) ∧ NewMat w' w.heap.size (some ⟨h0, 0, none⟩) n R' (fun _ => L 0) C' (wordI k Z) ∧ Bw w w' := by
  obtain ⟨n1, n2, n3⟩ := kn_ok hkn
  obtain ⟨l1, l2⟩ := rows_ok hrw
  have wn : Hid (Wrong n (fun _ => k) 0) := wrong_lit (c := k) (by omega) (by omega) (fun _ => rfl)
  have wk : Hid (Wrong k L 0) := show Wrong k L 0 from Or.inr (Or.inr ⟨rfl, by omega, l1, l2⟩)
  clear l1 l2
  go_enter Try.func14, Try.ntmps14
  go_wp2_with (first
    | (go_at_call 11; refine (tab_ok k n hkn _).mono ?_; rintro e w1 ⟨v1, rfl, hr1, hw1⟩; obtain ⟨A1, cap1, R1, C1, rfl, hm1⟩ := hr1; have h1 := h.keep hw1)
    | (go_at_call 32; refine (rows_any A k cap R L C Z (by omega) _ h1).mono ?_; rintro e w' ⟨y, rfl, hy, hw'⟩; subst w'; obtain rfl := hy.unique hrw)
    | (go_at_call 28; refine (mul_ok2 A1 A n k (L 0) _ _ R1 R _ _ _ _ _ Z _ hm1.mat h1 wn.out wk.out (cols_const (by omega) rfl) (cols_const (by omega) rfl)).mono ?_; rintro e w3 ⟨h3, rfl, hr3, hw3⟩))
  go_ret2
  have hs := hw1.size
  obtain ⟨A', cap', R', C', hv, hm⟩ := (hr3.below hs).vals (Z' := wordI k Z) (fun r _ c => wordI_bd _ _ _ _) (fun r hr c hc => (word_math (fun j _ => rfl) (fun j => tabI_bd _ _ _) (fun j hj => (h.2 j hj).2 c)).symm)
  cases hv
  exact ⟨h3, R', C', rfl, hm, hw1.trans hw3⟩

end Go.Proofs.Ytbhbdhkifkmkbaa

/- Rows added, and three lists of rows made side by side. -/
namespace Go.Proofs.Ytbhbdhkifkmkbaa
open Go.RowKit

attribute [local go_sem ↓] Go.wp_at_zero Go.wp_at_succ

set_option maxRecDepth 100000 in
set_option maxHeartbeats 1000000 in
theorem plus3_any (A B : Option Addr) (q ca cb : Nat) (f g h : Nat → Int) (hq : q ≤ 131072) (w : World) (ha : RowAt w A q f) (hb : RowAt w B q g) (hh : Hid (∀ i, h i = addI (f i) (g i))) :
    Calls Try.prog 24 #[.slice A q ca, .slice B q cb] w fun e w' => ∃ v, e = .returned v ∧ w'.ownsRow w.heap.size 5 1 v q (cellsU h q) ∧ Bw w w' := by
  obtain ⟨i0, hi0, hz0, hz1, hz2⟩ := info_parts info_u8
  go_enter Try.func24, Try.ntmps24
  go_wp2
  go_loopw [5, 6] (fun v i wr => ∃ k : Nat, k ≤ q ∧ i = .int .i64 k ∧ wr.ownsRow w.heap.size 5 1 v k (cellsU h k) ∧ Bw w wr) (fun _ i _ => q - (intOf i).toNat)
  case atStart => exact ⟨0, Nat.zero_le _, rfl, World.ownsRow_nil _ _ _ _, Bw.refl _⟩
  case round =>
    obtain ⟨k, hk, rfl, hown, hw⟩ := hrel
    by_cases hlt : k < q
    · obtain ⟨b1, o1, rfl, hc1⟩ := (ha.keep hw).at hlt
      obtain ⟨b2, o2, rfl, hc2⟩ := (hb.keep hw).at hlt
      have h1 := hc1 k hlt
      have h2 := hc2 k hlt
      have f1 := ha.2 k
      have g1 := hb.2 k
      have r1 : bits .xor .u8 (f k) (g k) = h k := (u8_xor _ _ f1.1 f1.2 g1.1 g1.2).trans (hh.out k).symm
      have hk0 : (0 : Int) ≤ (k : Int) := Int.natCast_nonneg _
      have hk1 : (k : Int) < (q : Int) := by omega
      clear hc1 hc2
      have hsz := hw.size
      have l1 := ha.lt hlt
      have l2 := hb.lt hlt
      have hmx : k + 1 ≤ maxLen := by unfold maxLen; omega
      go_wp2
      go_region_held3 (fun w' => w'.cell? ⟨b1, o1 + k, none⟩ = some (.int .u8 (f k)) ∧ w'.cell? ⟨b2, o2 + k, none⟩ = some (.int .u8 (g k)))
        (first | go_keep | (go_split_ands; refine ⟨far_of hgrow ((hown.alloc _).drew) (by simp; omega) l1 (by assumption), far_of hgrow ((hown.alloc _).drew) (by simp; omega) l2 (by assumption)⟩))
        (first | (refine step_append_lies _ (by rfl) _ _ _ (by rfl) w.heap.size 5 i0 _ 1 1 Try.underlying37 hi0 hz0 hz1 hz2 rfl (by omega) _ _ _ (by rfl) ((hown.alloc _).drew) ⟨wr.heap.size, 0, none⟩ 1 1 [.int .u8 (h k)] (by rfl) (by rfl) (World.news_of_block (cs := #[.int .u8 (h k)]) (t := 5) (fr := (0, 0)) (heap_alloc_new wr _)) (by simp [Value.oneCell']) (by omega) hmx (by omega) (by simp; omega) (wr.heap.size + 1) (by simp) ?_; intro gg cap w1 hown1 hgrow hat hlt'))
      go_wp2
      go_roundw
      case rel => exact ⟨k + 1, by omega, by go_num, by rw [cellsU_succ]; exact hown1, ((Below.alloc hw hsz _).drew).grown hgrow (by simp; omega) (own_ge hown)⟩
      case measure => simp [intOf]; omega
    · have ek : k = q := by omega
      subst ek
      go_wp2
      go_ret
      exact ⟨_, rfl, hown, hw⟩

/-- two rows of the call's own lie apart -/
def Dj (a b : Value) : Prop := a.ownBlock = none ∨ b.ownBlock = none ∨ a.ownBlock ≠ b.ownBlock
theorem Dj.symm {a b : Value} (h : Dj a b) : Dj b a := by
  rcases h with h | h | h
  · exact Or.inr (Or.inl h)
  · exact Or.inl h
  · exact Or.inr (Or.inr (Ne.symm h))
theorem Dj.ne {a b : Value} (h : Dj a b) : a.ownBlock = none ∨ a.ownBlock ≠ b.ownBlock := by
  rcases h with h | h | h
  · exact Or.inl h
  · by_cases e : a.ownBlock = none
    · exact Or.inl e
    · exact Or.inr (by rw [h]; exact e)
  · exact Or.inr h

/-- three lists of rows that are made side by side; the rows of one of them are new -/
structure Tri (W : World) (base : Nat) (v1 : Value) (n1 : Nat) (x1 : List Value) (v2 : Value) (n2 : Nat) (x2 : List Value) (v3 : Value) (n3 : Nat) (x3 : List Value) (t : Nat) (R : Nat → Option Addr) (q : Nat) (Z : Nat → Nat → Int) : Prop where
  o1 : W.ownsRow base 37 1 v1 n1 x1
  o2 : W.ownsRow base 37 1 v2 n2 x2
  o3 : W.ownsRow base 37 1 v3 n3 x3
  d12 : Dj v1 v2
  d23 : Dj v2 v3
  d31 : Dj v3 v1
  rows : ∀ r, r < t → RowAt W (R r) q (Z r)
  off : ∀ r a, r < t → R r = some a → a.block < W.heap.size ∧ v1.ownBlock ≠ some a.block ∧ v2.ownBlock ≠ some a.block ∧ v3.ownBlock ≠ some a.block

theorem Tri.rot {W : World} {base : Nat} {v1 v2 v3 : Value} {n1 n2 n3 : Nat} {x1 x2 x3 : List Value} {t q : Nat} {R : Nat → Option Addr} {Z : Nat → Nat → Int} (h : Tri W base v1 n1 x1 v2 n2 x2 v3 n3 x3 t R q Z) : Tri W base v2 n2 x2 v3 n3 x3 v1 n1 x1 t R q Z :=
  ⟨h.o2, h.o3, h.o1, h.d23, h.d31, h.d12, h.rows, fun r a hr ha => by have := h.off r a hr ha; exact ⟨this.1, this.2.2.1, this.2.2.2, this.2.1⟩⟩
theorem Tri.keep {W W' : World} {base : Nat} {v1 v2 v3 : Value} {n1 n2 n3 : Nat} {x1 x2 x3 : List Value} {t q : Nat} {R : Nat → Option Addr} {Z : Nat → Nat → Int} (h : Tri W base v1 n1 x1 v2 n2 x2 v3 n3 x3 t R q Z) (b : Bw W W') : Tri W' base v1 n1 x1 v2 n2 x2 v3 n3 x3 t R q Z :=
  ⟨own_keep h.o1 b, own_keep h.o2 b, own_keep h.o3 b, h.d12, h.d23, h.d31, fun r hr => (h.rows r hr).keep b, fun r a hr ha => ⟨Nat.lt_of_lt_of_le (h.off r a hr ha).1 b.size, (h.off r a hr ha).2⟩⟩
theorem own_lt3 {W : World} {base : Nat} {e : TypeId} {s n : Nat} {v : Value} {xs : List Value} (h : W.ownsRow base e s v n xs) : ∀ b, v.ownBlock = some b → b < W.heap.size := by
  intro b hb
  rcases h.2 with ⟨rfl, _⟩ | ⟨g, cap, cur, rfl, _, hg, _⟩
  · cases hb
  · simp only [Value.ownBlock, Option.some.injEq] at hb
    subst hb
    exact (Array.getElem?_eq_some_iff.1 hg).1
theorem row_grown {W W' : World} {A : Option Addr} {L : Nat} {f : Nat → Int} {row : Option Nat} (h : RowAt W A L f) (hg : W.grownBy W' row) (hA : ∀ a, A = some a → row ≠ some a.block) : RowAt W' A L f := by
  refine ⟨?_, h.2⟩
  rcases h.1 with h0 | ⟨b, off, e, hc⟩
  · exact Or.inl h0
  · refine Or.inr ⟨b, off, e, fun i hi => ?_⟩
    rw [World.cell?_of_block (w := W) (hg.block b (block_lt_of_cell (hc i hi)) (fun e' => hA _ e e'.symm))]
    exact hc i hi

theorem Tri.app {W w2 : World} {base : Nat} {v1 v2 v3 : Value} {n1 n2 n3 : Nat} {x1 x2 x3 : List Value} {t q : Nat} {R : Nat → Option Addr} {Z : Nat → Nat → Int} (h : Tri W base v1 n1 x1 v2 n2 x2 v3 n3 x3 t R q Z) {o : Obj} {g m c : Nat} {y1 : List Value}
    (hgrow : (W.alloc o).grownBy w2 v1.ownBlock) (hat : v1.ownBlock = some g ∨ g = W.heap.size + 1) (hown : w2.ownsRow base 37 1 (.slice (some ⟨g, 0, none⟩) m c) m y1) :
    Tri w2 base (.slice (some ⟨g, 0, none⟩) m c) m y1 v2 n2 x2 v3 n3 x3 t R q Z := by
  have hdj : ∀ v n x, W.ownsRow base 37 1 v n x → Dj v1 v → Dj (.slice (some ⟨g, 0, none⟩) m c) v := by
    intro v n x ho hd
    by_cases e : v.ownBlock = none
    · exact Or.inr (Or.inl e)
    · refine Or.inr (Or.inr fun e2 => ?_)
      have e3 : v.ownBlock = some g := e2.symm
      rcases hat with h1 | h1
      · rcases hd with h2 | h2 | h2
        · rw [h1] at h2; cases h2
        · exact e h2
        · exact h2 (by rw [h1, e3])
      · have := own_lt3 ho g e3; omega
  have hb : Bw W (W.alloc o) := (Below.refl _ _).alloc (Nat.le_refl _) _
  refine ⟨hown, (h.o2.alloc o).kept hgrow h.d12.symm.ne, (h.o3.alloc o).kept hgrow h.d31.ne, hdj _ _ _ h.o2 h.d12, h.d23, (hdj _ _ _ h.o3 h.d31.symm).symm, fun r hr => ?_, fun r a hr ha => ?_⟩
  · exact row_grown ((h.rows r hr).keep hb) hgrow (fun a ha => (h.off r a hr ha).2.1)
  · have h1 := h.off r a hr ha
    have hs := hgrow.size
    rw [size_alloc] at hs
    refine ⟨by omega, fun e => ?_, h1.2.2⟩
    have e' : g = a.block := by simpa [Value.ownBlock] using e
    rcases hat with h2 | h2
    · exact h1.2.1 (by rw [h2, e'])
    · omega

theorem Tri.row {W0 W : World} {base : Nat} {v1 v2 v3 : Value} {n1 n2 n3 : Nat} {x1 x2 x3 : List Value} {t q : Nat} {R : Nat → Option Addr} {Z : Nat → Nat → Int} (h : Tri W0 base v1 n1 x1 v2 n2 x2 v3 n3 x3 t R q Z) (b : Bw W0 W) {A1 : Option Addr} (hr : RowAt W A1 q (Z t)) (hA : ∀ a, A1 = some a → W0.heap.size ≤ a.block ∧ a.block < W.heap.size) :
    Tri W base v1 n1 x1 v2 n2 x2 v3 n3 x3 (t + 1) (upd R t A1) q Z := by
  have k := h.keep b
  refine ⟨k.o1, k.o2, k.o3, k.d12, k.d23, k.d31, fun r hr' => ?_, fun r a hr' ha => ?_⟩
  · by_cases e : r = t
    · subst e; rw [upd_at]; exact hr
    · rw [upd_ne _ _ e]; exact k.rows r (by omega)
  · by_cases e : r = t
    · subst e
      rw [upd_at] at ha
      have h1 := hA a ha
      exact ⟨h1.2, fun e => by have := own_lt3 h.o1 _ e; omega, fun e => by have := own_lt3 h.o2 _ e; omega, fun e => by have := own_lt3 h.o3 _ e; omega⟩
    · rw [upd_ne _ _ e] at ha
      exact k.off r a (by omega) ha

end Go.Proofs.Ytbhbdhkifkmkbaa
