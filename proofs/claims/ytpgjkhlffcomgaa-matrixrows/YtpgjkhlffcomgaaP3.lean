/- The program's work space: rows cut out of one block. -/
import Derived.Test.YtpgjkhlffcomgaaP2
import Derived.Deep.Slices
namespace Go.Proofs.Ytpgjkhlffcomgaa
open Go.RowKit

theorem made_rows (n : Nat) (h : n ≤ 1048576) : ∃ M : Array Value, M.size = n ∧
    ∀ w, (Instr.makeSlice 30 (.int .i64 (n : Int)) (.int .i64 (n : Int))).run Try.prog w = .ok (.slice (some ⟨w.heap.size, 0, none⟩) n n) (w.alloc (.cells M 22)) := by
  refine ⟨madeCells #[.slice none 0 0] n, ?_, fun w => run_make_row' 30 22 (.slice none 0 0) 24 Try.underlying30 info_row rfl .i64 .i64 n (by omega) (by omega) w⟩
  simp [madeCells]

/-- n rows of m numbers, cut out of the block g (row r is the one at P r), their heads in the block h -/
structure Grid (W : World) (g h n m : Nat) (P : Nat → Nat) (Z : Nat → Nat → Int) : Prop where
  heads : ∃ cur, W.heap[h]? = some (.cells cur 22 (0, 0)) ∧ cur.size = n ∧ ∀ r, r < n → cur[r]? = some (.slice (some ⟨g, P r * m, none⟩) m m)
  cells : ∃ F, BlockIs W g (n * m) F ∧ (∀ i, 0 ≤ F i ∧ F i < 256) ∧ ∀ r c, r < n → c < m → F (P r * m + c) = Z r c
  lt : ∀ r, r < n → P r < n
  inj : ∀ r s, r < n → s < n → P r = P s → r = s
  ne : g ≠ h
  bd : ∀ r c, 0 ≤ Z r c ∧ Z r c < 256

set_option maxRecDepth 100000 in
theorem space_any (n m : Nat) (hn : n ≤ 131072) (hm : n * m ≤ 8388608) (hm' : m ≤ 8388608) (w : World) :
    Calls Try.prog 36 #[.int .i64 n, .int .i64 m] w fun e w' => ∃ g h, e = .returned (.slice (some ⟨h, 0, none⟩) n n) ∧ Grid w' g h n m (fun r => r) (fun _ _ => 0) ∧ w.heap.size ≤ g ∧ w.heap.size ≤ h ∧ Bw w w' := by
  obtain ⟨M0, hM, hM0, hmk⟩ := made_bytes (n * m) (by omega)
  obtain ⟨H0, hH, hmh⟩ := made_rows n (by omega)
  obtain ⟨N, hN⟩ : ∃ N, N = n * m := ⟨_, rfl⟩
  have e1 : ((n * m : Nat) : Int) = (n : Int) * (m : Int) := Int.natCast_mul n m
  rw [e1, ← hN] at hmk
  rw [← hN] at hM0 hM
  have b1 : (0 : Int) ≤ (n : Int) * (m : Int) := by omega
  have b2 : (n : Int) * (m : Int) ≤ 8388608 := by omega
  have HM : Hid (∀ i, i < N → M0[i]? = some (.int .u8 0)) := hM0
  have HN : Hid (N = n * m) := hN
  clear e1 hM0 hN hm
  go_enter Try.func36, Try.ntmps36
  go_wp2
  go_loopw [16] (fun i wr => ∃ k : Nat, k ≤ n ∧ i = .int .i64 k ∧ wr.heap[w.heap.size]? = some (.cells M0 5 (0, 0)) ∧ (∃ cur, wr.heap[w.heap.size + 1]? = some (.cells cur 22 (0, 0)) ∧ cur.size = n ∧ ∀ r : Nat, r < k → cur[r]? = some (.slice (some ⟨w.heap.size, r * m, none⟩) m m)) ∧ Bw w wr) (fun i _ => n - (intOf i).toNat)
  case atStart => exact ⟨0, Nat.zero_le _, rfl, heap_alloc2_old _ _ _, ⟨_, heap_alloc2_new _ _ _, hH, fun b hb => by omega⟩, ((Below.refl _ _).alloc (Nat.le_refl _) _).alloc (by rw [size_alloc]; omega) _⟩
  case round =>
    obtain ⟨k, hk, rfl, hc, ⟨cur, hcur, hs, hv⟩, hb⟩ := hrel
    by_cases hlt : k < n
    · obtain ⟨v1, hv1⟩ : ∃ v, cur[k]? = some v := ⟨_, Array.getElem?_eq_getElem (by omega)⟩
      have hx : wr.cell? ⟨w.heap.size + 1, k, none⟩ = some v1 := (cell_of_row wr (w.heap.size + 1) k cur _ _ hcur).trans hv1
      have hf : wr.frozen? ⟨w.heap.size + 1, k, none⟩ = false := frozen_of_row wr (w.heap.size + 1) k cur _ hcur
      have k0 : (0 : Int) ≤ (k : Int) := Int.natCast_nonneg _
      have k1 : (k : Int) < (n : Int) := by omega
      have p1 : (k : Int) * (m : Int) = ((k * m : Nat) : Int) := (Int.natCast_mul k m).symm
      have p2 : ((k : Int) + 1) * (m : Int) = (((k + 1) * m : Nat) : Int) := by rw [Int.natCast_mul]; rfl
      have p3 : (k + 1) * m = k * m + m := Nat.succ_mul k m
      have p4 : (k + 1) * m ≤ N := by rw [HN.out]; exact Nat.mul_le_mul_right m hlt
      have p5 : N ≤ 8388608 := by have := HN.out; have e1 : ((n * m : Nat) : Int) = (n : Int) * (m : Int) := Int.natCast_mul n m; omega
      have q1 : (0 : Int) ≤ (k : Int) * (m : Int) := by omega
      have q2 : (k : Int) * (m : Int) ≤ ((k : Int) + 1) * (m : Int) := by omega
      have q3 : ((k : Int) + 1) * (m : Int) ≤ (N : Int) := by omega
      have q4 : (N : Int) ≤ 8388608 := by omega
      have t1 : ((k : Int) * (m : Int)).toNat = k * m := by rw [p1, Int.toNat_natCast]
      have t2 : (((k : Int) + 1) * (m : Int)).toNat = k * m + m := by rw [p2, Int.toNat_natCast, p3]
      clear p1 p2 p3 p4 p5
      go_wp2
      have hif : (if m = 0 then some (⟨w.heap.size, 0, none⟩ : Addr) else some ⟨w.heap.size, k * m, none⟩) = some ⟨w.heap.size, k * m, none⟩ := by
        by_cases e : m = 0
        · subst e; rw [if_pos rfl, Nat.mul_zero]
        · rw [if_neg e]
      go_roundw
      case rel =>
        rw [hif]
        refine ⟨k + 1, by omega, by go_num, (heap_setCell_other wr _ _ _ (by simp only; omega)).trans hc, ⟨_, heap_setCell_same wr _ k cur _ _ hcur, by simpa using hs, fun b hb' => ?_⟩, Bw.put hb (by omega) _ _⟩
        by_cases e : b = k
        · subst e; rw [Array.getElem?_setIfInBounds_self_of_lt (by omega)]
        · rw [Array.getElem?_setIfInBounds_ne (Ne.symm e), hv b (by omega)]
      case measure => simp [intOf]; omega
    · have ek : n = k := by omega
      subst ek
      go_wp2
      go_ret
      refine ⟨_, _, rfl, ⟨⟨cur, hcur, hs, hv⟩, ⟨fun _ => 0, ⟨M0, hc, by rw [hM]; exact HN.out, fun c hc' => HM.out c (by rw [HN.out]; exact hc')⟩, fun _ => ⟨Int.le_refl 0, show (0 : Int) < 256 by decide⟩, fun _ _ _ _ => rfl⟩, fun r hr => hr, fun r s _ _ e => e, by omega, fun _ _ => ⟨Int.le_refl 0, show (0 : Int) < 256 by decide⟩⟩, Nat.le_refl _, by omega, hb⟩

theorem cut_apart {a b c m : Nat} (h : a ≠ b) (hc : c < m) : ¬ (b * m ≤ a * m + c ∧ a * m + c < b * m + m) := by
  intro ⟨h1, h2⟩
  rcases Nat.lt_or_gt_of_ne h with h | h
  · have := Nat.mul_le_mul_right m (show a + 1 ≤ b from h)
    rw [Nat.succ_mul] at this; omega
  · have := Nat.mul_le_mul_right m (show b + 1 ≤ a from h)
    rw [Nat.succ_mul] at this; omega

theorem cut_le {a n c m : Nat} (h : a < n) (hc : c ≤ m) : a * m + c ≤ n * m := by
  have := Nat.mul_le_mul_right m (show a + 1 ≤ n from h)
  rw [Nat.succ_mul] at this; omega

theorem Grid.row {W : World} {g h n m : Nat} {P : Nat → Nat} {Z : Nat → Nat → Int} (d : Grid W g h n m P Z) {r : Nat} (hr : r < n) : RowAt W (some ⟨g, P r * m, none⟩) m (Z r) := by
  obtain ⟨F, hb, _, hF⟩ := d.cells
  refine ⟨Or.inr ⟨g, P r * m, rfl, fun i hi => ?_⟩, d.bd r⟩
  rw [← hF r i hr hi]
  have := cut_le (m := m) (c := i + 1) (d.lt r hr) (by omega)
  exact (hb.cell (by omega)).1

theorem Grid.head {W : World} {g h n m : Nat} {P : Nat → Nat} {Z : Nat → Nat → Int} (d : Grid W g h n m P Z) {r : Nat} (hr : r < n) : W.cell? ⟨h, r, none⟩ = some (.slice (some ⟨g, P r * m, none⟩) m m) ∧ W.frozen? ⟨h, r, none⟩ = false := by
  obtain ⟨cur, h1, _, h2⟩ := d.heads
  exact ⟨(cell_of_row W h r cur _ _ h1).trans (h2 r hr), frozen_of_row W h r cur _ h1⟩

theorem Grid.cell {W : World} {g h n m : Nat} {P : Nat → Nat} {Z : Nat → Nat → Int} (d : Grid W g h n m P Z) {r c : Nat} (hr : r < n) (hc : c < m) : W.cell? ⟨g, P r * m + c, none⟩ = some (.int .u8 (Z r c)) ∧ W.frozen? ⟨g, P r * m + c, none⟩ = false := by
  obtain ⟨F, hb, _, hF⟩ := d.cells
  rw [← hF r c hr hc]
  have := cut_le (m := m) (c := c + 1) (d.lt r hr) (by omega)
  exact hb.cell (by omega)

theorem Grid.glt {W : World} {g h n m : Nat} {P : Nat → Nat} {Z : Nat → Nat → Int} (d : Grid W g h n m P Z) : g < W.heap.size := by
  obtain ⟨F, ⟨cur, hcur, _⟩, _⟩ := d.cells
  exact (Array.getElem?_eq_some_iff.1 hcur).1
theorem Grid.hlt {W : World} {g h n m : Nat} {P : Nat → Nat} {Z : Nat → Nat → Int} (d : Grid W g h n m P Z) : h < W.heap.size := by
  obtain ⟨cur, hcur, _⟩ := d.heads
  exact (Array.getElem?_eq_some_iff.1 hcur).1

theorem Grid.keepx {S : Nat → Prop} {W W' : World} {g h n m : Nat} {P : Nat → Nat} {Z : Nat → Nat → Int} (d : Grid W g h n m P Z) (k : Bx S W W') (hg : ¬ S g) (hh : ¬ S h) : Grid W' g h n m P Z := by
  obtain ⟨cur, h1, h2⟩ := d.heads
  obtain ⟨F, ⟨cu, c1, c2⟩, h3⟩ := d.cells
  exact ⟨⟨cur, (k.block h d.hlt hh).trans h1, h2⟩, ⟨F, ⟨cu, (k.block g d.glt hg).trans c1, c2⟩, h3⟩, d.lt, d.inj, d.ne, d.bd⟩

theorem Grid.keep {W W' : World} {g h n m : Nat} {P : Nat → Nat} {Z : Nat → Nat → Int} (d : Grid W g h n m P Z) (k : Bw W W') : Grid W' g h n m P Z := d.keepx (Bx.of_bw (S := fun _ => False) k) id id

theorem Grid.congr {W : World} {g h n m : Nat} {P : Nat → Nat} {Z Z' : Nat → Nat → Int} (d : Grid W g h n m P Z) (hb : ∀ r c, 0 ≤ Z' r c ∧ Z' r c < 256) (e : ∀ r c, r < n → c < m → Z' r c = Z r c) : Grid W g h n m P Z' := by
  obtain ⟨F, h1, h2, h3⟩ := d.cells
  exact ⟨d.heads, ⟨F, h1, h2, fun r c hr hc => (h3 r c hr hc).trans (e r c hr hc).symm⟩, d.lt, d.inj, d.ne, hb⟩

theorem Grid.mat {W : World} {g h n m : Nat} {P : Nat → Nat} {Z : Nat → Nat → Int} (d : Grid W g h n m P Z) : MatAt W (some ⟨h, 0, none⟩) n (fun r => some ⟨g, P r * m, none⟩) (fun _ => m) (fun _ => m) Z :=
  ⟨Or.inr ⟨h, 0, rfl, fun r hr => by rw [Nat.zero_add]; exact (d.head hr).1⟩, fun r hr => d.row hr⟩

/-- a row that was turned -/
theorem Grid.turned {W W' : World} {g h n m : Nat} {P : Nat → Nat} {Z : Nat → Nat → Int} (d : Grid W g h n m P Z) (k : Bx (· = g) W W') {F F' : Nat → Int} {r : Nat} {z : Nat → Int} (hr : r < n)
    (hF : ∀ r c, r < n → c < m → F (P r * m + c) = Z r c) (hb : BlockIs W' g (n * m) F') (hF' : ∀ i, 0 ≤ F' i ∧ F' i < 256) (hz : ∀ i, 0 ≤ z i ∧ z i < 256)
    (h1 : ∀ c, c < m → F' (P r * m + c) = z c) (h2 : ∀ i, ¬ (P r * m ≤ i ∧ i < P r * m + m) → F' i = F i) : Grid W' g h n m P (upd Z r z) := by
  obtain ⟨cur, c1, c2⟩ := d.heads
  refine ⟨⟨cur, (k.block h d.hlt (fun e => d.ne e.symm)).trans c1, c2⟩, ⟨F', hb, hF', fun s c hs hc => ?_⟩, d.lt, d.inj, d.ne, fun s c => ?_⟩
  · by_cases e : s = r
    · subst e; rw [upd_at]; exact h1 c hc
    · rw [upd_ne _ _ e, h2 _ (cut_apart (fun e' => e (d.inj s r hs hr e')) hc)]; exact hF s c hs hc
  · by_cases e : s = r
    · subst e; rw [upd_at]; exact hz c
    · rw [upd_ne _ _ e]; exact d.bd s c

theorem add_grid {g h n m r cb : Nat} {P : Nat → Nat} {Z : Nat → Nat → Int} {f : Nat → Int} {B : Option Addr} {c : Int} (c0 : 0 ≤ c) (c1 : c < 256) {w : World} (d : Grid w g h n m P Z) (hr : r < n) (hm : m ≤ 1048576)
    (hB : RowAt w B m f) (hd : ∀ a, B = some a → a.block ≠ g ∨ a.off + m ≤ P r * m ∨ P r * m + m ≤ a.off) :
    Calls Try.prog 30 #[.slice (some ⟨g, P r * m, none⟩) m m, .slice B m cb, .int .u8 c] w fun e w' => e = .returned (.tuple #[]) ∧ Grid w' g h n m P (upd Z r (fun l => addI (Z r l) (mulI c (f l)))) ∧ Bx (· = g) w w' := by
  obtain ⟨F, hb, hF, hZ⟩ := d.cells
  refine (add_any' g (P r * m) m (n * m) m cb F f B c c0 c1 w hb (cut_le (d.lt r hr) (Nat.le_refl _)) hm hF hB hd).mono ?_
  rintro e w' ⟨rfl, hb', hx⟩
  refine ⟨rfl, d.turned hx hr hZ hb' (addF_bd hF c1) (fun i => addI_bd _ _ (d.bd r i).2 (mulI_bd _ _ c1).2) (fun i hi => ?_) (fun i hi => ?_), hx⟩
  · unfold addF; rw [if_pos (by omega), Nat.add_sub_cancel_left, hZ r i hr hi]
  · unfold addF; rw [if_neg hi]

theorem scale_grid {g h n m r : Nat} {P : Nat → Nat} {Z : Nat → Nat → Int} {c : Int} (c0 : 0 ≤ c) (c1 : c < 256) {w : World} (d : Grid w g h n m P Z) (hr : r < n) (hm : m ≤ 1048576) :
    Calls Try.prog 43 #[.slice (some ⟨g, P r * m, none⟩) m m, .int .u8 c] w fun e w' => e = .returned (.tuple #[]) ∧ Grid w' g h n m P (upd Z r (fun l => mulI (invR c) (Z r l))) ∧ Bx (· = g) w w' := by
  obtain ⟨F, hb, hF, hZ⟩ := d.cells
  refine (scale_any g (P r * m) m (n * m) m F c c0 c1 w hb (cut_le (d.lt r hr) (Nat.le_refl _)) hm hF).mono ?_
  rintro e w' ⟨rfl, hb', hx⟩
  refine ⟨rfl, d.turned hx hr hZ hb' (sclF_bd hF (invR_bd c).2) (fun i => mulI_bd _ _ (invR_bd c).2) (fun i hi => ?_) (fun i hi => ?_), hx⟩
  · unfold sclF; rw [if_pos (by omega), hZ r i hr hi]
  · unfold sclF; rw [if_neg hi]

/-- two heads changed about -/
theorem Grid.swap {W : World} {g h n m : Nat} {P : Nat → Nat} {Z : Nat → Nat → Int} (d : Grid W g h n m P Z) {r q : Nat} (hr : r < n) (hq : q < n) :
    Grid ((W.setCell ⟨h, r, none⟩ (.slice (some ⟨g, P q * m, none⟩) m m)).setCell ⟨h, q, none⟩ (.slice (some ⟨g, P r * m, none⟩) m m)) g h n m (upd (upd P r (P q)) q (P r)) (upd (upd Z r (Z q)) q (Z r)) := by
  obtain ⟨cur, c1, c2, c3⟩ := d.heads
  obtain ⟨F, ⟨cu, b1, b2⟩, hF, hZ⟩ := d.cells
  have hx : Bx (· = h) W ((W.setCell ⟨h, r, none⟩ (.slice (some ⟨g, P q * m, none⟩) m m)).setCell ⟨h, q, none⟩ (.slice (some ⟨g, P r * m, none⟩) m m)) := Bx.put (Bx.put (Bx.refl (· = h) W) rfl) rfl
  have hP : ∀ s, upd (upd P r (P q)) q (P r) s = P (if s = q then r else if s = r then q else s) := by
    intro s; unfold upd; split
    · rfl
    · split <;> rfl
  have hZ' : ∀ s, upd (upd Z r (Z q)) q (Z r) s = Z (if s = q then r else if s = r then q else s) := by
    intro s; unfold upd; split
    · rfl
    · split <;> rfl
  refine ⟨⟨_, heap_setCell_same _ h q _ _ _ (heap_setCell_same W h r cur _ _ c1), by simpa using c2, fun s hs => ?_⟩, ⟨F, ⟨cu, (hx.block g d.glt d.ne).trans b1, b2⟩, hF, fun s c hs hc => ?_⟩, fun s hs => ?_, fun s t hs ht e => ?_, d.ne, fun s c => ?_⟩
  · by_cases e : s = q
    · subst e; rw [Array.getElem?_setIfInBounds_self_of_lt (by simp only [Array.size_setIfInBounds]; omega), upd_at]
    · rw [Array.getElem?_setIfInBounds_ne (Ne.symm e), upd_ne _ _ e]
      by_cases e' : s = r
      · subst e'; rw [Array.getElem?_setIfInBounds_self_of_lt (by omega), upd_at]
      · rw [Array.getElem?_setIfInBounds_ne (Ne.symm e'), upd_ne _ _ e', c3 s hs]
  · rw [hP, hZ']; exact hZ _ c (by split; exact hr; split; exact hq; exact hs) hc
  · rw [hP]; exact d.lt _ (by split; exact hr; split; exact hq; exact hs)
  · rw [hP, hP] at e
    have := d.inj _ _ (by split; exact hr; split; exact hq; exact hs) (by split; exact hr; split; exact hq; exact ht) e
    revert this; split <;> split <;> (try split) <;> (try split) <;> omega
  · rw [hZ']; exact d.bd _ c

end Go.Proofs.Ytpgjkhlffcomgaa
