/- Texts of mine, put together. -/
import Derived.Test.YtbhbdhkifkmkbaaB4
import Derived.Deep.Slices
import Derived.Laws.CopyOwn
import Derived.BigRegion
import Derived.WalkMore

set_option linter.unusedVariables false

/- The program's work space: rows cut out of one block. -/
namespace Go.Proofs.Ytbhbdhkifkmkbaa
open Go.RowKit

theorem made_rows (n : Nat) (h : n ≤ 1048576) : ∃ M : Array Value, M.size = n ∧
    ∀ w, (Instr.makeSlice 22 (.int .i64 (n : Int)) (.int .i64 (n : Int))).run Try.prog w = .ok (.slice (some ⟨w.heap.size, 0, none⟩) n n) (w.alloc (.cells M 37)) := by
  refine ⟨madeCells #[.slice none 0 0] n, ?_, fun w => run_make_row' 22 37 (.slice none 0 0) 24 Try.underlying22 info_row rfl .i64 .i64 n (by omega) (by omega) w⟩
  simp [madeCells]

/-- n rows of m numbers, cut out of the block g (row r is the one at P r), their heads in the block h -/
structure Grid (W : World) (g h n m : Nat) (P : Nat → Nat) (Z : Nat → Nat → Int) : Prop where
  heads : ∃ cur, W.heap[h]? = some (.cells cur 37 (0, 0)) ∧ cur.size = n ∧ ∀ r, r < n → cur[r]? = some (.slice (some ⟨g, P r * m, none⟩) m m)
  cells : ∃ F, BlockIs W g (n * m) F ∧ (∀ i, 0 ≤ F i ∧ F i < 256) ∧ ∀ r c, r < n → c < m → F (P r * m + c) = Z r c
  lt : ∀ r, r < n → P r < n
  inj : ∀ r s, r < n → s < n → P r = P s → r = s
  ne : g ≠ h
  bd : ∀ r c, 0 ≤ Z r c ∧ Z r c < 256

set_option maxRecDepth 100000 in
theorem space_any (n m : Nat) (hn : n ≤ 131072) (hm : n * m ≤ 8388608) (hm' : m ≤ 8388608) (w : World) :
    Calls Try.prog 41 #[.int .i64 n, .int .i64 m] w fun e w' => ∃ g h, e = .returned (.slice (some ⟨h, 0, none⟩) n n) ∧ Grid w' g h n m (fun r => r) (fun _ _ => 0) ∧ w.heap.size ≤ g ∧ w.heap.size ≤ h ∧ Bw w w' := by
  obtain ⟨M0, hM, hM0, hmk⟩ := made_bytes (n * m) (by omega)
  obtain ⟨H0, hH, hmh⟩ := made_rows n (by omega)
  obtain ⟨N, hN⟩ : ∃ N, N = n * m := ⟨_, rfl⟩
  have e1 : ((n * m : Nat) : Int) = (n : Int) * (m : Int) := Int.natCast_mul n m
  rw [e1, ← hN] at hmk
  rw [← hN] at hM0 hM
  have b1 : (0 : Int) ≤ (n : Int) * (m : Int) := by omega
  have b2 : (n : Int) * (m : Int) ≤ 8388608 := by omega
  have HM : Hid (∀ i, i < N → M0[i]? = some (.int .u8 0)) := hM0
  have HN : Hid (N = n * m) := hN
  clear e1 hM0 hN hm
  go_enter Try.func41, Try.ntmps41
  go_wp2
  go_loopw [16] (fun i wr => ∃ k : Nat, k ≤ n ∧ i = .int .i64 k ∧ wr.heap[w.heap.size]? = some (.cells M0 5 (0, 0)) ∧ (∃ cur, wr.heap[w.heap.size + 1]? = some (.cells cur 37 (0, 0)) ∧ cur.size = n ∧ ∀ r : Nat, r < k → cur[r]? = some (.slice (some ⟨w.heap.size, r * m, none⟩) m m)) ∧ Bw w wr) (fun i _ => n - (intOf i).toNat)
  case atStart => exact ⟨0, Nat.zero_le _, rfl, heap_alloc2_old _ _ _, ⟨_, heap_alloc2_new _ _ _, hH, fun b hb => by omega⟩, ((Below.refl _ _).alloc (Nat.le_refl _) _).alloc (by rw [size_alloc]; omega) _⟩
  case round =>
    obtain ⟨k, hk, rfl, hc, ⟨cur, hcur, hs, hv⟩, hb⟩ := hrel
    by_cases hlt : k < n
    · obtain ⟨v1, hv1⟩ : ∃ v, cur[k]? = some v := ⟨_, Array.getElem?_eq_getElem (by omega)⟩
      have hx : wr.cell? ⟨w.heap.size + 1, k, none⟩ = some v1 := (cell_of_row wr (w.heap.size + 1) k cur _ _ hcur).trans hv1
      have hf : wr.frozen? ⟨w.heap.size + 1, k, none⟩ = false := frozen_of_row wr (w.heap.size + 1) k cur _ hcur
      have k0 : (0 : Int) ≤ (k : Int) := Int.natCast_nonneg _
      have k1 : (k : Int) < (n : Int) := by omega
      have p1 : (k : Int) * (m : Int) = ((k * m : Nat) : Int) := (Int.natCast_mul k m).symm
      have p2 : ((k : Int) + 1) * (m : Int) = (((k + 1) * m : Nat) : Int) := by rw [Int.natCast_mul]; rfl
      have p3 : (k + 1) * m = k * m + m := Nat.succ_mul k m
      have p4 : (k + 1) * m ≤ N := by rw [HN.out]; exact Nat.mul_le_mul_right m hlt
      have p5 : N ≤ 8388608 := by have := HN.out; have e1 : ((n * m : Nat) : Int) = (n : Int) * (m : Int) := Int.natCast_mul n m; omega
      have q1 : (0 : Int) ≤ (k : Int) * (m : Int) := by omega
      have q2 : (k : Int) * (m : Int) ≤ ((k : Int) + 1) * (m : Int) := by omega
      have q3 : ((k : Int) + 1) * (m : Int) ≤ (N : Int) := by omega
      have q4 : (N : Int) ≤ 8388608 := by omega
      have t1 : ((k : Int) * (m : Int)).toNat = k * m := by rw [p1, Int.toNat_natCast]
      have t2 : (((k : Int) + 1) * (m : Int)).toNat = k * m + m := by rw [p2, Int.toNat_natCast, p3]
      clear p1 p2 p3 p4 p5
      go_wp2
      have hif : (if m = 0 then some (⟨w.heap.size, 0, none⟩ : Addr) else some ⟨w.heap.size, k * m, none⟩) = some ⟨w.heap.size, k * m, none⟩ := by
        by_cases e : m = 0
        · subst e; rw [if_pos rfl, Nat.mul_zero]
        · rw [if_neg e]
      go_roundw
      case rel =>
        rw [hif]
        refine ⟨k + 1, by omega, by go_num, (heap_setCell_other wr _ _ _ (by simp only; omega)).trans hc, ⟨_, heap_setCell_same wr _ k cur _ _ hcur, by simpa using hs, fun b hb' => ?_⟩, Bw.put hb (by omega) _ _⟩
        by_cases e : b = k
        · subst e; rw [Array.getElem?_setIfInBounds_self_of_lt (by omega)]
        · rw [Array.getElem?_setIfInBounds_ne (Ne.symm e), hv b (by omega)]
      case measure => simp [intOf]; omega
    · have ek : n = k := by omega
      subst ek
      go_wp2
      go_ret
      refine ⟨_, _, rfl, ⟨⟨cur, hcur, hs, hv⟩, ⟨fun _ => 0, ⟨M0, hc, by rw [hM]; exact HN.out, fun c hc' => HM.out c (by rw [HN.out]; exact hc')⟩, fun _ => ⟨Int.le_refl 0, show (0 : Int) < 256 by decide⟩, fun _ _ _ _ => rfl⟩, fun r hr => hr, fun r s _ _ e => e, by omega, fun _ _ => ⟨Int.le_refl 0, show (0 : Int) < 256 by decide⟩⟩, Nat.le_refl _, by omega, hb⟩

theorem cut_apart {a b c m : Nat} (h : a ≠ b) (hc : c < m) : ¬ (b * m ≤ a * m + c ∧ a * m + c < b * m + m) := by
  intro ⟨h1, h2⟩
  rcases Nat.lt_or_gt_of_ne h with h | h
  · have := Nat.mul_le_mul_right m (show a + 1 ≤ b from h)
    rw [Nat.succ_mul] at this; omega
  · have := Nat.mul_le_mul_right m (show b + 1 ≤ a from h)
    rw [Nat.succ_mul] at this; omega

theorem cut_le {a n c m : Nat} (h : a < n) (hc : c ≤ m) : a * m + c ≤ n * m := by
  have := Nat.mul_le_mul_right m (show a + 1 ≤ n from h)
  rw [Nat.succ_mul] at this; omega

theorem Grid.row {W : World} {g h n m : Nat} {P : Nat → Nat} {Z : Nat → Nat → Int} (d : Grid W g h n m P Z) {r : Nat} (hr : r < n) : RowAt W (some ⟨g, P r * m, none⟩) m (Z r) := by
  obtain ⟨F, hb, _, hF⟩ := d.cells
  refine ⟨Or.inr ⟨g, P r * m, rfl, fun i hi => ?_⟩, d.bd r⟩
  rw [← hF r i hr hi]
  have := cut_le (m := m) (c := i + 1) (d.lt r hr) (by omega)
  exact (hb.cell (by omega)).1

theorem Grid.head {W : World} {g h n m : Nat} {P : Nat → Nat} {Z : Nat → Nat → Int} (d : Grid W g h n m P Z) {r : Nat} (hr : r < n) : W.cell? ⟨h, r, none⟩ = some (.slice (some ⟨g, P r * m, none⟩) m m) ∧ W.frozen? ⟨h, r, none⟩ = false := by
  obtain ⟨cur, h1, _, h2⟩ := d.heads
  exact ⟨(cell_of_row W h r cur _ _ h1).trans (h2 r hr), frozen_of_row W h r cur _ h1⟩

theorem Grid.cell {W : World} {g h n m : Nat} {P : Nat → Nat} {Z : Nat → Nat → Int} (d : Grid W g h n m P Z) {r c : Nat} (hr : r < n) (hc : c < m) : W.cell? ⟨g, P r * m + c, none⟩ = some (.int .u8 (Z r c)) ∧ W.frozen? ⟨g, P r * m + c, none⟩ = false := by
  obtain ⟨F, hb, _, hF⟩ := d.cells
  rw [← hF r c hr hc]
  have := cut_le (m := m) (c := c + 1) (d.lt r hr) (by omega)
  exact hb.cell (by omega)

theorem Grid.glt {W : World} {g h n m : Nat} {P : Nat → Nat} {Z : Nat → Nat → Int} (d : Grid W g h n m P Z) : g < W.heap.size := by
  obtain ⟨F, ⟨cur, hcur, _⟩, _⟩ := d.cells
  exact (Array.getElem?_eq_some_iff.1 hcur).1
theorem Grid.hlt {W : World} {g h n m : Nat} {P : Nat → Nat} {Z : Nat → Nat → Int} (d : Grid W g h n m P Z) : h < W.heap.size := by
  obtain ⟨cur, hcur, _⟩ := d.heads
  exact (Array.getElem?_eq_some_iff.1 hcur).1

theorem Grid.keepx {S : Nat → Prop} {W W' : World} {g h n m : Nat} {P : Nat → Nat} {Z : Nat → Nat → Int} (d : Grid W g h n m P Z) (k : Bx S W W') (hg : ¬ S g) (hh : ¬ S h) : Grid W' g h n m P Z := by
  obtain ⟨cur, h1, h2⟩ := d.heads
  obtain ⟨F, ⟨cu, c1, c2⟩, h3⟩ := d.cells
  exact ⟨⟨cur, (k.block h d.hlt hh).trans h1, h2⟩, ⟨F, ⟨cu, (k.block g d.glt hg).trans c1, c2⟩, h3⟩, d.lt, d.inj, d.ne, d.bd⟩

theorem Grid.keep {W W' : World} {g h n m : Nat} {P : Nat → Nat} {Z : Nat → Nat → Int} (d : Grid W g h n m P Z) (k : Bw W W') : Grid W' g h n m P Z := d.keepx (Bx.of_bw (S := fun _ => False) k) id id

theorem Grid.congr {W : World} {g h n m : Nat} {P : Nat → Nat} {Z Z' : Nat → Nat → Int} (d : Grid W g h n m P Z) (hb : ∀ r c, 0 ≤ Z' r c ∧ Z' r c < 256) (e : ∀ r c, r < n → c < m → Z' r c = Z r c) : Grid W g h n m P Z' := by
  obtain ⟨F, h1, h2, h3⟩ := d.cells
  exact ⟨d.heads, ⟨F, h1, h2, fun r c hr hc => (h3 r c hr hc).trans (e r c hr hc).symm⟩, d.lt, d.inj, d.ne, hb⟩

theorem Grid.mat {W : World} {g h n m : Nat} {P : Nat → Nat} {Z : Nat → Nat → Int} (d : Grid W g h n m P Z) : MatAt W (some ⟨h, 0, none⟩) n (fun r => some ⟨g, P r * m, none⟩) (fun _ => m) (fun _ => m) Z :=
  ⟨Or.inr ⟨h, 0, rfl, fun r hr => by rw [Nat.zero_add]; exact (d.head hr).1⟩, fun r hr => d.row hr⟩

/-- a row that was turned -/
theorem Grid.turned {W W' : World} {g h n m : Nat} {P : Nat → Nat} {Z : Nat → Nat → Int} (d : Grid W g h n m P Z) (k : Bx (· = g) W W') {F F' : Nat → Int} {r : Nat} {z : Nat → Int} (hr : r < n)
    (hF : ∀ r c, r < n → c < m → F (P r * m + c) = Z r c) (hb : BlockIs W' g (n * m) F') (hF' : ∀ i, 0 ≤ F' i ∧ F' i < 256) (hz : ∀ i, 0 ≤ z i ∧ z i < 256)
    (h1 : ∀ c, c < m → F' (P r * m + c) = z c) (h2 : ∀ i, ¬ (P r * m ≤ i ∧ i < P r * m + m) → F' i = F i) : Grid W' g h n m P (upd Z r z) := by
  obtain ⟨cur, c1, c2⟩ := d.heads
  refine ⟨⟨cur, (k.block h d.hlt (fun e => d.ne e.symm)).trans c1, c2⟩, ⟨F', hb, hF', fun s c hs hc => ?_⟩, d.lt, d.inj, d.ne, fun s c => ?_⟩
  · by_cases e : s = r
    · subst e; rw [upd_at]; exact h1 c hc
    · rw [upd_ne _ _ e, h2 _ (cut_apart (fun e' => e (d.inj s r hs hr e')) hc)]; exact hF s c hs hc
  · by_cases e : s = r
    · subst e; rw [upd_at]; exact hz c
    · rw [upd_ne _ _ e]; exact d.bd s c

theorem add_grid {g h n m r cb : Nat} {P : Nat → Nat} {Z : Nat → Nat → Int} {f : Nat → Int} {B : Option Addr} {c : Int} (c0 : 0 ≤ c) (c1 : c < 256) {w : World} (d : Grid w g h n m P Z) (hr : r < n) (hm : m ≤ 1048576)
    (hB : RowAt w B m f) (hd : ∀ a, B = some a → a.block ≠ g ∨ a.off + m ≤ P r * m ∨ P r * m + m ≤ a.off) :
    Calls Try.prog 43 #[.slice (some ⟨g, P r * m, none⟩) m m, .slice B m cb, .int .u8 c] w fun e w' => e = .returned (.tuple #[]) ∧ Grid w' g h n m P (upd Z r (fun l => addI (Z r l) (mulI c (f l)))) ∧ Bx (· = g) w w' := by
  obtain ⟨F, hb, hF, hZ⟩ := d.cells
  refine (add_any' g (P r * m) m (n * m) m cb F f B c c0 c1 w hb (cut_le (d.lt r hr) (Nat.le_refl _)) hm hF hB hd).mono ?_
  rintro e w' ⟨rfl, hb', hx⟩
  refine ⟨rfl, d.turned hx hr hZ hb' (addF_bd hF c1) (fun i => addI_bd _ _ (d.bd r i).2 (mulI_bd _ _ c1).2) (fun i hi => ?_) (fun i hi => ?_), hx⟩
  · unfold addF; rw [if_pos (by omega), Nat.add_sub_cancel_left, hZ r i hr hi]
  · unfold addF; rw [if_neg hi]

theorem scale_grid {g h n m r : Nat} {P : Nat → Nat} {Z : Nat → Nat → Int} {c : Int} (c0 : 0 ≤ c) (c1 : c < 256) {w : World} (d : Grid w g h n m P Z) (hr : r < n) (hm : m ≤ 1048576) :
    Calls Try.prog 53 #[.slice (some ⟨g, P r * m, none⟩) m m, .int .u8 c] w fun e w' => e = .returned (.tuple #[]) ∧ Grid w' g h n m P (upd Z r (fun l => mulI (invR c) (Z r l))) ∧ Bx (· = g) w w' := by
  obtain ⟨F, hb, hF, hZ⟩ := d.cells
  refine (scale_any g (P r * m) m (n * m) m F c c0 c1 w hb (cut_le (d.lt r hr) (Nat.le_refl _)) hm hF).mono ?_
  rintro e w' ⟨rfl, hb', hx⟩
  refine ⟨rfl, d.turned hx hr hZ hb' (sclF_bd hF (invR_bd c).2) (fun i => mulI_bd _ _ (invR_bd c).2) (fun i hi => ?_) (fun i hi => ?_), hx⟩
  · unfold sclF; rw [if_pos (by omega), hZ r i hr hi]
  · unfold sclF; rw [if_neg hi]

/-- two heads changed about -/
theorem Grid.swap {W : World} {g h n m : Nat} {P : Nat → Nat} {Z : Nat → Nat → Int} (d : Grid W g h n m P Z) {r q : Nat} (hr : r < n) (hq : q < n) :
    Grid ((W.setCell ⟨h, r, none⟩ (.slice (some ⟨g, P q * m, none⟩) m m)).setCell ⟨h, q, none⟩ (.slice (some ⟨g, P r * m, none⟩) m m)) g h n m (upd (upd P r (P q)) q (P r)) (upd (upd Z r (Z q)) q (Z r)) := by
  obtain ⟨cur, c1, c2, c3⟩ := d.heads
  obtain ⟨F, ⟨cu, b1, b2⟩, hF, hZ⟩ := d.cells
  have hx : Bx (· = h) W ((W.setCell ⟨h, r, none⟩ (.slice (some ⟨g, P q * m, none⟩) m m)).setCell ⟨h, q, none⟩ (.slice (some ⟨g, P r * m, none⟩) m m)) := Bx.put (Bx.put (Bx.refl (· = h) W) rfl) rfl
  have hP : ∀ s, upd (upd P r (P q)) q (P r) s = P (if s = q then r else if s = r then q else s) := by
    intro s; unfold upd; split
    · rfl
    · split <;> rfl
  have hZ' : ∀ s, upd (upd Z r (Z q)) q (Z r) s = Z (if s = q then r else if s = r then q else s) := by
    intro s; unfold upd; split
    · rfl
    · split <;> rfl
  refine ⟨⟨_, heap_setCell_same _ h q _ _ _ (heap_setCell_same W h r cur _ _ c1), by simpa using c2, fun s hs => ?_⟩, ⟨F, ⟨cu, (hx.block g d.glt d.ne).trans b1, b2⟩, hF, fun s c hs hc => ?_⟩, fun s hs => ?_, fun s t hs ht e => ?_, d.ne, fun s c => ?_⟩
  · by_cases e : s = q
    · subst e; rw [Array.getElem?_setIfInBounds_self_of_lt (by simp only [Array.size_setIfInBounds]; omega), upd_at]
    · rw [Array.getElem?_setIfInBounds_ne (Ne.symm e), upd_ne _ _ e]
      by_cases e' : s = r
      · subst e'; rw [Array.getElem?_setIfInBounds_self_of_lt (by omega), upd_at]
      · rw [Array.getElem?_setIfInBounds_ne (Ne.symm e'), upd_ne _ _ e', c3 s hs]
  · rw [hP, hZ']; exact hZ _ c (by split; exact hr; split; exact hq; exact hs) hc
  · rw [hP]; exact d.lt _ (by split; exact hr; split; exact hq; exact hs)
  · rw [hP, hP] at e
    have := d.inj _ _ (by split; exact hr; split; exact hq; exact hs) (by split; exact hr; split; exact hq; exact ht) e
    revert this; split <;> split <;> (try split) <;> (try split) <;> omega
  · rw [hZ']; exact d.bd _ c

end Go.Proofs.Ytbhbdhkifkmkbaa

/- Contracts of the program's own tests of a matrix; copies; Dot, Plus, One. -/
namespace Go.Proofs.Ytbhbdhkifkmkbaa
open Go.RowKit

/-- a block with a row laid over it at o -/
def cpyF (F : Nat → Int) (o n : Nat) (f : Nat → Int) (k : Nat) : Int := if o ≤ k ∧ k < o + n then f (k - o) else F k

theorem cpyF_bd {F : Nat → Int} {o n : Nat} {f : Nat → Int} (hF : ∀ i, 0 ≤ F i ∧ F i < 256) (hf : ∀ i, 0 ≤ f i ∧ f i < 256) (k : Nat) : 0 ≤ cpyF F o n f k ∧ cpyF F o n f k < 256 := by
  unfold cpyF; split
  · exact hf _
  · exact hF k

theorem u8_one : (Try.prog.info? 5).map (·.size) = some 1 := by kernel_rfl

theorem copy_ok (g o m cap N L cb : Nat) (ty : TypeId) (F f : Nat → Int) (B : Option Addr) (w : World) (hb : BlockIs w g N F) (ho : o + L ≤ N) (hm : L ≤ m) (hB : RowAt w B L f) :
    ∃ w', (Builtin.copy_ #[37, 37] ty #[.slice (some ⟨g, o, none⟩) m cap, .slice B L cb]).run Try.prog w = .ok (goInt L) w' ∧ BlockIs w' g N (cpyF F o L f) ∧ Bx (· = g) w w' := by
  by_cases h0 : L = 0
  · subst h0
    refine ⟨w, run_copy_none w 37 37 ty 5 _ _ m cap 0 cb Try.underlying37 u8_one (Nat.zero_min _), hb.congr (fun k hk => by unfold cpyF; rw [if_neg (by omega)]), Bx.refl _ _⟩
  · obtain ⟨b, off, rfl, hc⟩ := hB.at (k := 0) (by omega)
    obtain ⟨cur, h1, h2, h3⟩ := hb
    have hl : (cellsU f L).length = L := by simp [cellsU]
    have hrun := run_copy_row Try.prog w 37 37 ty 5 g o m cap ⟨b, off, none⟩ L cb cur 5 (cellsU f L) Try.underlying37 u8_one h1 (by rw [hl]; exact (Nat.min_eq_left hm).symm) (rowat_news hB) (by rw [hl]; omega) (fun v hv => by simp only [cellsU, List.mem_map] at hv; obtain ⟨i, _, rfl⟩ := hv; rfl)
    rw [hl] at hrun
    refine ⟨_, hrun, ⟨_, setRow_heap w g cur _ _ _ h1, ?_, fun c hc' => ?_⟩, ⟨rfl, rfl, rfl, by simp [World.setRow], fun k _ hk => setRow_other w g k _ (by omega)⟩⟩
    · simp [hl]; omega
    · rw [List.getElem?_toArray]
      unfold cpyF
      by_cases e : o ≤ c ∧ c < o + L
      · rw [if_pos e, List.append_assoc, List.getElem?_append_right (by simp; omega), List.getElem?_append_left (by simp [hl]; omega)]
        simp only [List.length_take, Array.length_toList, cellsU, List.getElem?_map]
        rw [Nat.min_eq_left (by omega), List.getElem?_range (by omega)]; rfl
      · rw [if_neg e]
        by_cases e2 : c < o
        · rw [List.append_assoc, List.getElem?_append_left (by simp; omega), List.getElem?_take, if_pos e2, Array.getElem?_toList, h3 c hc']
        · rw [List.getElem?_append_right (by simp [hl]; omega), List.getElem?_drop]
          simp only [List.length_append, List.length_take, Array.length_toList, hl]
          rw [Nat.min_eq_left (by omega), show o + L + (c - (o + L)) = c by omega, Array.getElem?_toList, h3 c hc']

theorem columns_any (A : Option Addr) (n cap : Nat) (R : Nat → Option Addr) (L C : Nat → Nat) (Z : Nat → Nat → Int) (w : World) (h : MatAt w A n R L C Z) :
    Calls Try.prog 40 #[.slice A n cap] w fun e w' => e = .returned (.int .i64 (colsI n L)) ∧ w' = w := by
  by_cases h0 : n = 0
  · have e : colsI n L = 0 := by unfold colsI; rw [if_pos h0]
    rw [e]
    subst h0
    go_enter Try.func40, Try.ntmps40
    go_wp2
    go_ret
    exact ⟨rfl, rfl⟩
  · have e : colsI n L = (L 0 : Int) := by unfold colsI; rw [if_neg h0]
    rw [e]
    obtain ⟨b, off, rfl, hc⟩ := h.at (k := 0) (by omega)
    have h1 := hc 0 (by omega)
    rw [Nat.add_zero] at h1
    have hn : ((n : Int) == 0) = false := by simpa using h0
    have hn2 : (0 : Int) < (n : Int) := by omega
    go_enter Try.func40, Try.ntmps40
    go_wp2
    go_ret
    exact ⟨rfl, rfl⟩

theorem wrong_some (A : Option Addr) (n cap : Nat) (R : Nat → Option Addr) (L C : Nat → Nat) (Z : Nat → Nat → Int) (hn : n ≤ 32) (w : World) (h : MatAt w A n R L C Z) :
    Calls Try.prog 39 #[.slice A n cap] w fun e w' => ∃ x, e = .returned (.int .i64 x) ∧ Wrong n L x ∧ w' = w := by
  go_enter Try.func39, Try.ntmps39
  go_wp2
  go_loopw [3, 11] (fun b i wr => ∃ (k : Nat) (ev : Bool), k ≤ n ∧ i = .int .i64 k ∧ b = .bool ev ∧ Hid (∀ r, r < k → L r ≤ 131072) ∧ Hid (ev = true ↔ ∀ r, r < k → L r = L 0) ∧ wr = w) (fun _ i _ => n - (intOf i).toNat)
  case atStart => exact ⟨0, true, Nat.zero_le _, rfl, rfl, (fun r hr => by omega), (show _ ↔ _ from ⟨fun _ r hr => by omega, fun _ => rfl⟩), rfl⟩
  case round =>
    obtain ⟨k, ev, hk, rfl, rfl, hno, hev, e⟩ := hrel
    subst e
    by_cases hlt : k < n
    · obtain ⟨b, off, rfl, hc⟩ := h.at hlt
      have h1 := hc k hlt
      have h2 := hc 0 (by omega)
      rw [Nat.add_zero] at h2
      have hk2 : (0 : Int) < (n : Int) := by omega
      clear hc
      by_cases hl : 131072 < L k
      · go_wp2
        go_ret
        exact ⟨2, rfl, Or.inl ⟨rfl, Or.inr ⟨k, hlt, hl⟩⟩, rfl⟩
      · have hno' : Hid (∀ r, r < k + 1 → L r ≤ 131072) := fun r hr => by by_cases e : r = k; (subst e; omega); exact hno r (by omega)
        cases ev with
        | false =>
          go_wp2
          go_roundw
          case rel =>
            refine ⟨k + 1, false, by omega, by go_num, rfl, hno', (show _ ↔ _ from ⟨fun e => by (cases e), fun e => hev.out.2 (fun r hr => e r (by omega))⟩), by first | rfl | trivial⟩
          case measure => simp [intOf]; omega
        | true =>
          by_cases hl3 : L k = L 0
          · have hl2 : ((L k : Int) == (L 0 : Int)) = true := by rw [hl3]; simp
            go_wp2
            go_roundw
            case rel =>
              refine ⟨k + 1, true, by omega, by go_num, rfl, hno', (show _ ↔ _ from ⟨fun _ r hr => by by_cases e : r = k; (subst e; exact hl3); exact hev.out.1 rfl r (by omega), fun _ => rfl⟩), by first | rfl | trivial⟩
            case measure => simp [intOf]; omega
          · have hl2 : ((L k : Int) == (L 0 : Int)) = false := by simp; omega
            go_wp2
            go_roundw
            case rel =>
              refine ⟨k + 1, false, by omega, by go_num, rfl, hno', (show _ ↔ _ from ⟨fun e => by (cases e), fun e => absurd (e k (by omega)) hl3⟩), by first | rfl | trivial⟩
            case measure => simp [intOf]; omega
    · have ek : n = k := by omega
      subst ek
      cases ev with
      | false =>
        go_wp2
        go_ret
        refine ⟨6, rfl, Or.inr (Or.inl ⟨rfl, hn, hno.out, ?_⟩), rfl⟩
        apply Classical.byContradiction
        intro hne
        have := hev.out.2 (fun r hr => Classical.byContradiction fun e => hne ⟨r, hr, e⟩)
        cases this
      | true =>
        go_wp2
        go_ret
        exact ⟨0, rfl, Or.inr (Or.inr ⟨rfl, hn, hno.out, fun r hr => hev.out.1 (by first | rfl | trivial) r hr⟩), rfl⟩

theorem wrong_long (A : Option Addr) (n cap : Nat) (h : 32 < n) (w : World) :
    Calls Try.prog 39 #[.slice A n cap] w fun e w' => e = .returned (.int .i64 2) ∧ w' = w := by
  go_enter Try.func39, Try.ntmps39
  go_wp2
  go_ret
  exact ⟨rfl, rfl⟩

theorem wrong_any (A : Option Addr) (n cap : Nat) (R : Nat → Option Addr) (L C : Nat → Nat) (Z : Nat → Nat → Int) (w : World) (h : MatAt w A n R L C Z) :
    Calls Try.prog 39 #[.slice A n cap] w fun e w' => ∃ x, e = .returned (.int .i64 x) ∧ Wrong n L x ∧ w' = w := by
  by_cases hn : 32 < n
  · exact (wrong_long A n cap hn w).mono fun e w' ⟨he, hw⟩ => ⟨2, he, Or.inl ⟨rfl, Or.inl hn⟩, hw⟩
  · exact wrong_some A n cap R L C Z (by omega) w h

end Go.Proofs.Ytbhbdhkifkmkbaa

/- Contracts of the program's Dot and Plus. -/
namespace Go.Proofs.Ytbhbdhkifkmkbaa
open Go.RowKit

/-- two rows' heads beside one another -/
theorem mat_two (w : World) (A B : Option Addr) (la ca lb cb : Nat) (f g : Nat → Int) (ha : RowAt w A la f) (hb : RowAt w B lb g) :
    MatAt (w.alloc (.cells #[.slice A la ca, .slice B lb cb] 37)) (some ⟨w.heap.size, 0, none⟩) 2 (fun r => if r = 0 then A else B) (fun r => if r = 0 then la else lb) (fun r => if r = 0 then ca else cb) (fun r => if r = 0 then f else g) := by
  have hbw : Bw w (w.alloc (.cells #[.slice A la ca, .slice B lb cb] 37)) := (Below.refl _ _).alloc (Nat.le_refl _) _
  refine ⟨Or.inr ⟨w.heap.size, 0, rfl, fun r hr => ?_⟩, fun r hr => ?_⟩
  · rw [Nat.zero_add, World.cell?_alloc_at _ _ _ r rfl]
    rcases (show r = 0 ∨ r = 1 by omega) with rfl | rfl <;> rfl
  · rcases (show r = 0 ∨ r = 1 by omega) with rfl | rfl
    · exact ha.keep hbw
    · exact hb.keep hbw

theorem wrong_two {L : Nat → Nat} {x : Int} (h : Wrong 2 L x) : x = twoE (L 0) (L 1) := by
  unfold twoE
  rcases h with ⟨rfl, h | ⟨r, hr, h⟩⟩ | ⟨rfl, _, h1, r, hr, h⟩ | ⟨rfl, _, h1, h⟩
  · omega
  · rcases (show r = 0 ∨ r = 1 by omega) with rfl | rfl
    · rw [if_pos (Or.inl h)]
    · rw [if_pos (Or.inr h)]
  · have a0 := h1 0 (by omega)
    have a1 := h1 1 (by omega)
    rcases (show r = 0 ∨ r = 1 by omega) with rfl | rfl
    · exact absurd rfl h
    · rw [if_neg (by omega), if_pos (fun e => h e.symm)]
  · have a0 := h1 0 (by omega)
    have a1 := h1 1 (by omega)
    rw [if_neg (by omega), if_neg (fun e => e (h 1 (by omega)).symm)]

def dotE (la lb : Nat) (f g : Nat → Int) : Int := if twoE la lb = 0 then dotU f g la else 0

/-- a row that was made since the block base -/
structure NewRow (w : World) (base : Nat) (A : Option Addr) (n : Nat) (f : Nat → Int) : Prop where
  row : RowAt w A n f
  new : n = 0 ∨ ∃ g o, A = some ⟨g, o, none⟩ ∧ base ≤ g ∧ g < w.heap.size

theorem row_none (w : World) : RowAt w none 0 (fun _ => 0) := ⟨Or.inl rfl, fun _ => ⟨Int.le_refl 0, show (0 : Int) < 256 by decide⟩⟩

end Go.Proofs.Ytbhbdhkifkmkbaa

/- Contracts of the program's One, Mul and Turned. -/
namespace Go.Proofs.Ytbhbdhkifkmkbaa
open Go.RowKit

attribute [local go_sem ↓] Go.wp_at_zero Go.wp_at_succ

/-- a matrix that was made since the block base -/
structure NewMat (w : World) (base : Nat) (A : Option Addr) (n : Nat) (R : Nat → Option Addr) (L C : Nat → Nat) (Z : Nat → Nat → Int) : Prop where
  mat : MatAt w A n R L C Z
  head : n = 0 ∨ ∃ g o, A = some ⟨g, o, none⟩ ∧ base ≤ g ∧ g < w.heap.size
  rows : ∀ r, r < n → L r = 0 ∨ ∃ g o, R r = some ⟨g, o, none⟩ ∧ base ≤ g ∧ g < w.heap.size

/-- .. as a value -/
def MatRes (w : World) (base : Nat) (v : Value) (n : Nat) (L : Nat → Nat) (Z : Nat → Nat → Int) : Prop :=
  ∃ A cap R C, v = .slice A n cap ∧ NewMat w base A n R L C Z

theorem Grid.new {w : World} {g h n m base : Nat} {P : Nat → Nat} {Z : Nat → Nat → Int} (d : Grid w g h n m P Z) (hg : base ≤ g) (hh : base ≤ h) : MatRes w base (.slice (some ⟨h, 0, none⟩) n n) n (fun _ => m) Z :=
  ⟨_, _, _, _, rfl, d.mat, Or.inr ⟨_, _, rfl, hh, d.hlt⟩, fun _ _ => Or.inr ⟨_, _, rfl, hg, d.glt⟩⟩

theorem MatRes.congr {w : World} {base n : Nat} {v : Value} {L : Nat → Nat} {Z Z' : Nat → Nat → Int} (h : MatRes w base v n L Z) (e : ∀ r, r < n → Z' r = Z r) : MatRes w base v n L Z' := by
  obtain ⟨A, cap, R, C, hv, hm⟩ := h
  exact ⟨A, cap, R, C, hv, ⟨hm.mat.1, fun r hr => by rw [e r hr]; exact hm.mat.2 r hr⟩, hm.head, hm.rows⟩

theorem res_none (w : World) (base : Nat) (L : Nat → Nat) (Z : Nat → Nat → Int) : MatRes w base (.slice none 0 0) 0 L Z :=
  ⟨_, _, fun _ => none, fun _ => 0, rfl, ⟨Or.inl rfl, fun r hr => by omega⟩, Or.inl rfl, fun r hr => by omega⟩

/-- a cell of a work space set -/
theorem Grid.set {W : World} {g h n m : Nat} {P : Nat → Nat} {Z : Nat → Nat → Int} (d : Grid W g h n m P Z) {r c : Nat} {x : Int} (hr : r < n) (hc : c < m) (hx : 0 ≤ x ∧ x < 256) :
    Grid (W.setCell ⟨g, P r * m + c, none⟩ (.int .u8 x)) g h n m P (upd Z r (upd (Z r) c x)) := by
  obtain ⟨F, hb, hF, hZ⟩ := d.cells
  have hle := cut_le (m := m) (c := c + 1) (d.lt r hr) (by omega)
  refine d.turned (F := F) (F' := upd F (P r * m + c) x) (Bx.put (Bx.refl (· = g) W) rfl) hr hZ (hb.set (by omega) (upd_at _ _ _) (fun k _ hk => upd_ne _ _ hk)) (fun i => ?_) (fun i => ?_) (fun i hi => ?_) (fun i hi => upd_ne _ _ (fun e => hi (by omega)))
  · unfold upd; split
    · exact hx
    · exact hF i
  · unfold upd; split
    · exact hx
    · exact d.bd r i
  · by_cases e : i = c
    · subst e; rw [upd_at, upd_at]
    · rw [upd_ne _ _ e, upd_ne _ _ (fun e' => e (by omega))]; exact hZ r i hr hi

/-- k rows of the matrix that changes nothing -/
def oneW (k i j : Nat) : Int := if i < k then oneZ i j else 0
theorem oneW_bd (k i j : Nat) : 0 ≤ oneW k i j ∧ oneW k i j < 256 := by
  unfold oneW; split
  · exact oneZ_bd i j
  · decide
theorem oneW_next (k i j : Nat) : oneW (k + 1) i j = upd (oneW k) k (upd (oneW k k) k 1) i j := by
  by_cases e : i = k
  · subst e; rw [upd_at]
    by_cases e' : j = i
    · subst e'; rw [upd_at]; unfold oneW oneZ; rw [if_pos (by omega), if_pos rfl]
    · rw [upd_ne _ _ e']; unfold oneW oneZ; rw [if_pos (by omega), if_neg (fun e => e' e.symm), if_neg (by omega)]
  · rw [upd_ne _ _ e]; unfold oneW
    by_cases h : i < k
    · rw [if_pos h, if_pos (by omega)]
    · rw [if_neg h, if_neg (by omega)]

/-- the product under way: i rows are there, t terms of the next one -/
def wayM (m : Nat) (Z Y : Nat → Nat → Int) (i t r c : Nat) : Int := if r < i then prodZ m Z Y r c else if r = i then dotU (Z r) (fun s => Y s c) t else 0
theorem wayM_bd {m : Nat} {Z Y : Nat → Nat → Int} (hZ : ∀ r c, 0 ≤ Z r c ∧ Z r c < 256) (i t r c : Nat) : 0 ≤ wayM m Z Y i t r c ∧ wayM m Z Y i t r c < 256 := by
  unfold wayM; split
  · exact dotU_bd _ _ (hZ r) m
  · split
    · exact dotU_bd _ _ (hZ r) t
    · decide
theorem wayM_term (m : Nat) (Z Y : Nat → Nat → Int) (i t r c : Nat) : wayM m Z Y i (t + 1) r c = upd (wayM m Z Y i t) i (fun l => addI (wayM m Z Y i t i l) (mulI (Z i t) (Y t l))) r c := by
  by_cases e : r = i
  · subst e; rw [upd_at]; unfold wayM; rw [if_neg (by omega), if_pos rfl, if_neg (by omega), if_pos rfl]; rfl
  · rw [upd_ne _ _ e]; unfold wayM; rw [if_neg e, if_neg e]
theorem wayM_row (m : Nat) (Z Y : Nat → Nat → Int) (i r c : Nat) : wayM m Z Y (i + 1) 0 r c = wayM m Z Y i m r c := by
  unfold wayM
  by_cases h1 : r < i
  · rw [if_pos h1, if_pos (by omega)]
  · by_cases h2 : r = i
    · subst h2; rw [if_pos (by omega), if_neg h1, if_pos rfl]; rfl
    · rw [if_neg (by omega), if_neg h1, if_neg h2]; split <;> rfl

/-- numbers that a matrix has, and noughts beside them -/
def capZ (n : Nat) (Z : Nat → Nat → Int) (r : Nat) : Nat → Int := if r < n then Z r else fun _ => 0
theorem capZ_bd {w : World} {A : Option Addr} {n : Nat} {R : Nat → Option Addr} {L C : Nat → Nat} {Z : Nat → Nat → Int} (h : MatAt w A n R L C Z) (r c : Nat) : 0 ≤ capZ n Z r c ∧ capZ n Z r c < 256 := by
  unfold capZ; split
  · rename_i hr; exact (h.2 r hr).2 c
  · exact ⟨Int.le_refl 0, show (0 : Int) < 256 by decide⟩
theorem capZ_at {n r : Nat} {Z : Nat → Nat → Int} (h : r < n) : capZ n Z r = Z r := by unfold capZ; rw [if_pos h]

theorem wrong_ok {n : Nat} {L : Nat → Nat} (h : Wrong n L 0) : n ≤ 32 ∧ (∀ r, r < n → L r ≤ 131072) ∧ ∀ r, r < n → L r = L 0 := by
  rcases h with ⟨h, _⟩ | ⟨h, _⟩ | ⟨_, h⟩
  · cases h
  · cases h
  · exact h

theorem wrong_cols {n : Nat} {L : Nat → Nat} {q : Nat} (h : Wrong n L 0) (hc : colsI n L = (q : Int)) : q ≤ 131072 ∧ ∀ r, r < n → L r = q := by
  obtain ⟨h1, h2, h3⟩ := wrong_ok h
  unfold colsI at hc
  by_cases h0 : n = 0
  · rw [if_pos h0] at hc; exact ⟨by omega, fun r hr => by omega⟩
  · rw [if_neg h0] at hc
    exact ⟨by have := h2 0 (by omega); omega, fun r hr => by have := h3 r hr; omega⟩

set_option maxRecDepth 100000 in
set_option maxHeartbeats 1000000 in
theorem mul_ok (A B : Option Addr) (n m q ca cb : Nat) (R S : Nat → Option Addr) (L C M D : Nat → Nat) (Z Y : Nat → Nat → Int) (w : World) (ha : MatAt w A n R L C Z) (hb : MatAt w B m S M D Y)
    (hx : Wrong n L 0) (hy : Wrong m M 0) (hcA : colsI n L = (m : Int)) (hcB : colsI m M = (q : Int)) :
    Calls Try.prog 28 #[.slice A n ca, .slice B m cb] w fun e w' => ∃ v, e = .returned (.tuple #[v, .int .i64 0]) ∧ MatRes w' w.heap.size v n (fun _ => q) (prodZ m Z Y) ∧ Bw w w' := by
  obtain ⟨hn, -, -⟩ := wrong_ok hx
  obtain ⟨hm, -, -⟩ := wrong_ok hy
  obtain ⟨-, hLm⟩ := wrong_cols hx hcA
  obtain ⟨hq, hMq⟩ := wrong_cols hy hcB
  have hLm' : Hid (∀ r, r < n → L r = m) := hLm
  have hMq' : Hid (∀ r, r < m → M r = q) := hMq
  clear hLm hMq
  have hnq : n * q ≤ 32 * 131072 := Nat.mul_le_mul hn hq
  have e1 : (colsI n L != (m : Int)) = false := by rw [hcA]; simp
  have hcb := capZ_bd ha
  go_enter Try.func28, Try.ntmps28
  go_wp2_with (first
    | (go_at_call_of 39 (Value.slice A n ca); refine (wrong_any _ _ _ _ _ _ _ _ ha).mono ?_; rintro e w' ⟨x, rfl, hx', hw'⟩; subst w'; obtain rfl := Wrong.unique hx' hx)
    | (go_at_call_of 39 (Value.slice B m cb); refine (wrong_any _ _ _ _ _ _ _ _ hb).mono ?_; rintro e w' ⟨x, rfl, hx', hw'⟩; subst w'; obtain rfl := Wrong.unique hx' hy)
    | (go_at_call_of 40 (Value.slice A n ca); refine (columns_any _ _ _ _ _ _ _ _ ha).mono ?_; rintro e w' ⟨rfl, hw'⟩; subst w')
    | (go_at_call_of 40 (Value.slice B m cb); refine (columns_any _ _ _ _ _ _ _ _ hb).mono ?_; rintro e w' ⟨rfl, hw'⟩; subst w'; rw [hcB])
    | (go_at_call 41; refine (space_any n q (by omega) (by omega) (by omega) _).mono ?_; rintro e w1 ⟨g, h, rfl, d, hg, hh, hbw⟩))
  obtain ⟨P, d⟩ : ∃ P, Grid w1 g h n q P (fun _ _ => 0) := ⟨_, d⟩
  go_loopw [35] (fun i wr => ∃ k : Nat, k ≤ n ∧ i = .int .i64 k ∧ Grid wr g h n q P (wayM m (capZ n Z) Y k 0) ∧ Bw w wr) (fun i _ => n - (intOf i).toNat)
  case atStart => exact ⟨0, Nat.zero_le _, rfl, d.congr (fun r c => wayM_bd hcb _ _ _ _) (fun r c _ _ => by unfold wayM; rw [if_neg (by omega)]; split <;> rfl), hbw⟩
  case round =>
    rename World => wo
    obtain ⟨k, hk, rfl, dk, hbk⟩ := hrel
    have hao := ha.keep hbk
    by_cases hlt : k < n
    · have hLk := hLm'.out k hlt
      obtain ⟨b1, o1, e2, hc1⟩ := hao.at hlt
      have h1 := hc1 k hlt
      rw [hLk] at h1
      have hrow := ha.2 k hlt
      rw [hLk] at hrow
      have k0 : (0 : Int) ≤ (k : Int) := Int.natCast_nonneg _
      have k1 : (k : Int) < (n : Int) := by omega
      subst e2
      clear hc1 hLk hao
      generalize R k = RK at h1 hrow
      go_wp2
      go_loopw [42] (fun i wr => ∃ t : Nat, t ≤ m ∧ i = .int .i64 t ∧ Grid wr g h n q P (wayM m (capZ n Z) Y k t) ∧ Bw w wr) (fun i _ => m - (intOf i).toNat)
      case atStart => exact ⟨0, Nat.zero_le _, rfl, dk, hbk⟩
      case round =>
        obtain ⟨t, ht, rfl, dt, hbt⟩ := hrel
        by_cases htm : t < m
        · obtain ⟨b3, o3, e3, hc3⟩ := (hrow.keep hbt).at htm
          have h3 := hc3 t htm
          have z3 := hrow.2 t
          have hMt := hMq'.out t htm
          obtain ⟨b4, o4, e4, hc4⟩ := (hb.keep hbt).at htm
          have h4 := hc4 t htm
          rw [hMt] at h4
          have hr4 := hb.2 t htm
          rw [hMt] at hr4
          have hdis : ∀ a, S t = some a → a.block ≠ g ∨ a.off + q ≤ P k * q ∨ P k * q + q ≤ a.off := by
            intro a e
            by_cases h0 : q = 0
            · subst h0; right; right; rw [Nat.mul_zero]; omega
            · left
              obtain ⟨b, o, e', hc⟩ := hr4.at (k := 0) (by omega)
              have := block_lt_of_cell (hc 0 (by omega))
              rw [e] at e'; cases e'; simp only at this ⊢; omega
          obtain ⟨c1, -⟩ := dt.head hlt
          have hrb := hr4.keep hbt
          have t0 : (0 : Int) ≤ (t : Int) := Int.natCast_nonneg _
          have t1 : (t : Int) < (m : Int) := by omega
          subst e3
          subst e4
          clear hc3 hc4 hMt
          have dt' : Grid wr.drew g h n q P (wayM m (capZ n Z) Y k t) := ⟨dt.heads, dt.cells, dt.lt, dt.inj, dt.ne, dt.bd⟩
          have hbt' : Bw w wr.drew := hbt.drew
          go_wp2
          go_region_with (go_at_call 43; refine (add_grid (by omega) (by omega) dt' hlt (by omega) hrb.drew hdis).mono ?_; rintro e w3 ⟨rfl, d3, hx3⟩)
          all_goals
            go_wp2
            go_roundw
            case rel =>
              refine ⟨t + 1, by omega, by go_num, d3.congr (fun r c => wayM_bd hcb _ _ _ _) (fun r c _ _ => ?_), Below.trans hbt' (hx3.below hbt'.size (fun b e => by omega))⟩
              rw [wayM_term, capZ_at hlt]
            case measure => simp [intOf]; omega
        · have ek : m = t := by omega
          subst ek
          go_wp2
          go_roundw
          case rel => exact ⟨k + 1, by omega, by go_num, dt.congr (fun r c => wayM_bd hcb _ _ _ _) (fun r c _ _ => wayM_row _ _ _ _ _ _), hbt⟩
          case measure => simp [intOf]; omega
    · have ek : n = k := by omega
      subst ek
      go_wp2
      go_ret2
      refine ⟨_, rfl, (dk.new hg hh).congr (fun r hr => ?_), hbk⟩
      funext c
      unfold wayM prodZ
      rw [if_pos hr, capZ_at hr]

end Go.Proofs.Ytbhbdhkifkmkbaa

/- Contract of the closure in the program's reduce: one turn of the reckoning. -/
namespace Go.Proofs.Ytbhbdhkifkmkbaa
open Go.RowKit

/-- rows changed about, one of them multiplied: the document's own way to say it -/
theorem swap_scaled {Z : Nat → Nat → Int} {r q j : Nat} (hZ : ∀ r c, 0 ≤ Z r c ∧ Z r c < 256) :
    upd (upd (upd Z r (Z q)) q (Z r)) r (fun l => mulI (invR (upd (upd Z r (Z q)) q (Z r) r j)) (upd (upd Z r (Z q)) q (Z r) r l)) = swapZ Z r q j := by
  have e : upd (upd Z r (Z q)) q (Z r) r = Z q := by
    by_cases h : r = q
    · subst h; rw [upd_at]
    · rw [upd_ne _ _ h, upd_at]
  rw [e]
  funext k l
  unfold swapZ
  by_cases hk : k = r
  · subst hk; rw [upd_at, upd_at, mul_comm _ _ (invR_bd _).2 (hZ q l).2]
  · rw [upd_ne _ _ hk, upd_ne _ _ hk]
    by_cases hq : k = q
    · subst hq; rw [upd_at, upd_at]
    · rw [upd_ne _ _ hq, upd_ne _ _ hq, upd_ne _ _ hk]

theorem cut_sep {a b m : Nat} (h : a ≠ b) : a * m + m ≤ b * m ∨ b * m + m ≤ a * m := by
  rcases Nat.lt_or_gt_of_ne h with h | h
  · have := Nat.mul_le_mul_right m (show a + 1 ≤ b from h)
    rw [Nat.succ_mul] at this; omega
  · have := Nat.mul_le_mul_right m (show b + 1 ≤ a from h)
    rw [Nat.succ_mul] at this; omega

theorem doneZ_bd {Z : Nat → Nat → Int} {r j i : Nat} (hZ : ∀ r c, 0 ≤ Z r c ∧ Z r c < 256) (k l : Nat) : 0 ≤ doneZ Z r j i k l ∧ doneZ Z r j i k l < 256 := by
  unfold doneZ; split
  · exact addI_bd _ _ (hZ k l).2 (mulI_bd _ _ (hZ k j).2).2
  · exact hZ k l

theorem swapZ_bd {Z : Nat → Nat → Int} {r q j : Nat} (hZ : ∀ r c, 0 ≤ Z r c ∧ Z r c < 256) (k l : Nat) : 0 ≤ swapZ Z r q j k l ∧ swapZ Z r q j k l < 256 := by
  unfold swapZ upd
  split
  · exact mulI_bd _ _ (hZ q l).2
  · split
    · exact hZ r l
    · exact hZ k l

set_option maxRecDepth 100000 in
set_option maxHeartbeats 1000000 in
theorem settle_any (g h n m r q j bw br : Nat) (P : Nat → Nat) (Z : Nat → Nat → Int) (w : World) (d : Grid w g h n m P Z) (hw : w.heap[bw]? = some (.cells #[.slice (some ⟨h, 0, none⟩) n n] 22 (0, 0)))
    (hr : w.heap[br]? = some (.cells #[.int .i64 (r : Int)] 3 (0, 0))) (n1 : bw ≠ g) (n2 : bw ≠ h) (n3 : br ≠ g) (n4 : br ≠ h) (n5 : bw ≠ br) (hrn : r < n) (hqn : q < n) (hj : j < m) (hn : n ≤ 131072) (hm : m ≤ 1048576) :
    Calls Try.prog 52 #[.int .i64 (q : Int), .int .i64 (j : Int), .pointer (some ⟨bw, 0, none⟩), .pointer (some ⟨br, 0, none⟩)] w fun e w' => e = .returned (.tuple #[]) ∧
      (∃ P', Grid w' g h n m P' (doneZ (swapZ Z r q j) r j n)) ∧ w'.heap[br]? = some (.cells #[.int .i64 ((r : Int) + 1)] 3 (0, 0)) ∧ Bx (fun b => b = g ∨ b = h ∨ b = br) w w' := by
  have cw := cell_of_one hw
  have cr := cell_of_one hr
  obtain ⟨c1, f1⟩ := d.head hrn
  obtain ⟨c2, f2⟩ := d.head hqn
  have d1 := d.swap hrn hqn
  have i1 : (0 : Int) ≤ (r : Int) := Int.natCast_nonneg _
  have i2 : (r : Int) < (n : Int) := by omega
  have i3 : (0 : Int) ≤ (q : Int) := Int.natCast_nonneg _
  have i4 : (q : Int) < (n : Int) := by omega
  obtain ⟨v3, c3⟩ : ∃ v, (w.setCell ⟨h, r, none⟩ (.slice (some ⟨g, P q * m, none⟩) m m)).cell? ⟨h, q, none⟩ = some v := by
    by_cases e : r = q
    · subst e; exact ⟨_, World.cell?_setCell_same' _ _ _ (by rw [c1]; rfl)⟩
    · exact ⟨_, (cell_other' (fun e' => by simp only [Addr.mk.injEq] at e'; omega)).trans c2⟩
  have hx1 : Bx (fun b => b = g ∨ b = h ∨ b = br) w ((w.setCell ⟨h, r, none⟩ (.slice (some ⟨g, P q * m, none⟩) m m)).setCell ⟨h, q, none⟩ (.slice (some ⟨g, P r * m, none⟩) m m)).drew := (Bx.put (Bx.put (Bx.refl _ w) (Or.inr (Or.inl rfl))) (Or.inr (Or.inl rfl))).drew
  have lw : bw < w.heap.size := (Array.getElem?_eq_some_iff.1 hw).1
  have lr : br < w.heap.size := (Array.getElem?_eq_some_iff.1 hr).1
  have hxh : Bx (· = h) w ((w.setCell ⟨h, r, none⟩ (.slice (some ⟨g, P q * m, none⟩) m m)).setCell ⟨h, q, none⟩ (.slice (some ⟨g, P r * m, none⟩) m m)).drew := (Bx.put (Bx.put (Bx.refl (· = h) w) rfl) rfl).drew
  have hw1 := (hxh.block bw lw n2).trans hw
  have hr1 := (hxh.block br lr n4).trans hr
  have dd : Grid ((w.setCell ⟨h, r, none⟩ (.slice (some ⟨g, P q * m, none⟩) m m)).setCell ⟨h, q, none⟩ (.slice (some ⟨g, P r * m, none⟩) m m)).drew g h n m (upd (upd P r (P q)) q (P r)) (upd (upd Z r (Z q)) q (Z r)) := ⟨d1.heads, d1.cells, d1.lt, d1.inj, d1.ne, d1.bd⟩
  have hsw := swap_scaled (r := r) (q := q) (j := j) d.bd
  go_enter Try.func52, Try.ntmps52
  go_wp2
  rename_i K hK
  have hrest : K { tmps := #[.int .i64 (q : Int), .int .i64 (j : Int), .pointer (some ⟨bw, 0, none⟩), .pointer (some ⟨br, 0, none⟩), undef, undef, undef, undef, undef, Value.slice (some ⟨h, 0, none⟩) n n, .int .i64 (r : Int), Value.slice (some ⟨h, 0, none⟩) n n, .int .i64 (q : Int), Value.slice (some ⟨h, 0, none⟩) n n, .int .i64 (q : Int), .pointer (some ⟨h, q, none⟩), .slice (some ⟨g, P q * m, none⟩) m m, Value.slice (some ⟨h, 0, none⟩) n n, .int .i64 (r : Int), .pointer (some ⟨h, r, none⟩), .slice (some ⟨g, P r * m, none⟩) m m, .pointer (some ⟨h, r, none⟩), .pointer (some ⟨h, q, none⟩), undef, undef, undef, undef, undef, undef, undef, undef, undef, undef, undef, undef, undef, undef, undef, undef, undef, undef, undef, undef, undef, undef, undef, undef, undef, undef, undef, undef, undef, undef], defers := [] } ((w.setCell ⟨h, r, none⟩ (.slice (some ⟨g, P q * m, none⟩) m m)).setCell ⟨h, q, none⟩ (.slice (some ⟨g, P r * m, none⟩) m m)).drew := by
    refine hK _ _ ?_
    clear hK
    generalize ((w.setCell ⟨h, r, none⟩ (.slice (some ⟨g, P q * m, none⟩) m m)).setCell ⟨h, q, none⟩ (.slice (some ⟨g, P r * m, none⟩) m m)).drew = W1 at *
    generalize upd (upd P r (P q)) q (P r) = P1 at *
    generalize upd (upd Z r (Z q)) q (Z r) = Z1 at *
    clear c1 c2 c3 cw cr d1
    have cw := cell_of_one hw1
    have cr := cell_of_one hr1
    obtain ⟨c1, -⟩ := dd.head hrn
    obtain ⟨c2, -⟩ := dd.cell hrn hj
    have z1 := dd.bd r j
    have j0 : (0 : Int) ≤ (j : Int) := Int.natCast_nonneg _
    have j1 : (j : Int) < (m : Int) := by omega
    go_wp2_with (go_at_call 53; refine (scale_grid (by omega) (by omega) dd hrn hm).mono ?_; rintro e W2 ⟨rfl, d2, hx2⟩; have cw2 := cell_of_one ((hx2.block bw (Nat.lt_of_lt_of_le lw hx1.size) n1).trans hw1))
    rw [hsw] at d2
    generalize hZ2 : swapZ Z r q j = Z2 at *
    have hx2' : Bx (fun b => b = g ∨ b = h ∨ b = br) w W2 := hx1.trans (hx2.more (fun b e => Or.inl e))
    have hw2 := (hx2.block bw (Nat.lt_of_lt_of_le lw hx1.size) n1).trans hw1
    have hr2 := (hx2.block br (Nat.lt_of_lt_of_le lr hx1.size) n3).trans hr1
    have hd0 : Grid W2 g h n m P1 (doneZ Z2 r j 0) := by rw [doneZ_zero]; exact d2
    clear c1 c2 cw cr cw2 hx1 hx2 hxh hw1 hr1 dd hsw z1 d
    go_loopw [35] (fun i wr => ∃ k : Nat, k ≤ n ∧ i = .int .i64 k ∧ Grid wr g h n m P1 (doneZ Z2 r j k) ∧ wr.heap[bw]? = some (.cells #[.slice (some ⟨h, 0, none⟩) n n] 22 (0, 0)) ∧ wr.heap[br]? = some (.cells #[.int .i64 (r : Int)] 3 (0, 0)) ∧ Bx (fun b => b = g ∨ b = h ∨ b = br) w wr) (fun i _ => n - (intOf i).toNat)
    case atStart => exact ⟨0, Nat.zero_le _, rfl, hd0, hw2, hr2, hx2'⟩
    case round =>
      obtain ⟨k, hk, rfl, dk, hwk, hrk, hxk⟩ := hrel
      have cr := cell_of_one hrk
      have fr := free_of_one hrk
      by_cases hlt : k < n
      · obtain ⟨c1, -⟩ := dk.head hlt
        obtain ⟨c2, -⟩ := dk.cell hlt hj
        rw [doneZ_at] at c2
        have z2 := d2.bd k j
        have k0 : (0 : Int) ≤ (k : Int) := Int.natCast_nonneg _
        have k1 : (k : Int) < (n : Int) := by omega
        by_cases hkr : k = r
        · subst hkr
          have e1 : ((k : Int) != (k : Int)) = false := by simp
          go_wp2
          go_roundw
          case rel => exact ⟨k + 1, by omega, by go_num, by rw [doneZ_skip]; exact dk, hwk, hrk, hxk⟩
          case measure => simp [intOf]; omega
        · have e1 : ((k : Int) != (r : Int)) = true := by simp; omega
          have hrow := dk.row hrn
          rw [doneZ_piv] at hrow
          go_wp2_with (go_at_call 43; refine (add_grid (by omega) (by omega) dk hlt hm hrow (fun a ha => by cases ha; exact Or.inr (cut_sep (fun e => hkr (dk.inj k r hlt hrn e.symm))))).mono ?_; rintro e w3 ⟨rfl, d3, hx3⟩)
          go_roundw
          case rel =>
            have lk := hxk.size
            refine ⟨k + 1, by omega, by go_num, ?_, (hx3.block bw (Nat.lt_of_lt_of_le lw lk) n1).trans hwk, (hx3.block br (Nat.lt_of_lt_of_le lr lk) n3).trans hrk, hxk.trans (hx3.more (fun b e => Or.inl e))⟩
            rw [doneZ_next _ _ _ _ hkr]
            rw [doneZ_at] at d3
            exact d3
          case measure => simp [intOf]; omega
      · have ek : n = k := by omega
        subst ek
        go_wp2
        go_end0
        refine ⟨rfl, ⟨P1, hZ2 ▸ dk.keepx ((Bx.refl (· = br) wr).put rfl) (fun e => n3 e.symm) (fun e => n4 e.symm)⟩, ?_, Bx.put hxk (Or.inr (Or.inr rfl))⟩
        exact one_setCell hrk
  go_region
  exact hrest

end Go.Proofs.Ytbhbdhkifkmkbaa

/- Contract of the program's reduce: rows brought to steps. -/
namespace Go.Proofs.Ytbhbdhkifkmkbaa
open Go.RowKit

theorem Bx.new {S T : Nat → Prop} {a b c : World} (h : Bx S a b) (k : Bx T b c) (hT : ∀ x, x < a.heap.size → T x → S x) : Bx S a c :=
  ⟨k.os.trans h.os, k.tape.trans h.tape, k.output.trans h.output, Nat.le_trans h.size k.size, fun x hx hs => (k.block x (Nat.lt_of_lt_of_le hx h.size) (fun e => hs (hT x hx e))).trans (h.block x hx hs)⟩

set_option maxRecDepth 100000 in
set_option maxHeartbeats 2000000 in
theorem reduce_any (g h n m cols : Nat) (P0 : Nat → Nat) (Z0 : Nat → Nat → Int) (w : World) (d : Grid w g h n m P0 Z0) (hc : cols ≤ m) (hn : n ≤ 131072) (hm : m ≤ 1048576) :
    Calls Try.prog 42 #[.slice (some ⟨h, 0, none⟩) n n, .int .i64 (cols : Int)] w fun e w' => ∃ (r : Nat) (p P : Nat → Nat) (Z : Nat → Nat → Int), e = .returned (.int .i64 (r : Int)) ∧ Grid w' g h n m P Z ∧ StepInv n m cols r Z0 Z p ∧ r ≤ n ∧ Bx (fun b => b = g ∨ b = h) w w' := by
  have hgl := d.glt
  have hhl := d.hlt
  have hs0 : StepInv n m 0 0 Z0 Z0 (fun _ => 0) := ⟨La.RowEq.refl _ _ _, ⟨Nat.zero_le _, fun i hi => by omega, fun i k _ hk => by omega, fun k i _ hi => by omega, fun k j _ _ hj => by omega⟩⟩
  have hbw : Bw w ((w.alloc (.cells #[.slice (some ⟨h, 0, none⟩) n n] 22)).alloc (.cells #[.int .i64 0] 3)) := ((Below.refl _ _).alloc (Nat.le_refl _) _).alloc (by rw [size_alloc]; omega) _
  go_enter Try.func42, Try.ntmps42
  go_wp2
  go_loopw [7, 8] (fun c _ wr => ∃ (j r : Nat) (p P : Nat → Nat) (Z : Nat → Nat → Int), j ≤ cols ∧ c = .int .i64 j ∧ r ≤ n ∧ Grid wr g h n m P Z ∧ StepInv n m j r Z0 Z p ∧ wr.heap[w.heap.size]? = some (.cells #[.slice (some ⟨h, 0, none⟩) n n] 22 (0, 0)) ∧ wr.heap[w.heap.size + 1]? = some (.cells #[.int .i64 (r : Int)] 3 (0, 0)) ∧ Bx (fun b => b = g ∨ b = h) w wr) (fun c _ _ => cols - (intOf c).toNat)
  case atStart => exact ⟨0, 0, _, _, _, Nat.zero_le _, rfl, Nat.zero_le _, d.keep hbw, hs0, heap_alloc2_old _ _ _, heap_alloc2_new _ _ _, Bx.of_bw hbw⟩
  case round =>
    rename World => wo
    obtain ⟨j, r, p, P, Z, hj, rfl, hrn, dk, hst, hw, hr, hx⟩ := hrel
    have cw := cell_of_one hw
    have cr := cell_of_one hr
    by_cases hlt : r < n
    · have r1 : (r : Int) < (n : Int) := by omega
      go_wp2
      go_step3
      go_wp2
      go_step3
      go_wp2
      go_loopw [7, 8] (fun c _ wr => ∃ l : Nat, j ≤ l ∧ l ≤ cols ∧ c = .int .i64 l ∧ StepInv n m l r Z0 Z p ∧ wr = wo) (fun c _ _ => cols - (intOf c).toNat)
      case atStart => exact ⟨j, Nat.le_refl _, hj, rfl, hst, rfl⟩
      case round =>
        rename World => wp
        obtain ⟨l, hjl, hl, rfl, hsl, e⟩ := hrel
        subst e
        by_cases hlc : l < cols
        · have l0 : (0 : Int) ≤ (l : Int) := Int.natCast_nonneg _
          have l1 : (l : Int) < (cols : Int) := by omega
          have l2 : (l : Int) < (m : Int) := by omega
          go_wp2
          go_loopw [8] (fun c wr => ∃ t : Nat, r ≤ t ∧ t ≤ n ∧ c = .int .i64 t ∧ (∀ k, r ≤ k → k < t → Z k l = 0) ∧ wr = wp) (fun c _ => n - (intOf c).toNat)
          case atStart => exact ⟨r, Nat.le_refl _, hrn, rfl, fun k _ _ => by omega, rfl⟩
          case round =>
            rename World => wq
            obtain ⟨t, hrt, htn, rfl, hz, e⟩ := hrel
            subst e
            by_cases htl : t < n
            · obtain ⟨c1, -⟩ := dk.head htl
              obtain ⟨c2, -⟩ := dk.cell htl (c := l) (by omega)
              have t0 : (0 : Int) ≤ (t : Int) := Int.natCast_nonneg _
              have t1 : (t : Int) < (n : Int) := by omega
              by_cases hzt : Z t l = 0
              · have e1 : (Z t l != 0) = false := by simp [hzt]
                go_wp2
                go_roundw
                case rel => exact ⟨t + 1, by omega, by omega, by go_num, fun k h1 h2 => by (by_cases e : k = t); · { subst e; exact hzt }; · { exact hz k h1 (by omega) }, by first | rfl | trivial⟩
                case measure => simp [intOf]; omega
              · have e1 : (Z t l != 0) = true := by simp [hzt]
                have e2 : ((l : Int) == (cols : Int)) = false := by simp; omega
                go_wp2_with (go_at_call 52; refine (settle_any g h n m r t l _ _ P Z _ dk hw hr (by omega) (by omega) (by omega) (by omega) (by omega) hlt htl (by omega) hn hm).mono ?_; rintro e w3 ⟨rfl, ⟨P3, d3⟩, hr3, hx3⟩)
                try simp only [Exit.noGoto_normal]
                go_wp2
                have lq := (Array.getElem?_eq_some_iff.1 hw).1
                go_roundw
                case rel => exact ⟨l + 1, r + 1, _, P3, _, by omega, by go_num, hlt, d3, inv_next hsl (fun i _ l => dk.bd i l) hlt hrt htl hzt (by omega), (hx3.block _ lq (by omega)).trans hw, by rw [hr3]; rfl, hx.new hx3 (fun b hb e => by omega)⟩
                case measure => simp [intOf]; omega
            · have ek : n = t := by omega
              subst ek
              go_wp2
              go_roundw
              case rel => exact ⟨l + 1, by omega, by omega, by go_num, inv_skip hsl (fun k h1 h2 => hz k h1 h2), by first | rfl | trivial⟩
              case measure => simp [intOf]; omega
        · have ek : cols = l := by omega
          subst ek
          have e2 : ((cols : Int) == (cols : Int)) = true := by simp
          go_wp2
          simp only [Exit.noGoto_exit]
          go_wp2
          go_ret
          exact ⟨r, p, P, Z, rfl, dk, hsl, hrn, hx⟩
    · have ek : n = r := by omega
      subst ek
      go_wp2
      go_ret
      exact ⟨n, p, P, Z, rfl, dk, ⟨hst.1, stepped_full hst.2 hj⟩, Nat.le_refl _, hx⟩

end Go.Proofs.Ytbhbdhkifkmkbaa

/- The program's Mul for whatever matrices; Turned; Rank. -/
namespace Go.Proofs.Ytbhbdhkifkmkbaa
open Go.RowKit

/-- what Mul's errors and shape are -/
def MulSays (n : Nat) (L : Nat → Nat) (m : Nat) (M : Nat → Nat) (x : Int) (k q : Nat) : Prop :=
  (Wrong n L x ∧ x ≠ 0 ∧ k = 0) ∨ (Wrong n L 0 ∧ Wrong m M x ∧ x ≠ 0 ∧ k = 0) ∨ (Wrong n L 0 ∧ Wrong m M 0 ∧ colsN n L ≠ m ∧ x = 6 ∧ k = 0) ∨
  (Wrong n L 0 ∧ Wrong m M 0 ∧ colsN n L = m ∧ x = 0 ∧ k = n ∧ q = colsN m M)

theorem wrong_some_x (n : Nat) (L : Nat → Nat) : ∃ x, Wrong n L x := by
  by_cases h1 : 32 < n ∨ ∃ r, r < n ∧ 131072 < L r
  · exact ⟨2, Or.inl ⟨rfl, h1⟩⟩
  · have hn : n ≤ 32 := Nat.le_of_not_lt (fun e => h1 (Or.inl e))
    have hl : ∀ r, r < n → L r ≤ 131072 := fun r hr => Nat.le_of_not_lt (fun e => h1 (Or.inr ⟨r, hr, e⟩))
    by_cases h2 : ∃ r, r < n ∧ L r ≠ L 0
    · exact ⟨6, Or.inr (Or.inl ⟨rfl, hn, hl, h2⟩)⟩
    · exact ⟨0, Or.inr (Or.inr ⟨rfl, hn, hl, fun r hr => Classical.byContradiction fun e => h2 ⟨r, hr, e⟩⟩)⟩

theorem mul_bad1 (A B : Option Addr) (n m ca cb : Nat) (R : Nat → Option Addr) (L C : Nat → Nat) (Z : Nat → Nat → Int) (w : World) (ha : MatAt w A n R L C Z) (x : Int) (hx : Wrong n L x) (h0 : x ≠ 0) :
    Calls Try.prog 28 #[.slice A n ca, .slice B m cb] w fun e w' => e = .returned (.tuple #[.slice none 0 0, .int .i64 x]) ∧ w' = w := by
  have e1 : (x != 0) = true := by simpa using h0
  go_enter Try.func28, Try.ntmps28
  go_wp2_with (go_at_call_of 39 (Value.slice A n ca); refine (wrong_any _ _ _ _ _ _ _ _ ha).mono ?_; rintro e w' ⟨y, rfl, hx', hw'⟩; subst w'; obtain rfl := Wrong.unique hx' hx)
  go_ret2
  exact ⟨rfl, rfl⟩

theorem mul_bad2 (A B : Option Addr) (n m ca cb : Nat) (R S : Nat → Option Addr) (L C M D : Nat → Nat) (Z Y : Nat → Nat → Int) (w : World) (ha : MatAt w A n R L C Z) (hb : MatAt w B m S M D Y) (hx : Wrong n L 0) (x : Int) (hy : Wrong m M x) (h0 : x ≠ 0) :
    Calls Try.prog 28 #[.slice A n ca, .slice B m cb] w fun e w' => e = .returned (.tuple #[.slice none 0 0, .int .i64 x]) ∧ w' = w := by
  have e1 : (x != 0) = true := by simpa using h0
  go_enter Try.func28, Try.ntmps28
  go_wp2_with (first
    | (go_at_call_of 39 (Value.slice A n ca); refine (wrong_any _ _ _ _ _ _ _ _ ha).mono ?_; rintro e w' ⟨y, rfl, hx', hw'⟩; subst w'; obtain rfl := Wrong.unique hx' hx)
    | (go_at_call_of 39 (Value.slice B m cb); refine (wrong_any _ _ _ _ _ _ _ _ hb).mono ?_; rintro e w' ⟨y, rfl, hx', hw'⟩; subst w'; obtain rfl := Wrong.unique hx' hy))
  go_ret2
  exact ⟨rfl, rfl⟩

theorem mul_bad3 (A B : Option Addr) (n m ca cb : Nat) (R S : Nat → Option Addr) (L C M D : Nat → Nat) (Z Y : Nat → Nat → Int) (w : World) (ha : MatAt w A n R L C Z) (hb : MatAt w B m S M D Y) (hx : Wrong n L 0) (hy : Wrong m M 0) (h0 : colsN n L ≠ m) :
    Calls Try.prog 28 #[.slice A n ca, .slice B m cb] w fun e w' => e = .returned (.tuple #[.slice none 0 0, .int .i64 6]) ∧ w' = w := by
  have e1 : (colsI n L != (m : Int)) = true := by rw [colsI_eq]; simp; omega
  go_enter Try.func28, Try.ntmps28
  go_wp2_with (first
    | (go_at_call_of 39 (Value.slice A n ca); refine (wrong_any _ _ _ _ _ _ _ _ ha).mono ?_; rintro e w' ⟨y, rfl, hx', hw'⟩; subst w'; obtain rfl := Wrong.unique hx' hx)
    | (go_at_call_of 39 (Value.slice B m cb); refine (wrong_any _ _ _ _ _ _ _ _ hb).mono ?_; rintro e w' ⟨y, rfl, hx', hw'⟩; subst w'; obtain rfl := Wrong.unique hx' hy)
    | (go_at_call_of 40 (Value.slice A n ca); refine (columns_any _ _ _ _ _ _ _ _ ha).mono ?_; rintro e w' ⟨rfl, hw'⟩; subst w'))
  go_ret2
  exact ⟨rfl, rfl⟩

theorem mul_all (A B : Option Addr) (n m ca cb : Nat) (R S : Nat → Option Addr) (L C M D : Nat → Nat) (Z Y : Nat → Nat → Int) (w : World) (ha : MatAt w A n R L C Z) (hb : MatAt w B m S M D Y) :
    Calls Try.prog 28 #[.slice A n ca, .slice B m cb] w fun e w' => ∃ v x k q, e = .returned (.tuple #[v, .int .i64 x]) ∧ MatRes w' w.heap.size v k (fun _ => q) (prodZ m Z Y) ∧ MulSays n L m M x k q ∧ Bw w w' := by
  obtain ⟨x, hx⟩ := wrong_some_x n L
  obtain ⟨y, hy⟩ := wrong_some_x m M
  by_cases h1 : x = 0
  · subst h1
    by_cases h2 : y = 0
    · subst h2
      by_cases h3 : colsN n L = m
      · refine (mul_ok A B n m (colsN m M) ca cb R S L C M D Z Y w ha hb hx hy (by rw [colsI_eq, h3]) (colsI_eq _ _)).mono ?_
        rintro e w' ⟨v, he, hm, hw⟩
        exact ⟨v, 0, n, colsN m M, he, hm, Or.inr (Or.inr (Or.inr ⟨hx, hy, h3, rfl, rfl, rfl⟩)), hw⟩
      · refine (mul_bad3 A B n m ca cb R S L C M D Z Y w ha hb hx hy h3).mono ?_
        rintro e w' ⟨he, rfl⟩
        exact ⟨_, 6, 0, 0, he, res_none _ _ _ _, Or.inr (Or.inr (Or.inl ⟨hx, hy, h3, rfl, rfl⟩)), Bw.refl _⟩
    · refine (mul_bad2 A B n m ca cb R S L C M D Z Y w ha hb hx y hy h2).mono ?_
      rintro e w' ⟨he, rfl⟩
      exact ⟨_, y, 0, 0, he, res_none _ _ _ _, Or.inr (Or.inl ⟨hx, hy, h2, rfl⟩), Bw.refl _⟩
  · refine (mul_bad1 A B n m ca cb R L C Z w ha x hx h1).mono ?_
    rintro e w' ⟨he, rfl⟩
    exact ⟨_, x, 0, 0, he, res_none _ _ _ _, Or.inl ⟨hx, h1, rfl⟩, Bw.refl _⟩

/-- rows and columns changed about, under way: i rows are done, j numbers of the next one -/
def tW (n : Nat) (Z : Nat → Nat → Int) (i j r c : Nat) : Int := if c < i ∨ (c = i ∧ r < j) then capZ n Z c r else 0
theorem tW_bd {w : World} {A : Option Addr} {n : Nat} {R : Nat → Option Addr} {L C : Nat → Nat} {Z : Nat → Nat → Int} (h : MatAt w A n R L C Z) (i j r c : Nat) : 0 ≤ tW n Z i j r c ∧ tW n Z i j r c < 256 := by
  unfold tW; split
  · exact capZ_bd h c r
  · decide
theorem tW_next {n : Nat} {Z : Nat → Nat → Int} {i j : Nat} (hi : i < n) (r c : Nat) : tW n Z i (j + 1) r c = upd (tW n Z i j) j (upd (tW n Z i j j) i (Z i j)) r c := by
  by_cases e : r = j
  · subst e; rw [upd_at]
    by_cases e' : c = i
    · subst e'; rw [upd_at]; unfold tW; rw [if_pos (by omega), capZ_at hi]
    · rw [upd_ne _ _ e']; unfold tW
      by_cases h : c < i
      · rw [if_pos (by omega), if_pos (by omega)]
      · rw [if_neg (by omega), if_neg (by omega)]
  · rw [upd_ne _ _ e]; unfold tW
    by_cases h : c < i ∨ (c = i ∧ r < j)
    · rw [if_pos h, if_pos (by omega)]
    · rw [if_neg h, if_neg (by omega)]
theorem tW_row {n : Nat} {Z : Nat → Nat → Int} {i m r c : Nat} (hr : r < m) : tW n Z (i + 1) 0 r c = tW n Z i m r c := by
  unfold tW
  by_cases h : c < i ∨ (c = i ∧ r < m)
  · rw [if_pos h, if_pos (by omega)]
  · rw [if_neg h, if_neg (by omega)]

/-- what Turned's errors and shape are -/
def TurnSays (n : Nat) (L : Nat → Nat) (x : Int) (k : Nat) : Prop :=
  (Wrong n L x ∧ x ≠ 0 ∧ k = 0) ∨ (Wrong n L 0 ∧ 32 < colsN n L ∧ x = 2 ∧ k = 0) ∨ (Wrong n L 0 ∧ colsN n L ≤ 32 ∧ x = 0 ∧ k = colsN n L)

end Go.Proofs.Ytbhbdhkifkmkbaa

/- The program's Rank and Inverse. -/
namespace Go.Proofs.Ytbhbdhkifkmkbaa
open Go.RowKit

theorem copy_grid {g h n m r L cb : Nat} {P : Nat → Nat} {Z : Nat → Nat → Int} {f : Nat → Int} {B : Option Addr} (ty : TypeId) {w : World} (d : Grid w g h n m P Z) (hr : r < n) (hL : L ≤ m) (hB : RowAt w B L f) :
    ∃ w', (Builtin.copy_ #[37, 37] ty #[.slice (some ⟨g, P r * m, none⟩) m m, .slice B L cb]).run Try.prog w = .ok (goInt L) w' ∧ Grid w' g h n m P (upd Z r (fun c => if c < L then f c else Z r c)) ∧ Bx (· = g) w w' := by
  obtain ⟨F, hb, hF, hZ⟩ := d.cells
  have hle := cut_le (m := m) (c := m) (d.lt r hr) (Nat.le_refl _)
  obtain ⟨w', h1, h2, h3⟩ := copy_ok g (P r * m) m m (n * m) L cb ty F f B w hb (by omega) hL hB
  refine ⟨w', h1, d.turned h3 hr hZ h2 (cpyF_bd hF hB.2) (fun i => ?_) (fun i hi => ?_) (fun i hi => ?_), h3⟩
  · split
    · exact hB.2 i
    · exact d.bd r i
  · unfold cpyF
    by_cases e : i < L
    · rw [if_pos (by omega), if_pos e, Nat.add_sub_cancel_left]
    · rw [if_neg (by omega), if_neg e, hZ r i hr hi]
  · unfold cpyF; rw [if_neg (by omega)]

/-- k rows laid over -/
def rowsW (n : Nat) (Z : Nat → Nat → Int) (k r c : Nat) : Int := if r < k then capZ n Z r c else 0
theorem rowsW_bd {w : World} {A : Option Addr} {n : Nat} {R : Nat → Option Addr} {L C : Nat → Nat} {Z : Nat → Nat → Int} (h : MatAt w A n R L C Z) (k r c : Nat) : 0 ≤ rowsW n Z k r c ∧ rowsW n Z k r c < 256 := by
  unfold rowsW; split
  · exact capZ_bd h r c
  · decide

theorem StepInv.from_ {n m j r : Nat} {Z0 Z1 Z : Nat → Nat → Int} {p : Nat → Nat} (h : StepInv n m j r Z0 Z p) (e : ∀ i j, i < n → j < m → Z0 i j = Z1 i j) : StepInv n m j r Z1 Z p :=
  ⟨(La.RowEq.of_eq (A := fm Z1) (W := fm Z0) (fun i j hi hj => by unfold fm; rw [e i j hi hj])).trans h.1, h.2⟩

/-- what Rank says -/
def RankSays (n : Nat) (L : Nat → Nat) (Z : Nat → Nat → Int) (x : Int) (r : Nat) : Prop :=
  (Wrong n L x ∧ x ≠ 0 ∧ r = 0) ∨ (Wrong n L 0 ∧ x = 0 ∧ La.IsRank n (colsN n L) (fm Z) r)

end Go.Proofs.Ytbhbdhkifkmkbaa
