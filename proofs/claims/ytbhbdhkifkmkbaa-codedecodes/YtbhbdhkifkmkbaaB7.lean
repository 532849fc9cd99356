/- Texts of mine, put together. -/
import Derived.Test.YtbhbdhkifkmkbaaB6
import Derived.Deep.RegionWith
import Derived.BigRegion
import Derived.Deep.DrawnRows
import Derived.Laws.Unary

set_option linter.unusedVariables false

/- Sums of products as numbers of the field; what came in, and whether it is great. -/
namespace Go.Proofs.Ytbhbdhkifkmkbaa
open Go.RowKit

theorem dot_fi (f g : Nat → Int) (hf : ∀ i, 0 ≤ f i ∧ f i < 256) : ∀ k, (∀ i, i < k → 0 ≤ g i ∧ g i < 256) → fi (dotU f g k) = La.sum k fun t => La.ml (fi (f t)) (fi (g t))
  | 0, _ => rfl
  | k + 1, hg => by
    show fi (addI (dotU f g k) (mulI (f k) (g k))) = La.ad (La.sum k _) _
    rw [fi_add (dotU_bd f g hf k) (mulI_bd _ _ (hf k).2), fi_mul (hf k) (hg k (by omega)), dot_fi f g hf k (fun i hi => hg i (by omega))]

theorem mulI_one (x : Int) (h : 0 ≤ x ∧ x < 256) : mulI 1 x = x := by
  apply fi_inj (mulI_bd 1 x (by omega)) h
  rw [fi_mul (by omega) h, fi_one, La.one_mul]

theorem dot_sum (f g h s : Nat → Int) (n : Nat) (hf : ∀ i, 0 ≤ f i ∧ f i < 256) (hg : ∀ i, 0 ≤ g i ∧ g i < 256) (hh : ∀ i, 0 ≤ h i ∧ h i < 256) (e : ∀ i, i < n → s i = addI (g i) (mulI 1 (h i))) :
    dotU f s n = addI (dotU f g n) (dotU f h n) := by
  have hs : ∀ i, i < n → 0 ≤ s i ∧ s i < 256 := fun i hi => by rw [e i hi]; exact addI_bd _ _ (hg i).2 (mulI_bd _ _ (by omega)).2
  apply fi_inj (dotU_bd f s hf n) (addI_bd _ _ (dotU_bd f g hf n).2 (dotU_bd f h hf n).2)
  rw [fi_add (dotU_bd f g hf n) (dotU_bd f h hf n), dot_fi f s hf n hs, dot_fi f g hf n (fun i _ => hg i), dot_fi f h hf n (fun i _ => hh i), ← La.sum_add]
  apply La.sum_congr
  intro i hi
  rw [e i hi, mulI_one _ (hh i), fi_add (hg i) (hh i), La.mul_add]

theorem prod_bd {m : Nat} {Z Y : Nat → Nat → Int} {i : Nat} (hZ : ∀ t, 0 ≤ Z i t ∧ Z i t < 256) (j : Nat) : 0 ≤ prodZ m Z Y i j ∧ prodZ m Z Y i j < 256 := dotU_bd _ _ hZ m

theorem prod_fm {m : Nat} {Z Y : Nat → Nat → Int} {i j : Nat} (hZ : ∀ t, 0 ≤ Z i t ∧ Z i t < 256) (hY : ∀ t, t < m → 0 ≤ Y t j ∧ Y t j < 256) : fm (prodZ m Z Y) i j = La.mm m (fm Z) (fm Y) i j := dot_fi (Z i) (fun t => Y t j) hZ m hY

/-- brackets go either way -/
theorem prod_assoc {m q : Nat} {Z Y X : Nat → Nat → Int} {i j : Nat} (hZ : ∀ t, 0 ≤ Z i t ∧ Z i t < 256) (hY : ∀ t, t < m → ∀ c, 0 ≤ Y t c ∧ Y t c < 256) (hX : ∀ t, t < q → 0 ≤ X t j ∧ X t j < 256) :
    prodZ q (prodZ m Z Y) X i j = prodZ m Z (prodZ q Y X) i j := by
  have hp : ∀ t, 0 ≤ prodZ m Z Y i t ∧ prodZ m Z Y i t < 256 := prod_bd hZ
  apply fi_inj (prod_bd hp j) (prod_bd hZ j)
  have e1 := prod_fm (m := q) (Z := prodZ m Z Y) (Y := X) (i := i) (j := j) hp hX
  have e2 := prod_fm (m := m) (Z := Z) (Y := prodZ q Y X) (i := i) (j := j) hZ (fun t ht => prod_bd (hY t ht) j)
  show fm (prodZ q (prodZ m Z Y) X) i j = fm (prodZ m Z (prodZ q Y X)) i j
  rw [e1, e2]
  have e3 : La.mm q (fm (prodZ m Z Y)) (fm X) i j = La.mm q (La.mm m (fm Z) (fm Y)) (fm X) i j := La.mm_congr (fun t _ => prod_fm hZ (fun s hs => hY s hs t)) (fun _ _ => rfl)
  have e4 : La.mm m (fm Z) (fm (prodZ q Y X)) i j = La.mm m (fm Z) (La.mm q (fm Y) (fm X)) i j := La.mm_congr (fun _ _ => rfl) (fun t ht => prod_fm (hY t ht) hX)
  rw [e3, e4, La.mm_assoc]

theorem one_fm (i j : Nat) : fm oneZ i j = La.one i j := by
  unfold fm oneZ La.one; split <;> rfl

theorem cols_self (n : Nat) : colsN n (fun _ => n) = n := by
  unfold colsN; split
  · omega
  · rfl

end Go.Proofs.Ytbhbdhkifkmkbaa

/- The table's numbers, and what inverses of its rows give; nothing of the program is named here but what Inverse and Mul answer. -/
namespace Go.Proofs.Ytbhbdhkifkmkbaa
open Go.RowKit

/-- the number of the table in row i, column j -/
def tabI (k i j : Nat) : Int := ((La.lag ptF ivF j (ptF i) k).v : Int)
theorem tabI_bd (k i j : Nat) : 0 ≤ tabI k i j ∧ tabI k i j < 256 := by
  unfold tabI
  have := (La.lag ptF ivF j (ptF i) k).h
  omega
theorem tabI_fi (k i j : Nat) : fi (tabI k i j) = La.lag ptF ivF j (ptF i) k := fi_self _
/-- .. as the document reckons it -/
theorem tab_wgt {k i j : Nat} (hk : k ≤ 256) (hi : i < 256) (hj : j < k) : wgtI (fun i => (i : Int)) j (i : Int) k = tabI k i j := by
  apply fi_inj (wgtI_bd _ _ _ _) (tabI_bd _ _ _)
  rw [tabI_fi, wgt_fi (fun i => (i : Int)) j (i : Int) (by omega) (by omega) k (fun i hi => by omega)]
  rfl

/-- powers -/
def pwrI (x : Int) : Nat → Int
  | 0 => 1
  | t + 1 => mulI (pwrI x t) x
theorem pwrI_bd (x : Int) : ∀ t, 0 ≤ pwrI x t ∧ pwrI x t < 256
  | 0 => by show (0 : Int) ≤ 1 ∧ (1 : Int) < 256; decide
  | t + 1 => mulI_bd _ _ (pwrI_bd x t).2
theorem pwrI_fi {i : Nat} (hi : i < 256) : ∀ t, fi (pwrI (i : Int) t) = La.pw (ptF i) t
  | 0 => rfl
  | t + 1 => by
    show fi (mulI (pwrI (i : Int) t) (i : Int)) = La.ml (La.pw (ptF i) t) (ptF i)
    rw [fi_mul (pwrI_bd _ t) (by omega), pwrI_fi hi t]; rfl

theorem lag_one {k i j : Nat} (hk : k ≤ 256) (hi : i < k) (hj : j < k) : La.lag ptF ivF j (ptF i) k = La.one i j := by
  unfold La.one
  by_cases e : i = j
  · subst e
    rw [if_pos rfl]
    exact La.lag_own ptF ivF i ivF_ok k (fun t ht hne => pts_apart hk t i ht hi hne)
  · rw [if_neg e]
    exact La.lag_other ptF ivF j i e k hi

/-- the coefficients of the polynomials that are 1 at one point -/
theorem coeffs (k : Nat) (p : Nat → La.F8) : ∃ C : Nat → Nat → La.F8, ∀ j, j < k → ∀ x, La.ev k (fun t => C t j) x = La.lag p ivF j x k := by
  have h : ∀ j, ∃ c, j < k → ∀ x, La.lag p ivF j x k = La.ev k c x := fun j => by
    obtain ⟨c, hc⟩ := La.lag_ev p ivF j k
    exact ⟨c, fun hj x => by rw [hc x, if_pos hj]⟩
  exact ⟨fun t j => Classical.choose (h j) t, fun j hj x => (Classical.choose_spec (h j) hj x).symm⟩

/-- powers times the inverse of their first rows are the table -/
theorem table_math {k n kk : Nat} {V Y : Nat → Nat → Int} {x : Int} (hk : k ≤ 256) (hn : n ≤ 256) (hkn : k ≤ n) (hV : ∀ i, i < n → ∀ j, j < k → V i j = pwrI (i : Int) j) (hVb : ∀ i, i < n → ∀ j, 0 ≤ V i j ∧ V i j < 256) (hInv : InvOk k V Y x kk) (hY : ∀ t, t < kk → ∀ c, 0 ≤ Y t c ∧ Y t c < 256) :
    x = 0 ∧ kk = k ∧ ∀ i, i < n → ∀ j, j < k → prodZ k V Y i j = tabI k i j := by
  obtain ⟨C, hC⟩ := coeffs k ptF
  have hm : ∀ i, i < n → ∀ j, j < k → La.mm k (fm V) C i j = La.lag ptF ivF j (ptF i) k := by
    intro i hi j hj
    rw [← hC j hj]
    unfold La.mm La.ev
    refine La.sum_congr fun t ht => ?_
    show La.ml (fi (V i t)) (C t j) = La.ml (C t j) (La.pw (ptF i) t)
    rw [hV i hi t ht, pwrI_fi (by omega), La.mul_comm]
  have hone : ∀ i j, i < k → j < k → La.mm k (fm V) C i j = La.one i j := fun i j hi hj => by rw [hm i (by omega) j hj, lag_one hk hi hj]
  rcases hInv with ⟨_, _, hno⟩ | ⟨h0, h1, hinv⟩
  · exact absurd ⟨C, hone⟩ hno
  · refine ⟨h0, h1, fun i hi j hj => ?_⟩
    have hu := La.inv_unique k (fm V) (fm Y) C hinv hone
    apply fi_inj (prod_bd (hVb i hi) j) (tabI_bd _ _ _)
    rw [tabI_fi]
    have e := prod_fm (m := k) (Z := V) (Y := Y) (i := i) (j := j) (hVb i hi) (fun t ht => hY t (by omega) j)
    show fm (prodZ k V Y) i j = _
    rw [e, ← hm i hi j hj]
    exact La.mm_congr (fun _ _ => rfl) (fun t ht => hu t j ht hj)

/-- a row of the table times data is the word's shard -/
theorem word_math {k i r c : Nat} {T D : Nat → Nat → Int} (hT : ∀ j, j < k → T r j = tabI k i j) (hTb : ∀ j, 0 ≤ T r j ∧ T r j < 256) (hD : ∀ j, j < k → 0 ≤ D j c ∧ D j c < 256) : prodZ k T D r c = wordI k D i c := by
  apply fi_inj (prod_bd hTb c) (wordI_bd _ _ _ _)
  rw [wordI_fi]
  have e := prod_fm (m := k) (Z := T) (Y := D) (i := r) (j := c) hTb hD
  show fm (prodZ k T D) r c = _
  rw [e]
  unfold La.mm La.thro
  refine La.sum_congr fun j hj => ?_
  show La.ml (fi (T r j)) _ = _
  rw [hT j hj, tabI_fi]

/-- rows of the table at unlike numbers can be taken back, and times shards at these numbers that gives the data -/
theorem back_math {k kk : Nat} {M Y : Nat → Nat → Int} {x : Int} {f : Nat → Int} (hk : k ≤ 256) (hf : ∀ i, i < k → 0 ≤ f i ∧ f i < 256) (hd : ∀ a b, a < k → b < k → a ≠ b → f a ≠ f b) (hM : ∀ i, i < k → ∀ j, j < k → M i j = tabI k (f i).toNat j) (hInv : InvOk k M Y x kk) (hY : ∀ t, t < kk → ∀ c, 0 ≤ Y t c ∧ Y t c < 256) :
    x = 0 ∧ kk = k ∧ ∀ (Z : Nat → Nat → Int) (j c : Nat), j < k → (∀ t, t < k → 0 ≤ Z t c ∧ Z t c < 256) → prodZ k Y Z j c = atZ k f Z (j : Int) c := by
  have hone : ∀ a b, a < k → b < k → La.mm k (fm M) (fun j i => La.lag (fun i => fi (f i)) ivF i (ptF j) k) a b = La.one a b := by
    intro a b ha hb
    obtain ⟨c, hc⟩ := La.lag_ev (fun i => fi (f i)) ivF b k
    rw [if_pos hb] at hc
    have e1 : La.mm k (fm M) (fun j i => La.lag (fun i => fi (f i)) ivF i (ptF j) k) a b = La.thro k ptF ivF (fun j => La.ev k c (ptF j)) (fi (f a)) := by
      unfold La.mm La.thro
      refine La.sum_congr fun j hj => ?_
      show La.ml (fi (M a j)) (La.lag (fun i => fi (f i)) ivF b (ptF j) k) = _
      rw [hM a ha j hj, tabI_fi, hc (ptF j)]
      have e2 : ptF (f a).toNat = fi (f a) := by
        show fi (((f a).toNat : Nat) : Int) = _
        rw [Int.toNat_of_nonneg (hf a ha).1]
      rw [e2]
    rw [e1, La.thro_of_ev k ptF ivF ivF_ok (pts_apart hk) c, ← hc]
    unfold La.one
    by_cases e : a = b
    · subst e
      rw [if_pos rfl]
      exact La.lag_own (fun i => fi (f i)) ivF a ivF_ok k (fun t ht hne h => hd t a ht ha hne (fi_inj (hf t ht) (hf a ha) h))
    · rw [if_neg e]
      exact La.lag_other (fun i => fi (f i)) ivF b a e k ha
  rcases hInv with ⟨_, _, hno⟩ | ⟨h0, h1, hinv⟩
  · exact absurd ⟨_, hone⟩ hno
  · refine ⟨h0, h1, fun Z j c hj hZ => ?_⟩
    have hu := La.inv_unique k (fm M) (fm Y) _ hinv hone
    apply fi_inj (prod_bd (fun t => hY j (by omega) t) c) (atZ_bd _ _ _ _ _)
    rw [at_fi (by omega) hf hZ]
    have e := prod_fm (m := k) (Z := Y) (Y := Z) (i := j) (j := c) (fun t => hY j (by omega) t) hZ
    show fm (prodZ k Y Z) j c = _
    rw [e]
    unfold La.mm La.thro
    exact La.sum_congr fun i hi => by rw [hu j i hj hi]; rfl

end Go.Proofs.Ytbhbdhkifkmkbaa

/- What the program finds wrong with k and n, with rows, with numbers and with shards. -/
namespace Go.Proofs.Ytbhbdhkifkmkbaa
open Go.RowKit

theorem kn_any (k n : Int) (w : World) : Calls Try.prog 25 #[.int .i64 k, .int .i64 n] w fun e w' => ∃ x, e = .returned (.int .i64 x) ∧ KnWrong k n x ∧ w' = w := by
  rcases (show k < 1 ∨ (¬ k < 1 ∧ n < k) ∨ (¬ k < 1 ∧ ¬ n < k ∧ 32 < n) ∨ (¬ k < 1 ∧ ¬ n < k ∧ ¬ 32 < n) by omega) with h | ⟨h, h2⟩ | ⟨h, h2, h3⟩ | ⟨h, h2, h3⟩
  · go_enter Try.func25, Try.ntmps25
    go_wp2
    go_ret
    exact ⟨1, rfl, Or.inl ⟨rfl, Or.inl h⟩, rfl⟩
  · go_enter Try.func25, Try.ntmps25
    go_wp2
    go_ret
    exact ⟨1, rfl, Or.inl ⟨rfl, Or.inr h2⟩, rfl⟩
  · go_enter Try.func25, Try.ntmps25
    go_wp2
    go_ret
    exact ⟨2, rfl, Or.inr (Or.inl ⟨rfl, by omega, by omega, h3⟩), rfl⟩
  · go_enter Try.func25, Try.ntmps25
    go_wp2
    go_ret
    exact ⟨0, rfl, Or.inr (Or.inr ⟨rfl, by omega, by omega, by omega⟩), rfl⟩

theorem rows_any (A : Option Addr) (n cap : Nat) (R : Nat → Option Addr) (L C : Nat → Nat) (Z : Nat → Nat → Int) (hn : n ≤ 140737488355328) (w : World) (h : MatAt w A n R L C Z) :
    Calls Try.prog 32 #[.slice A n cap] w fun e w' => ∃ x, e = .returned (.int .i64 x) ∧ RowsWrong n L x ∧ w' = w := by
  go_enter Try.func32, Try.ntmps32
  go_wp2
  go_loopw [3, 8] (fun b i wr => ∃ (k : Nat) (ev : Bool), k ≤ n ∧ i = .int .i64 k ∧ b = .bool ev ∧ Hid (∀ r, r < k → L r ≤ 131072) ∧ Hid (ev = true ↔ ∀ r, r < k → L r = L 0) ∧ wr = w) (fun _ i _ => n - (intOf i).toNat)
  case atStart => exact ⟨0, true, Nat.zero_le _, rfl, rfl, (fun r hr => by omega), (show _ ↔ _ from ⟨fun _ r hr => by omega, fun _ => rfl⟩), rfl⟩
  case round =>
    obtain ⟨k, ev, hk, rfl, rfl, hno, hev, e⟩ := hrel
    subst e
    by_cases hlt : k < n
    · obtain ⟨b, off, rfl, hc⟩ := h.at hlt
      have h1 := hc k hlt
      have h2 := hc 0 (by omega)
      rw [Nat.add_zero] at h2
      have hk2 : (0 : Int) < (n : Int) := by omega
      clear hc
      by_cases hl : 131072 < L k
      · go_wp2
        go_ret
        exact ⟨2, rfl, Or.inl ⟨rfl, k, hlt, hl⟩, rfl⟩
      · have hno' : Hid (∀ r, r < k + 1 → L r ≤ 131072) := fun r hr => by by_cases e : r = k; (subst e; omega); exact hno r (by omega)
        cases ev with
        | false =>
          go_wp2
          go_roundw
          case rel =>
            refine ⟨k + 1, false, by omega, by go_num, rfl, hno', (show _ ↔ _ from ⟨fun e => by (cases e), fun e => hev.out.2 (fun r hr => e r (by omega))⟩), by first | rfl | trivial⟩
          case measure => simp [intOf]; omega
        | true =>
          by_cases hl3 : L k = L 0
          · have hl2 : ((L k : Int) == (L 0 : Int)) = true := by rw [hl3]; simp
            go_wp2
            go_roundw
            case rel =>
              refine ⟨k + 1, true, by omega, by go_num, rfl, hno', (show _ ↔ _ from ⟨fun _ r hr => by by_cases e : r = k; (subst e; exact hl3); exact hev.out.1 rfl r (by omega), fun _ => rfl⟩), by first | rfl | trivial⟩
            case measure => simp [intOf]; omega
          · have hl2 : ((L k : Int) == (L 0 : Int)) = false := by simp; omega
            go_wp2
            go_roundw
            case rel =>
              refine ⟨k + 1, false, by omega, by go_num, rfl, hno', (show _ ↔ _ from ⟨fun e => by (cases e), fun e => absurd (e k (by omega)) hl3⟩), by first | rfl | trivial⟩
            case measure => simp [intOf]; omega
    · have ek : n = k := by omega
      subst ek
      cases ev with
      | false =>
        go_wp2
        go_ret
        refine ⟨6, rfl, Or.inr (Or.inl ⟨rfl, hno.out, ?_⟩), rfl⟩
        apply Classical.byContradiction
        intro hne
        have := hev.out.2 (fun r hr => Classical.byContradiction fun e => hne ⟨r, hr, e⟩)
        cases this
      | true =>
        go_wp2
        go_ret
        exact ⟨0, rfl, Or.inr (Or.inr ⟨rfl, hno.out, fun r hr => hev.out.1 (by first | rfl | trivial) r hr⟩), rfl⟩

/-- which numbers were met -/
def MetIs (w : World) (g : Nat) (m : Nat → Bool) : Prop := ∃ cur, w.heap[g]? = some (.cells cur 59 (0, 0)) ∧ cur.size = 32 ∧ ∀ c, c < 32 → cur[c]? = some (.bool (m c))
theorem MetIs.cell {w : World} {g : Nat} {m : Nat → Bool} (h : MetIs w g m) {c : Nat} (hc : c < 32) : w.cell? ⟨g, c, none⟩ = some (.bool (m c)) ∧ w.frozen? ⟨g, c, none⟩ = false := by
  obtain ⟨cur, h1, h2, h3⟩ := h
  exact ⟨(cell_of_row w g c cur _ _ h1).trans (h3 c hc), frozen_of_row w g c cur _ h1⟩
theorem MetIs.set {w : World} {g : Nat} {m : Nat → Bool} (h : MetIs w g m) {j : Nat} (hj : j < 32) : MetIs (w.setCell ⟨g, j, none⟩ (.bool true)) g (upd m j true) := by
  obtain ⟨cur, h1, h2, h3⟩ := h
  refine ⟨_, heap_setCell_same w g j cur _ _ h1, by simpa using h2, fun c hc => ?_⟩
  by_cases hcj : c = j
  · subst hcj; rw [Array.getElem?_setIfInBounds_self_of_lt (by omega), upd_at]
  · rw [Array.getElem?_setIfInBounds_ne (Ne.symm hcj), h3 c hc, upd_ne _ _ hcj]
theorem met_new (w : World) : MetIs (w.alloc (.cells (Array.replicate 32 (.bool false)) 59)) w.heap.size (fun _ => false) :=
  ⟨_, heap_alloc_new _ _, by simp, fun c hc => by rw [Array.getElem?_replicate, if_pos hc]⟩

set_option maxRecDepth 100000 in
theorem num_any (n : Int) (A : Option Addr) (l ca : Nat) (f : Nat → Int) (w : World) (ha : IntsAt w A l f) (hl : l ≤ 140737488355328) (hn : n ≤ 32) :
    Calls Try.prog 55 #[.int .i64 n, .slice A l ca] w fun e w' => ∃ x, e = .returned (.int .i64 x) ∧ ((x = 0 ∧ Good l n f) ∨ (x = 1 ∧ ¬ Good l n f)) ∧ Bw w w' := by
  have hnew := met_new w
  have hbw : Bw w (w.alloc (.cells (Array.replicate 32 (.bool false)) 59)) := (Below.refl _ _).alloc (Nat.le_refl _) _
  go_enter Try.func55, Try.ntmps55
  go_wp2
  go_loopw [10] (fun i wr => ∃ (t : Nat) (m : Nat → Bool), t ≤ l ∧ i = .int .i64 t ∧ MetIs wr w.heap.size m ∧ Hid (Good t n f) ∧ Hid (∀ j, j < 32 → (m j = true ↔ ∃ s, s < t ∧ f s = (j : Int))) ∧ Bw w wr) (fun i _ => l - (intOf i).toNat)
  case atStart => exact ⟨0, _, Nat.zero_le _, rfl, hnew, (show Good 0 n f from fun i hi => by omega), (fun j hj => ⟨fun h => (by cases h), fun ⟨s, hs, _⟩ => by omega⟩), hbw⟩
  case round =>
    obtain ⟨t, m, ht, rfl, hmet, hg, hm, hw⟩ := hrel
    by_cases hlt : t < l
    · obtain ⟨b, o, rfl, hc⟩ := (ha.keep hw).resolve_left (by omega)
      have h1 := hc t hlt
      clear hc
      rcases (show f t < 0 ∨ (¬ f t < 0 ∧ n ≤ f t) ∨ (¬ f t < 0 ∧ ¬ n ≤ f t) by omega) with h2 | ⟨h2, h3⟩ | ⟨h2, h3⟩
      · go_wp2
        go_ret
        exact ⟨1, rfl, Or.inr ⟨rfl, fun hh => by have := hh t hlt; omega⟩, hw⟩
      · go_wp2
        go_ret
        exact ⟨1, rfl, Or.inr ⟨rfl, fun hh => by have := hh t hlt; omega⟩, hw⟩
      · obtain ⟨y, hy⟩ : ∃ y : Nat, f t = (y : Int) := ⟨(f t).toNat, by omega⟩
        have hy32 : y < 32 := by omega
        obtain ⟨g1, g2⟩ := hmet.cell hy32
        have hmy := hm.out y hy32
        rw [hy] at h1 h2 h3
        have y0 : (0 : Int) ≤ (y : Int) := Int.natCast_nonneg _
        have y1 : (y : Int) < 32 := by omega
        have HY : Hid (f t = (y : Int)) := hy
        clear hy
        cases hv : m y with
        | true =>
          rw [hv] at g1
          go_wp2
          go_ret
          obtain ⟨s, hs, hfs⟩ := hmy.1 hv
          exact ⟨1, rfl, Or.inr ⟨rfl, fun hh => (hh t hlt).2 s hs (by rw [hfs, HY.out])⟩, hw⟩
        | false =>
          rw [hv] at g1
          go_wp2
          go_roundw
          case rel =>
            refine ⟨t + 1, _, by omega, by go_num, hmet.set hy32, (show Good (t + 1) n f from fun i hi => ?_), (fun j hj => ?_), Bw.put hw (Nat.le_refl _) _ _⟩
            · by_cases e : i = t
              · subst e
                refine ⟨by rw [HY.out]; omega, fun j hj he => ?_⟩
                have := hmy.2 ⟨j, hj, by rw [he, HY.out]⟩
                rw [hv] at this; cases this
              · exact hg.out i (by omega)
            · by_cases e : j = y
              · subst e
                rw [upd_at]
                exact ⟨fun _ => ⟨t, by omega, HY.out⟩, fun _ => rfl⟩
              · rw [upd_ne _ _ e]
                refine ⟨fun h => ?_, fun ⟨s, hs, hfs⟩ => ?_⟩
                · obtain ⟨s, hs, hfs⟩ := (hm.out j hj).1 h
                  exact ⟨s, by omega, hfs⟩
                · by_cases e2 : s = t
                  · subst e2; rw [HY.out] at hfs; omega
                  · exact (hm.out j hj).2 ⟨s, by omega, hfs⟩
          case measure => simp [intOf]; omega
    · have ek : l = t := by omega
      subst ek
      go_wp2
      go_ret
      exact ⟨0, rfl, Or.inl ⟨rfl, hg.out⟩, hw⟩

theorem sh_any (k n : Int) (B A : Option Addr) (m l cb ca : Nat) (R : Nat → Option Addr) (L C : Nat → Nat) (Z : Nat → Nat → Int) (f : Nat → Int) (w : World) (hb : MatAt w B m R L C Z) (ha : IntsAt w A l f) (hl : l ≤ 140737488355328) (hm : m ≤ 140737488355328) :
    Calls Try.prog 46 #[.int .i64 k, .int .i64 n, .slice B m cb, .slice A l ca] w fun e w' => ∃ x, e = .returned (.int .i64 x) ∧ ShWrong k n m l L f x ∧ Bw w w' := by
  obtain ⟨x, hx⟩ := kn_some k n
  by_cases h0 : x = 0
  · subst h0
    obtain ⟨n1, n2, n3⟩ := kn_ok hx
    by_cases h1 : m = l
    · subst h1
      have ell : ((m : Int) != (m : Int)) = false := by simp
      by_cases h2 : Good m n f
      · by_cases h3 : (m : Int) < k
        · go_enter Try.func46, Try.ntmps46
          go_wp2_with (first
            | (go_at_call 25; refine (kn_any _ _ _).mono ?_; rintro e w' ⟨y, rfl, hy, hw'⟩; subst w'; obtain rfl := hy.unique hx)
            | (go_at_call 55; refine (num_any n A m ca f _ ha hl n3).mono ?_; rintro e w1 ⟨y, rfl, hy, hw1⟩; obtain rfl : y = 0 := (by rcases hy with ⟨e, _⟩ | ⟨_, e⟩; (exact e); exact absurd h2 e); clear hy))
          go_ret
          exact ⟨30, rfl, Or.inr (Or.inr (Or.inr (Or.inl ⟨hx, rfl, h2, h3, rfl⟩))), hw1⟩
        · go_enter Try.func46, Try.ntmps46
          go_wp2_with (first
            | (go_at_call 25; refine (kn_any _ _ _).mono ?_; rintro e w' ⟨y, rfl, hy, hw'⟩; subst w'; obtain rfl := hy.unique hx)
            | (go_at_call 55; refine (num_any n A m ca f _ ha hl n3).mono ?_; rintro e w1 ⟨y, rfl, hy, hw1⟩; obtain rfl : y = 0 := (by rcases hy with ⟨e, _⟩ | ⟨_, e⟩; (exact e); exact absurd h2 e); clear hy)
            | (go_at_call 32; refine (rows_any B m cb R L C Z hm _ (hb.keep hw1)).mono ?_; rintro e w' ⟨z, rfl, hz, hw'⟩; subst w'))
          go_ret
          exact ⟨z, rfl, Or.inr (Or.inr (Or.inr (Or.inr ⟨hx, rfl, h2, by omega, hz⟩))), hw1⟩
      · go_enter Try.func46, Try.ntmps46
        go_wp2_with (first
          | (go_at_call 25; refine (kn_any _ _ _).mono ?_; rintro e w' ⟨y, rfl, hy, hw'⟩; subst w'; obtain rfl := hy.unique hx)
          | (go_at_call 55; refine (num_any n A m ca f _ ha hl n3).mono ?_; rintro e w1 ⟨y, rfl, hy, hw1⟩; obtain rfl : y = 1 := (by rcases hy with ⟨_, e⟩ | ⟨e, _⟩; (exact absurd e h2); exact e); clear hy))
        go_ret
        exact ⟨1, rfl, Or.inr (Or.inr (Or.inl ⟨hx, rfl, h2, rfl⟩)), hw1⟩
    · have e2 : ((m : Int) != (l : Int)) = true := by simp; omega
      go_enter Try.func46, Try.ntmps46
      go_wp2_with (go_at_call 25; refine (kn_any _ _ _).mono ?_; rintro e w' ⟨y, rfl, hy, hw'⟩; subst w'; obtain rfl := hy.unique hx)
      go_ret
      exact ⟨6, rfl, Or.inr (Or.inl ⟨hx, h1, rfl⟩), Bw.refl _⟩
  · have e2 : (x != 0) = true := by simpa using h0
    go_enter Try.func46, Try.ntmps46
    go_wp2_with (go_at_call 25; refine (kn_any _ _ _).mono ?_; rintro e w' ⟨y, rfl, hy, hw'⟩; subst w'; obtain rfl := hy.unique hx)
    go_ret
    exact ⟨_, rfl, Or.inl ⟨hx, h0⟩, Bw.refl _⟩

end Go.Proofs.Ytbhbdhkifkmkbaa

/- A matrix copied, whose rows may be written over; writing over rows: what else is in memory stays. -/
namespace Go.Proofs.Ytbhbdhkifkmkbaa
open Go.RowKit

/-- rows whose blocks may be written over -/
def FreeRows (W : World) (n : Nat) (R : Nat → Option Addr) : Prop := ∀ r a, r < n → R r = some a → ∃ cur, W.heap[a.block]? = some (.cells cur 5 (0, 0))

theorem FreeRows.keep {W W' : World} {n : Nat} {R : Nat → Option Addr} (h : FreeRows W n R) (b : Bw W W') : FreeRows W' n R := fun r a hr ha => by
  obtain ⟨cur, hc⟩ := h r a hr ha
  exact ⟨cur, (b.block _ (Array.getElem?_eq_some_iff.1 hc).1).trans hc⟩

theorem own_free {W : World} {base n : Nat} {A : Option Addr} {c : Nat} {xs : List Value} (h : W.ownsRow base 5 1 (.slice A n c) n xs) : ∀ a, A = some a → ∃ cur, W.heap[a.block]? = some (.cells cur 5 (0, 0)) := by
  intro a ha
  rcases h.2 with ⟨hv, _⟩ | ⟨g, cap, cur, hv, hb, hg, _⟩
  · cases hv; cases ha
  · cases hv; cases ha; exact ⟨cur, hg⟩

theorem own_free' {W : World} {base n : Nat} {v : Value} {xs : List Value} (h : W.ownsRow base 5 1 v n xs) : ∀ A m c, v = .slice A m c → ∀ a, A = some a → ∃ cur, W.heap[a.block]? = some (.cells cur 5 (0, 0)) := by
  intro A m c e a ha
  rcases h.2 with ⟨hv, _⟩ | ⟨g, cap, cur, hv, hb, hg, _⟩
  · rw [hv] at e; cases e; cases ha
  · rw [hv] at e; cases e; cases ha; exact ⟨cur, hg⟩

theorem FreeRows.push {W W1 w2 : World} {base : Nat} {v : Value} {n : Nat} {R : Nat → Option Addr} {L C : Nat → Nat} {Z : Nat → Nat → Int} (f : FreeRows W n R) (h : OwnMat W base v n R L C Z) (b1 : Bw W W1) {A1 : Option Addr}
    (hf : ∀ a, A1 = some a → ∃ cur, W1.heap[a.block]? = some (.cells cur 5 (0, 0))) (hA : ∀ a, A1 = some a → W.heap.size ≤ a.block ∧ a.block < W1.heap.size) {o : Obj} (hgrow : (W1.alloc o).grownBy w2 v.ownBlock) : FreeRows w2 (n + 1) (upd R n A1) := by
  have ba : Bw W1 (W1.alloc o) := (Below.refl _ _).alloc (Nat.le_refl _) o
  have hlt := own_lt h.own
  intro r a hr ha
  by_cases e : r = n
  · subst e
    rw [upd_at] at ha
    obtain ⟨cur, hc⟩ := hf a ha
    have h1 := (ba.block _ (Array.getElem?_eq_some_iff.1 hc).1).trans hc
    exact ⟨cur, (hgrow.block _ (Array.getElem?_eq_some_iff.1 h1).1 (fun e => by have := hA a ha; have := hlt _ e.symm; omega)).trans h1⟩
  · rw [upd_ne _ _ e] at ha
    obtain ⟨cur, hc⟩ := f r a (by omega) ha
    have h0 := (b1.block _ (Array.getElem?_eq_some_iff.1 hc).1).trans hc
    have h1 := (ba.block _ (Array.getElem?_eq_some_iff.1 h0).1).trans h0
    exact ⟨cur, (hgrow.block _ (Array.getElem?_eq_some_iff.1 h1).1 (fun e => (h.apart r a (by omega) ha).2.2 e.symm)).trans h1⟩

set_option maxHeartbeats 1000000 in
theorem rcopied_free (A : Option Addr) (n cap : Nat) (R : Nat → Option Addr) (L C : Nat → Nat) (Z : Nat → Nat → Int) (w : World) (h : MatAt w A n R L C Z) (hC : ∀ r, r < n → R r = none → C r = 0)
    (hL : ∀ r, r < n → L r ≤ 140737488351232) (hn : n ≤ 5000000000) :
    Calls Try.prog 13 #[.slice A n cap] w fun e w' => ∃ v R' C', e = .returned v ∧ OwnMat w' w.heap.size v n R' L C' Z ∧ FreeRows w' n R' ∧ Bw w w' := by
  obtain ⟨i0, hi0, hz0, hz1, hz2⟩ := info_parts info_u8
  obtain ⟨j0, hj0, hy0, hy1, hy2⟩ := info_parts info_row
  go_enter Try.func13, Try.ntmps13
  go_wp2
  go_loopw [3, 4] (fun v i wr => ∃ (k : Nat) (R' : Nat → Option Addr) (L' C' : Nat → Nat) (Z' : Nat → Nat → Int), k ≤ n ∧ i = .int .i64 k ∧ OwnMat wr w.heap.size v k R' L' C' Z' ∧ Hid (∀ r, r < k → L' r = L r ∧ Z' r = Z r) ∧ FreeRows wr k R' ∧ Bw w wr) (fun _ i _ => n - (intOf i).toNat)
  case atStart => exact ⟨0, fun _ => none, fun _ => 0, fun _ => 0, Z, Nat.zero_le _, rfl, OwnMat.nil _ _ _ _ _ _, (fun r hr => by omega), (fun r a hr => by omega), Bw.refl _⟩
  case round =>
    obtain ⟨k, R', L', C', Z', hk, rfl, hmat, hsame, hfree, hw⟩ := hrel
    by_cases hlt : k < n
    · obtain ⟨b1, o1, rfl, hc1⟩ := (h.keep hw).at hlt
      have h1 := hc1 k hlt
      have hr := (h.2 k hlt).keep hw
      have hCk := hC k hlt
      have hLk := hL k hlt
      have hsz := hw.size
      have hmx : 0 + L k ≤ maxLen := by unfold maxLen; omega
      have hmx2 : k + 1 ≤ maxLen := by unfold maxLen; omega
      have hb1 : b1 < wr.heap.size := block_lt_of_cell h1
      have hZ := hr.2
      clear hc1
      go_wp2_with (first | (at_builtin; refine wpList_append_rowat _ (by rfl) (.tmp 12) (.tmp 16) _ (by rfl) wr.heap.size 5 i0 _ 1 Try.underlying37 hi0 hz0 hz1 hz2 rfl _ _ _ (by rfl) (own_empty wr wr.heap.size _ (Nat.le_refl _)) (R k) (L k) (C k) (Z k) (by rfl) (hr.keep ((Below.refl _ _).alloc (Nat.le_refl _) _)) hCk hmx (by omega) (by simp) ?_; intro v1 w1 hown1 hgrow1; simp only [Nat.zero_add, List.nil_append] at hown1; obtain ⟨A1, cap1, rfl, hl1, hc1, hrow1, hA1⟩ := row_of_own hZ hown1; have hfr1 := own_free hown1; have bw1 := bw_fresh hgrow1; have sz1 := bw1.size; clear hown1 hgrow1) | (at_builtin; refine wpList_append_lies _ (by rfl) (.tmp 11) (.tmp 18) _ (by rfl) w.heap.size 37 j0 _ 1 24 Try.underlying22 hj0 hy0 hy1 hy2 rfl (by omega) _ _ _ (by rfl) ((own_keep hmat.own bw1).alloc _) ⟨w1.heap.size, 0, none⟩ 1 1 [.slice A1 (L k) cap1] (by rfl) (by rfl) (World.news_of_block (cs := #[.slice A1 (L k) cap1]) (t := 37) (fr := (0, 0)) (heap_alloc_new w1 _)) (by simp [Value.oneCell']) (by omega) hmx2 (by omega) (by simp; omega) (w1.heap.size + 1) (by simp) ?_; intro gg c2 w2 hown2 hgrow2 hat hlt'))
      have hp := OwnMat.push hmat bw1 hsz hrow1 ⟨hl1, hc1⟩ hA1 hgrow2 hat hown2
      have hfp := hfree.push hmat bw1 hfr1 hA1 hgrow2
      go_roundw
      case rel => exact ⟨k + 1, _, _, _, _, by omega, by go_num, hp.1, same_upd hsame, hfp, hw.trans' hp.2⟩
      case measure => simp [intOf]; omega
    · have ek : n = k := by omega
      subst ek
      go_wp2
      go_ret
      exact ⟨_, _, _, rfl, hmat.congr hsame, hfree, hw⟩


/-- a row that may be written over -/
def RowW (w : World) (S : Nat → Prop) (A : Option Addr) (L : Nat) : Prop :=
  L = 0 ∨ ∃ b off, A = some ⟨b, off, none⟩ ∧ S b ∧ ∀ i, i < L → (∃ x, w.cell? ⟨b, off + i, none⟩ = some (.int .u8 x) ∧ 0 ≤ x ∧ x < 256) ∧ w.frozen? ⟨b, off + i, none⟩ = false

theorem RowW.put {w : World} {S : Nat → Prop} {A : Option Addr} {L : Nat} (h : RowW w S A L) {b i : Nat} {x : Int} (hx : 0 ≤ x ∧ x < 256) : RowW (w.setCell ⟨b, i, none⟩ (.int .u8 x)) S A L := by
  rcases h with h | ⟨b', off, hA, h1, hr⟩
  · exact Or.inl h
  · refine Or.inr ⟨b', off, hA, h1, fun j hj => ?_⟩
    obtain ⟨⟨y, hy, hb⟩, hf⟩ := hr j hj
    refine ⟨?_, by rw [World.frozen?_setCell]; exact hf⟩
    by_cases e : (⟨b, i, none⟩ : Addr) = ⟨b', off + j, none⟩
    · rw [e]
      exact ⟨x, World.cell?_setCell_same' _ _ _ (by rw [hy]; rfl), hx⟩
    · exact ⟨y, (cell_other' e).trans hy, hb⟩

/-- a matrix whose rows may be written over; its heads lie outside -/
structure MatW (w : World) (S : Nat → Prop) (A : Option Addr) (n : Nat) (R : Nat → Option Addr) (L C : Nat → Nat) : Prop where
  outer : n = 0 ∨ ∃ b off, A = some ⟨b, off, none⟩ ∧ ¬ S b ∧ ∀ r, r < n → w.cell? ⟨b, off + r, none⟩ = some (.slice (R r) (L r) (C r))
  row : ∀ r, r < n → RowW w S (R r) (L r)

theorem MatW.put {w : World} {S : Nat → Prop} {A : Option Addr} {n : Nat} {R : Nat → Option Addr} {L C : Nat → Nat} (h : MatW w S A n R L C) {b i : Nat} {x : Int} (hx : 0 ≤ x ∧ x < 256) (h1 : S b) : MatW (w.setCell ⟨b, i, none⟩ (.int .u8 x)) S A n R L C := by
  refine ⟨?_, fun r hr => (h.row r hr).put hx⟩
  rcases h.outer with h0 | ⟨b', off, hA, hb, hc⟩
  · exact Or.inl h0
  · refine Or.inr ⟨b', off, hA, hb, fun r hr => ?_⟩
    exact (cell_other' (fun e => by simp only [Addr.mk.injEq] at e; exact hb (e.1 ▸ h1))).trans (hc r hr)

theorem MatW.drew {w : World} {S : Nat → Prop} {A : Option Addr} {n : Nat} {R : Nat → Option Addr} {L C : Nat → Nat} (h : MatW w S A n R L C) : MatW w.drew S A n R L C := ⟨h.outer, h.row⟩

section
attribute [local go_sem ↓] Go.wp_at_zero Go.wp_at_succ
end

/-- the rows' blocks of a matrix -/
def RowsOf (n : Nat) (R : Nat → Option Addr) (b : Nat) : Prop := ∃ r a, r < n ∧ R r = some a ∧ a.block = b

theorem matw_of {W : World} {base : Nat} {v : Value} {n : Nat} {R : Nat → Option Addr} {L C : Nat → Nat} {Z : Nat → Nat → Int} (h : OwnMat W base v n R L C Z) (f : FreeRows W n R) :
    ∃ A cap, v = .slice A n cap ∧ MatAt W A n R L C Z ∧ MatW W (RowsOf n R) A n R L C := by
  obtain ⟨A, cap, rfl, hm⟩ := mat_of_own h.own h.row
  refine ⟨A, cap, rfl, hm, ?_, fun r hr => ?_⟩
  · rcases hm.1 with h0 | ⟨b, off, e, hc⟩
    · exact Or.inl h0
    · refine Or.inr ⟨b, off, e, ?_, hc⟩
      rintro ⟨r, a, hr, ha, rfl⟩
      refine (h.apart r a hr ha).2.2 ?_
      rw [e]
      rcases h.own.2 with ⟨hv, hn0⟩ | ⟨g, cap', cur, hv, _⟩
      · omega
      · rw [e] at hv; cases hv; rfl
  · rcases (h.row r hr).1 with h0 | ⟨b, off, e, hc⟩
    · exact Or.inl h0
    · refine Or.inr ⟨b, off, e, ⟨r, _, hr, e, rfl⟩, fun i hi => ?_⟩
      obtain ⟨cur, hcur⟩ := f r _ hr e
      exact ⟨⟨_, hc i hi, (h.row r hr).2 i⟩, frozen_of_row W b (off + i) cur _ hcur⟩

theorem MatAt.keepx {S : Nat → Prop} {w w' : World} {A : Option Addr} {n : Nat} {R : Nat → Option Addr} {L C : Nat → Nat} {Z : Nat → Nat → Int} {base : Nat} (h : NewMat w base A n R L C Z) (k : Bx S w w') (hS : ∀ b, S b → b < base) : NewMat w' base A n R L C Z := by
  refine ⟨⟨?_, fun r hr => ?_⟩, ?_, fun r hr => ?_⟩
  · rcases h.mat.1 with h0 | ⟨b, off, e, hc⟩
    · exact Or.inl h0
    · by_cases hn : n = 0
      · exact Or.inl hn
      · obtain ⟨g, o, e', hg, hl⟩ := h.head.resolve_left hn
        rw [e] at e'; cases e'
        refine Or.inr ⟨b, off, e, fun r hr => ?_⟩
        rw [World.cell?_of_block (w := w) (k.block b hl (fun e => by have := hS b e; omega))]
        exact hc r hr
  · refine (h.mat.2 r hr).keepx k (fun b o e hL hs => ?_)
    obtain ⟨g, o', e', hg, hl⟩ := (h.rows r hr).resolve_left (by omega)
    rw [e] at e'; cases e'
    have := hS b hs; omega
  · rcases h.head with h0 | ⟨g, o, e, h1, h2⟩
    · exact Or.inl h0
    · exact Or.inr ⟨g, o, e, h1, Nat.lt_of_lt_of_le h2 k.size⟩
  · rcases h.rows r hr with h0 | ⟨g, o, e, h1, h2⟩
    · exact Or.inl h0
    · exact Or.inr ⟨g, o, e, h1, Nat.lt_of_lt_of_le h2 k.size⟩

end Go.Proofs.Ytbhbdhkifkmkbaa

/- The document's own Mul for whatever matrices; results of one and the other held side by side. -/
namespace Go.Proofs.Ytbhbdhkifkmkbaa
open Go.RowKit

/-- a matrix in memory, as a value -/
def MatVal (w : World) (v : Value) (n : Nat) (L : Nat → Nat) (Z : Nat → Nat → Int) : Prop := ∃ A cap R C, v = .slice A n cap ∧ MatAt w A n R L C Z

theorem val_none (w : World) (L : Nat → Nat) (Z : Nat → Nat → Int) : MatVal w (.slice none 0 0) 0 L Z := ⟨_, _, fun _ => none, fun _ => 0, rfl, Or.inl rfl, fun r hr => by omega⟩
theorem OwnMat.val {w : World} {base n : Nat} {v : Value} {R : Nat → Option Addr} {L C : Nat → Nat} {Z : Nat → Nat → Int} (h : OwnMat w base v n R L C Z) : MatVal w v n L Z := by
  obtain ⟨A, cap, rfl, hm⟩ := mat_of_own h.own h.row
  exact ⟨A, cap, R, C, rfl, hm⟩

theorem mulsays_unique {n m k q k' q' : Nat} {L M : Nat → Nat} {x x' : Int} (h : MulSays n L m M x k q) (h' : MulSays n L m M x' k' q') : x = x' ∧ k = k' ∧ (k = 0 ∨ q = q') := by
  rcases h with ⟨a, b, c⟩ | ⟨a, b, c, d⟩ | ⟨a, b, c, d, e⟩ | ⟨a, b, c, d, e, f⟩ <;> rcases h' with ⟨a', b', c'⟩ | ⟨a', b', c', d'⟩ | ⟨a', b', c', d', e'⟩ | ⟨a', b', c', d', e', f'⟩
  · exact ⟨Wrong.unique a a', by omega, Or.inl c⟩
  · exact absurd (Wrong.unique a a') b
  · exact absurd (Wrong.unique a a') b
  · exact absurd (Wrong.unique a a') b
  · exact absurd (Wrong.unique a' a) b'
  · exact ⟨Wrong.unique b b', by omega, Or.inl d⟩
  · exact absurd (Wrong.unique b b') c
  · exact absurd (Wrong.unique b b') c
  · exact absurd (Wrong.unique a' a) b'
  · exact absurd (Wrong.unique b' b) c'
  · exact ⟨by omega, by omega, Or.inl e⟩
  · exact absurd c' c
  · exact absurd (Wrong.unique a' a) b'
  · exact absurd (Wrong.unique b' b) c'
  · exact absurd c c'
  · exact ⟨by omega, by omega, Or.inr (by omega)⟩

/-- what One says -/
def OneSays (n x : Int) (k : Nat) : Prop := (n < 0 ∧ x = 1 ∧ k = 0) ∨ (32 < n ∧ x = 2 ∧ k = 0) ∨ (0 ≤ n ∧ n ≤ 32 ∧ x = 0 ∧ (k : Int) = n)
theorem onesays_unique {n x x' : Int} {k k' : Nat} (h : OneSays n x k) (h' : OneSays n x' k') : x = x' ∧ k = k' := by
  unfold OneSays at h h'; omega

theorem bulk_le (L : Nat → Nat) : ∀ k, k ≤ bulk L k ∧ ∀ r, r < k → L r ≤ bulk L k
  | 0 => ⟨Nat.zero_le _, fun r hr => by omega⟩
  | k + 1 => by
    have h := bulk_le L k
    have e : bulk L (k + 1) = bulk L k + 1 + L k := rfl
    refine ⟨by omega, fun r hr => ?_⟩
    by_cases e' : r = k
    · subst e'; omega
    · have := h.2 r (by omega); omega

theorem OwnMat.keepx {S : Nat → Prop} {W W' : World} {base : Nat} {v : Value} {n : Nat} {R : Nat → Option Addr} {L C : Nat → Nat} {Z : Nat → Nat → Int} (h : OwnMat W base v n R L C Z) (k : Bx S W W') (hS : ∀ b, S b → b < base) : OwnMat W' base v n R L C Z := by
  refine ⟨?_, fun r hr => ?_, h.cap, fun r a hr ha => ?_⟩
  · obtain ⟨h1, h2⟩ := h.own
    refine ⟨h1, ?_⟩
    rcases h2 with h | ⟨b, cap, cur, hv, hb, hg, hr⟩
    · exact Or.inl h
    · exact Or.inr ⟨b, cap, cur, hv, hb, (k.block b (Array.getElem?_eq_some_iff.1 hg).1 (fun e => by have := hS b e; omega)).trans hg, hr⟩
  · refine (h.row r hr).keepx k (fun b o e hL hs => ?_)
    have h1 := (h.apart r _ hr e).1
    have h2 := hS b hs
    simp only at h1
    omega
  · have h1 := h.apart r a hr ha
    exact ⟨h1.1, Nat.lt_of_lt_of_le h1.2.1 k.size, h1.2.2⟩

theorem FreeRows.keepx {S : Nat → Prop} {W W' : World} {base : Nat} {v : Value} {n : Nat} {R : Nat → Option Addr} {L C : Nat → Nat} {Z : Nat → Nat → Int} (f : FreeRows W n R) (h : OwnMat W base v n R L C Z) (k : Bx S W W') (hS : ∀ b, S b → b < base) : FreeRows W' n R := by
  intro r a hr ha
  obtain ⟨cur, hc⟩ := f r a hr ha
  have h1 := (h.apart r a hr ha).1
  exact ⟨cur, (k.block _ (Array.getElem?_eq_some_iff.1 hc).1 (fun e => by have := hS _ e; omega)).trans hc⟩

theorem own_mat {W : World} {base : Nat} {A : Option Addr} {cap : Nat} {n : Nat} {R : Nat → Option Addr} {L C : Nat → Nat} {Z : Nat → Nat → Int} (h : OwnMat W base (.slice A n cap) n R L C Z) : MatAt W A n R L C Z := by
  obtain ⟨A', cap', e, hm⟩ := mat_of_own h.own h.row
  cases e; exact hm
theorem own_matw {W : World} {base : Nat} {A : Option Addr} {cap : Nat} {n : Nat} {R : Nat → Option Addr} {L C : Nat → Nat} {Z : Nat → Nat → Int} (h : OwnMat W base (.slice A n cap) n R L C Z) (f : FreeRows W n R) : MatW W (RowsOf n R) A n R L C := by
  obtain ⟨A', cap', e, _, hm⟩ := matw_of h f
  cases e; exact hm
theorem rows_in {W : World} {base : Nat} {v : Value} {n : Nat} {R : Nat → Option Addr} {L C : Nat → Nat} {Z : Nat → Nat → Int} (h : OwnMat W base v n R L C Z) : ∀ b, RowsOf n R b → base ≤ b ∧ b < W.heap.size := by
  rintro b ⟨r, a, hr, ha, rfl⟩
  have := h.apart r a hr ha
  exact ⟨this.1, this.2.1⟩

theorem mulsays_le {n m k q : Nat} {L M : Nat → Nat} {x : Int} (h : MulSays n L m M x k q) : k ≤ 32 := by
  rcases h with ⟨_, _, h⟩ | ⟨_, _, _, h⟩ | ⟨_, _, _, _, h⟩ | ⟨h1, _, _, _, h, _⟩
  · omega
  · omega
  · omega
  · have := (wrong_ok h1).1; omega
theorem onesays_le {n x : Int} {k : Nat} (h : OneSays n x k) : k ≤ 32 := by unfold OneSays at h; omega

/-- a part of a tuple, as a step of its own -/
theorem wpList_extract {P : Program} {w : World} {ops : Array Oper} {rest : List Oper} {o : Oper} {a : Act} {Q : Exit → Act → World → Prop} (hgd : o.guard = none) (x : Operand) (i : Nat) (ho : o.op = .extract x i) (vs : Array Value) (hx : a.eval x = .tuple vs) (v : Value) (hv : vs[i]? = some v)
    (h : wpList P ops Q rest (a.put o.dst v) w) : wpList P ops Q (o :: rest) a w := by
  refine wpList_plain hgd fun K hK => ?_
  have hrun : (Instr.extract (.tuple vs) i).run P w = .ok v w := by simp [Instr.extract, hv]
  unfold Oper.wp
  simp [execOp, ho, hx, hrun, Result.andThen]
  exact hK _ _ h

theorem same_self (n : Nat) (L : Nat → Nat) (Z : Nat → Nat → Int) : SameM n n L L Z Z := ⟨rfl, fun _ _ => ⟨rfl, fun _ _ => rfl⟩⟩

end Go.Proofs.Ytbhbdhkifkmkbaa

/- The program's powers, its rows picked out of a table, its Table, Encode and shard. -/
namespace Go.Proofs.Ytbhbdhkifkmkbaa
open Go.RowKit

attribute [local go_sem ↓] Go.wp_at_zero Go.wp_at_succ

/-- rows laid into an outer block, one by one: t of n -/
structure Rws (W : World) (g n t : Nat) (R : Nat → Option Addr) (L C : Nat → Nat) (Z : Nat → Nat → Int) : Prop where
  outer : ∃ cur, W.heap[g]? = some (.cells cur 37 (0, 0)) ∧ cur.size = n ∧ ∀ r, r < t → cur[r]? = some (.slice (R r) (L r) (C r))
  row : ∀ r, r < t → RowAt W (R r) (L r) (Z r)
  apart : ∀ r a, r < t → R r = some a → L r = 0 ∨ a.block ≠ g

theorem Rws.lt {W : World} {g n t : Nat} {R : Nat → Option Addr} {L C : Nat → Nat} {Z : Nat → Nat → Int} (h : Rws W g n t R L C Z) : g < W.heap.size := by
  obtain ⟨cur, h1, _⟩ := h.outer
  exact (Array.getElem?_eq_some_iff.1 h1).1
theorem Rws.keep {W W' : World} {g n t : Nat} {R : Nat → Option Addr} {L C : Nat → Nat} {Z : Nat → Nat → Int} (h : Rws W g n t R L C Z) (b : Bw W W') : Rws W' g n t R L C Z := by
  have hl := h.lt
  obtain ⟨cur, h1, h2⟩ := h.outer
  exact ⟨⟨cur, by rw [b.block g hl, h1], h2⟩, fun r hr => (h.row r hr).keep b, h.apart⟩
theorem Rws.re {W : World} {g n t : Nat} {R R' : Nat → Option Addr} {L C : Nat → Nat} {Z : Nat → Nat → Int} (h : Rws W g n t R L C Z) (e : ∀ r, r < t → R' r = R r) : Rws W g n t R' L C Z := by
  obtain ⟨cur, h1, h2, h3⟩ := h.outer
  exact ⟨⟨cur, h1, h2, fun r hr => by rw [h3 r hr, e r hr]⟩, fun r hr => by rw [e r hr]; exact h.row r hr, fun r a hr ha => h.apart r a hr (by rw [← e r hr]; exact ha)⟩
theorem Rws.next {W : World} {g n t : Nat} {R : Nat → Option Addr} {L C : Nat → Nat} {Z : Nat → Nat → Int} (h : Rws W g n t R L C Z) (ht : t < n) (hr : RowAt W (R t) (L t) (Z t)) (ha : ∀ a, R t = some a → L t = 0 ∨ a.block ≠ g) :
    Rws (W.setCell ⟨g, t, none⟩ (.slice (R t) (L t) (C t))) g n (t + 1) R L C Z := by
  have apart : ∀ r a, r < t + 1 → R r = some a → L r = 0 ∨ a.block ≠ g := fun r a h1 h2 => by
    by_cases e : r = t
    · subst e; exact ha a h2
    · exact h.apart r a (by omega) h2
  obtain ⟨cur, h1, h2, h3⟩ := h.outer
  refine ⟨⟨_, heap_setCell_same W g t cur _ _ h1, by simpa using h2, fun r hr' => ?_⟩, fun r hr' => ?_, apart⟩
  · by_cases e : r = t
    · subst e; rw [Array.getElem?_setIfInBounds_self_of_lt (by omega)]
    · rw [Array.getElem?_setIfInBounds_ne (Ne.symm e), h3 r (by omega)]
  · have hrow : RowAt W (R r) (L r) (Z r) := by
      by_cases e : r = t
      · subst e; exact hr
      · exact h.row r (by omega)
    by_cases h0 : L r = 0
    · exact ⟨Or.inl h0, hrow.2⟩
    · exact RowAt.set hrow (fun a h4 => (apart r a hr' h4).resolve_left h0)
theorem Rws.cell {W : World} {g n t : Nat} {R : Nat → Option Addr} {L C : Nat → Nat} {Z : Nat → Nat → Int} (h : Rws W g n t R L C Z) {r : Nat} (hr : r < n) : ∃ v, W.cell? ⟨g, r, none⟩ = some v ∧ W.frozen? ⟨g, r, none⟩ = false := by
  obtain ⟨cur, h1, h2, h3⟩ := h.outer
  exact ⟨cur[r], (cell_of_row W g r cur _ _ h1).trans (Array.getElem?_eq_getElem (by omega)), frozen_of_row W g r cur _ h1⟩
theorem Rws.mat {W : World} {g n : Nat} {R : Nat → Option Addr} {L C : Nat → Nat} {Z : Nat → Nat → Int} (h : Rws W g n n R L C Z) : MatAt W (some ⟨g, 0, none⟩) n R L C Z := by
  obtain ⟨cur, h1, h2, h3⟩ := h.outer
  exact ⟨Or.inr ⟨g, 0, rfl, fun r hr => by rw [Nat.zero_add, cell_of_row W g r cur _ _ h1]; exact h3 r hr⟩, h.row⟩

/-- a row of powers under way -/
def wayP (x : Int) (t c : Nat) : Int := if c < t then pwrI x c else 0
theorem wayP_bd (x : Int) (t c : Nat) : 0 ≤ wayP x t c ∧ wayP x t c < 256 := by
  unfold wayP; split
  · exact pwrI_bd _ _
  · exact ⟨Int.le_refl 0, show (0 : Int) < 256 by decide⟩

set_option maxRecDepth 100000 in
set_option maxHeartbeats 1000000 in
theorem powers_any (k n : Nat) (hk : k ≤ 32) (hn : n ≤ 32) (w : World) :
    Calls Try.prog 26 #[.int .i64 (k : Int), .int .i64 (n : Int)] w fun e w' => ∃ g R, e = .returned (.slice (some ⟨g, 0, none⟩) n n) ∧ MatAt w' (some ⟨g, 0, none⟩) n R (fun _ => k) (fun _ => k) (fun r c => wayP (r : Int) k c) ∧ Bw w w' := by
  obtain ⟨M0, hs0, hM0, hmk⟩ := made_bytes k (by omega)
  have HM : Hid (∀ i, i < k → M0[i]? = some (.int .u8 0)) := hM0
  obtain ⟨H0, hH, hmh⟩ := made_rows n (by omega)
  have hst : Rws (w.alloc (.cells H0 37)) w.heap.size n 0 (fun _ => none) (fun _ => k) (fun _ => k) (fun r c => wayP (r : Int) k c) := ⟨⟨H0, heap_alloc_new _ _, hH, fun r hr => by omega⟩, fun r hr => by omega, fun r a hr => by omega⟩
  have hbw0 : Bw w (w.alloc (.cells H0 37)) := (Below.refl _ _).alloc (Nat.le_refl _) _
  clear hM0
  go_enter Try.func26, Try.ntmps26
  go_wp2
  go_loopw [14] (fun i wr => ∃ (t : Nat) (R : Nat → Option Addr), t ≤ n ∧ i = .int .i64 t ∧ Rws wr w.heap.size n t R (fun _ => k) (fun _ => k) (fun r c => wayP (r : Int) k c) ∧ Bw w wr) (fun i _ => n - (intOf i).toNat)
  case atStart => exact ⟨0, _, Nat.zero_le _, rfl, hst, hbw0⟩
  case round =>
    rename World => wo
    obtain ⟨t, R, ht, rfl, hr, hw⟩ := hrel
    by_cases hlt : t < n
    · have hsz := hr.lt
      have hblk : BlockIs (wo.alloc (.cells M0 5)) wo.heap.size k (wayP (t : Int) 0) := ⟨M0, heap_alloc_new _ _, hs0, fun c hc => by rw [HM.out c hc]; unfold wayP; rw [if_neg (by omega)]⟩
      have hbw1 : Bw wo (wo.alloc (.cells M0 5)) := (Below.refl _ _).alloc (Nat.le_refl _) _
      have wr8 : IntKind.u8.wrap (t : Int) = (t : Int) := by simp [IntKind.wrap, IntKind.bits, IntKind.signed]; omega
      go_wp2
      go_loopw [8, 21] (fun p i wr => ∃ s : Nat, s ≤ k ∧ i = .int .i64 s ∧ p = .int .u8 (pwrI (t : Int) s) ∧ BlockIs wr wo.heap.size k (wayP (t : Int) s) ∧ Bw wo wr) (fun _ i _ => k - (intOf i).toNat)
      case atStart => exact ⟨0, Nat.zero_le _, rfl, rfl, hblk, hbw1⟩
      case round =>
        obtain ⟨s, hs, rfl, rfl, hb, hws⟩ := hrel
        by_cases hsk : s < k
        · obtain ⟨c1, c2⟩ := hb.cell hsk
          have p1 := pwrI_bd (t : Int) s
          have s0 : (0 : Int) ≤ (s : Int) := Int.natCast_nonneg _
          have s1 : (s : Int) < (k : Int) := by omega
          go_wp2_with (go_at_call 38; refine (mul_any _ _ (by omega) (by omega) (by omega) (by omega) _).mono ?_; rintro e w' ⟨rfl, hw'⟩; subst w')
          go_roundw
          case rel =>
            refine ⟨s + 1, by omega, by go_num, rfl, BlockIs.set hb hsk (by unfold wayP; rw [if_pos (by omega)]) (fun c _ hne => ?_), Bw.put hws (Nat.le_refl _) s _⟩
            unfold wayP
            by_cases e : c < s
            · rw [if_pos e, if_pos (by omega)]
            · rw [if_neg e, if_neg (by omega)]
          case measure => simp [intOf]; omega
        · have ek : k = s := by omega
          subst ek
          have hr2 := (hr.keep hws).re (R' := upd R t (some ⟨wo.heap.size, 0, none⟩)) (fun r h1 => by rw [upd_ne _ _ (by omega)])
          obtain ⟨v1, c1, c2⟩ := hr2.cell hlt
          have t0 : (0 : Int) ≤ (t : Int) := Int.natCast_nonneg _
          have t1 : (t : Int) < (n : Int) := by omega
          have hnx := hr2.next hlt (by rw [upd_at]; exact hb.row (fun i => wayP_bd _ _ _)) (fun a ha => by rw [upd_at] at ha; cases ha; right; simp only; omega)
          rw [upd_at] at hnx
          have hbn : Bw w wr := hw.trans hws
          go_wp2
          go_roundw
          case rel => exact ⟨t + 1, _, by omega, by go_num, hnx, Bw.put hbn (Nat.le_refl _) t _⟩
          case measure => simp [intOf]; omega
    · have ek : n = t := by omega
      subst ek
      go_wp2
      go_ret
      exact ⟨_, rfl, ⟨R, hr.mat⟩, hw⟩

set_option maxRecDepth 100000 in
theorem pick_any (A B : Option Addr) (n l ca cb : Nat) (R : Nat → Option Addr) (L C : Nat → Nat) (Z : Nat → Nat → Int) (f : Nat → Int) (w : World) (ha : MatAt w A n R L C Z) (hb : IntsAt w B l f) (hl : l ≤ 1048576) (hf : Hid (∀ i, i < l → 0 ≤ f i ∧ f i < (n : Int))) :
    Calls Try.prog 48 #[.slice A n ca, .slice B l cb] w fun e w' => ∃ g, e = .returned (.slice (some ⟨g, 0, none⟩) l l) ∧ MatAt w' (some ⟨g, 0, none⟩) l (fun i => R (f i).toNat) (fun i => L (f i).toNat) (fun i => C (f i).toNat) (fun i => Z (f i).toNat) ∧ Bw w w' := by
  obtain ⟨H0, hH, hmh⟩ := made_rows l (by omega)
  have hst : Rws (w.alloc (.cells H0 37)) w.heap.size l 0 (fun i => R (f i).toNat) (fun i => L (f i).toNat) (fun i => C (f i).toNat) (fun i => Z (f i).toNat) := ⟨⟨H0, heap_alloc_new _ _, hH, fun r hr => by omega⟩, fun r hr => by omega, fun r a hr => by omega⟩
  have hbw0 : Bw w (w.alloc (.cells H0 37)) := (Below.refl _ _).alloc (Nat.le_refl _) _
  go_enter Try.func48, Try.ntmps48
  go_wp2
  go_loopw [13] (fun i wr => ∃ t : Nat, t ≤ l ∧ i = .int .i64 t ∧ Rws wr w.heap.size l t (fun i => R (f i).toNat) (fun i => L (f i).toNat) (fun i => C (f i).toNat) (fun i => Z (f i).toNat) ∧ Bw w wr) (fun i _ => l - (intOf i).toNat)
  case atStart => exact ⟨0, Nat.zero_le _, rfl, hst, hbw0⟩
  case round =>
    obtain ⟨t, ht, rfl, hr, hw⟩ := hrel
    by_cases hlt : t < l
    · obtain ⟨y, hy⟩ : ∃ y : Nat, f t = (y : Int) := ⟨(f t).toNat, by have := hf.out t hlt; omega⟩
      have hyn : y < n := by have := hf.out t hlt; omega
      have hyt : (f t).toNat = y := by omega
      have hrow := ha.2 y hyn
      have hap : ∀ a, R y = some a → L y = 0 ∨ a.block ≠ w.heap.size := fun a h3 => by
        by_cases h0 : L y = 0
        · exact Or.inl h0
        · right
          obtain ⟨b3, o3, e3, hc3⟩ := hrow.at (k := 0) (by omega)
          rw [h3] at e3; cases e3
          have := block_lt_of_cell (hc3 0 (by omega))
          simp only at this ⊢
          omega
      have hnx := hr.next hlt (by rw [hyt]; exact hrow.keep hw) (by rw [hyt]; exact hap)
      rw [hyt] at hnx
      obtain ⟨v1, c1, c2⟩ := hr.cell hlt
      obtain ⟨b1, o1, rfl, hc1⟩ := (ha.keep hw).at hyn
      have h1 := hc1 y hyn
      obtain ⟨b2, o2, rfl, hc2⟩ := (hb.keep hw).resolve_left (by omega)
      have h2 := hc2 t hlt
      rw [hy] at h2
      have t0 : (0 : Int) ≤ (t : Int) := Int.natCast_nonneg _
      have t1 : (t : Int) < (l : Int) := by omega
      have y0 : (0 : Int) ≤ (y : Int) := Int.natCast_nonneg _
      have y1 : (y : Int) < (n : Int) := by omega
      have hnx' : Hid _ := hnx
      clear hc1 hc2 hap hrow hy hyt hnx
      go_wp2
      go_roundw
      case rel => exact ⟨t + 1, by omega, by go_num, hnx'.out, Bw.put hw (Nat.le_refl _) t _⟩
      case measure => simp [intOf]; omega
    · have ek : l = t := by omega
      subst ek
      go_wp2
      go_ret
      exact ⟨_, rfl, hr.mat, hw⟩

end Go.Proofs.Ytbhbdhkifkmkbaa

/- What the document's own Inverse tells where there is nothing to take back, or where the matrix is wrong. -/
namespace Go.Proofs.Ytbhbdhkifkmkbaa
open Go.RowKit

end Go.Proofs.Ytbhbdhkifkmkbaa

/- The document's own Inverse, Rank and Turned for whatever matrices; each tells one thing alone. -/
namespace Go.Proofs.Ytbhbdhkifkmkbaa
open Go.RowKit

theorem ivsays_unique {n k k' : Nat} {L : Nat → Nat} {Z Y Y' : Nat → Nat → Int} {x x' : Int} (h : IvSays n L Z Y x k) (h' : IvSays n L Z Y' x' k') : x = x' ∧ k = k' ∧ (k = 0 ∨ (k = n ∧ ∀ i j, i < n → j < n → fm Y i j = fm Y' i j)) := by
  rcases h with ⟨a, b, c⟩ | ⟨a, b, c, d⟩ | ⟨a, b, ⟨c, d, e⟩ | ⟨c, d, e⟩⟩ <;> rcases h' with ⟨a', b', c'⟩ | ⟨a', b', c', d'⟩ | ⟨a', b', ⟨c', d', e'⟩ | ⟨c', d', e'⟩⟩
  · exact ⟨Wrong.unique a a', by omega, Or.inl c⟩
  · exact absurd (Wrong.unique a a') b
  · exact absurd (Wrong.unique a a') b
  · exact absurd (Wrong.unique a a') b
  · exact absurd (Wrong.unique a' a) b'
  · exact ⟨by omega, by omega, Or.inl d⟩
  · exact absurd b' b
  · exact absurd b' b
  · exact absurd (Wrong.unique a' a) b'
  · exact absurd b b'
  · exact ⟨by omega, by omega, Or.inl d⟩
  · exact absurd ⟨_, e'⟩ e
  · exact absurd (Wrong.unique a' a) b'
  · exact absurd b b'
  · exact absurd ⟨_, e⟩ e'
  · exact ⟨by omega, by omega, Or.inr ⟨d, La.inv_unique _ _ _ _ e e'⟩⟩

theorem ranksays_unique {n r r' : Nat} {L : Nat → Nat} {Z : Nat → Nat → Int} {x x' : Int} (h : RankSays n L Z x r) (h' : RankSays n L Z x' r') : x = x' ∧ r = r' := by
  rcases h with ⟨a, b, c⟩ | ⟨a, b, c⟩ <;> rcases h' with ⟨a', b', c'⟩ | ⟨a', b', c'⟩
  · exact ⟨Wrong.unique a a', by omega⟩
  · exact absurd (Wrong.unique a a') b
  · exact absurd (Wrong.unique a' a) b'
  · exact ⟨by omega, La.rank_unique c c'⟩

theorem turnsays_unique {n k k' : Nat} {L : Nat → Nat} {x x' : Int} (h : TurnSays n L x k) (h' : TurnSays n L x' k') : x = x' ∧ k = k' := by
  rcases h with ⟨a, b, c⟩ | ⟨a, b, c, d⟩ | ⟨a, b, c, d⟩ <;> rcases h' with ⟨a', b', c'⟩ | ⟨a', b', c', d'⟩ | ⟨a', b', c', d'⟩
  · exact ⟨Wrong.unique a a', by omega⟩
  · exact absurd (Wrong.unique a a') b
  · exact absurd (Wrong.unique a a') b
  · exact absurd (Wrong.unique a' a) b'
  · exact ⟨by omega, by omega⟩
  · omega
  · exact absurd (Wrong.unique a' a) b'
  · omega
  · exact ⟨by omega, by omega⟩

/-- what was new stays, whatever else was made -/
theorem NewMat.keep {w w' : World} {base : Nat} {A : Option Addr} {n : Nat} {R : Nat → Option Addr} {L C : Nat → Nat} {Z : Nat → Nat → Int} (h : NewMat w base A n R L C Z) (k : Bw w w') : NewMat w' base A n R L C Z :=
  ⟨h.mat.keep k, h.head.imp id (fun ⟨g, o, e, h1, h2⟩ => ⟨g, o, e, h1, Nat.lt_of_lt_of_le h2 k.size⟩), fun r hr => (h.rows r hr).imp id (fun ⟨g, o, e, h1, h2⟩ => ⟨g, o, e, h1, Nat.lt_of_lt_of_le h2 k.size⟩)⟩

theorem ivsays_le {n k : Nat} {L : Nat → Nat} {Z Y : Nat → Nat → Int} {x : Int} (h : IvSays n L Z Y x k) : k ≤ 32 := by
  rcases h with ⟨a, b, c⟩ | ⟨a, b, c, d⟩ | ⟨a, b, ⟨c, d, e⟩ | ⟨c, d, e⟩⟩
  · omega
  · omega
  · omega
  · have := (wrong_ok a).1; omega
theorem turnsays_le {n k : Nat} {L : Nat → Nat} {x : Int} (h : TurnSays n L x k) : k ≤ 32 := by
  rcases h with ⟨a, b, c⟩ | ⟨a, b, c, d⟩ | ⟨a, b, c, d⟩ <;> omega

end Go.Proofs.Ytbhbdhkifkmkbaa

/- Two rows of the call's own, written over. -/
namespace Go.Proofs.Ytbhbdhkifkmkbaa
open Go.RowKit

/-- the blocks of two rows -/
def TwoOf (A B : Option Addr) (b : Nat) : Prop := (∃ a, A = some a ∧ a.block = b) ∨ ∃ a, B = some a ∧ a.block = b

/-- a row's block may be written over -/
def FreeAt (W : World) (A : Option Addr) : Prop := ∀ a, A = some a → ∃ cur, W.heap[a.block]? = some (.cells cur 5 (0, 0))
theorem FreeAt.keep {W W' : World} {A : Option Addr} (h : FreeAt W A) (b : Bw W W') : FreeAt W' A := fun a ha => by
  obtain ⟨cur, hc⟩ := h a ha
  exact ⟨cur, (b.block _ (Array.getElem?_eq_some_iff.1 hc).1).trans hc⟩

theorem roww_of {W : World} {S : Nat → Prop} {A : Option Addr} {L : Nat} {f : Nat → Int} (h : RowAt W A L f) (fr : FreeAt W A) (hS : ∀ a, A = some a → S a.block) : RowW W S A L := by
  rcases h.1 with h0 | ⟨b, off, e, hc⟩
  · exact Or.inl h0
  · refine Or.inr ⟨b, off, e, hS _ e, fun i hi => ?_⟩
    obtain ⟨cur, hcur⟩ := fr _ e
    exact ⟨⟨_, hc i hi, h.2 i⟩, frozen_of_row W b (off + i) cur _ hcur⟩

theorem matw_two {w : World} {A B : Option Addr} {la ca lb cb : Nat} {f g : Nat → Int} (ha : RowAt w A la f) (hb : RowAt w B lb g) (fa : FreeAt w A) (fb : FreeAt w B) :
    MatW (w.alloc (.cells #[.slice A la ca, .slice B lb cb] 37)) (TwoOf A B) (some ⟨w.heap.size, 0, none⟩) 2 (fun r => if r = 0 then A else B) (fun r => if r = 0 then la else lb) (fun r => if r = 0 then ca else cb) := by
  have hm := mat_two w A B la ca lb cb f g ha hb
  have hbw : Bw w (w.alloc (.cells #[.slice A la ca, .slice B lb cb] 37)) := (Below.refl _ _).alloc (Nat.le_refl _) _
  refine ⟨?_, fun r hr => ?_⟩
  · rcases hm.1 with h0 | ⟨b, off, e, hc⟩
    · omega
    · refine Or.inr ⟨b, off, e, ?_, hc⟩
      cases e
      rintro (⟨a, ha', e⟩ | ⟨a, ha', e⟩)
      · obtain ⟨cur, hc'⟩ := fa a ha'
        have := (Array.getElem?_eq_some_iff.1 hc').1
        omega
      · obtain ⟨cur, hc'⟩ := fb a ha'
        have := (Array.getElem?_eq_some_iff.1 hc').1
        omega
  · rcases (show r = 0 ∨ r = 1 by omega) with rfl | rfl
    · exact roww_of (ha.keep hbw) (fa.keep hbw) (fun a e => Or.inl ⟨a, e, rfl⟩)
    · exact roww_of (hb.keep hbw) (fb.keep hbw) (fun a e => Or.inr ⟨a, e, rfl⟩)

theorem two_in {A B : Option Addr} {lo hi : Nat} (hA : ∀ a, A = some a → lo ≤ a.block ∧ a.block < hi) (hB : ∀ a, B = some a → lo ≤ a.block ∧ a.block < hi) : ∀ b, TwoOf A B b → lo ≤ b ∧ b < hi := by
  rintro b (⟨a, e, rfl⟩ | ⟨a, e, rfl⟩)
  · exact hA a e
  · exact hB a e

theorem NewRow.keep {w w' : World} {base n : Nat} {A : Option Addr} {f : Nat → Int} (h : NewRow w base A n f) (k : Bw w w') : NewRow w' base A n f :=
  ⟨h.row.keep k, h.new.imp id (fun ⟨g, o, e, h1, h2⟩ => ⟨g, o, e, h1, Nat.lt_of_lt_of_le h2 k.size⟩)⟩
theorem NewRow.keepx {S : Nat → Prop} {w w' : World} {base n : Nat} {A : Option Addr} {f : Nat → Int} (h : NewRow w base A n f) (k : Bx S w w') (hS : ∀ b, S b → b < base) : RowAt w' A n f :=
  h.row.keepx k (fun b o e hL hs => by
    obtain ⟨g, o', e', h1, h2⟩ := h.new.resolve_left (by omega)
    rw [e] at e'; cases e'
    have := hS b hs; omega)

end Go.Proofs.Ytbhbdhkifkmkbaa
