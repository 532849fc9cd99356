/- Layer 16: the document's own New, Take, Hold, Give. -/
import Derived.Test.YtfdfkhmaeeonpaaRu
namespace Go.Proofs.Ytfdfkhmaeeonpaa
open Go.RowKit Go.Deep
set_option linter.unusedVariables false
set_option linter.unusedSimpArgs false

theorem info_b16 : (Try.prog.info? 4).map (fun i => (i.zero, i.size, i.bytes)) = some (some (.bool false), 1, 1) := by kernel_rfl
theorem made_b16 (n : Nat) : ∀ j, j < n → (madeCells #[Value.bool false] n)[j]? = some (.bool false) := fun j hj => by
  unfold madeCells
  simp [hj, Nat.mod_one]
/-- what New answers -/
def RNewEnds (n : Int) (w : World) (e : Ending) (w' : World) : Prop :=
  (n < 0 ∧ e = .returned (.tuple #[.pointer none, .int .i64 1]) ∧ Bw w w') ∨ (65536 < n ∧ e = .returned (.tuple #[.pointer none, .int .i64 2]) ∧ Bw w w') ∨
  ∃ N g b : Nat, n = (N : Int) ∧ N ≤ 65536 ∧ e = .returned (.tuple #[.pointer (some ⟨g, 0, none⟩), .int .i64 0]) ∧ RfAt w' g b N (fun _ => false) ∧ w.heap.size ≤ g ∧ w.heap.size ≤ b ∧ Bw w w'
set_option maxRecDepth 100000 in
set_option maxHeartbeats 1000000 in
theorem rnew16_any (n : Int) (w : World) : Calls Try.prog 9 #[.int .i64 n] w fun e w' => RNewEnds n w e w' := by
  by_cases h1 : n < 0
  · have d1 : decide (n < 0) = true := by rw [decide_eq_true_eq]; exact h1
    have HE : Hid (RNewEnds n w (.returned (.tuple #[.pointer none, .int .i64 1])) w) := .inl ⟨h1, rfl, Bw.refl w⟩
    clear h1
    go_enter Try.func9, Try.ntmps9
    go_wp2
    go_ret2
    exact HE.out
  · have d1 : decide (n < 0) = false := by rw [decide_eq_false_iff_not]; exact h1
    by_cases h2 : 65536 < n
    · have d2 : decide (65536 < n) = true := by rw [decide_eq_true_eq]; exact h2
      have HE : Hid (RNewEnds n w (.returned (.tuple #[.pointer none, .int .i64 2])) w) := .inr (.inl ⟨h2, rfl, Bw.refl w⟩)
      clear h1 h2
      go_enter Try.func9, Try.ntmps9
      go_wp2
      go_ret2
      exact HE.out
    · obtain ⟨N, rfl⟩ : ∃ N : Nat, n = (N : Int) := ⟨n.toNat, by omega⟩
      have hN : N ≤ 65536 := by omega
      have d2 : decide (65536 < (N : Int)) = false := by rw [decide_eq_false_iff_not]; omega
      obtain ⟨i0, hi0, hz0, hz1, hz2⟩ := info_parts info_b16
      obtain ⟨W, hmk, ho, hW⟩ := run_makeSlice_full (P := Try.prog) w w.heap.size 51 4 i0 _ 1 Try.underlying51 hi0 hz0 hz1 .i64 .i64 N (by omega) (by rw [hz2]; omega) (by unfold maxLen; omega) (Nat.le_refl _)
      have kW : Bw w W := ⟨hW.os, hW.tape, hW.output, hW.size, fun k hk => hW.block k hk (by simp)⟩
      have hrow : ∃ cur, W.heap[w.heap.size]? = some (.cells cur 4 (0, 0)) ∧ cur.size = N ∧ ∀ j, j < N → cur[j]? = some (.bool false) := by
        rcases ho.2 with ⟨e, _⟩ | ⟨g, cap, cur, e, h0, h1', h2', h3, h4, h5⟩
        · cases e
        · cases e
          refine ⟨cur, h1', by omega, fun j hj => ?_⟩
          rw [← Array.getElem?_toList]
          have h6 : (cur.toList.take (N * 1))[j]? = cur.toList[j]? := by rw [List.getElem?_take, if_pos (by omega)]
          rw [← h6, h5, Array.getElem?_toList]
          have := made_b16 (N * 1) j (by omega)
          exact this
      have HF : Hid (RNewEnds (N : Int) w (.returned (.tuple #[.pointer (some ⟨W.heap.size, 0, none⟩), .int .i64 0])) (W.alloc (.cells #[.slice (some ⟨w.heap.size, 0, none⟩) N N] 53))) := by
        refine .inr (.inr ⟨N, W.heap.size, w.heap.size, rfl, hN, rfl, ⟨(Go.MapKept.heap_alloc W _).1, ?_, hN⟩, kW.size, Nat.le_refl _, bw_alloc16 kW _⟩)
        obtain ⟨cur, h1', h2'⟩ := hrow
        exact ⟨cur, ((bw_alloc16 (Bw.refl W) _).block _ (Array.getElem?_eq_some_iff.1 h1').1).trans h1', h2'⟩
      clear h1 h2 hN ho hW kW hrow
      go_enter Try.func9, Try.ntmps9
      go_wp2
      go_ret2
      exact HF.out
/-- cells of a run are free -/
def FreeAt (f : Nat → Bool) (n y K : Nat) : Prop := y + K ≤ n ∧ ∀ j, y ≤ j → j < y + K → f j = false
theorem rall_free {w : World} {g b n : Nat} {f : Nat → Bool} (hs : RfAt w g b n f) (x k : Nat) (hx : x + k ≤ n) (t : Bool) (h : ∀ j, x ≤ j → j < x + k → f j = t) :
    Calls Try.prog 26 #[.pointer (some ⟨g, 0, none⟩), .agg #[.int .i64 (x : Int), .int .i64 (k : Int)], .bool t] w fun e w' => e = .returned (.bool true) ∧ Bw w w' := by
  refine (rall16_any hs x k hx t).mono ?_
  rintro e w' ⟨r, rfl, h1, h2⟩
  obtain rfl := h1.2 h
  exact ⟨rfl, h2⟩
theorem rall_not {w : World} {g b n : Nat} {f : Nat → Bool} (hs : RfAt w g b n f) (x k : Nat) (hx : x + k ≤ n) (t : Bool) (h : ¬ ∀ j, x ≤ j → j < x + k → f j = t) :
    Calls Try.prog 26 #[.pointer (some ⟨g, 0, none⟩), .agg #[.int .i64 (x : Int), .int .i64 (k : Int)], .bool t] w fun e w' => e = .returned (.bool false) ∧ Bw w w' := by
  refine (rall16_any hs x k hx t).mono ?_
  rintro e w' ⟨r, rfl, h1, h2⟩
  obtain rfl : r = false := by
    cases r
    · rfl
    · exact absurd (h1.1 rfl) h
  exact ⟨rfl, h2⟩
/-- what Take answers -/
def RTakeEnds (g n b : Nat) (f : Nat → Bool) (k : Int) (w : World) (e : Ending) (w' : World) : Prop :=
  (k < 1 ∧ e = .returned (.tuple #[.int .i64 0, .int .i64 1]) ∧ Bw w w') ∨ (∃ K : Nat, k = (K : Int) ∧ 1 ≤ K ∧ (∀ y, ¬ FreeAt f n y K) ∧ e = .returned (.tuple #[.int .i64 0, .int .i64 3]) ∧ Bw w w') ∨
  ∃ (K x : Nat), k = (K : Int) ∧ 1 ≤ K ∧ FreeAt f n x K ∧ (∀ y, y < x → ¬ FreeAt f n y K) ∧ e = .returned (.tuple #[.int .i64 (x : Int), .int .i64 0]) ∧ RfAt w' g b n (setF f x K true) ∧ Bx (· = b) w w'
set_option maxRecDepth 100000 in
set_option maxHeartbeats 2000000 in
theorem rtake16_any {w : World} {g b n : Nat} {f : Nat → Bool} (hs : RfAt w g b n f) (k : Int) (hk63 : k < 9223372036854775808) :
    Calls Try.prog 11 #[.pointer (some ⟨g, 0, none⟩), .int .i64 k] w fun e w' => RTakeEnds g n b f k w e w' := by
  by_cases h1 : k < 1
  · have d1 : decide (k < 1) = true := by rw [decide_eq_true_eq]; exact h1
    have HE : Hid (RTakeEnds g n b f k w (.returned (.tuple #[.int .i64 0, .int .i64 1])) w) := .inl ⟨h1, rfl, Bw.refl w⟩
    clear h1 hs
    go_enter Try.func11, Try.ntmps11
    go_wp2
    go_ret2
    exact HE.out
  · obtain ⟨K, rfl⟩ : ∃ K : Nat, k = (K : Int) := ⟨k.toNat, by omega⟩
    have hK : 1 ≤ K := by omega
    have d1 : decide ((K : Int) < 1) = false := by rw [decide_eq_false_iff_not]; omega
    have hn1 := hs.n1
    have HS : Hid (∀ u, Bw w u → RfAt u g b n f) := fun u ku => hs.keep ku
    have c0 := hs.c0
    by_cases hn : K ≤ n
    · have p1 : (K : Int) ≤ (n : Int) := by omega
      have p2 : (0 : Int) ≤ (n : Int) - (K : Int) := by omega
      have p3 : (n : Int) - (K : Int) ≤ 65536 := by omega
      clear h1 hs
      go_enter Try.func11, Try.ntmps11
      go_wp2
      clear c0
      go_loopw [6] (fun s6 wr => ∃ i : Nat, s6 = .int .i64 (i : Int) ∧ i + K ≤ n + 1 ∧ Hid (∀ y, y < i → ¬ FreeAt f n y K) ∧ Hid (Bw w wr)) (fun s6 _ => n + 1 - (intOf s6).toNat)
      case atStart => exact ⟨0, rfl, by omega, fun y hy => by omega, Bw.refl _⟩
      case round =>
        obtain ⟨i, rfl, hi, hno, hbw⟩ := hrel
        have c0 := (HS.out _ hbw.out).c0
        have i0 : (0 : Int) ≤ (i : Int) := Int.natCast_nonneg _
        by_cases hlt : i + K ≤ n
        · have i1 : (i : Int) ≤ (n : Int) - (K : Int) := by omega
          obtain ⟨W, hW⟩ : ∃ W, W = wr.alloc (.cells #[.int .i64 (i : Int), .int .i64 (K : Int)] 32) := ⟨_, rfl⟩
          obtain ⟨z, hz⟩ : ∃ z, Hid (wr.heap.size = z) := ⟨_, rfl⟩
          have kW : Hid (Bw wr W) := by refine (?_ : Bw wr W); rw [hW]; exact bw_alloc16 (Bw.refl _) _
          have HC : Hid (∀ u, Bw W u → u.cell? ⟨z, 0, none⟩ = some (.int .i64 (i : Int)) ∧ u.cell? ⟨z, 1, none⟩ = some (.int .i64 (K : Int))) := fun u ku => by
            have h := cells2_new wr (.int .i64 (i : Int)) (.int .i64 (K : Int)) 32
            rw [← hW, hz.out] at h
            exact ⟨keep_cell16 h.1 ku, keep_cell16 h.2 ku⟩
          obtain ⟨z0, z1⟩ := HC.out W (Bw.refl _)
          by_cases hf : FreeAt f n i K
          · have HA : Hid (Calls Try.prog 26 #[.pointer (some ⟨g, 0, none⟩), .agg #[.int .i64 (i : Int), .int .i64 (K : Int)], .bool false] W fun e w' => e = .returned (.bool true) ∧ Bw W w') := rall_free (HS.out _ (hbw.out.trans kW.out)) i K hlt false hf.2
            have HP : Hid (∀ u, Bw W u → Calls Try.prog 27 #[.pointer (some ⟨g, 0, none⟩), .agg #[.int .i64 (i : Int), .int .i64 (K : Int)], .bool true] u fun e w' => e = .returned (.tuple #[]) ∧ Hid (RfAt w' g b n (setF f i K true) ∧ Bx (· = b) w w')) := fun u ku => by
              refine (rput16_any (HS.out _ (hbw.out.trans (kW.out.trans ku))) i K hlt true).mono ?_
              rintro e w' ⟨rfl, h1, h2⟩
              exact ⟨rfl, h1, (Bx.of_bw (hbw.out.trans (kW.out.trans ku))).trans h2⟩
            have HE : Hid (∀ u, RfAt u g b n (setF f i K true) → Bx (· = b) w u → RTakeEnds g n b f (K : Int) w (.returned (.tuple #[.int .i64 (i : Int), .int .i64 0])) u) := fun u h1 h2 => .inr (.inr ⟨K, i, rfl, hK, hf, hno.out, rfl, h1, h2⟩)
            clear hf hlt hi hK hn
            go_upto_region 9 with fail
            rw [← hW, hz.out]
            clear hW
            go_wp2_with (first
              | (go_at_call 26; refine HA.out.mono ?_; rintro e w2 ⟨rfl, h2⟩; obtain ⟨y0, y1⟩ := HC.out _ h2)
              | (go_at_call 27; refine (HP.out _ h2).mono ?_; rintro e w3 ⟨rfl, h3⟩))
            go_ret2
            exact HE.out _ h3.out.1 h3.out.2
          · have HA : Hid (Calls Try.prog 26 #[.pointer (some ⟨g, 0, none⟩), .agg #[.int .i64 (i : Int), .int .i64 (K : Int)], .bool false] W fun e w' => e = .returned (.bool false) ∧ Bw W w') := rall_not (HS.out _ (hbw.out.trans kW.out)) i K hlt false (fun h => hf ⟨hlt, h⟩)
            have hno2 : Hid (∀ y, y < i + 1 → ¬ FreeAt f n y K) := fun y hy => by
              rcases Nat.lt_or_ge y i with h | h
              · exact hno.out y h
              · obtain rfl : y = i := by omega
                exact hf
            clear hf hno
            go_upto_region 9 with fail
            rw [← hW, hz.out]
            clear hW
            go_wp2_with (go_at_call 26; refine HA.out.mono ?_; rintro e w2 ⟨rfl, h2⟩)
            go_roundw
            case rel => exact ⟨i + 1, by go_num, by omega, hno2, hbw.out.trans (kW.out.trans h2)⟩
            case measure => simp [intOf]; omega
        · have i1 : decide ((i : Int) ≤ (n : Int) - (K : Int)) = false := by rw [decide_eq_false_iff_not]; omega
          have p4 : decide (K ≤ n) = true := by rw [decide_eq_true_eq]; exact hn
          clear p1
          have HE : Hid (RTakeEnds g n b f (K : Int) w (.returned (.tuple #[.int .i64 0, .int .i64 3])) wr) := .inr (.inl ⟨K, rfl, hK, fun y hy => by
            rcases Nat.lt_or_ge y i with h | h
            · exact hno.out y h hy
            · have := hy.1; omega, rfl, hbw.out⟩)
          clear hno hlt hi hn
          go_wp2
          go_ret2
          exact HE.out
    · have p1 : decide (K ≤ n) = false := by rw [decide_eq_false_iff_not]; exact hn
      have HE : Hid (RTakeEnds g n b f (K : Int) w (.returned (.tuple #[.int .i64 0, .int .i64 3])) w) := .inr (.inl ⟨K, rfl, hK, fun y hy => by have := hy.1; omega, rfl, Bw.refl _⟩)
      clear h1 hs hn
      go_enter Try.func11, Try.ntmps11
      go_wp2
      go_loopw [6] (fun s6 wr => s6 = .int .i64 0 ∧ wr = w) (fun _ _ => 0)
      case atStart => exact ⟨rfl, rfl⟩
      case round =>
        obtain ⟨rfl, rfl⟩ := hrel
        go_wp2
        go_ret2
        exact HE.out
end Go.Proofs.Ytfdfkhmaeeonpaa
