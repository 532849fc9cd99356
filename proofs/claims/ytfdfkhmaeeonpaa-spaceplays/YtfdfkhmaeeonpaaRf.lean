/- Layer 16: sort.Search, search; a space in memory, may, beside. -/
import Derived.Test.YtfdfkhmaeeonpaaRe
namespace Go.Proofs.Ytfdfkhmaeeonpaa
open Go.RowKit Go.Deep
set_option linter.unusedVariables false
set_option linter.unusedSimpArgs false

set_option maxRecDepth 100000 in
theorem contains_any (s : Sp.Rn) (hs : s.1 + s.2 ≤ 1099511627776) (A : Option Addr) (cap : Nat) (L : List Sp.Rn) (hn : L.length ≤ 1099511627776) (w : World) (ha : RsAt w A L) (hL : ∀ r ∈ L, r.1 + r.2 ≤ 1099511627776) :
    Calls Try.prog 32 #[.slice A L.length cap, .func (.func 33) #[rv s] #[]] w fun e w' => e = .returned (.bool (L.any fun r => Sp.meetB s r)) ∧ Bw w w' := by
  have HI := index_meets s hs A cap L hn w ha hL
  rcases Sp.idx_cases L (fun r : Sp.Rn => Sp.meetB s r) with ⟨h1, h2⟩ | ⟨i, r, h1, h2, h3, -⟩
  · have e : (L.any fun r => Sp.meetB s r) = false := by rw [List.any_eq_false]; intro r hr; rw [h2 r hr]; decide
    rw [e]
    rw [h1] at HI
    clear h1 h2 e
    go_enter Try.func32, Try.ntmps32
    go_wp2_with (go_at_call 23; refine HI.mono ?_; rintro e w1 ⟨rfl, hb1⟩)
    go_ret
    exact ⟨rfl, hb1⟩
  · have e : (L.any fun r => Sp.meetB s r) = true := by rw [List.any_eq_true]; exact ⟨r, List.mem_of_getElem? h2, h3⟩
    rw [e]
    rw [h1] at HI
    have i0 : (0 : Int) ≤ (i : Int) := Int.natCast_nonneg _
    clear h1 h2 e h3
    go_enter Try.func32, Try.ntmps32
    go_wp2_with (go_at_call 23; refine HI.mono ?_; rintro e w1 ⟨rfl, hb1⟩)
    go_ret
    exact ⟨rfl, hb1⟩
/-- the first place at which something is so, where all behind it are so -/
structure Sp.Low (n : Nat) (Z : Nat → Bool) (k : Nat) : Prop where
  le : k ≤ n
  low : ∀ j, j < k → Z j = false
  high : ∀ j, k ≤ j → j < n → Z j = true
def LowEnds (n : Nat) (Z : Nat → Bool) (w : World) (e : Ending) (w' : World) : Prop := ∃ k, e = .returned (.int .i64 ((k : Nat) : Int)) ∧ Sp.Low n Z k ∧ Bw w w'
set_option maxRecDepth 100000 in
set_option maxHeartbeats 1000000 in
theorem ssearch_any (n : Nat) (Z : Nat → Bool) (p q : Value) (hn : n ≤ 1099511627776) (hm : ∀ i j, i ≤ j → j < n → Z i = true → Z j = true) (w : World)
    (hf : ∀ i, i < n → ∀ u, Bw w u → Calls Try.prog 50 #[.int .i64 (i : Int), p, q] u fun e w' => e = .returned (.bool (Z i)) ∧ Bw u w') :
    Calls Try.prog 49 #[.int .i64 (n : Int), .func (.func 50) #[] #[p, q]] w fun e w' => LowEnds n Z w e w' := by
  have HF : Hid _ := hf
  have HM : Hid _ := hm
  clear hf hm
  go_enter Try.func49, Try.ntmps49
  go_wp2
  go_loopw [5, 6] (fun s5 s6 wr => ∃ lo hi : Nat, s5 = .int .i64 (lo : Int) ∧ s6 = .int .i64 (hi : Int) ∧ lo ≤ hi ∧ hi ≤ n ∧ Hid (∀ j, j < lo → Z j = false) ∧ Hid (∀ j, hi ≤ j → j < n → Z j = true) ∧ Bw w wr) (fun s5 s6 _ => (intOf s6).toNat - (intOf s5).toNat)
  case atStart => exact ⟨0, n, rfl, rfl, Nat.zero_le _, Nat.le_refl _, (fun j hj => absurd hj (Nat.not_lt_zero _)), (fun j h1 h2 => absurd h1 (by omega)), Bw.refl _⟩
  case round =>
    obtain ⟨lo, hi, rfl, rfl, hlh, hin, hlow, hhigh, hbw⟩ := hrel
    by_cases hlt : lo < hi
    · have HF' : Hid (Calls Try.prog 50 #[.int .i64 (((lo : Int) + (hi : Int)) / 2), p, q] wr fun e w' => e = .returned (.bool (Z ((lo + hi) / 2))) ∧ Bw wr w') := by
        have := HF.out ((lo + hi) / 2) (by omega) wr hbw
        rwa [show (((lo + hi) / 2 : Nat) : Int) = ((lo : Int) + (hi : Int)) / 2 by omega] at this
      obtain ⟨d, hd⟩ : ∃ d, Hid (Z ((lo + hi) / 2) = d) := ⟨_, rfl⟩
      rw [hd.out] at HF'
      cases d with
      | true =>
        have HHi : Hid (∀ j, (lo + hi) / 2 ≤ j → j < n → Z j = true) := fun j h1 h2 => HM.out _ j h1 h2 hd.out
        go_wp2_with (go_at_call 50; refine HF'.out.mono ?_; rintro e w1 ⟨rfl, hw1⟩)
        go_roundw
        case rel => exact ⟨lo, (lo + hi) / 2, rfl, by rw [show ((lo : Int) + (hi : Int)) / 2 = (((lo + hi) / 2 : Nat) : Int) by omega], by omega, by omega, hlow.out, HHi.out, hbw.trans hw1⟩
        case measure => simp [intOf]; omega
      | false =>
        have HLo : Hid (∀ j, j < (lo + hi) / 2 + 1 → Z j = false) := fun j hj => by
          cases hz : Z j with
          | false => rfl
          | true => have := HM.out j ((lo + hi) / 2) (by omega) (by omega) hz; rw [hd.out] at this; cases this
        go_wp2_with (go_at_call 50; refine HF'.out.mono ?_; rintro e w1 ⟨rfl, hw1⟩)
        go_roundw
        case rel => exact ⟨(lo + hi) / 2 + 1, hi, by rw [show ((lo : Int) + (hi : Int)) / 2 + 1 = (((lo + hi) / 2 + 1 : Nat) : Int) by omega], rfl, by omega, hin, HLo.out, hhigh.out, hbw.trans hw1⟩
        case measure => simp [intOf]; omega
    · obtain rfl : hi = lo := by omega
      go_wp2
      go_ret
      exact ⟨hi, rfl, ⟨hin, hlow.out, hhigh.out⟩, hbw⟩
/-- the closure that search hands on -/
structure Ask_reached (W : World) (p q : Nat) (s : Sp.Rn) (b c : Nat) (L : List Sp.Rn) (i : Nat) (r : Sp.Rn) : Prop where
  f : W.cell? ⟨p, 0, none⟩ = some (.func (.func 40) #[rv s] #[])
  l : W.cell? ⟨q, 0, none⟩ = some (.slice (some ⟨b, 0, none⟩) L.length c)
  a : W.cell? ⟨b, i * 2, none⟩ = some (.int .i64 (r.1 : Int))
  z : W.cell? ⟨b, i * 2 + 1, none⟩ = some (.int .i64 (r.2 : Int))
theorem Ask_reached.keep {W W' : World} {p q b c i : Nat} {s r : Sp.Rn} {L : List Sp.Rn} (h : Ask_reached W p q s b c L i r) (k : Bw W W') : Ask_reached W' p q s b c L i r := ⟨keep_cell16 h.f k, keep_cell16 h.l k, keep_cell16 h.a k, keep_cell16 h.z k⟩
set_option maxRecDepth 100000 in
set_option maxHeartbeats 1000000 in
theorem ask_reached {W : World} {p q b c i : Nat} {s r : Sp.Rn} {L : List Sp.Rn} (h : Ask_reached W p q s b c L i r) (hi : i < L.length) (hn : L.length ≤ 1099511627776) (hr : r.1 + r.2 ≤ 1099511627776) :
    Calls Try.prog 50 #[.int .i64 (i : Int), .pointer (some ⟨p, 0, none⟩), .pointer (some ⟨q, 0, none⟩)] W fun e w' => e = .returned (.bool (decide (s.1 ≤ r.1 + r.2))) ∧ Bw W w' := by
  have HF : Hid (∀ u, Calls Try.prog 40 #[rv s, rv r] u fun e w' => e = .returned (.bool (decide (s.1 ≤ r.1 + r.2))) ∧ Bw u w') := fun u => reached_any s r hr u
  obtain ⟨d, hd⟩ : ∃ d, Hid (decide (s.1 ≤ r.1 + r.2) = d) := ⟨_, rfl⟩
  rw [hd.out] at HF ⊢
  obtain ⟨n, hnn⟩ : ∃ n, Hid (L.length = n) := ⟨_, rfl⟩
  have hl : ∀ u, Ask_reached u p q s b c L i r → u.cell? ⟨q, 0, none⟩ = some (.slice (some ⟨b, 0, none⟩) n c) := fun u hu => by rw [hu.l, hnn.out]
  have HL : Hid _ := hl
  clear hl
  rw [hnn.out] at hi hn
  have i0 : (0 : Int) ≤ (i : Int) := Int.natCast_nonneg _
  have i1 : (i : Int) < (n : Int) := by omega
  go_enter Try.func50, Try.ntmps50
  go_upto_region 1 with fail
  refine wp_region_held_drew (S := fun v => Ask_reached v p q s b c L i r) (by kernel_rfl) (h.keep (Bw.refl _).drew) (fun hHeld => ?_)
  refine wpAnyH_take (i := 0) (v := ?_) rfl (by kernel_rfl) (by kernel_rfl) (by kernel_rfl) (fun _ _ _ h => h) (Or.inl ⟨by rfl, ?_⟩) (by assumption) ?_
  rotate_left
  · intro w hSw; (try dsimp only at hSw); have c0 := hSw.f; have c1 := HL.out _ hSw; have c2 := hSw.a; have c3 := hSw.z; go_simp; all_goals (with_reducible rfl)
  try simp only [Act.put, List.setIfInBounds_toArray, List.set_cons_zero, List.set_cons_succ, List.getElem_toArray, List.getElem_cons_succ, List.getElem_cons_zero]
  refine wpAnyH_take (i := 1) (v := ?_) rfl (by kernel_rfl) (by kernel_rfl) (by kernel_rfl) (fun _ _ _ h => h) (Or.inl ⟨by rfl, ?_⟩) (by assumption) ?_
  rotate_left
  · intro w hSw; (try dsimp only at hSw); have c0 := hSw.f; have c1 := HL.out _ hSw; have c2 := hSw.a; have c3 := hSw.z; go_simp; all_goals (with_reducible rfl)
  try simp only [Act.put, List.setIfInBounds_toArray, List.set_cons_zero, List.set_cons_succ, List.getElem_toArray, List.getElem_cons_succ, List.getElem_cons_zero]
  refine wpAnyH_take (i := 2) (v := ?_) rfl (by kernel_rfl) (by kernel_rfl) (by kernel_rfl) (fun _ _ _ h => h) (Or.inl ⟨by rfl, ?_⟩) (by assumption) ?_
  rotate_left
  · intro w hSw; (try dsimp only at hSw); have c0 := hSw.f; have c1 := HL.out _ hSw; have c2 := hSw.a; have c3 := hSw.z; go_simp; all_goals (with_reducible rfl)
  try simp only [Act.put, List.setIfInBounds_toArray, List.set_cons_zero, List.set_cons_succ, List.getElem_toArray, List.getElem_cons_succ, List.getElem_cons_zero]
  refine wpAnyH_take (i := 3) (v := ?_) rfl (by kernel_rfl) (by kernel_rfl) (by kernel_rfl) (fun _ _ _ h => h) (Or.inl ⟨by rfl, ?_⟩) (by assumption) ?_
  rotate_left
  · intro w hSw; (try dsimp only at hSw); have c0 := hSw.f; have c1 := HL.out _ hSw; have c2 := hSw.a; have c3 := hSw.z; go_simp; all_goals (with_reducible rfl)
  try simp only [Act.put, List.setIfInBounds_toArray, List.set_cons_zero, List.set_cons_succ, List.getElem_toArray, List.getElem_cons_succ, List.getElem_cons_zero]
  refine wpAnyH_take (i := 4) (v := ?_) rfl (by kernel_rfl) (by kernel_rfl) (by kernel_rfl) (fun _ _ _ h => h) (Or.inl ⟨by rfl, ?_⟩) (by assumption) ?_
  rotate_left
  · intro w hSw; (try dsimp only at hSw); have c0 := hSw.f; have c1 := HL.out _ hSw; have c2 := hSw.a; have c3 := hSw.z; go_simp; all_goals (with_reducible rfl)
  try simp only [Act.put, List.setIfInBounds_toArray, List.set_cons_zero, List.set_cons_succ, List.getElem_toArray, List.getElem_cons_succ, List.getElem_cons_zero]
  refine wpAnyH_ready (rs := [5]) (by kernel_rfl) (by simp) ?_
  refine AllReadyH.cons rfl (fun K hK => ?_) AllReadyH.nil
  go_simp
  refine (HF.out _).mono ?_
  rintro e w1 ⟨rfl, hb1⟩
  refine hK.out _ _ ((h.keep (Bw.refl _).drew).keep hb1) (fun hHeld => ?_)
  clear hK K
  try simp only [Act.put, List.setIfInBounds_toArray, List.set_cons_zero, List.set_cons_succ, List.getElem_toArray, List.getElem_cons_succ, List.getElem_cons_zero]
  refine wpAnyH_take (i := 6) (v := ?_) rfl (by kernel_rfl) (by kernel_rfl) (by kernel_rfl) (fun _ _ _ h => h) (Or.inl ⟨by rfl, ?_⟩) (by assumption) ?_
  rotate_left
  · intro w hSw; (try dsimp only at hSw); go_simp; all_goals (with_reducible rfl)
  try simp only [Act.put, List.setIfInBounds_toArray, List.set_cons_zero, List.set_cons_succ, List.getElem_toArray, List.getElem_cons_succ, List.getElem_cons_zero]
  refine wpAnyH_done (by kernel_rfl) ?_ _
  go_wp2
  go_ret
  exact ⟨rfl, (Bw.refl _).drew.trans hb1⟩
/-- the closure that search hands on -/
structure Ask_ahead (W : World) (p q : Nat) (s : Sp.Rn) (b c : Nat) (L : List Sp.Rn) (i : Nat) (r : Sp.Rn) : Prop where
  f : W.cell? ⟨p, 0, none⟩ = some (.func (.func 41) #[rv s] #[])
  l : W.cell? ⟨q, 0, none⟩ = some (.slice (some ⟨b, 0, none⟩) L.length c)
  a : W.cell? ⟨b, i * 2, none⟩ = some (.int .i64 (r.1 : Int))
  z : W.cell? ⟨b, i * 2 + 1, none⟩ = some (.int .i64 (r.2 : Int))
theorem Ask_ahead.keep {W W' : World} {p q b c i : Nat} {s r : Sp.Rn} {L : List Sp.Rn} (h : Ask_ahead W p q s b c L i r) (k : Bw W W') : Ask_ahead W' p q s b c L i r := ⟨keep_cell16 h.f k, keep_cell16 h.l k, keep_cell16 h.a k, keep_cell16 h.z k⟩
set_option maxRecDepth 100000 in
set_option maxHeartbeats 1000000 in
theorem ask_ahead {W : World} {p q b c i : Nat} {s r : Sp.Rn} {L : List Sp.Rn} (h : Ask_ahead W p q s b c L i r) (hi : i < L.length) (hn : L.length ≤ 1099511627776) (hs : s.1 + s.2 ≤ 1099511627776) :
    Calls Try.prog 50 #[.int .i64 (i : Int), .pointer (some ⟨p, 0, none⟩), .pointer (some ⟨q, 0, none⟩)] W fun e w' => e = .returned (.bool (decide (s.1 + s.2 < r.1))) ∧ Bw W w' := by
  have HF : Hid (∀ u, Calls Try.prog 41 #[rv s, rv r] u fun e w' => e = .returned (.bool (decide (s.1 + s.2 < r.1))) ∧ Bw u w') := fun u => ahead_any s r hs u
  obtain ⟨d, hd⟩ : ∃ d, Hid (decide (s.1 + s.2 < r.1) = d) := ⟨_, rfl⟩
  rw [hd.out] at HF ⊢
  obtain ⟨n, hnn⟩ : ∃ n, Hid (L.length = n) := ⟨_, rfl⟩
  have hl : ∀ u, Ask_ahead u p q s b c L i r → u.cell? ⟨q, 0, none⟩ = some (.slice (some ⟨b, 0, none⟩) n c) := fun u hu => by rw [hu.l, hnn.out]
  have HL : Hid _ := hl
  clear hl
  rw [hnn.out] at hi hn
  have i0 : (0 : Int) ≤ (i : Int) := Int.natCast_nonneg _
  have i1 : (i : Int) < (n : Int) := by omega
  go_enter Try.func50, Try.ntmps50
  go_upto_region 1 with fail
  refine wp_region_held_drew (S := fun v => Ask_ahead v p q s b c L i r) (by kernel_rfl) (h.keep (Bw.refl _).drew) (fun hHeld => ?_)
  refine wpAnyH_take (i := 0) (v := ?_) rfl (by kernel_rfl) (by kernel_rfl) (by kernel_rfl) (fun _ _ _ h => h) (Or.inl ⟨by rfl, ?_⟩) (by assumption) ?_
  rotate_left
  · intro w hSw; (try dsimp only at hSw); have c0 := hSw.f; have c1 := HL.out _ hSw; have c2 := hSw.a; have c3 := hSw.z; go_simp; all_goals (with_reducible rfl)
  try simp only [Act.put, List.setIfInBounds_toArray, List.set_cons_zero, List.set_cons_succ, List.getElem_toArray, List.getElem_cons_succ, List.getElem_cons_zero]
  refine wpAnyH_take (i := 1) (v := ?_) rfl (by kernel_rfl) (by kernel_rfl) (by kernel_rfl) (fun _ _ _ h => h) (Or.inl ⟨by rfl, ?_⟩) (by assumption) ?_
  rotate_left
  · intro w hSw; (try dsimp only at hSw); have c0 := hSw.f; have c1 := HL.out _ hSw; have c2 := hSw.a; have c3 := hSw.z; go_simp; all_goals (with_reducible rfl)
  try simp only [Act.put, List.setIfInBounds_toArray, List.set_cons_zero, List.set_cons_succ, List.getElem_toArray, List.getElem_cons_succ, List.getElem_cons_zero]
  refine wpAnyH_take (i := 2) (v := ?_) rfl (by kernel_rfl) (by kernel_rfl) (by kernel_rfl) (fun _ _ _ h => h) (Or.inl ⟨by rfl, ?_⟩) (by assumption) ?_
  rotate_left
  · intro w hSw; (try dsimp only at hSw); have c0 := hSw.f; have c1 := HL.out _ hSw; have c2 := hSw.a; have c3 := hSw.z; go_simp; all_goals (with_reducible rfl)
  try simp only [Act.put, List.setIfInBounds_toArray, List.set_cons_zero, List.set_cons_succ, List.getElem_toArray, List.getElem_cons_succ, List.getElem_cons_zero]
  refine wpAnyH_take (i := 3) (v := ?_) rfl (by kernel_rfl) (by kernel_rfl) (by kernel_rfl) (fun _ _ _ h => h) (Or.inl ⟨by rfl, ?_⟩) (by assumption) ?_
  rotate_left
  · intro w hSw; (try dsimp only at hSw); have c0 := hSw.f; have c1 := HL.out _ hSw; have c2 := hSw.a; have c3 := hSw.z; go_simp; all_goals (with_reducible rfl)
  try simp only [Act.put, List.setIfInBounds_toArray, List.set_cons_zero, List.set_cons_succ, List.getElem_toArray, List.getElem_cons_succ, List.getElem_cons_zero]
  refine wpAnyH_take (i := 4) (v := ?_) rfl (by kernel_rfl) (by kernel_rfl) (by kernel_rfl) (fun _ _ _ h => h) (Or.inl ⟨by rfl, ?_⟩) (by assumption) ?_
  rotate_left
  · intro w hSw; (try dsimp only at hSw); have c0 := hSw.f; have c1 := HL.out _ hSw; have c2 := hSw.a; have c3 := hSw.z; go_simp; all_goals (with_reducible rfl)
  try simp only [Act.put, List.setIfInBounds_toArray, List.set_cons_zero, List.set_cons_succ, List.getElem_toArray, List.getElem_cons_succ, List.getElem_cons_zero]
  refine wpAnyH_ready (rs := [5]) (by kernel_rfl) (by simp) ?_
  refine AllReadyH.cons rfl (fun K hK => ?_) AllReadyH.nil
  go_simp
  refine (HF.out _).mono ?_
  rintro e w1 ⟨rfl, hb1⟩
  refine hK.out _ _ ((h.keep (Bw.refl _).drew).keep hb1) (fun hHeld => ?_)
  clear hK K
  try simp only [Act.put, List.setIfInBounds_toArray, List.set_cons_zero, List.set_cons_succ, List.getElem_toArray, List.getElem_cons_succ, List.getElem_cons_zero]
  refine wpAnyH_take (i := 6) (v := ?_) rfl (by kernel_rfl) (by kernel_rfl) (by kernel_rfl) (fun _ _ _ h => h) (Or.inl ⟨by rfl, ?_⟩) (by assumption) ?_
  rotate_left
  · intro w hSw; (try dsimp only at hSw); go_simp; all_goals (with_reducible rfl)
  try simp only [Act.put, List.setIfInBounds_toArray, List.set_cons_zero, List.set_cons_succ, List.getElem_toArray, List.getElem_cons_succ, List.getElem_cons_zero]
  refine wpAnyH_done (by kernel_rfl) ?_ _
  go_wp2
  go_ret
  exact ⟨rfl, (Bw.refl _).drew.trans hb1⟩

theorem cell_new16 (w : World) (x : Value) (t : Nat) : (w.alloc (.cells #[x] t)).cell? ⟨w.heap.size, 0, none⟩ = some x := cell_of_row _ _ 0 _ _ _ (Go.MapKept.heap_alloc w (.cells #[x] t)).1

set_option maxRecDepth 100000 in
set_option maxHeartbeats 1000000 in
theorem search_reached (s : Sp.Rn) (t b c : Nat) (L : List Sp.Rn) (hn : L.length ≤ 1099511627776) (hL : ∀ r ∈ L, r.1 + r.2 ≤ 1099511627776) (hp : L.Pairwise (fun r s => r.1 + r.2 < s.1)) (w : World) (hb : RB w t b c L) :
    Calls Try.prog 39 #[.slice (some ⟨b, 0, none⟩) L.length c, .func (.func 40) #[rv s] #[]] w fun e w' => LowEnds L.length (fun i => match L[i]? with | some r => decide (s.1 ≤ r.1 + r.2) | none => true) w e w' := by
  have H1 : Hid (∀ u, Bw w u → Calls Try.prog 49 #[.int .i64 (L.length : Int), .func (.func 50) #[] #[.pointer (some ⟨w.heap.size + 1, 0, none⟩), .pointer (some ⟨w.heap.size, 0, none⟩)]] ((w.alloc (.cells #[.slice (some ⟨b, 0, none⟩) L.length c] 46)).alloc (.cells #[.func (.func 40) #[rv s] #[]] 55)) fun e w' => LowEnds L.length (fun i => match L[i]? with | some r => decide (s.1 ≤ r.1 + r.2) | none => true) ((w.alloc (.cells #[.slice (some ⟨b, 0, none⟩) L.length c] 46)).alloc (.cells #[.func (.func 40) #[rv s] #[]] 55)) e w') := fun _ _ => by
    refine ssearch_any L.length _ _ _ hn ?_ _ ?_
    · intro i j hij hj hi
      rcases Nat.lt_or_ge i j with g | g
      · have e1 : L[i]? = some (L[i]'(by omega)) := List.getElem?_eq_getElem (by omega)
        have e2 : L[j]? = some (L[j]'hj) := List.getElem?_eq_getElem hj
        have h3 := List.pairwise_iff_getElem.1 hp i j (by omega) hj g
        rw [e1] at hi
        rw [e2]
        dsimp only at hi ⊢
        rw [decide_eq_true_eq] at hi ⊢
        omega
      · obtain rfl : i = j := by omega
        exact hi
    · intro i hi u hu
      have e1 : L[i]? = some (L[i]'hi) := List.getElem?_eq_getElem hi
      rw [e1]
      dsimp only
      have n1 := cell_new16 w (.slice (some ⟨b, 0, none⟩) L.length c) 46
      have n2 := cell_new16 (w.alloc (.cells #[.slice (some ⟨b, 0, none⟩) L.length c] 46)) (.func (.func 40) #[rv s] #[]) 55
      rw [size_alloc] at n2
      have k1 : Bw w (w.alloc (.cells #[.slice (some ⟨b, 0, none⟩) L.length c] 46)) := bw_alloc16 (Bw.refl _) _
      have k2 := bw_alloc16 (Bw.refl (w.alloc (.cells #[.slice (some ⟨b, 0, none⟩) L.length c] 46))) (.cells #[.func (.func 40) #[rv s] #[]] 55)
      obtain ⟨a1, a2⟩ := ((hb.keep k1).keep k2).cells e1
      exact ask_reached (Ask_reached.keep ⟨n2, keep_cell16 n1 k2, a1, a2⟩ hu) hi hn (hL _ (List.getElem_mem hi))
  have k0 : Bw w ((w.alloc (.cells #[.slice (some ⟨b, 0, none⟩) L.length c] 46)).alloc (.cells #[.func (.func 40) #[rv s] #[]] 55)) := bw_alloc16 (bw_alloc16 (Bw.refl _) _) _
  obtain ⟨Z, hZ⟩ : ∃ Z : Nat → Bool, Hid ((fun i => match L[i]? with | some r => decide (s.1 ≤ r.1 + r.2) | none => true) = Z) := ⟨_, show _ = _ from rfl⟩
  rw [hZ.out] at H1 ⊢
  obtain ⟨n, hnn⟩ : ∃ n, Hid (L.length = n) := ⟨_, rfl⟩
  rw [hnn.out] at H1 k0 ⊢
  clear hb hp hL
  go_enter Try.func39, Try.ntmps39
  go_wp2_with (go_at_call 49; refine (H1.out w (Bw.refl _)).mono ?_; rintro e w1 ⟨k, rfl, hk, hb1⟩)
  go_ret
  exact ⟨k, rfl, hk, k0.trans hb1⟩

set_option maxRecDepth 100000 in
set_option maxHeartbeats 1000000 in
theorem search_ahead (s : Sp.Rn) (t b c : Nat) (L : List Sp.Rn) (hn : L.length ≤ 1099511627776) (hs : s.1 + s.2 ≤ 1099511627776) (hL : ∀ r ∈ L, r.1 + r.2 ≤ 1099511627776) (hp : L.Pairwise (fun r s => r.1 + r.2 < s.1)) (w : World) (hb : RB w t b c L) :
    Calls Try.prog 39 #[.slice (some ⟨b, 0, none⟩) L.length c, .func (.func 41) #[rv s] #[]] w fun e w' => LowEnds L.length (fun i => match L[i]? with | some r => decide (s.1 + s.2 < r.1) | none => true) w e w' := by
  have H1 : Hid (∀ u, Bw w u → Calls Try.prog 49 #[.int .i64 (L.length : Int), .func (.func 50) #[] #[.pointer (some ⟨w.heap.size + 1, 0, none⟩), .pointer (some ⟨w.heap.size, 0, none⟩)]] ((w.alloc (.cells #[.slice (some ⟨b, 0, none⟩) L.length c] 46)).alloc (.cells #[.func (.func 41) #[rv s] #[]] 55)) fun e w' => LowEnds L.length (fun i => match L[i]? with | some r => decide (s.1 + s.2 < r.1) | none => true) ((w.alloc (.cells #[.slice (some ⟨b, 0, none⟩) L.length c] 46)).alloc (.cells #[.func (.func 41) #[rv s] #[]] 55)) e w') := fun _ _ => by
    refine ssearch_any L.length _ _ _ hn ?_ _ ?_
    · intro i j hij hj hi
      rcases Nat.lt_or_ge i j with g | g
      · have e1 : L[i]? = some (L[i]'(by omega)) := List.getElem?_eq_getElem (by omega)
        have e2 : L[j]? = some (L[j]'hj) := List.getElem?_eq_getElem hj
        have h3 := List.pairwise_iff_getElem.1 hp i j (by omega) hj g
        rw [e1] at hi
        rw [e2]
        dsimp only at hi ⊢
        rw [decide_eq_true_eq] at hi ⊢
        omega
      · obtain rfl : i = j := by omega
        exact hi
    · intro i hi u hu
      have e1 : L[i]? = some (L[i]'hi) := List.getElem?_eq_getElem hi
      rw [e1]
      dsimp only
      have n1 := cell_new16 w (.slice (some ⟨b, 0, none⟩) L.length c) 46
      have n2 := cell_new16 (w.alloc (.cells #[.slice (some ⟨b, 0, none⟩) L.length c] 46)) (.func (.func 41) #[rv s] #[]) 55
      rw [size_alloc] at n2
      have k1 : Bw w (w.alloc (.cells #[.slice (some ⟨b, 0, none⟩) L.length c] 46)) := bw_alloc16 (Bw.refl _) _
      have k2 := bw_alloc16 (Bw.refl (w.alloc (.cells #[.slice (some ⟨b, 0, none⟩) L.length c] 46))) (.cells #[.func (.func 41) #[rv s] #[]] 55)
      obtain ⟨a1, a2⟩ := ((hb.keep k1).keep k2).cells e1
      exact ask_ahead (Ask_ahead.keep ⟨n2, keep_cell16 n1 k2, a1, a2⟩ hu) hi hn hs
  have k0 : Bw w ((w.alloc (.cells #[.slice (some ⟨b, 0, none⟩) L.length c] 46)).alloc (.cells #[.func (.func 41) #[rv s] #[]] 55)) := bw_alloc16 (bw_alloc16 (Bw.refl _) _) _
  obtain ⟨Z, hZ⟩ : ∃ Z : Nat → Bool, Hid ((fun i => match L[i]? with | some r => decide (s.1 + s.2 < r.1) | none => true) = Z) := ⟨_, show _ = _ from rfl⟩
  rw [hZ.out] at H1 ⊢
  obtain ⟨n, hnn⟩ : ∃ n, Hid (L.length = n) := ⟨_, rfl⟩
  rw [hnn.out] at H1 k0 ⊢
  clear hb hp hL
  go_enter Try.func39, Try.ntmps39
  go_wp2_with (go_at_call 49; refine (H1.out w (Bw.refl _)).mono ?_; rintro e w1 ⟨k, rfl, hk, hb1⟩)
  go_ret
  exact ⟨k, rfl, hk, k0.trans hb1⟩

/-- a space of n cells in block g, its free runs L in block b -/
structure SpAt (w : World) (g n b c : Nat) (L : List Sp.Rn) : Prop where
  cells : w.heap[g]? = some (.cells #[.int .i64 (n : Int), .slice (some ⟨b, 0, none⟩) L.length c] 50 (0, 0))
  row : RB w 48 b c L
  norm : Sp.Norm n L
  n1 : n ≤ 65536
theorem Sp.Norm.len {n : Nat} {L : List Sp.Rn} (h : Sp.Norm n L) : L.length ≤ n := by
  have h1 : Sp.sumTo (Sp.cov L) n = Sp.tot L := Sp.tot_sum (fun r hr => (h.ok r hr).2)
  have h2 : ∀ m, Sp.sumTo (Sp.cov L) m ≤ m := fun m => by
    induction m with
    | zero => exact Nat.le_refl _
    | succ m ih => have := h.cov_le m; rw [Sp.sumTo]; omega
  have h3 : ∀ M : List Sp.Rn, (∀ r ∈ M, 1 ≤ r.2) → M.length ≤ Sp.tot M := fun M => by
    induction M with
    | nil => intro _; exact Nat.le_refl _
    | cons r M ih => intro hM; have := hM r (by simp); have := ih (fun s hs => hM s (by simp [hs])); rw [Sp.tot, List.length_cons]; omega
  have := h2 n
  have := h3 L (fun r hr => (h.ok r hr).1)
  omega
namespace SpAt
variable {w w' : World} {g n b c : Nat} {L : List Sp.Rn}
theorem lt (h : SpAt w g n b c L) : g < w.heap.size := (Array.getElem?_eq_some_iff.1 h.cells).1
theorem keep (h : SpAt w g n b c L) (k : Bw w w') : SpAt w' g n b c L := ⟨(k.block g h.lt).trans h.cells, h.row.keep k, h.norm, h.n1⟩
theorem keepx {S : Nat → Prop} (h : SpAt w g n b c L) (k : Bx S w w') (h1 : ¬ S g) (h2 : ¬ S b) : SpAt w' g n b c L := ⟨(k.block g h.lt h1).trans h.cells, h.row.keepx k h2, h.norm, h.n1⟩
theorem c0 (h : SpAt w g n b c L) : w.cell? ⟨g, 0, none⟩ = some (.int .i64 (n : Int)) := cell_of_row w g 0 _ _ _ h.cells
theorem c1 (h : SpAt w g n b c L) : w.cell? ⟨g, 1, none⟩ = some (.slice (some ⟨b, 0, none⟩) L.length c) := cell_of_row w g 1 _ _ _ h.cells
theorem f1 (h : SpAt w g n b c L) : w.frozen? ⟨g, 1, none⟩ = false := frozen_of_row w g 1 _ _ h.cells
theorem ne (h : SpAt w g n b c L) : g ≠ b := fun e => by
  obtain ⟨cur, h1, _⟩ := h.row
  have h2 := h.cells
  rw [e, h1] at h2
  simp only [Option.some.injEq, Obj.cells.injEq] at h2
  exact absurd h2.2.1 (by decide)
theorem few (h : SpAt w g n b c L) : L.length ≤ 65536 := Nat.le_trans h.norm.len h.n1
theorem sm (h : SpAt w g n b c L) : ∀ r ∈ L, r.1 + r.2 ≤ 1099511627776 := fun r hr => by have := (h.norm.ok r hr).2; have := h.n1; omega
end SpAt
/-- is a run right? -/
def Sp.Right (n : Nat) (x k : Int) : Prop := 1 ≤ k ∧ 0 ≤ x ∧ k ≤ (n : Int) - x
set_option maxRecDepth 100000 in
theorem may_nil (x k : Int) (w : World) : Calls Try.prog 28 #[.pointer none, .agg #[.int .i64 x, .int .i64 k]] w fun e w' => e = .returned (.int .i64 8) ∧ Bw w w' := by
  go_enter Try.func28, Try.ntmps28
  go_wp2
  go_ret
  exact ⟨rfl, bw_alloc16 (Bw.refl _) _⟩
structure MayS (W : World) (p g n : Nat) (x k : Int) : Prop where
  a : W.cell? ⟨p, 0, none⟩ = some (.int .i64 x)
  z : W.cell? ⟨p, 1, none⟩ = some (.int .i64 k)
  n : W.cell? ⟨g, 0, none⟩ = some (.int .i64 (n : Int))

set_option maxRecDepth 100000 in
set_option maxHeartbeats 1000000 in
theorem may_yes {w : World} {g n b c : Nat} {L : List Sp.Rn} (hs : SpAt w g n b c L) (x k : Int) (x0 : -9223372036854775808 ≤ x ∧ x < 9223372036854775808) (k0 : -9223372036854775808 ≤ k ∧ k < 9223372036854775808) (h : Sp.Right n x k) :
    Calls Try.prog 28 #[.pointer (some ⟨g, 0, none⟩), .agg #[.int .i64 x, .int .i64 k]] w fun e w' => e = .returned (.int .i64 0) ∧ Bw w w' := by
  obtain ⟨W, hW⟩ : ∃ W, W = w.alloc (.cells #[.int .i64 x, .int .i64 k] 48) := ⟨_, rfl⟩
  have kW : Bw w W := by rw [hW]; exact bw_alloc16 (Bw.refl _) _
  have hn := hs.n1
  have c0 := (hs.keep kW).c0
  obtain ⟨z0, z1⟩ : W.cell? ⟨w.heap.size, 0, none⟩ = some (.int .i64 x) ∧ W.cell? ⟨w.heap.size, 1, none⟩ = some (.int .i64 k) := by rw [hW]; exact cells2_new w _ _ _
  clear hs
  unfold Sp.Right at h
  have d1 : decide (k < 1) = false := by rw [decide_eq_false_iff_not]; omega
  have d2 : decide (x < 0) = false := by rw [decide_eq_false_iff_not]; omega
  have d3 : decide ((n : Int) - x < k) = false := by rw [decide_eq_false_iff_not]; omega
  have hw : IntKind.i64.wrap ((n : Int) - x) = (n : Int) - x := by rw [IntKind.wrap_i64]; omega
  go_enter Try.func28, Try.ntmps28
  go_upto_region 3 with fail
  rw [← hW]
  clear hW h
  go_quiet (fail)
  go_wp2
  go_ret
  exact ⟨rfl, kW.trans (Bw.drewN _ _)⟩

set_option maxRecDepth 100000 in
set_option maxHeartbeats 1000000 in
theorem may_no {w : World} {g n b c : Nat} {L : List Sp.Rn} (hs : SpAt w g n b c L) (x k : Int) (x0 : -9223372036854775808 ≤ x ∧ x < 9223372036854775808) (k0 : -9223372036854775808 ≤ k ∧ k < 9223372036854775808) (h : ¬ Sp.Right n x k) :
    Calls Try.prog 28 #[.pointer (some ⟨g, 0, none⟩), .agg #[.int .i64 x, .int .i64 k]] w fun e w' => e = .returned (.int .i64 1) ∧ Bw w w' := by
  obtain ⟨W, hW⟩ : ∃ W, W = w.alloc (.cells #[.int .i64 x, .int .i64 k] 48) := ⟨_, rfl⟩
  have kW : Bw w W := by rw [hW]; exact bw_alloc16 (Bw.refl _) _
  have hn := hs.n1
  have c0 := (hs.keep kW).c0
  obtain ⟨z0, z1⟩ : W.cell? ⟨w.heap.size, 0, none⟩ = some (.int .i64 x) ∧ W.cell? ⟨w.heap.size, 1, none⟩ = some (.int .i64 k) := by rw [hW]; exact cells2_new w _ _ _
  clear hs
  unfold Sp.Right at h
  by_cases h1 : k < 1
  · have d1 : decide (k < 1) = true := by rw [decide_eq_true_eq]; omega
    go_enter Try.func28, Try.ntmps28
    go_upto_region 3 with fail
    rw [← hW]
    clear hW h h1
    go_quiet (fail)
    go_wp2
    go_ret
    exact ⟨rfl, kW.trans (Bw.drewN _ _)⟩
  · have d1 : decide (k < 1) = false := by rw [decide_eq_false_iff_not]; omega
    by_cases h2 : x < 0
    · have d2 : decide (x < 0) = true := by rw [decide_eq_true_eq]; omega
      go_enter Try.func28, Try.ntmps28
      go_upto_region 3 with fail
      rw [← hW]
      clear hW h h1 h2
      go_quiet (fail)
      go_wp2
      go_ret
      exact ⟨rfl, kW.trans (Bw.drewN _ _)⟩
    · have d2 : decide (x < 0) = false := by rw [decide_eq_false_iff_not]; omega
      have d3 : decide ((n : Int) - x < k) = true := by rw [decide_eq_true_eq]; omega
      have hw : IntKind.i64.wrap ((n : Int) - x) = (n : Int) - x := by rw [IntKind.wrap_i64]; omega
      go_enter Try.func28, Try.ntmps28
      go_upto_region 3 with fail
      rw [← hW]
      clear hW h h1 h2
      go_quiet (fail)
      go_wp2
      go_ret
      exact ⟨rfl, kW.trans (Bw.drewN _ _)⟩
end Go.Proofs.Ytfdfkhmaeeonpaa
