/- Contracts of the program's own ended; appends onto a list without room. -/
import Derived.Test.YtcpapaceggnaoaaDoorE5
import Derived.ArgAppend
namespace Go.Proofs.YtcpapaceggnaoaaDoor
open Go.RowKit Go.Deep
set_option linter.unusedVariables false

/-- an append onto a list that has no room: a row of the call's own -/
theorem run_append_full {w : World} {A : Option Addr} {n : Nat} {fo : Nat → Int} (h : RowAt w A n fo) (ty : TypeId) (a : Addr) (m c : Nat) (news : List Value) (hl : news.length = m) (hnews : ∀ j u, news[j]? = some u → w.cell? (a.add j) = some u)
    (h1 : ∀ u ∈ news, u.oneCell' = true) (hm : 0 < m) (hb : n + m ≤ 140737488355328) :
    ∃ v' w', (Builtin.append_ #[22, 22] ty #[.slice A n n, .slice (some a) m c]).run Tryd.prog w = .ok v' w' ∧ w'.ownsRow w.heap.size 5 1 v' (n + m) (cellsU fo n ++ news) ∧ Bw w w' := by
  obtain ⟨i0, hi0, hz0, hz1, hz2⟩ := info_parts info_u8
  have hmx : n + m ≤ maxLen := by unfold maxLen; omega
  cases A with
  | none =>
    have hn : n = 0 := by
      rcases h.1 with h0 | ⟨b, off, e', _⟩
      · exact h0
      · cases e'
    subst hn
    obtain ⟨v', w', hr, ho, hg, -⟩ := run_append_own (P := Tryd.prog) w w.heap.size 22 ty 5 i0 _ 1 1 Tryd.underlying22 hi0 hz0 hz1 hz2 rfl (by decide) (.slice none 0 0) 0 [] (World.ownsRow_nil w _ _ _) a m c news (by omega) hnews h1 hmx (by omega) (Nat.le_refl _)
    exact ⟨v', w', hr, ho, (Below.refl _ _).grown hg (Nat.le_refl _) (fun k hk => by simp [Value.ownBlock] at hk)⟩
  | some b =>
    by_cases hn : n = 0
    · subst hn
      obtain ⟨v', w', hr, ho, hg⟩ := run_append_arg_grows (P := Tryd.prog) w 22 ty 5 i0 _ 1 1 Tryd.underlying22 hi0 hz0 hz1 hz2 rfl (by decide) b 0 0 [] rfl (fun j u hu => by simp at hu) a m c news (by omega) hnews (by omega) hmx (by omega)
      exact ⟨v', w', hr, ho, (Below.refl _ _).grown hg (Nat.le_refl _) (fun k hk => by cases hk)⟩
    · obtain ⟨b', off, e, hc⟩ := h.at (k := 0) (by omega)
      cases e
      obtain ⟨v', w', hr, ho, hg⟩ := run_append_arg_grows (P := Tryd.prog) w 22 ty 5 i0 _ 1 1 Tryd.underlying22 hi0 hz0 hz1 hz2 rfl (by decide) ⟨b', off, none⟩ n n (cellsU fo n) (by rw [cellsU_len]; omega) (rowat_news h) a m c news (by omega) hnews (by omega) hmx (by omega)
      exact ⟨v', w', hr, ho, (Below.refl _ _).grown hg (Nat.le_refl _) (fun k hk => by cases hk)⟩
theorem wpList_append_full {w : World} {ops : Array Oper} {rest : List Oper} {o : Oper} {a : Act} {Q : Exit → Act → World → Prop} (hgd : o.guard = none) (s x : Operand)
    (ho : o.op = .call { callee := .builtin .append, args := #[s, x], argTypes := #[22, 22] })
    (A : Option Addr) (n : Nat) (fo : Nat → Int) (hs : a.eval s = .slice A n n) (h : RowAt w A n fo) (ad : Addr) (m c : Nat) (news : List Value) (hx : a.eval x = .slice (some ad) m c) (hl : news.length = m) (hnews : ∀ j u, news[j]? = some u → w.cell? (ad.add j) = some u)
    (h1 : ∀ u ∈ news, u.oneCell' = true) (hm : 0 < m) (hb : n + m ≤ 140737488355328)
    (hh : ∀ v' w', w'.ownsRow w.heap.size 5 1 v' (n + m) (cellsU fo n ++ news) → Bw w w' → wpList Tryd.prog ops Q rest (a.put o.dst v') w') : wpList Tryd.prog ops Q (o :: rest) a w := by
  refine wpList_plain hgd fun K hK => ?_
  obtain ⟨v', w', hrun, hown, hbw⟩ := run_append_full h o.type ad m c news hl hnews h1 hm hb
  unfold Oper.wp
  simp [execOp, ho, resolve, invoke, builtin, hs, hx, hrun, Result.andThen]
  exact hK _ _ (hh v' w' hown hbw)

/-- what is left of a block, with what stands behind it -/
def endF (fo : Nat → Int) (n len c : Nat) : Int := if c < n then fo c else if c = n then 128 else if c < 64 * Sha.blocks n - 8 then 0 else ((8 * len / 2 ^ (8 * (64 * Sha.blocks n - 1 - c)) % 256 : Nat) : Int)
theorem endF_bd {fo : Nat → Int} (hf : ∀ i, 0 ≤ fo i ∧ fo i < 256) (n len c : Nat) : 0 ≤ endF fo n len c ∧ endF fo n len c < 256 := by
  unfold endF
  split
  · exact hf c
  · split
    · decide
    · split
      · decide
      · have := Nat.mod_lt (8 * len / 2 ^ (8 * (64 * Sha.blocks n - 1 - c))) (show 0 < 256 by decide)
        omega
theorem endF_lo (fo : Nat → Int) (n len c : Nat) (h : c < n) : endF fo n len c = fo c := by unfold endF; rw [if_pos h]
theorem endF_one (fo : Nat → Int) (n len : Nat) : endF fo n len n = 128 := by unfold endF; rw [if_neg (by omega), if_pos rfl]
theorem endF_zero (fo : Nat → Int) (n len c : Nat) (h : n < c) (h2 : c < 64 * Sha.blocks n - 8) : endF fo n len c = 0 := by
  unfold endF; rw [if_neg (by omega), if_neg (by omega), if_pos h2]
theorem endF_len (fo : Nat → Int) (n len j : Nat) (hj : j < 8) : endF fo n len (64 * Sha.blocks n - 8 + j) = ((8 * len / 2 ^ (8 * (7 - j)) % 256 : Nat) : Int) := by
  have h : n + 8 < 64 * Sha.blocks n := by unfold Sha.blocks; omega
  unfold endF
  rw [if_neg (by omega), if_neg (by omega), if_neg (by omega), show 64 * Sha.blocks n - 1 - (64 * Sha.blocks n - 8 + j) = 7 - j by omega]
/-- the padded bytes behind the whole blocks -/
theorem pad_end {F : Nat → Int} (hF : ∀ i, 0 ≤ F i ∧ F i < 256) (len c : Nat) : Sha.pad (nbD F) len (64 * (len / 64) + c) = nbD (endF (fun c => F (64 * (len / 64) + c)) (len % 64) len) c := by
  have hb : 64 * Sha.blocks len = 64 * (len / 64) + 64 * Sha.blocks (len % 64) := by unfold Sha.blocks; omega
  have hl : 64 * (len / 64) + len % 64 = len := Nat.div_add_mod len 64
  have hn : len % 64 + 8 < 64 * Sha.blocks (len % 64) := by unfold Sha.blocks; omega
  unfold nbD Sha.pad endF
  by_cases h1 : c < len % 64
  · rw [if_pos (by omega), if_pos h1]
  · by_cases h2 : c = len % 64
    · rw [if_neg (by omega), if_pos (by omega), if_neg h1, if_pos h2]; rfl
    · by_cases h3 : c < 64 * Sha.blocks (len % 64) - 8
      · rw [if_neg (by omega), if_neg (by omega), if_pos (by omega), if_neg h1, if_neg h2, if_pos h3]; rfl
      · rw [if_neg (by omega), if_neg (by omega), if_neg (by omega), if_neg h1, if_neg h2, if_neg h3, Int.toNat_natCast, show 64 * Sha.blocks len - 1 - (64 * (len / 64) + c) = 64 * Sha.blocks (len % 64) - 1 - c by omega]
/-- the digest, out of the state behind the whole blocks and what is left -/
theorem dig_end {F : Nat → Int} (hF : ∀ i, 0 ≤ F i ∧ F i < 256) (len : Nat) :
    runS (Sha.after (nbD F) (len / 64)) (nbD (endF (fun c => F (64 * (len / 64) + c)) (len % 64) len)) (Sha.blocks (len % 64)) = Sha.after (Sha.pad (nbD F) len) (Sha.blocks len) := by
  have hb : Sha.blocks len = len / 64 + Sha.blocks (len % 64) := by unfold Sha.blocks; omega
  have h1 : Sha.after (nbD F) (len / 64) = runS Sha.iv (Sha.pad (nbD F) len) (len / 64) := by
    rw [← runS_after]
    exact runS_congr _ (fun i hi => by unfold Sha.pad; rw [if_pos (by omega)])
  have h2 : nbD (endF (fun c => F (64 * (len / 64) + c)) (len % 64) len) = fun c => Sha.pad (nbD F) len (64 * (len / 64) + c) := funext fun c => (pad_end hF len c).symm
  rw [h1, h2, runS_add, hb, runS_after]

set_option maxRecDepth 100000 in
set_option maxHeartbeats 4000000 in
theorem ended_any (A : Option Addr) (L len : Nat) (f : Nat → Int) (hL : L < 64) (hlen : len ≤ 1000000000000) (w : World) (hrow : RowAt w A L f) :
    Calls Tryd.prog 22 #[.slice A L L, .int .i64 (len : Int)] w fun e w' => ∃ g cap, e = .returned (.slice (some ⟨g, 0, none⟩) (64 * Sha.blocks L) cap) ∧ 64 * Sha.blocks L ≤ cap ∧ cap ≤ maxLen ∧ RowAt w' (some ⟨g, 0, none⟩) (64 * Sha.blocks L) (endF f L len) ∧ Bw w w' := by
  obtain ⟨i0, hi0, hz0, hz1, hz2⟩ := info_parts info_u8
  have hN : L + 8 < 64 * Sha.blocks L ∧ 64 * Sha.blocks L ≤ L + 72 := by unfold Sha.blocks; omega
  obtain ⟨N, hNe⟩ : ∃ N, Hid (N = 64 * Sha.blocks L - 8) := ⟨_, rfl⟩
  have hN1 : L + 1 ≤ N ∧ N ≤ L + 64 ∧ N % 64 = 56 := by have := hNe.out; unfold Sha.blocks at this; omega
  have hal : Bw w (w.alloc (.cells #[.int .u8 128] 5)) := (Below.refl _ _).alloc (Nat.le_refl _) _
  have hrow1 := hrow.keep hal
  obtain ⟨b0, hb0⟩ : ∃ b0, b0 = (w.alloc (.cells #[.int .u8 128] 5)).heap.size := ⟨_, rfl⟩
  have hbs : w.heap.size ≤ b0 := by rw [hb0]; exact hal.size
  go_enter Tryd.func22, Tryd.ntmps22
  go_wp2_with (at_builtin; refine wpList_append_full (by rfl) (.tmp 8) (.tmp 9) (by rfl) A L f (by rfl) hrow1 ⟨w.heap.size, 0, none⟩ 1 1 [.int .u8 128] (by rfl) rfl (World.news_of_block (cs := #[.int .u8 128]) (t := 5) (fr := (0, 0)) (heap_alloc_new w _)) (by simp [Value.oneCell']) (by omega) (by omega) ?_; intro v1 w1 hown1 hbw1)
  rw [← hb0] at hown1
  have hc2 : cellsU f L ++ [.int .u8 128] = cellsU (endF f L len) (L + 1) := by rw [cellsU_succ, endF_one, cellsU_congr (fun i hi => endF_lo f L len i hi)]
  rw [hc2] at hown1
  obtain ⟨g1, c1, e1, -, -, -, -⟩ := Own.of hown1 (by omega)
  subst e1
  have hbw2 : Bw w w1 := hal.trans hbw1
  have hbl : b0 ≤ w1.heap.size := by rw [hb0]; exact hbw1.size
  clear hc2 hbw1 hal hrow1 hb0
  obtain ⟨Wb, hWb, hWs⟩ : ∃ Wb : World, Below b0 Wb w1 ∧ Hid (Wb = w1) := ⟨w1, Below.refl _ _, rfl⟩
  go_loopw [5] (fun v wr => ∃ n g cap : Nat, L + 1 ≤ n ∧ n ≤ N ∧ v = .slice (some ⟨g, 0, none⟩) n cap ∧ wr.ownsRow b0 5 1 (.slice (some ⟨g, 0, none⟩) n cap) n (cellsU (endF f L len) n) ∧ Below b0 w1 wr) (fun v _ => N - lenOf v)
  case atStart => exact ⟨L + 1, g1, c1, Nat.le_refl _, hN1.1, rfl, hown1, Below.refl _ _⟩
  case round =>
    obtain ⟨n, g, cap, hn1, hn2, rfl, hown, hbw⟩ := hrel
    have szr := hbw.size
    by_cases hmod : n % 64 = 56
    · have hnN : n = N := by omega
      have m1 : ((n : Int) % 64 != 56) = false := by rw [bne_eq_false_iff_eq]; omega
      have m2 : ((n : Int).tmod 64 != 56) = false := by rw [bne_eq_false_iff_eq, Int.tmod_eq_emod_of_nonneg (by omega)]; omega
      subst hnN
      have l0 : (0 : Int) ≤ (len : Int) := by omega
      have l1 : (len : Int) * 8 < 18446744073709551616 := by omega
      have l2 : (0 : Int) ≤ (len : Int) * 8 := by omega
      have l3 : (len : Int) < 18446744073709551616 := by omega
      clear hown1
      rename World => wo
      go_wp2
      go_loopw [5, 21] (fun v i wr => ∃ j g cap : Nat, j ≤ 8 ∧ i = .int .i64 (j : Int) ∧ v = .slice (some ⟨g, 0, none⟩) (n + j) cap ∧ wr.ownsRow b0 5 1 (.slice (some ⟨g, 0, none⟩) (n + j) cap) (n + j) (cellsU (endF f L len) (n + j)) ∧ Below b0 w1 wr) (fun v _ _ => n + 8 - lenOf v)
      case atStart => exact ⟨0, g, cap, Nat.zero_le _, rfl, rfl, hown, hbw⟩
      case round =>
        obtain ⟨j, g', cap', hj, rfl, rfl, hown', hbw'⟩ := hrel
        have szr' := hbw'.size
        by_cases hlt : j < 8
        · obtain ⟨q, hq⟩ : ∃ q : Nat, 56 - 8 * (j : Int) = (q : Int) := ⟨8 * (7 - j), by omega⟩
          have hval : Hid ((len : Int) * 8 / 2 ^ q % 256 = endF f L len (n + j)) := by
            show _ = _
            have hp := endF_len f L len j hlt
            rw [← hNe.out, show 8 * (7 - j) = q by omega] at hp
            rw [hp, Int.natCast_emod, Int.natCast_ediv, Int.natCast_mul, Int.natCast_pow, Int.mul_comm]; rfl
          have q0 : (0 : Int) ≤ (q : Int) := Int.natCast_nonneg _
          have q1 : (q : Int) < 64 := by omega
          have j0 : (0 : Int) ≤ (j : Int) := Int.natCast_nonneg _
          have j1 : (j : Int) < 8 := by omega
          have hq' : Hid (56 - 8 * (j : Int) = (q : Int)) := hq
          clear hown
          go_wp2_with (at_builtin; refine wpList_append_lies _ (by rfl) (.tmp 24) (.tmp 31) _ (by rfl) b0 5 i0 _ 1 1 Tryd.underlying22 hi0 hz0 hz1 hz2 rfl (by omega) _ _ _ (by rfl) (hown'.alloc _) ⟨wr.heap.size, 0, none⟩ 1 1 [_] (by rfl) (by rfl) (World.news_of_block (cs := #[_]) (t := 5) (fr := (0, 0)) (heap_alloc_new wr _)) (by simp [Value.oneCell']) (by omega) (by unfold maxLen; omega) (by omega) (by simp; omega) (wr.heap.size + 1) (by simp) ?_; intro g4 c4 w4 hown4 hgrow4 hat4 hlt4)
          go_roundw
          case rel => exact ⟨j + 1, g4, c4, by omega, by go_num, rfl, by rw [show n + (j + 1) = n + j + 1 from rfl, cellsU_succ, ← hval.out]; exact hown4, bw_grow hgrow4 (Below.alloc hbw' (by omega) _) (by rw [size_alloc]; omega) (hown'.alloc _)⟩
          case measure => simp [lenOf]; omega
        · have e8 : j = 8 := by omega
          subst e8
          have hM : n + 8 = 64 * Sha.blocks L := by have := hNe.out; omega
          obtain ⟨g5, c5, e5, hg5, hc5, hc5', ho5⟩ := Own.of hown' (by omega)
          cases e5
          have hrow5 := ho5.row (endF_bd hrow.2 L len)
          rw [hM] at hrow5 hc5
          have hbw5 : Bw w wr := ⟨hbw'.os.trans hbw2.os, hbw'.tape.trans hbw2.tape, hbw'.output.trans hbw2.output, Nat.le_trans hbw2.size hbw'.size, fun k hk => (hbw'.block k (by omega)).trans (hbw2.block k hk)⟩
          have hM' : Hid (n + 8 = 64 * Sha.blocks L) := hM
          clear hM hown' hown hbw' hbw
          go_wp2
          go_ret
          exact ⟨_, _, by rw [hM'.out]; rfl, hc5, hc5', hrow5, hbw5⟩
    · have hlt : n < N := by omega
      have m1 : ((n : Int) % 64 != 56) = true := by rw [bne_iff_ne]; omega
      have m2 : ((n : Int).tmod 64 != 56) = true := by rw [bne_iff_ne, Int.tmod_eq_emod_of_nonneg (by omega)]; omega
      have hp : endF f L len n = 0 := endF_zero f L len n (by omega) (by have := hNe.out; omega)
      go_wp2_with (at_builtin; refine wpList_append_lies _ (by rfl) (.tmp 15) (.tmp 16) _ (by rfl) b0 5 i0 _ 1 1 Tryd.underlying22 hi0 hz0 hz1 hz2 rfl (by omega) _ _ _ (by rfl) (hown.alloc _) ⟨wr.heap.size, 0, none⟩ 1 1 [_] (by rfl) (by rfl) (World.news_of_block (cs := #[_]) (t := 5) (fr := (0, 0)) (heap_alloc_new wr _)) (by simp [Value.oneCell']) (by omega) (by unfold maxLen; omega) (by omega) (by simp; omega) (wr.heap.size + 1) (by simp) ?_; intro g4 c4 w4 hown4 hgrow4 hat4 hlt4)
      go_roundw
      case rel => exact ⟨n + 1, g4, c4, by omega, by omega, rfl, by rw [cellsU_succ, hp]; exact hown4, bw_grow hgrow4 (Below.alloc hbw (by omega) _) (by rw [size_alloc]; omega) (hown.alloc _)⟩
      case measure => simp [lenOf]; omega
end Go.Proofs.YtcpapaceggnaoaaDoor
