/- What the document's own Plus answers: a new row. -/
import Derived.Test.YtpgjkhlffcomgaaM1
import Derived.Deep.RegionHeld3
import Derived.Deep.AppendLies
import Derived.OwnWalk
namespace Go.Proofs.Ytpgjkhlffcomgaa
open Go.RowKit

theorem info_u8 : (Try.prog.info? 5).map (fun i => (i.zero, i.size, i.bytes)) = some (some (.int .u8 0), 1, 1) := by kernel_rfl

/-- the cells of a row of k bytes -/
def cellsU (h : Nat → Int) (k : Nat) : List Value := (List.range k).map fun i => .int .u8 (h i)

theorem cellsU_succ (h : Nat → Int) (k : Nat) : cellsU h (k + 1) = cellsU h k ++ [.int .u8 (h k)] := by
  unfold cellsU; rw [List.range_succ, List.map_append]; rfl

/-- a cell below the base is as it was behind an append onto a row of the call's own -/
theorem far_of {W w1 : World} {base : Nat} {e : TypeId} {size n : Nat} {v : Value} {xs : List Value} (hgrow : W.grownBy w1 v.ownBlock) (hown : W.ownsRow base e size v n xs) (hb : base ≤ W.heap.size) {a : Addr} {x : Value} (hlt : a.block < base) (hc : W.cell? a = some x) : w1.cell? a = some x := by
  rw [World.cell?_of_block (w := W) (hgrow.block a.block (by omega) ?_)]
  · exact hc
  · intro h
    rcases hown.2 with ⟨rfl, _⟩ | ⟨g, cap, cur, rfl, hg, _⟩
    · cases h
    · simp only [Value.ownBlock, Option.some.injEq] at h
      omega

theorem own_ge {W : World} {base : Nat} {e : TypeId} {size n : Nat} {v : Value} {xs : List Value} (hown : W.ownsRow base e size v n xs) : ∀ k, v.ownBlock = some k → base ≤ k := by
  intro k h
  rcases hown.2 with ⟨rfl, _⟩ | ⟨g, cap, cur, rfl, hg, _⟩
  · cases h
  · simp only [Value.ownBlock, Option.some.injEq] at h
    omega

theorem RowAt.lt {w : World} {b off L : Nat} {f : Nat → Int} (h : RowAt w (some ⟨b, off, none⟩) L f) {k : Nat} (hk : k < L) : b < w.heap.size := by
  obtain ⟨b', o', e, hc⟩ := h.at hk
  simp only [Option.some.injEq, Addr.mk.injEq] at e
  obtain ⟨rfl, _⟩ := e
  exact block_lt_of_cell (hc k hk)

set_option maxRecDepth 100000 in
set_option maxHeartbeats 1000000 in
theorem rplus_ok (A B : Option Addr) (L ca cb : Nat) (f g h : Nat → Int) (c : Int) (c0 : 0 ≤ c) (c1 : c < 256) (hL : L ≤ 131072) (w : World) (ha : RowAt w A L f) (hb : RowAt w B L g) (hh : Hid (∀ i, h i = addI (f i) (mulI c (g i)))) :
    Calls Try.prog 13 #[.slice A L ca, .slice B L cb, .int .u8 c] w fun e w' => ∃ v, e = .returned (.tuple #[v, .int .i64 0]) ∧ w'.ownsRow w.heap.size 5 1 v L (cellsU h L) ∧ Bw w w' := by
  have e0 : twoE L L = 0 := by unfold twoE; rw [if_neg (by omega), if_neg (by omega)]
  obtain ⟨i0, hi0, hz0, hz1, hz2⟩ := info_parts info_u8
  go_enter Try.func13, Try.ntmps13
  go_wp2_with (go_at_call 33; refine (rtwo_any _ _ _ _ _ _ _).mono ?_; rintro e w' ⟨rfl, hw'⟩; subst w')
  go_loopw [9, 10] (fun v i wr => ∃ k : Nat, k ≤ L ∧ i = .int .i64 k ∧ wr.ownsRow w.heap.size 5 1 v k (cellsU h k) ∧ Bw w wr) (fun _ i _ => L - (intOf i).toNat)
  case atStart => exact ⟨0, Nat.zero_le _, rfl, World.ownsRow_nil _ _ _ _, Bw.refl _⟩
  case round =>
    obtain ⟨k, hk, rfl, hown, hw⟩ := hrel
    by_cases hlt : k < L
    · obtain ⟨b1, o1, rfl, hc1⟩ := (ha.keep hw).at hlt
      obtain ⟨b2, o2, rfl, hc2⟩ := (hb.keep hw).at hlt
      have h1 := hc1 k hlt
      have h2 := hc2 k hlt
      have f1 := ha.2 k
      have g1 := hb.2 k
      have m1 := mulI_bd c (g k) c1
      have r1 : bits .xor .u8 (f k) (mulI c (g k)) = h k := (u8_xor _ _ f1.1 f1.2 m1.1 m1.2).trans (hh.out k).symm
      have hk0 : (0 : Int) ≤ (k : Int) := Int.natCast_nonneg _
      have hk1 : (k : Int) < (L : Int) := by omega
      clear hc1 hc2
      have hsz := hw.size
      have l1 := ha.lt hlt
      have l2 := hb.lt hlt
      have hmx : k + 1 ≤ maxLen := by unfold maxLen; omega
      go_wp2
      go_region_held3 (fun w' => w'.cell? ⟨b1, o1 + k, none⟩ = some (.int .u8 (f k)) ∧ w'.cell? ⟨b2, o2 + k, none⟩ = some (.int .u8 (g k)))
        (first | go_keep | (go_split_ands; refine ⟨far_of hgrow ((hown.alloc _).drew) (by simp; omega) l1 (by assumption), far_of hgrow ((hown.alloc _).drew) (by simp; omega) l2 (by assumption)⟩))
        (first | (go_at_call 34; refine (rmul_any _ _ (by omega) (by omega) (by omega) (by omega) _).mono ?_; rintro e w' ⟨rfl, hw'⟩; subst w') | (refine step_append_lies _ (by rfl) _ _ _ (by rfl) w.heap.size 5 i0 _ 1 1 Try.underlying22 hi0 hz0 hz1 hz2 rfl (by omega) _ _ _ (by rfl) ((hown.alloc _).drew) ⟨wr.heap.size, 0, none⟩ 1 1 [.int .u8 (h k)] (by rfl) (by rfl) (World.news_of_block (cs := #[.int .u8 (h k)]) (t := 5) (fr := (0, 0)) (heap_alloc_new wr _)) (by simp [Value.oneCell']) (by omega) hmx (by omega) (by simp; omega) (wr.heap.size + 1) (by simp) ?_; intro gg cap w1 hown1 hgrow hat hlt'))
      go_wp2
      go_roundw
      case rel => exact ⟨k + 1, by omega, by go_num, by rw [cellsU_succ]; exact hown1, ((Below.alloc hw hsz _).drew).grown hgrow (by simp; omega) (own_ge hown)⟩
      case measure => simp [intOf]; omega
    · have ek : k = L := by omega
      subst ek
      go_wp2
      go_ret2
      exact ⟨_, rfl, hown, hw⟩

theorem rplus_no (A B : Option Addr) (la ca lb cb : Nat) (c : Int) (w : World) (h : (twoE la lb == 0) = false) :
    Calls Try.prog 13 #[.slice A la ca, .slice B lb cb, .int .u8 c] w fun e w' => e = .returned (.tuple #[.slice none 0 0, .int .i64 (twoE la lb)]) ∧ Bw w w' := by
  go_enter Try.func13, Try.ntmps13
  go_wp2_with (go_at_call 33; refine (rtwo_any _ _ _ _ _ _ _).mono ?_; rintro e w' ⟨rfl, hw'⟩; subst w')
  go_ret2
  exact ⟨rfl, Bw.refl _⟩

end Go.Proofs.Ytpgjkhlffcomgaa
