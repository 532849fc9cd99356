/- What the document's own Turned makes. -/
import Derived.Test.YtpgjkhlffcomgaaM8
namespace Go.Proofs.Ytpgjkhlffcomgaa
open Go.RowKit

theorem Wrong.unique {n : Nat} {L : Nat → Nat} {x y : Int} (h : Wrong n L x) (k : Wrong n L y) : x = y := by
  rcases h with ⟨rfl, h⟩ | ⟨rfl, h1, h2, r, hr, hne⟩ | ⟨rfl, h1, h2, h3⟩ <;> rcases k with ⟨rfl, k⟩ | ⟨rfl, k1, k2, s, hs, kne⟩ | ⟨rfl, k1, k2, k3⟩
  · rfl
  · rcases h with h | ⟨r, hr, h⟩
    · omega
    · have := k2 r hr; omega
  · rcases h with h | ⟨r, hr, h⟩
    · omega
    · have := k2 r hr; omega
  · rcases k with h | ⟨r, hr, h⟩
    · omega
    · have := h2 r hr; omega
  · rfl
  · exact absurd (k3 r hr) hne
  · rcases k with h | ⟨r, hr, h⟩
    · omega
    · have := h2 r hr; omega
  · exact absurd (h3 s hs) kne
  · rfl

theorem turned_bad (A : Option Addr) (n cap : Nat) (R : Nat → Option Addr) (L C : Nat → Nat) (Z : Nat → Nat → Int) (w : World) (h : MatAt w A n R L C Z) (x : Int) (hx : Wrong n L x) (hx0 : (x == 0) = false) :
    Calls Try.prog 27 #[.slice A n cap] w fun e w' => e = .returned (.tuple #[.slice none 0 0, .int .i64 x]) ∧ Bw w w' := by
  go_enter Try.func27, Try.ntmps27
  go_wp2_with (go_at_call 37; refine (rbad_any _ _ _ _ _ _ _ _ h).mono ?_; rintro e w1 ⟨y, rfl, hy, hw⟩; obtain rfl := Wrong.unique hy hx)
  go_ret2
  exact ⟨rfl, hw⟩

theorem turned_long (A : Option Addr) (n cap : Nat) (R : Nat → Option Addr) (L C : Nat → Nat) (Z : Nat → Nat → Int) (w : World) (h : MatAt w A n R L C Z) (hx : Wrong n L 0) (hc : 32 < colsI n L) :
    Calls Try.prog 27 #[.slice A n cap] w fun e w' => e = .returned (.tuple #[.slice none 0 0, .int .i64 2]) ∧ Bw w w' := by
  go_enter Try.func27, Try.ntmps27
  go_wp2_with (first | (go_at_call 37; refine (rbad_any _ _ _ _ _ _ _ _ h).mono ?_; rintro e w1 ⟨y, rfl, hy, hw⟩; obtain rfl := Wrong.unique hy hx; have h' := h.keep hw) | (go_at_call 28; refine (rcols_any _ _ _ _ _ _ _ _ h').mono ?_; rintro e w' ⟨rfl, hw'⟩; subst w'))
  go_ret2
  exact ⟨rfl, hw⟩

/-- rows and columns changed about -/
def tz (n : Nat) (Z : Nat → Nat → Int) (j i : Nat) : Int := if i < n then Z i j else 0
theorem tz_at (n : Nat) (Z : Nat → Nat → Int) (j i : Nat) (h : i < n) : tz n Z j i = Z i j := by unfold tz; rw [if_pos h]
theorem tz_bd {n : Nat} {Z : Nat → Nat → Int} (h : ∀ i, i < n → ∀ j, 0 ≤ Z i j ∧ Z i j < 256) (j i : Nat) : 0 ≤ tz n Z j i ∧ tz n Z j i < 256 := by
  unfold tz; split
  · exact h i ‹_› j
  · decide

set_option maxHeartbeats 2000000 in
theorem turned_ok (A : Option Addr) (n cap m : Nat) (R : Nat → Option Addr) (L C : Nat → Nat) (Z : Nat → Nat → Int) (w : World) (h : MatAt w A n R L C Z) (hx : Wrong n L 0) (hn : n ≤ 32) (hc : colsI n L = (m : Int)) (hm : m ≤ 32) (hLm : Hid (∀ r, r < n → L r = m)) :
    Calls Try.prog 27 #[.slice A n cap] w fun e w' => ∃ v R' C', e = .returned (.tuple #[v, .int .i64 0]) ∧ OwnMat w' w.heap.size v m R' (fun _ => n) C' (tz n Z) ∧ Bw w w' := by
  obtain ⟨i0, hi0, hz0, hz1, hz2⟩ := info_parts info_u8
  obtain ⟨j0, hj0, hy0, hy1, hy2⟩ := info_parts info_row
  go_enter Try.func27, Try.ntmps27
  go_wp2_with (first | (go_at_call 37; refine (rbad_any _ _ _ _ _ _ _ _ h).mono ?_; rintro e w1 ⟨y, rfl, hy, hw⟩; obtain rfl := Wrong.unique hy hx; have h' := h.keep hw) | (go_at_call 28; refine (rcols_any _ _ _ _ _ _ _ _ h').mono ?_; rintro e w' ⟨rfl, hw'⟩; subst w'))
  go_loopw [5, 6] (fun v i wr => ∃ (k : Nat) (R' : Nat → Option Addr) (L' C' : Nat → Nat) (Z' : Nat → Nat → Int), k ≤ m ∧ i = .int .i64 k ∧ OwnMat wr w.heap.size v k R' L' C' Z' ∧ Hid (∀ r, r < k → L' r = n ∧ Z' r = tz n Z r) ∧ Bw w wr) (fun _ i _ => m - (intOf i).toNat)
  case atStart => exact ⟨0, fun _ => none, fun _ => 0, fun _ => 0, Z, Nat.zero_le _, rfl, OwnMat.nil _ _ _ _ _ _, (fun r hr => by omega), hw⟩
  case round =>
    rename World => wo
    obtain ⟨k, R', L', C', Z', hk, rfl, hmat, hsame, hwr⟩ := hrel
    have hr := h.keep hwr
    by_cases hlt : k < m
    · have hsz := hwr.size
      have hmx2 : k + 1 ≤ maxLen := by unfold maxLen; omega
      go_wp2_with (go_at_call 28; refine (rcols_any _ _ _ _ _ _ _ _ hr).mono ?_; rintro e w' ⟨rfl, hw'⟩; subst w')
      go_loopw [7, 8] (fun v i ws => ∃ j : Nat, j ≤ n ∧ i = .int .i64 j ∧ ws.ownsRow wo.heap.size 5 1 v j (cellsU (tz n Z k) j) ∧ Bw wo ws) (fun _ i _ => n - (intOf i).toNat)
      case atStart => exact ⟨0, Nat.zero_le _, rfl, World.ownsRow_nil _ _ _ _, Bw.refl _⟩
      case round =>
        obtain ⟨j, hj, rfl, hown, hws⟩ := hrel
        by_cases hjn : j < n
        · have hLj := hLm.out j hjn
          obtain ⟨b1, o1, rfl, hc1⟩ := (hr.keep hws).at hjn
          have h1 := hc1 j hjn
          obtain ⟨b2, o2, e2, hc2⟩ := ((hr.keep hws).2 j hjn).at (k := k) (by omega)
          have h2 := hc2 k (by omega)
          have hssz := hws.size
          have l1 : b1 < wr.heap.size := block_lt_of_cell h1
          have l2 : b2 < wr.heap.size := block_lt_of_cell h2
          have hmx : j + 1 ≤ maxLen := by unfold maxLen; omega
          have hkL : (k : Int) < (L j : Int) := by omega
          rw [e2] at h1
          clear hc1 hc2 e2 hLj
          go_wp2_with (at_builtin; refine wpList_append_lies _ (by rfl) (.tmp 33) (.tmp 41) _ (by rfl) wo.heap.size 5 i0 _ 1 1 Try.underlying22 hi0 hz0 hz1 hz2 rfl (by omega) _ _ _ (by rfl) (hown.alloc _) ⟨wr.heap.size, 0, none⟩ 1 1 [.int .u8 (Z j k)] (by rfl) (by rfl) (World.news_of_block (cs := #[.int .u8 (Z j k)]) (t := 5) (fr := (0, 0)) (heap_alloc_new wr _)) (by simp [Value.oneCell']) (by omega) hmx (by omega) (by simp; omega) (wr.heap.size + 1) (by simp) ?_; intro gg cc w2 hown2 hgrow2 hat hlt')
          go_roundw
          case rel => exact ⟨j + 1, by omega, by go_num, by rw [cellsU_succ, tz_at n Z k j hjn]; exact hown2, (Below.alloc hws hssz _).grown hgrow2 (by simp; omega) (own_ge hown)⟩
          case measure => simp [intOf]; omega
        · have ek : n = j := by omega
          subst ek
          obtain ⟨A1, c1, rfl, hl1, hcc1, hrow1, hA1⟩ := row_of_own (tz_bd (fun i hi => (h.2 i hi).2) k) hown
          have hssz := hws.size
          go_wp2_with (at_builtin; refine wpList_append_lies _ (by rfl) (.tmp 43) (.tmp 45) _ (by rfl) w.heap.size 22 j0 _ 1 24 Try.underlying30 hj0 hy0 hy1 hy2 rfl (by omega) _ _ _ (by rfl) ((own_keep hmat.own hws).alloc _) ⟨wr.heap.size, 0, none⟩ 1 1 [.slice A1 n c1] (by rfl) (by rfl) (World.news_of_block (cs := #[.slice A1 n c1]) (t := 22) (fr := (0, 0)) (heap_alloc_new wr _)) (by simp [Value.oneCell']) (by omega) hmx2 (by omega) (by simp; omega) (wr.heap.size + 1) (by simp) ?_; intro gg c2 w2 hown2 hgrow2 hat hlt')
          have hp := OwnMat.push hmat hws hsz hrow1 ⟨hl1, hcc1⟩ hA1 hgrow2 hat hown2
          go_roundw
          case rel => exact ⟨k + 1, _, _, _, _, by omega, by go_num, hp.1, same_upd (L := fun _ => n) (Z := tz n Z) hsame, hwr.trans' hp.2⟩
          case measure => simp [intOf]; omega
    · have ek : m = k := by omega
      subst ek
      go_wp2_with (go_at_call 28; refine (rcols_any _ _ _ _ _ _ _ _ hr).mono ?_; rintro e w' ⟨rfl, hw'⟩; subst w')
      go_ret2
      exact ⟨_, _, _, rfl, hmat.congr hsame, hwr⟩

end Go.Proofs.Ytpgjkhlffcomgaa
