/- Contracts of crc's More and Sum, and of the document's: the register behind all bytes. -/
import Derived.Test.YtcnafcoifhdigaaK2
import Derived.RowKit3
namespace Go.Proofs.Ytcnafcoifhdigaa
open Go.RowKit

/-- a row's numbers as naturals -/
def nb (f : Nat → Int) : Nat → Nat := fun i => (f i).toNat
theorem nb_lt {f : Nat → Int} (h : ∀ i, 0 ≤ f i ∧ f i < 256) (i : Nat) : nb f i < 256 := by have := h i; unfold nb; omega
theorem nb_eq {f : Nat → Int} (h : ∀ i, 0 ≤ f i ∧ f i < 256) (i : Nat) : f i = ((nb f i : Nat) : Int) := by have := h i; unfold nb; omega

def partsSaid (T : Array Value) : Prop := ∀ W : World, Calls Try.prog 34 #[] W fun e w' => e = .returned (.agg T) ∧ Bw W w'
theorem parts_said : partsSaid (tabP 256) := fun W =>
  (parts_any W).mono fun e w' ⟨he, hw⟩ => ⟨he, by subst hw; exact Below.alloc (Below.alloc (Bw.refl _) (Nat.le_refl _) _) (by rw [size_alloc]; omega) _⟩

theorem reg_succ {x k : Nat} {f : Nat → Nat} (hx : x < 4294967296) (hf : ∀ i, f i < 256) :
    bits .xor .u32 ((Crc.reg x f k : Int) / 256) ((Crc.mv (Crc.reg x f k % 256 ^^^ f k) : Nat) : Int) = ((Crc.reg x f (k + 1) : Nat) : Int) := by
  have h1 := Crc.reg_lt hx hf k
  have h2 : Crc.reg x f k % 256 ^^^ f k < 256 := Crc.xor_lt8 (by omega) (hf k)
  rw [show ((Crc.reg x f k : Int) / 256) = ((Crc.reg x f k / 256 : Nat) : Int) by omega, u32_xor_nat _ _ (by omega) (Crc.mv_lt (by omega)), ← Crc.mv_table]
  rfl

theorem not32 (s : Nat) (hs : s < 4294967296) : bits .xor .u32 IntKind.u32.max (s : Int) = ((s ^^^ Crc.ones : Nat) : Int) := by
  rw [show IntKind.u32.max = ((Crc.ones : Nat) : Int) by decide, u32_xor_nat _ _ (by decide) hs, Nat.xor_comm]

set_option maxRecDepth 100000 in
theorem more_gen (T Z : Array Value) (hC : partsSaid T) (hz : ∀ w, (zeroValue 56).run Try.prog w = .ok (.agg Z) w) (hZ : Z.size = T.size) (hi : (Try.prog.info? 56).map (·.size) = some T.size) (ha : Hid (T.all (·.oneCell') = true))
    (hT : Hid (∀ j, j < 256 → T[j]? = some (.int .u32 ((Crc.mv j : Nat) : Int))))
    (A : Option Addr) (L ca : Nat) (f : Nat → Int) (s : Nat) (hs : s < 4294967296) (hL : L ≤ 140737488355328) (w : World) (hrow : RowAt w A L f) :
    Calls Try.prog 31 #[.int .u32 (s : Int), .slice A L ca] w fun e w' => e = .returned (.int .u32 (Crc.more s (nb f) L : Nat)) ∧ Bw w w' := by
  go_enter Try.func31, Try.ntmps31
  go_wp2_with (first | (go_at_call 34; refine (hC _).mono ?_; rintro e w1 ⟨rfl, hg⟩) | (refine wpList_store_row rfl 56 _ _ rfl _ T rfl rfl 56 Z (heap_alloc_new _ _) hi hZ ha ?_; rw [setRow_alloc_new]))
  rw [not32 s hs]
  have hx : s ^^^ Crc.ones < 4294967296 := Crc.xor_lt32 hs (by decide)
  have hnb := nb_lt hrow.2
  have hw1 : Bw w (w1.alloc (.cells T 56)) := Below.alloc hg hg.size _
  go_loop [6, 14] (fun r i => ∃ k : Nat, k ≤ L ∧ i = .int .i64 k ∧ r = .int .u32 (Crc.reg (s ^^^ Crc.ones) (nb f) k : Nat)) (fun _ i => L - (intOf i).toNat)
  case atStart => exact ⟨0, Nat.zero_le _, rfl, rfl⟩
  case round =>
    obtain ⟨k, hk, rfl, rfl⟩ := hrel
    by_cases hlt : k < L
    · obtain ⟨b1, o1, rfl, hc1⟩ := (hrow.keep hw1).at hlt
      have h1 := hc1 k hlt
      rw [nb_eq hrow.2 k] at h1
      have h2 := hnb k
      have h3 := Crc.reg_lt hx hnb k
      have h4 : Crc.reg (s ^^^ Crc.ones) (nb f) k % 256 ^^^ nb f k < 256 := Crc.xor_lt8 (by omega) h2
      have h5 := hT.out _ h4
      have h6 : bits .xor .u8 ((Crc.reg (s ^^^ Crc.ones) (nb f) k : Int) % 256) (nb f k : Int) = ((Crc.reg (s ^^^ Crc.ones) (nb f) k % 256 ^^^ nb f k : Nat) : Int) := u8_xor_nat (Crc.reg (s ^^^ Crc.ones) (nb f) k % 256) (nb f k) (by omega) h2
      have h7 := reg_succ (k := k) hx hnb
      clear hc1
      go_wp2
      go_round
      case rel => exact ⟨k + 1, by omega, by go_num, by rw [← h7]⟩
      case measure => simp [intOf]; omega
    · have ek : k = L := by omega
      subst ek
      go_wp2
      go_ret
      exact ⟨ret_int (not32 _ (Crc.reg_lt hx hnb _)), hw1⟩
theorem more_any (A : Option Addr) (L ca : Nat) (f : Nat → Int) (s : Nat) (hs : s < 4294967296) (hL : L ≤ 140737488355328) (w : World) (hrow : RowAt w A L f) :
    Calls Try.prog 31 #[.int .u32 (s : Int), .slice A L ca] w fun e w' => e = .returned (.int .u32 (Crc.more s (nb f) L : Nat)) ∧ Bw w w' :=
  more_gen (tabP 256) zerosP parts_said zeroP (by rw [tabP_size]; exact tabP_size 0) (by rw [tabP_size]; kernel_rfl) (tabP_all 256) tabP_mv A L ca f s hs hL w hrow

theorem sum_any (A : Option Addr) (L ca : Nat) (f : Nat → Int) (hL : L ≤ 140737488355328) (w : World) (hrow : RowAt w A L f) :
    Calls Try.prog 26 #[.slice A L ca] w fun e w' => e = .returned (.int .u32 (Crc.more 0 (nb f) L : Nat)) ∧ Bw w w' := by
  go_enter Try.func26, Try.ntmps26
  go_wp2_with (go_at_call 31; refine (more_any A L ca f 0 (by decide) hL _ hrow).mono ?_; rintro e w1 ⟨rfl, hw1⟩)
  go_ret
  exact ⟨rfl, hw1⟩

theorem rmore_any (A : Option Addr) (L ca : Nat) (f : Nat → Int) (s : Nat) (hs : s < 4294967296) (hL : L ≤ 140737488355328) (w : World) (hrow : RowAt w A L f) :
    Calls Try.prog 27 #[.int .u32 (s : Int), .slice A L ca] w fun e w' => e = .returned (.int .u32 (Crc.more s (nb f) L : Nat)) ∧ Bw w w' := by
  have hx : s ^^^ Crc.ones < 4294967296 := Crc.xor_lt32 hs (by decide)
  have hnb := nb_lt hrow.2
  go_enter Try.func27, Try.ntmps27
  go_wp2
  rw [not32 s hs]
  go_loopw [5, 6] (fun r i wr => ∃ k : Nat, k ≤ L ∧ i = .int .i64 k ∧ r = .int .u32 (Crc.reg (s ^^^ Crc.ones) (nb f) k : Nat) ∧ Bw w wr) (fun _ i _ => L - (intOf i).toNat)
  case atStart => exact ⟨0, Nat.zero_le _, rfl, rfl, Bw.refl _⟩
  case round =>
    obtain ⟨k, hk, rfl, rfl, hw⟩ := hrel
    by_cases hlt : k < L
    · obtain ⟨b1, o1, rfl, hc1⟩ := (hrow.keep hw).at hlt
      have h1 := hc1 k hlt
      rw [nb_eq hrow.2 k] at h1
      have h2 := hnb k
      have h3 := Crc.reg_lt hx hnb k
      clear hc1
      go_wp2_with (go_at_call 32; refine (take_any _ _ h3 h2 _).mono ?_; rintro e w' ⟨rfl, hw'⟩; subst w')
      go_roundw
      case rel => exact ⟨k + 1, by omega, by go_num, rfl, hw⟩
      case measure => simp [intOf]; omega
    · have ek : k = L := by omega
      subst ek
      go_wp2
      go_ret
      exact ⟨ret_int (not32 _ (Crc.reg_lt hx hnb _)), hw⟩

theorem rsum_any (A : Option Addr) (L ca : Nat) (f : Nat → Int) (hL : L ≤ 140737488355328) (w : World) (hrow : RowAt w A L f) :
    Calls Try.prog 19 #[.slice A L ca] w fun e w' => e = .returned (.int .u32 (Crc.more 0 (nb f) L : Nat)) ∧ Bw w w' := by
  go_enter Try.func19, Try.ntmps19
  go_wp2_with (go_at_call 27; refine (rmore_any A L ca f 0 (by decide) hL _ hrow).mono ?_; rintro e w1 ⟨rfl, hw1⟩)
  go_ret
  exact ⟨rfl, hw1⟩

end Go.Proofs.Ytcnafcoifhdigaa
