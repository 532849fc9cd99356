/- Contract of the program's own words. -/
import Derived.Test.YtcpapaceggnaoaaDoorE1
namespace Go.Proofs.YtcpapaceggnaoaaDoor
open Go.RowKit Go.Deep
set_option linter.unusedVariables false

/-- what the first k bytes of word t make -/
def pw (b : Nat → Nat) (t : Nat) : Nat → Nat
  | 0 => 0
  | k + 1 => pw b t k * 256 % 4294967296 ||| b (4 * t + k)
theorem pw_lt {b : Nat → Nat} (hb : ∀ i, b i < 256) (t : Nat) : ∀ k, pw b t k < 4294967296
  | 0 => by show (0 : Nat) < 4294967296; decide
  | k + 1 => Sha.or_lt (Nat.mod_lt _ (by decide)) (by have := hb (4 * t + k); omega)
theorem or_add (a c : Nat) (h : c < 256) : a * 256 ||| c = a * 256 + c := by
  have := Nat.two_pow_add_eq_or_of_lt (i := 8) (b := c) h a
  rw [show (2 : Nat) ^ 8 * a = a * 256 by omega] at this
  exact this.symm
theorem or_mul (a c q : Nat) : (a ||| c) * 2 ^ q = a * 2 ^ q ||| c * 2 ^ q := by
  rw [← Nat.shiftLeft_eq, ← Nat.shiftLeft_eq, ← Nat.shiftLeft_eq, Nat.shiftLeft_or_distrib]
theorem pw_word {b : Nat → Nat} (hb : ∀ i, b i < 256) (t : Nat) : pw b t 4 = Sha.word b t := by
  have h0 := hb (4 * t)
  have h1 := hb (4 * t + 1)
  have h2 := hb (4 * t + 2)
  have h3 := hb (4 * t + 3)
  have e1 : pw b t 1 = b (4 * t) := by
    show 0 * 256 % 4294967296 ||| b (4 * t + 0) = _
    rw [Nat.add_zero]; exact Nat.zero_or _
  have e2 : pw b t 2 = b (4 * t) * 256 ||| b (4 * t + 1) := by
    show pw b t 1 * 256 % 4294967296 ||| _ = _
    rw [e1, Nat.mod_eq_of_lt (by omega)]
  have e3 : pw b t 3 = (b (4 * t) * 256 ||| b (4 * t + 1)) * 256 ||| b (4 * t + 2) := by
    show pw b t 2 * 256 % 4294967296 ||| _ = _
    rw [e2, Nat.mod_eq_of_lt (by rw [or_add _ _ h1]; omega)]
  show pw b t 3 * 256 % 4294967296 ||| _ = _
  rw [e3, Nat.mod_eq_of_lt (by rw [or_add _ _ h2, or_add _ _ h1]; omega)]
  unfold Sha.word
  rw [show (256 : Nat) = 2 ^ 8 by decide, or_mul, or_mul, or_mul, show (16777216 : Nat) = 2 ^ 8 * 2 ^ 8 * 2 ^ 8 by decide, show (65536 : Nat) = 2 ^ 8 * 2 ^ 8 by decide, Nat.mul_assoc, Nat.mul_assoc, Nat.mul_assoc, Nat.mul_assoc]

/-- the words up to t, and what k bytes make of word t -/
def wupto (b : Nat → Nat) (t k i : Nat) : Nat := if i < t then Sha.word b i else if i = t then pw b t k else 0
theorem wupto_at (b : Nat → Nat) (t k : Nat) : wupto b t k t = pw b t k := by unfold wupto; rw [if_neg (by omega), if_pos rfl]
theorem wupto_next {b : Nat → Nat} (hb : ∀ i, b i < 256) (t i : Nat) : wupto b (t + 1) 0 i = wupto b t 4 i := by
  unfold wupto
  by_cases h : i < t
  · rw [if_pos (by omega), if_pos h]
  · by_cases e : i = t
    · subst e; rw [if_pos (by omega), if_neg (by omega), if_pos rfl, pw_word hb]
    · rw [if_neg (by omega), if_neg h, if_neg e]
      by_cases e2 : i = t + 1
      · rw [if_pos e2]; rfl
      · rw [if_neg e2]
theorem wupto_ne (b : Nat → Nat) (t k k' i : Nat) (h : i ≠ t) : wupto b t k i = wupto b t k' i := by
  unfold wupto; rw [if_neg (c := i = t) h, if_neg (c := i = t) h]

set_option maxRecDepth 100000 in
set_option maxHeartbeats 4000000 in
theorem pwords_any (A : Option Addr) (L ca : Nat) (f : Nat → Int) (hL : 64 ≤ L) (hL2 : L ≤ ca) (hca : ca ≤ maxLen) (w : World) (hrow : RowAt w A L f) :
    Calls Tryd.prog 28 #[.slice A L ca] w fun e w' => e = .returned (.agg (cw 16 (Sha.word (nbD f)))) ∧ Bw w w' := by
  have hz := zero16
  have hi16 := cw_info16
  have hnb := nbD_lt hrow.2
  obtain ⟨b, off, rfl, -⟩ := hrow.at (k := 0) (by omega)
  have hbl := hrow.lt (k := 0) (by omega)
  go_enter Tryd.func28, Tryd.ntmps28
  go_wp2
  go_loopw [7] (fun i wr => ∃ t : Nat, t ≤ 16 ∧ i = .int .i64 t ∧ WAt wr w.heap.size 56 16 (fun _ => 0) ∧ WAt wr (w.heap.size + 1) 56 16 (wupto (nbD f) t 0) ∧ Bw w wr) (fun i _ => 16 - (intOf i).toNat)
  case atStart => exact ⟨0, Nat.zero_le _, rfl, heap_alloc2_old _ _ _, WAt.congr (m := fun _ => 0) (heap_alloc2_new _ _ _) (fun i hi => by unfold wupto pw; rw [if_neg (by omega)]; split <;> rfl), ((Below.refl _ _).alloc (Nat.le_refl _) _).alloc (by rw [size_alloc]; omega) _⟩
  case round =>
    obtain ⟨t, ht, rfl, hZ, hW, hw⟩ := hrel
    rename World => wo
    by_cases hlt : t < 16
    · have t0 : (0 : Int) ≤ 4 * (t : Int) := by omega
      have t1 : (4 : Int) * (t : Int) ≤ 4 * (t : Int) + 4 := by omega
      have t2 : (4 : Int) * (t : Int) + 4 ≤ (ca : Int) := by omega
      have t4 : (4 * (t : Int)).toNat = 4 * t := by omega
      have t5 : (4 * (t : Int) + 4).toNat = 4 * t + 4 := by omega
      have t6 : 4 * t + 4 - 4 * t = 4 := by omega
      have t7 : ¬ ca = 4 * t := by omega
      have y0 : IntKind.i64.wrap (4 * (t : Int)) = 4 * (t : Int) := by rw [IntKind.wrap_i64]; omega
      have y1 : IntKind.i64.wrap (4 * (t : Int) + 4) = 4 * (t : Int) + 4 := by rw [IntKind.wrap_i64]; omega
      go_wp2
      go_loopw [18] (fun i wr => ∃ k : Nat, k ≤ 4 ∧ i = .int .i64 k ∧ WAt wr w.heap.size 56 16 (fun _ => 0) ∧ WAt wr (w.heap.size + 1) 56 16 (wupto (nbD f) t k) ∧ Bw w wr) (fun i _ => 4 - (intOf i).toNat)
      case atStart => exact ⟨0, Nat.zero_le _, rfl, hZ, hW, hw⟩
      case round =>
        obtain ⟨k, hk, rfl, hZ, hW, hw⟩ := hrel
        by_cases hlt4 : k < 4
        · obtain ⟨b', off', e, hc⟩ := (hrow.keep hw).at (k := 0) (by omega)
          cases e
          have c0 := hc (4 * t + k) (by omega)
          rw [nbD_eq hrow.2, show off + (4 * t + k) = off + 4 * t + k by omega] at c0
          obtain ⟨c1, c2⟩ := hW.cell (i := t) hlt
          rw [wupto_at] at c1
          have d0 := hnb (4 * t + k)
          have d1 := pw_lt hnb t k
          have t0' : (0 : Int) ≤ (t : Int) := Int.natCast_nonneg _
          have t1' : (t : Int) < 16 := by omega
          have k0 : (0 : Int) ≤ (k : Int) := Int.natCast_nonneg _
          have k1 : (k : Int) < 4 := by omega
          have v0 : ((nbD f (4 * t + k) : Nat) : Int) % 4294967296 = ((nbD f (4 * t + k) : Nat) : Int) := by omega
          have hval : Hid (bits .or .u32 (((pw (nbD f) t k : Nat) : Int) * 256 % 4294967296) ((nbD f (4 * t + k) : Nat) : Int) = ((pw (nbD f) t (k + 1) : Nat) : Int)) := by
            have := u32_or_nat (pw (nbD f) t k * 256 % 4294967296) (nbD f (4 * t + k)) (Nat.mod_lt _ (by decide)) (by omega)
            rw [Int.natCast_emod, Int.natCast_mul] at this
            exact this
          clear hc
          generalize hpk : pw (nbD f) t k = pk at *
          generalize hbk : nbD f (4 * t + k) = bk at *
          go_wp2
          go_roundw
          case rel =>
            refine ⟨k + 1, by omega, by go_num, hZ.other (by simp only; omega), hW.set hlt (by rw [wupto_at]; exact hval.out) (fun i _ hi => wupto_ne _ _ _ _ _ hi), Bw.put hw (by omega) _ _⟩
          case measure => simp [intOf]; omega
        · have ek : k = 4 := by omega
          subst ek
          go_wp2
          go_roundw
          case rel => exact ⟨t + 1, by omega, by go_num, hZ, hW.congr (fun i _ => wupto_next hnb t i), hw⟩
          case measure => simp [intOf]; omega
    · have et : t = 16 := by omega
      subst et
      have hW' : WAt wo (w.heap.size + 1) 56 16 (Sha.word (nbD f)) := hW.congr (fun i hi => by unfold wupto; rw [if_pos hi])
      obtain ⟨m, hm⟩ : ∃ m, Hid (m = Sha.word (nbD f)) := ⟨_, rfl⟩
      rw [← hm.out] at hW'
      clear hW
      unfold WAt at hW' hZ
      go_wp2_with (first
        | refine wpList_load_row rfl 56 _ rfl (w.heap.size + 1) rfl 56 (cw 16 m) (0, 0) _ hW' Tryd.underlying56 rfl (hi16 m) ?_
        | refine wpList_store_row rfl 56 _ _ rfl w.heap.size (cw 16 m) rfl rfl 56 (cw 16 (fun _ => 0)) hZ (hi16 m) (by rw [cw_size, cw_size]) (cw_all _ _) ?_)
      exact bodyPost_ret (results_cell_row Tryd.results28 _ _ w.heap.size 56 (cw 16 m) (0, 0) _ rfl (setRow_heap wo w.heap.size _ _ _ _ hZ) Tryd.underlying56 rfl (hi16 m)) rfl ⟨by rw [hm.out], setRow_bw hw (Nat.le_refl _) _⟩
end Go.Proofs.YtcpapaceggnaoaaDoor
