/- Contracts of crc's closures, of twice and of Join. -/
import Derived.Test.YtndammedmnkpbaaK6
namespace Go.Proofs.Ytndammedmnkpbaa
open Go.RowKit Go.Deep


/-- a call that takes a register m steps on -/
def FnN (w : World) (F : Value) (m : Nat) : Prop := ∃ g cur,
  (F = .func (.func 23) #[] #[.pointer (some ⟨g, 0, none⟩)] ∧ m = 8 ∧ w.heap[g]? = some (.cells cur 37 (0, 0)) ∧ ∀ j, j < 256 → cur[j]? = some (.int .u32 ((Crc.mv j : Nat) : Int))) ∨
  (F = .func (.func 27) #[] #[.pointer (some ⟨g, 0, none⟩)] ∧ w.heap[g]? = some (.cells cur 44 (0, 0)) ∧ cur.size = 32 ∧ ∀ j, j < 32 → cur[j]? = some (.int .u32 ((Crc.steps m (2 ^ j) : Nat) : Int)))

theorem FnN.keep {w w' : World} {F : Value} {m : Nat} (h : FnN w F m) (b : Bw w w') : FnN w' F m := by
  obtain ⟨g, cur, h⟩ := h
  refine ⟨g, cur, ?_⟩
  rcases h with ⟨h1, h2, h3, h4⟩ | ⟨h1, h3, h4⟩
  · exact Or.inl ⟨h1, h2, by rw [b.block g (Array.getElem?_eq_some_iff.1 h3).1, h3], h4⟩
  · exact Or.inr ⟨h1, by rw [b.block g (Array.getElem?_eq_some_iff.1 h3).1, h3], h4⟩

theorem fnA_any (x g : Nat) (hx : x < 4294967296) (w : World) (cur : Array Value) (h : w.heap[g]? = some (.cells cur 37 (0, 0))) (hc : ∀ j, j < 256 → cur[j]? = some (.int .u32 ((Crc.mv j : Nat) : Int))) :
    Calls Try.prog 23 #[.int .u32 (x : Int), .pointer (some ⟨g, 0, none⟩)] w fun e w' => e = .returned (.int .u32 (Crc.steps 8 x : Nat)) ∧ w' = w := by
  have hcell : w.cell? ⟨g, x % 256, none⟩ = some (.int .u32 ((Crc.mv (x % 256) : Nat) : Int)) := (cell_of_row w g (x % 256) cur _ _ h).trans (hc _ (by omega))
  have hr : bits .xor .u32 ((x : Int) / 256) ((Crc.mv (x % 256) : Nat) : Int) = ((Crc.steps 8 x : Nat) : Int) := by
    rw [show ((x : Int) / 256) = ((x / 256 : Nat) : Int) by omega, u32_xor_nat _ _ (by omega) (Crc.mv_lt (by omega))]
    have := Crc.mv_table x 0
    rw [Nat.xor_zero, Nat.xor_zero] at this
    rw [← this]; rfl
  go_enter Try.func23, Try.ntmps23
  go_wp2
  go_ret
  exact ⟨rfl, rfl⟩

theorem index32 (w : World) (cur : Array Value) (k : Nat) (z : Int) (hk : k < 32) (h : cur[k]? = some (.int .u32 z)) :
    (Instr.index 44 (.agg cur) (.int .i64 (k : Int))).run Try.prog w = .ok (.int .u32 z) w := by
  simp [Instr.index, run_underlying Try.underlying44, asIntOf, hk, go_sem]
  rw [h]; rfl
theorem cast_shr (x k : Nat) : (x : Int) / 2 ^ k = ((x / 2 ^ k : Nat) : Int) := by rw [Int.natCast_ediv, Int.natCast_pow]; rfl
theorem bit_and (x k : Nat) (hx : x < 4294967296) : bits .and .u32 ((x : Int) / 2 ^ k) 1 = ((x / 2 ^ k % 2 : Nat) : Int) := by
  rw [cast_shr, and_one _ (Nat.lt_of_le_of_lt (Nat.div_le_self _ _) hx)]
theorem sumBits_yes {G : Nat → Nat} {x k : Nat} (hx : x < 4294967296) (hG : ∀ i, i < 32 → G i < 4294967296) (hs : Crc.sumBits G x k < 4294967296) (hk : k < 32) (h : (bits .and .u32 ((x : Int) / 2 ^ k) 1 == 1) = true) :
    bits .xor .u32 (Crc.sumBits G x k : Int) (G k : Int) = (Crc.sumBits G x (k + 1) : Nat) := by
  rw [bit_and x k hx, beq_iff_eq] at h
  have h' : x / 2 ^ k % 2 = 1 := by omega
  rw [u32_xor_nat _ _ hs (hG k hk)]
  show _ = ((cond (x / 2 ^ k % 2 == 1) (Crc.sumBits G x k ^^^ G k) (Crc.sumBits G x k) : Nat) : Int)
  rw [h']; rfl
theorem sumBits_no {G : Nat → Nat} {x k : Nat} (hx : x < 4294967296) (h : (bits .and .u32 ((x : Int) / 2 ^ k) 1 == 1) = false) : Crc.sumBits G x (k + 1) = Crc.sumBits G x k := by
  rw [bit_and x k hx, beq_eq_false_iff_ne] at h
  have h' : x / 2 ^ k % 2 = 0 := by omega
  show cond (x / 2 ^ k % 2 == 1) (Crc.sumBits G x k ^^^ G k) (Crc.sumBits G x k) = _
  rw [h']; rfl
theorem steps_pow_lt (m : Nat) {i : Nat} (h : i < 32) : Crc.steps m (2 ^ i) < 4294967296 := Crc.steps_lt m (by have := Nat.pow_lt_pow_right (a := 2) (by decide) h; simpa using this)
theorem info32 : (Try.prog.info? 44).map (·.size) = some 32 := by kernel_rfl

theorem fnB_any (x g m : Nat) (hx : x < 4294967296) (w : World) (cur : Array Value) (h : w.heap[g]? = some (.cells cur 44 (0, 0))) (hs : cur.size = 32) (hc : ∀ j, j < 32 → cur[j]? = some (.int .u32 ((Crc.steps m (2 ^ j) : Nat) : Int))) :
    Calls Try.prog 27 #[.int .u32 (x : Int), .pointer (some ⟨g, 0, none⟩)] w fun e w' => e = .returned (.int .u32 (Crc.steps m x : Nat)) ∧ w' = w := by
  have hi : (Try.prog.info? 44).map (·.size) = some cur.size := by rw [hs]; exact info32
  have hc' : Hid (∀ j, j < 32 → cur[j]? = some (.int .u32 ((Crc.steps m (2 ^ j) : Nat) : Int))) := hc
  clear hc
  go_enter Try.func27, Try.ntmps27
  go_wp2_with (refine wpList_load_row rfl 44 _ rfl g rfl 44 cur (0, 0) _ h Try.underlying44 rfl hi ?_)
  go_loop [4, 8] (fun s i => ∃ k : Nat, k ≤ 32 ∧ i = .int .i64 k ∧ s = .int .u32 (Crc.sumBits (fun i => Crc.steps m (2 ^ i)) x k : Nat)) (fun _ i => 32 - (intOf i).toNat)
  case atStart => exact ⟨0, Nat.zero_le _, rfl, rfl⟩
  case round =>
    obtain ⟨k, hk, rfl, rfl⟩ := hrel
    by_cases hlt : k < 32
    · have h1 := index32 w cur k _ hlt (hc'.out k hlt)
      have hsb : Crc.sumBits (fun i => Crc.steps m (2 ^ i)) x k < 4294967296 := by rw [Crc.sumBits_eq]; exact Crc.steps_lt m (Nat.lt_of_le_of_lt (Nat.mod_le _ _) hx)
      go_wp2
      · rename_i hbit
        go_round
        case rel => exact ⟨k + 1, by omega, by go_num, by rw [sumBits_yes (G := fun i => Crc.steps m (2 ^ i)) hx (fun i hi => steps_pow_lt m hi) hsb hlt hbit]⟩
        case measure => simp [intOf]; omega
      · rename_i hbit
        go_round
        case rel => exact ⟨k + 1, by omega, by go_num, by rw [sumBits_no hx hbit]⟩
        case measure => simp [intOf]; omega
    · have ek : k = 32 := by omega
      subst ek
      go_wp2
      go_ret
      exact ⟨ret_int (by rw [Crc.sumBits_eq, Nat.mod_eq_of_lt (by simpa using hx)]), rfl⟩
theorem fnA_int (z : Int) (g : Nat) (z0 : 0 ≤ z) (z1 : z < 4294967296) (w : World) (cur : Array Value) (h : w.heap[g]? = some (.cells cur 37 (0, 0))) (hc : ∀ j, j < 256 → cur[j]? = some (.int .u32 ((Crc.mv j : Nat) : Int))) :
    Calls Try.prog 23 #[.int .u32 z, .pointer (some ⟨g, 0, none⟩)] w fun e w' => e = .returned (.int .u32 (Crc.steps 8 z.toNat : Nat)) ∧ w' = w := by
  have := fnA_any z.toNat g (by omega) w cur h hc
  rwa [Int.toNat_of_nonneg z0] at this
theorem fnB_int (z : Int) (g m : Nat) (z0 : 0 ≤ z) (z1 : z < 4294967296) (w : World) (cur : Array Value) (h : w.heap[g]? = some (.cells cur 44 (0, 0))) (hs : cur.size = 32) (hc : ∀ j, j < 32 → cur[j]? = some (.int .u32 ((Crc.steps m (2 ^ j) : Nat) : Int))) :
    Calls Try.prog 27 #[.int .u32 z, .pointer (some ⟨g, 0, none⟩)] w fun e w' => e = .returned (.int .u32 (Crc.steps m z.toNat : Nat)) ∧ w' = w := by
  have := fnB_any z.toNat g m (by omega) w cur h hs hc
  rwa [Int.toNat_of_nonneg z0] at this

theorem fnz32 (w : World) : (zeroValue 44).run Try.prog w = .ok (.agg (Array.replicate 32 (.int .u32 0))) w := by kernel_rfl

theorem shl_one (k : Nat) (hk : k < 32) : (2 : Int) ^ k % 4294967296 = ((2 ^ k : Nat) : Int) := by
  have : (2 : Nat) ^ k < 4294967296 := by have := Nat.pow_lt_pow_right (a := 2) (by decide) hk; simpa using this
  have e : (2 : Int) ^ k = ((2 ^ k : Nat) : Int) := by rw [Int.natCast_pow]; rfl
  rw [e]
  generalize (2 : Nat) ^ k = q at *
  omega
theorem pow_bd (k : Nat) (hk : k < 32) : (0 : Int) ≤ 2 ^ k ∧ (2 : Int) ^ k < 4294967296 ∧ ((2 : Int) ^ k).toNat = 2 ^ k := by
  have : (2 : Nat) ^ k < 4294967296 := by have := Nat.pow_lt_pow_right (a := 2) (by decide) hk; simpa using this
  have e : (2 : Int) ^ k = ((2 ^ k : Nat) : Int) := by rw [Int.natCast_pow]; rfl
  rw [e]
  generalize (2 : Nat) ^ k = q at *
  omega

set_option maxRecDepth 100000 in
theorem twice_any (F : Value) (m : Nat) (w : World) (hF : FnN w F m) :
    Calls Try.prog 24 #[F] w fun e w' => ∃ F', e = .returned F' ∧ FnN w' F' (2 * m) ∧ Bw w w' := by
  have hz := fnz32
  have hbw0 : Bw w (w.alloc (.cells (Array.replicate 32 (.int .u32 0)) 44)) := (Below.refl _ _).alloc (Nat.le_refl _) _
  go_enter Try.func24, Try.ntmps24
  go_wp2
  go_loopw [5] (fun i wr => ∃ k : Nat, k ≤ 32 ∧ i = .int .i64 k ∧ (∃ cur, wr.heap[w.heap.size]? = some (.cells cur 44 (0, 0)) ∧ cur.size = 32 ∧ ∀ j, j < k → cur[j]? = some (.int .u32 ((Crc.steps (2 * m) (2 ^ j) : Nat) : Int))) ∧ Bw w wr) (fun i _ => 32 - (intOf i).toNat)
  case atStart => exact ⟨0, Nat.zero_le _, rfl, ⟨_, heap_alloc_new _ _, by simp, fun j hj => by omega⟩, hbw0⟩
  case round =>
    obtain ⟨k, hk, rfl, ⟨cur, hcur, hs, hv⟩, hb⟩ := hrel
    by_cases hlt : k < 32
    · obtain ⟨v1, hv1⟩ : ∃ v, cur[k]? = some v := ⟨_, Array.getElem?_eq_getElem (by omega)⟩
      have hx : wr.cell? ⟨w.heap.size, k, none⟩ = some v1 := (cell_of_row wr w.heap.size k cur _ _ hcur).trans hv1
      have hf : wr.frozen? ⟨w.heap.size, k, none⟩ = false := frozen_of_row wr w.heap.size k cur _ hcur
      have hsh := shl_one k hlt
      have hpb : Hid ((0 : Int) ≤ 2 ^ k ∧ (2 : Int) ^ k < 4294967296 ∧ ((2 : Int) ^ k).toNat = 2 ^ k) := pow_bd k hlt
      have hp1 := steps_pow_lt m hlt
      obtain ⟨g, cf, hFw⟩ := hF.keep hb
      rcases hFw with ⟨rfl, rfl, hg, hcf⟩ | ⟨rfl, hg, hsf, hcf⟩
      · go_wp2_with (go_at_call 23; refine (fnA_int _ g (by have := hpb.out; omega) (by have := hpb.out; omega) _ cf hg hcf).mono ?_; rintro e w' ⟨rfl, hw'⟩; subst w'; try rw [hpb.out.2.2])
        go_roundw
        case rel =>
          refine ⟨k + 1, by omega, by go_num, ⟨_, heap_setCell_same wr _ k cur _ _ hcur, by simpa using hs, fun b hb' => ?_⟩, Bw.put hb (Nat.le_refl _) _ _⟩
          by_cases e : b = k
          · subst e; rw [Array.getElem?_setIfInBounds_self_of_lt (by omega), Nat.two_mul, Crc.steps_add]
          · rw [Array.getElem?_setIfInBounds_ne (Ne.symm e), hv b (by omega)]
        case measure => simp [intOf]; omega
      · go_wp2_with (go_at_call 27; refine (fnB_int _ g m (by have := hpb.out; omega) (by have := hpb.out; omega) _ cf hg hsf hcf).mono ?_; rintro e w' ⟨rfl, hw'⟩; subst w'; try rw [hpb.out.2.2])
        go_roundw
        case rel =>
          refine ⟨k + 1, by omega, by go_num, ⟨_, heap_setCell_same wr _ k cur _ _ hcur, by simpa using hs, fun b hb' => ?_⟩, Bw.put hb (Nat.le_refl _) _ _⟩
          by_cases e : b = k
          · subst e; rw [Array.getElem?_setIfInBounds_self_of_lt (by omega), Nat.two_mul, Crc.steps_add]
          · rw [Array.getElem?_setIfInBounds_ne (Ne.symm e), hv b (by omega)]
        case measure => simp [intOf]; omega
    · have ek : k = 32 := by omega
      subst ek
      go_wp2
      go_ret
      exact ⟨_, rfl, ⟨_, cur, Or.inr ⟨rfl, hcur, hs, hv⟩⟩, hb⟩
end Go.Proofs.Ytndammedmnkpbaa
