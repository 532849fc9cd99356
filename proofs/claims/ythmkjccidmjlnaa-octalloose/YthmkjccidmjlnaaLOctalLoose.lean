/- Proved: for every number, width, count of blanks and choice of the last byte the statement OctalLoose answers true (the document's P7.7: a plain form some of whose noughts ahead became blanks, and whose last byte became a blank or did not, is read as the same number), with no condition. -/
import Derived.Test.YthmkjccidmjlnaaV6
import Derived.Test.YthmkjccidmjlnaaK0
import Derived.ShutString
import Derived.ChangeOld
namespace Go.Proofs.Ythmkjccidmjlnaa.octalLoose
open Go.ChangeShapes Go.WideShapes Go.ChangeAt Go.RowKit
set_option linter.unusedVariables false

set_option linter.unusedSimpArgs false
/-- a plain form with k blanks ahead, and one behind where last says so -/
def blankF (N W k : Nat) (last : Bool) (c : Nat) : Int := if c < k then 32 else if c + 1 = W ∧ last = true then 32 else Oct.formF N W c
theorem blankF_bd (N W k : Nat) (last : Bool) (c : Nat) : 0 ≤ blankF N W k last c ∧ blankF N W k last c < 256 := by
  unfold blankF; split
  · decide
  · split
    · decide
    · exact Oct.formF_bd _ _ _
theorem oct_congr {f g : Nat → Int} {p : Nat} : ∀ t, (∀ i, i < t → f (p + i) = g (p + i)) → Oct.oct f p t = Oct.oct g p t
  | 0, _ => rfl
  | t + 1, h => by
    show 8 * Oct.oct f p t + (f (p + t) - 48) = 8 * Oct.oct g p t + (g (p + t) - 48)
    rw [oct_congr t (fun i hi => h i (by omega)), h t (by omega)]
theorem oct_noughts {f : Nat → Int} : ∀ k, (∀ i, i < k → f i = 48) → Oct.oct f 0 k = 0
  | 0, _ => rfl
  | k + 1, h => by
    show 8 * Oct.oct f 0 k + (f (0 + k) - 48) = 0
    rw [oct_noughts k (fun i hi => h i (by omega)), Nat.zero_add, h k (by omega)]; rfl
theorem oct_shift {f : Nat → Int} {k : Nat} (h : Oct.oct f 0 k = 0) : ∀ t, Oct.oct f 0 (k + t) = Oct.oct f k t
  | 0 => h
  | t + 1 => by
    show 8 * Oct.oct f 0 (k + t) + (f (0 + (k + t)) - 48) = 8 * Oct.oct f k t + (f (k + t) - 48)
    rw [oct_shift h t, Nat.zero_add]
theorem loose_says {N m k : Nat} (h1 : 1 ≤ m) (h2 : m ≤ 11) (hN : N < 8 ^ m) (hk : k ≤ m) (h48 : ∀ j, j < k → Oct.formF N (m + 1) j = 48) (last : Bool) : Oct.Says (m + 1) (blankF N (m + 1) k last) (N : Int) 0 0 := by
  have hN' : N < 8 ^ (m + 1 - 1) := by rw [Nat.add_sub_cancel]; exact hN
  have hd : ∀ j, k ≤ j → j < m → blankF N (m + 1) k last j = Oct.formF N (m + 1) j ∧ Oct.Digit (blankF N (m + 1) k last j) := fun j hj hm => by
    have e : blankF N (m + 1) k last j = Oct.formF N (m + 1) j := by unfold blankF; rw [if_neg (by omega), if_neg (by omega)]
    rw [e]
    refine ⟨rfl, ?_⟩
    rw [Oct.form_plain hN' (by omega)]
    unfold Oct.Digit; omega
  have hb : ∀ j, j < k → Oct.Blank (blankF N (m + 1) k last j) := fun j hj => by unfold blankF Oct.Blank; rw [if_pos hj]
  have hm0 : Oct.formF N (m + 1) m = 0 := by unfold Oct.formF Oct.plainF; rw [if_pos hN', if_neg (by omega)]; rfl
  have hall : Oct.oct (Oct.formF N (m + 1)) 0 m = (N : Int) := by
    rw [Oct.oct_plain (by omega) hN' m (by omega), Nat.add_sub_cancel, Nat.sub_self, Nat.pow_zero, Nat.div_one]
  have hk0 := oct_noughts k h48
  have hlast : blankF N (m + 1) k last m = if last = true then 32 else 0 := by
    unfold blankF; rw [if_neg (by omega)]
    by_cases hl : last = true
    · rw [if_pos ⟨rfl, hl⟩, if_pos hl]
    · rw [if_neg (fun h => hl h.2), if_neg hl, hm0]
  have h0 : ¬ blankF N (m + 1) k last 0 = 128 := by
    rcases Nat.eq_zero_or_pos k with h | h
    · have := (hd 0 (by omega) (by omega)).2; unfold Oct.Digit at this; omega
    · have := hb 0 h; unfold Oct.Blank at this; omega
  by_cases hc : k = m ∧ last = true
  · obtain ⟨rfl, rfl⟩ := hc
    rw [if_pos rfl] at hlast
    have hall' : ∀ i, i < k + 1 → Oct.Blank (blankF N (k + 1) k true i) := fun i hi => by
      rcases Nat.lt_or_ge i k with h | h
      · exact hb i h
      · rw [show i = k by omega]; exact hlast
    refine Oct.says_of (p := k + 1) (q := k + 1) (r := k + 1) (by omega) (by omega) h0 ⟨Nat.zero_le _, Nat.le_refl _, fun i _ hi => hall' i hi, fun h => by omega⟩ ⟨Nat.le_refl _, Nat.le_refl _, fun i h3 h4 => by omega, fun h => by omega⟩ ⟨Nat.le_refl _, Nat.le_refl _, fun i h3 h4 => by omega, fun h => by omega⟩ ⟨fun _ => ⟨?_, rfl, rfl⟩, fun h => by omega⟩
    rw [Nat.sub_self, ← hall, hk0]; rfl
  · have hbl : Oct.Run Oct.Blank (blankF N (m + 1) k last) (m + 1) 0 k := ⟨Nat.zero_le _, by omega, fun i _ hi => hb i hi, fun _ h => by
      unfold Oct.Blank at h
      rcases Nat.lt_or_ge k m with h3 | h3
      · have := (hd k (Nat.le_refl _) h3).2; unfold Oct.Digit at this; omega
      · have hkm : k = m := by omega
        subst hkm
        rw [hlast, if_neg (fun h => hc ⟨rfl, h⟩)] at h
        omega⟩
    have hdg : Oct.Run Oct.Digit (blankF N (m + 1) k last) (m + 1) k m := ⟨hk, by omega, fun i h3 h4 => (hd i h3 h4).2, fun _ h => by
      unfold Oct.Digit at h; rw [hlast] at h; split at h <;> omega⟩
    have htl : Oct.Run Oct.Tail (blankF N (m + 1) k last) (m + 1) m (m + 1) := ⟨by omega, Nat.le_refl _, fun i h3 h4 => by
      rw [show i = m by omega, hlast]; unfold Oct.Tail; split
      · exact Or.inr rfl
      · exact Or.inl rfl, fun h => by omega⟩
    refine Oct.says_of (by omega) (by omega) h0 hbl hdg htl ⟨fun _ => ⟨?_, rfl, rfl⟩, fun h => by omega⟩
    rw [oct_congr (g := Oct.formF N (m + 1)) (m - k) (fun i hi => (hd (k + i) (by omega) (by omega)).1), ← oct_shift hk0, show k + (m - k) = m by omega, hall]

theorem most_some (z : Int) (w : World) : Calls Try.prog 12 #[.int .i64 z] w fun e w' => ∃ c, e = .returned (.int .i64 c) ∧ w' = w := by
  by_cases h : 2 ≤ z ∧ z ≤ 12
  · obtain ⟨W, rfl⟩ := Int.eq_ofNat_of_zero_le (show 0 ≤ z by omega)
    exact (most_yes W (by omega) (by omega) w).mono (fun e w' h => ⟨_, h⟩)
  · exact (most_no z h w).mono (fun e w' h => ⟨_, h⟩)
set_option maxHeartbeats 1000000 in
theorem loose_no (n z c : Int) (l : Bool) (hn : n ≤ 9223372036854775807) (h : ¬ Oct.Has n z) (w : World) :
    Calls Try.prog 8 #[.int .i64 n, .int .i64 z, .int .i64 c, .bool l] w fun e w' => e = .returned (.bool true) ∧ Bw w w' := by
  have H : Hid (¬ Oct.Has n z) := h
  clear h
  obtain ⟨d, hc⟩ : ∃ c, Hid (c = Oct.errP n z) := ⟨_, rfl⟩
  have hne : (d != 0) = true := by rw [hc.out]; exact (Oct.errP_ne n z).1
  go_enter Try.func8, Try.ntmps8
  go_wp2_with (first
    | (go_at_call 20; refine (awake_any _).mono ?_; rintro e w1 ⟨rfl, hw1⟩)
    | (go_at_call 12; refine (most_some z _).mono ?_; rintro e w' ⟨x, rfl, hw'⟩; subst w')
    | (go_at_call 9; refine (oput_no n z hn H.out _).mono ?_; rintro e w2 ⟨rfl, hw2⟩; rw [← hc.out]))
  go_ret
  exact ⟨rfl, hw1.trans hw2⟩
set_option maxHeartbeats 1000000 in
theorem loose_wide (N m : Nat) (c : Int) (l : Bool) (hn : (N : Int) ≤ 9223372036854775807) (h : Oct.Has (N : Int) ((m : Int) + 1)) (h8 : ¬ N < 8 ^ m) (w : World) :
    Calls Try.prog 8 #[.int .i64 (N : Int), .int .i64 ((m : Int) + 1), .int .i64 c, .bool l] w fun e w' => e = .returned (.bool true) ∧ Bw w w' := by
  have H : Hid (Oct.Has (N : Int) ((m + 1 : Nat) : Int)) := h
  have m1 : 1 ≤ m := by have := h.1; omega
  have m2 : m ≤ 11 := by have := h.2.1; omega
  obtain ⟨P, hPe⟩ : ∃ P : Int, Hid (P = (8 : Int) ^ m - 1) := ⟨_, rfl⟩
  have hP : P < (N : Int) := by rw [hPe.out, pow8_cast]; omega
  clear h h8
  go_enter Try.func8, Try.ntmps8
  go_wp2_with (first
    | (go_at_call 20; refine (awake_any _).mono ?_; rintro e w1 ⟨rfl, hw1⟩)
    | (go_at_call 12; refine (most_yes (m + 1) (by omega) (by omega) _).mono ?_; rintro e w' ⟨rfl, hw'⟩; subst w'; rw [Nat.add_sub_cancel, ← hPe.out])
    | (go_at_call 9; refine (oput_yes (N : Int) (m + 1) hn H.out _).mono ?_; rintro e w2 ⟨g, rfl, ho, hg, hw2⟩; clear ho hg))
  go_ret
  exact ⟨rfl, hw1.trans hw2⟩
set_option maxRecDepth 100000 in
set_option maxHeartbeats 4000000 in
theorem loose_plain (N m : Nat) (c : Int) (l : Bool) (hn : (N : Int) ≤ 9223372036854775807) (hc1 : c ≤ 9223372036854775807) (m1 : 1 ≤ m) (m2 : m ≤ 11) (h8 : N < 8 ^ m) (w : World) :
    Calls Try.prog 8 #[.int .i64 (N : Int), .int .i64 ((m : Int) + 1), .int .i64 c, .bool l] w fun e w' => e = .returned (.bool true) ∧ Bw w w' := by
  have H : Hid (Oct.Has (N : Int) ((m + 1 : Nat) : Int)) := ⟨by omega, by omega, by omega, Or.inl (by rw [Int.toNat_natCast, Int.toNat_natCast]; exact h8)⟩
  have H8 : Hid (N < 8 ^ m) := h8
  obtain ⟨P, hPe⟩ : ∃ P : Int, Hid (P = (8 : Int) ^ m - 1) := ⟨_, rfl⟩
  have hP : ¬ P < (N : Int) := by rw [hPe.out, pow8_cast]; omega
  have HM0 : Hid (Oct.formF N (m + 1) m = 0) := by
    show _ = _
    unfold Oct.formF Oct.plainF; rw [if_pos (by rw [Nat.add_sub_cancel]; exact h8), if_neg (by omega)]; rfl
  have HS : Hid (∀ k l, k ≤ m → (∀ j, j < k → Oct.formF N (m + 1) j = 48) → Oct.Says (m + 1) (blankF N (m + 1) k l) (N : Int) 0 0) := fun k l hk h => loose_says m1 m2 h8 hk h l
  have m0 : (0 : Int) ≤ (m : Int) := Int.natCast_nonneg _
  clear h8
  go_enter Try.func8, Try.ntmps8
  go_wp2_with (first
    | (go_at_call 20; refine (awake_any _).mono ?_; rintro e w1 ⟨rfl, hw1⟩)
    | (go_at_call 12; refine (most_yes (m + 1) (by omega) (by omega) _).mono ?_; rintro e w' ⟨rfl, hw'⟩; subst w'; rw [Nat.add_sub_cancel, ← hPe.out])
    | (go_at_call 9; refine (oput_yes (N : Int) (m + 1) hn H.out _).mono ?_; rintro e w2 ⟨g, rfl, ho, hg, hw2⟩; rw [Int.toNat_natCast] at ho))
  have ho0 : BlockIs w2 g (m + 1) (blankF N (m + 1) 0 false) := ho.congr (fun j _ => by unfold blankF; rw [if_neg (by omega), if_neg (fun h => Bool.noConfusion h.2)])
  have hgs := ho0
  clear ho
  go_loopw [12] (fun i wr => ∃ k : Nat, k ≤ m ∧ i = .int .i64 (k : Int) ∧ Hid (∀ j, j < k → Oct.formF N (m + 1) j = 48) ∧ BlockIs wr g (m + 1) (blankF N (m + 1) k false) ∧ Bx (· = g) w2 wr) (fun i _ => m + 1 - (intOf i).toNat)
  case atStart => exact ⟨0, Nat.zero_le _, rfl, fun j hj => by omega, ho0, Bx.refl _ _⟩
  case round =>
    obtain ⟨k, hk, rfl, h48, hB, hx⟩ := hrel
    clear ho0 hgs
    have k0 : (0 : Int) ≤ (k : Int) := Int.natCast_nonneg _
    have t1 : (k : Int) < (m : Int) + 1 := by omega
    obtain ⟨ck, fk⟩ := hB.cell (c := k) (by omega)
    obtain ⟨x, hxe⟩ : ∃ x, Hid (x = blankF N (m + 1) k false k) := ⟨_, rfl⟩
    have hxf : Hid (x = Oct.formF N (m + 1) k) := by
      show _ = _
      rw [hxe.out]; unfold blankF; rw [if_neg (by omega), if_neg (fun h => Bool.noConfusion h.2)]
    rw [← hxe.out] at ck
    have hbd := blankF_bd N (m + 1) k false k
    rw [← hxe.out] at hbd
    have hbw : ∀ W', Bx (· = g) w2 W' → Below w.heap.size w W' := fun W' h => by
      have h2 : Bw w w2 := hw1.trans hw2
      have hs := h2.size
      have hs1 := hw1.size
      exact ⟨h.os.trans h2.os, h.tape.trans h2.tape, h.output.trans h2.output, Nat.le_trans h2.size h.size, fun b hb => (h.block b (by omega) (by omega)).trans (h2.block b hb)⟩
    have HBW : Hid (∀ W', Bx (· = g) w2 W' → Bw w W') := hbw
    clear hbw
    have hset : Hid (∀ W' : World, BlockIs W' g (m + 1) (blankF N (m + 1) k false) → BlockIs (W'.setCell ⟨g, m, none⟩ (.int .u8 32)) g (m + 1) (blankF N (m + 1) k true)) := fun W' h => h.set (by omega) (by unfold blankF; rw [if_neg (by omega), if_pos ⟨rfl, rfl⟩]) (fun d hd hne => by
      unfold blankF
      by_cases hdk : d < k
      · rw [if_pos hdk, if_pos hdk]
      · rw [if_neg hdk, if_neg hdk, if_neg (by omega), if_neg (by omega)])
    obtain ⟨cm, fm⟩ := hB.cell (c := m) (by omega)
    have hr0 := hB.row (blankF_bd N (m + 1) k false)
    have hr1 := (hset.out _ hB).row (blankF_bd N (m + 1) k true)
    by_cases hkc : (k : Int) < c
    · by_cases h4 : x = 48
      · have hkm : k < m := by
          rcases Nat.lt_or_ge k m with h | h
          · exact h
          · have e : k = m := by omega
            have := hxf.out
            rw [e, HM0.out] at this
            omega
        subst h4
        go_wp2
        go_roundw
        case rel => exact ⟨k + 1, by omega, by go_num, fun j hj => by rcases Nat.lt_or_ge j k with h | h; exact h48.out j h; rw [show j = k by omega]; exact hxf.out.symm, hB.set (by omega) (by unfold blankF; rw [if_pos (by omega)]) (fun d hd hne => by
          unfold blankF
          by_cases hdk : d < k
          · rw [if_pos hdk, if_pos (by omega)]
          · rw [if_neg hdk, if_neg (by omega)]), hx.put rfl⟩
        case measure => simp [intOf]; omega
      · have e4 : (x == 48) = false := by rw [beq_eq_false_iff_ne]; exact h4
        cases l with
        | true =>
          go_wp2_with (go_at_call 15; refine (oget_still _ (m + 1) (m + 1) (blankF N (m + 1) k true) (Nat.le_refl _) _ hr1).mono ?_; rintro e w' ⟨⟨n1, a1, er1, rfl, hs1⟩, hw'⟩; subst w'; obtain ⟨rfl, rfl, rfl⟩ := Oct.says_unique (HS.out k true hk h48.out) hs1; clear hs1)
          go_ret
          exact ⟨rfl, HBW.out _ (hx.put rfl)⟩
        | false =>
          go_wp2_with (go_at_call 15; refine (oget_still _ (m + 1) (m + 1) (blankF N (m + 1) k false) (Nat.le_refl _) _ hr0).mono ?_; rintro e w' ⟨⟨n1, a1, er1, rfl, hs1⟩, hw'⟩; subst w'; obtain ⟨rfl, rfl, rfl⟩ := Oct.says_unique (HS.out k false hk h48.out) hs1; clear hs1)
          go_ret
          exact ⟨rfl, HBW.out _ hx⟩
    · cases l with
      | true =>
        go_wp2_with (go_at_call 15; refine (oget_still _ (m + 1) (m + 1) (blankF N (m + 1) k true) (Nat.le_refl _) _ hr1).mono ?_; rintro e w' ⟨⟨n1, a1, er1, rfl, hs1⟩, hw'⟩; subst w'; obtain ⟨rfl, rfl, rfl⟩ := Oct.says_unique (HS.out k true hk h48.out) hs1; clear hs1)
        go_ret
        exact ⟨rfl, HBW.out _ (hx.put rfl)⟩
      | false =>
        go_wp2_with (go_at_call 15; refine (oget_still _ (m + 1) (m + 1) (blankF N (m + 1) k false) (Nat.le_refl _) _ hr0).mono ?_; rintro e w' ⟨⟨n1, a1, er1, rfl, hs1⟩, hw'⟩; subst w'; obtain ⟨rfl, rfl, rfl⟩ := Oct.says_unique (HS.out k false hk h48.out) hs1; clear hs1)
        go_ret
        exact ⟨rfl, HBW.out _ hx⟩
theorem walk (a0 : Int) (a1 : Int) (a2 : Int) (a3 : Bool) (w : World) (w0 : (Lit.int .i64 a0).wf = true) (w1 : (Lit.int .i64 a1).wf = true) (w2 : (Lit.int .i64 a2).wf = true) :
    Calls Try.prog 8 #[.int .i64 a0, .int .i64 a1, .int .i64 a2, .bool a3] w fun e w' => e = .returned (.bool true) ∧ Below w.heap.size w w' := by
  have b0 := bounds_i64 w0
  have b2 := bounds_i64 w2
  by_cases h : Oct.Has a0 a1
  · obtain ⟨N, rfl⟩ := Int.eq_ofNat_of_zero_le h.2.2.1
    obtain ⟨m, rfl⟩ : ∃ m : Nat, a1 = (m : Int) + 1 := ⟨(a1 - 1).toNat, by have := h.1; omega⟩
    by_cases h8 : N < 8 ^ m
    · exact loose_plain N m a2 a3 (by omega) (by omega) (by have := h.1; omega) (by have := h.2.1; omega) h8 w
    · exact loose_wide N m a2 a3 (by omega) h h8 w
  · exact loose_no a0 a1 a2 a3 (by omega) h w

set_option maxRecDepth 100000 in
theorem lifted (os : Os) (started : os.Started) (H : Type) (enc : TypeId × Value → H) :
    ReturnsInHanded {} Try.checked os 8 .any (Rows.octalLooseSpec.pre6 enc Try.prog Try.f8 Rows.octalLooseRow.domain false) (Rows.octalLooseSpec.post enc Try.prog Try.f8 false true false false) := by
  refine returnsInHanded_of_change_sized (C := Try.checked) own started (by kernel_rfl) Try.func8
    (ChangeSpec.witness6 (enc := enc) (C := Try.checked) false ⟨#[], #[.int .i64 0, .int .i64 0, .int .i64 0, .bool false], []⟩ 8 (by kernel_rfl) (by kernel_rfl) (by kernel_rfl) (by kernel_rfl)) ?_
  intro W base args ds gs before hval0 hW hcnd hsz0 _
  have hval : ∀ (j : Nat) t v, Try.f8.params[j]? = some t → args[j]? = some v → Value.okWide Try.prog W .any base t v := hval0
  have hW' := hW
  obtain ⟨p, q, hA0, hV, rfl, hfz, hnd⟩ := hW
  have hA : DataW.TrodAll enc Try.prog W 0 (fun _ => true) true Try.f8.params.toList args.toList ds p := hA0
  have hsz : (DataW.weightsEach Try.prog (Try.f8.params.toList ++ Rows.octalLooseSpec.plain.varTypes Try.prog) (ds ++ gs)).all (· ≤ reachBytes) = true := hsz0
  rw [Try.params8] at hA hval hsz
  obtain ⟨v0, vs0, d0, ds0, p0, q0, hargs, rfl, rfl, h0, r0⟩ := trodAll_cons hA
  obtain ⟨v1, vs1, d1, ds1, p1, q1, rfl, rfl, rfl, h1, r1⟩ := trodAll_cons r0
  obtain ⟨v2, vs2, d2, ds2, p2, q2, rfl, rfl, rfl, h2, r2⟩ := trodAll_cons r1
  obtain ⟨v3, vs3, d3, ds3, p3, q3, rfl, rfl, rfl, h3, r3⟩ := trodAll_cons r2
  obtain ⟨rfl, rfl, rfl⟩ := trodAll_nil r3
  obtain rfl : args = #[v0, v1, v2, v3] := by cases args; simp_all
  obtain ⟨rfl, rfl⟩ := trodVars_none hV
  obtain ⟨a0, rfl, rfl, rfl, w0⟩ := open_int Try.underlying3 (hval 0 3 v0 rfl rfl) h0
  obtain ⟨a1, rfl, rfl, rfl, w1⟩ := open_int Try.underlying3 (hval 1 3 v1 rfl rfl) h1
  obtain ⟨a2, rfl, rfl, rfl, w2⟩ := open_int Try.underlying3 (hval 2 3 v2 rfl rfl) h2
  obtain ⟨a3, rfl, rfl, rfl⟩ := open_bool Try.underlying4 (hval 3 4 v3 rfl rfl) h3
  clear hA0 hval0
  refine (walk a0 a1 a2 a3 W w0 w1 w2).mono fun e W' ⟨he, bel⟩ => ?_
  subst he
  exact ⟨_, rfl, _, _, _, [], _, [], hW', trodAll_mk1 (shut_bool Try.underlying4 _), (trodAll_cons_mk (shut_int Try.underlying3 w0) (trodAll_cons_mk (shut_int Try.underlying3 w1) (trodAll_cons_mk (shut_int Try.underlying3 w2) (trodAll_cons_mk (shut_bool Try.underlying4 a3) trodAll_mk0)))), rfl, bel.frame _, fun h => by cases h⟩

theorem over : Rows.octalLooseRow.holds Try.pinned (OpenSpec.ofChange Rows.octalLooseSpec) :=
  OpenClaim.holds_of_wide 8 Try.f8 rfl rfl rfl rfl rfl rfl rfl ⟨rfl, rfl, rfl, rfl, rfl⟩ rfl rfl rfl rfl rfl (by kernel_rfl) Try.func8 (by kernel_rfl)
    (of_decide_eq_true (by kernel_rfl)) (by unfold Func.isWrapper; first | (rw [if_pos (by decide +kernel)]; kernel_rfl) | (rw [if_neg (by decide +kernel)]; exact ⟨rfl, rfl⟩))
    (fun os started H enc _ => lifted os started H enc)

theorem proved : Rows.OctalLooseSaid := over
#print axioms proved
end Go.Proofs.Ythmkjccidmjlnaa.octalLoose
