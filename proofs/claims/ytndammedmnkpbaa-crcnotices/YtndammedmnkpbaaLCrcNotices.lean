/- Proved: for every row of bytes, every place and every change the statement CrcNotices answers true (the document's P4.5: sealed bytes that are changed anywhere within 32 bits side by side are not opened, and unchanged ones are, as they were), with no condition but the reach. -/
import Derived.Test.YtndammedmnkpbaaK7
import Derived.BigRegion
import Derived.Test.YtndammedmnkpbaaK0
import Derived.ShutString
import Derived.ChangeOld
namespace Go.Proofs.Ytndammedmnkpbaa.crcNotices
open Go.ChangeShapes Go.WideShapes Go.ChangeAt Go.RowKit
set_option linter.unusedVariables false

theorem notices_great (A : Option Addr) (L ca : Nat) (c u : Int) (w : World) (h : 65536 < L) :
    Calls Try.prog 7 #[.slice A L ca, .int .i64 c, .int .u32 u] w fun e w' => e = .returned (.bool true) ∧ Bw w w' := by
  go_enter Try.func7, Try.ntmps7
  go_wp2_with (go_at_call 9; refine (wakes_any _).mono ?_; rintro e w1 ⟨rfl, hw1⟩)
  go_ret
  exact ⟨rfl, hw1⟩

theorem str_congr {f g : Nat → Int} {n : Nat} (h : ∀ i, i < n → f i = g i) : str f n = str g n := by
  unfold str
  rw [List.map_congr_left (fun i hi => h i (List.mem_range.1 hi))]
theorem str_seal (f : Nat → Int) (n : Nat) : str (sealF f n) n = str f n := str_congr (fun i hi => by unfold sealF; rw [if_pos hi])

theorem place_at (L : Nat) (c : Int) : ∃ p : Nat, p ≤ 8 * L ∧ ((c.tmod (8 * ((L : Int) + 4) - 31) + (8 * ((L : Int) + 4) - 31)).tmod (8 * ((L : Int) + 4) - 31) = (p : Int)) := by
  have h2 := Int.lt_tmod_of_pos c (b := 8 * ((L : Int) + 4) - 31) (by omega)
  have h3 := Int.tmod_nonneg (a := c.tmod (8 * ((L : Int) + 4) - 31) + (8 * ((L : Int) + 4) - 31)) (8 * ((L : Int) + 4) - 31) (by omega)
  have h4 := Int.tmod_lt_of_pos (c.tmod (8 * ((L : Int) + 4) - 31) + (8 * ((L : Int) + 4) - 31)) (b := 8 * ((L : Int) + 4) - 31) (by omega)
  exact ⟨((c.tmod (8 * ((L : Int) + 4) - 31) + (8 * ((L : Int) + 4) - 31)).tmod (8 * ((L : Int) + 4) - 31)).toNat, by omega, by omega⟩

/-- a seal with the first k bits of a change -/
def chgF (f : Nat → Int) (L u p k j : Nat) : Int := ((nb (sealF f L) j ^^^ Crc.byteAt (Crc.chg u p k) j : Nat) : Int)
theorem chgF_bd {f : Nat → Int} (hf : ∀ i, 0 ≤ f i ∧ f i < 256) (L u p k j : Nat) : 0 ≤ chgF f L u p k j ∧ chgF f L u p k j < 256 := by
  unfold chgF
  have := Crc.xor_lt8 (nb_lt (sealF_bd hf L) j) (Crc.byteAt_lt (Crc.chg u p k) j)
  omega

set_option maxHeartbeats 4000000 in
theorem notices_zero (A : Option Addr) (L ca : Nat) (f : Nat → Int) (c : Int) (w : World) (h : L ≤ 65536) (ha : RowAt w A L f) :
    Calls Try.prog 7 #[.slice A L ca, .int .i64 c, .int .u32 0] w fun e w' => e = .returned (.bool true) ∧ Bw w w' := by
  have hsb := sealF_bd ha.2 L
  go_enter Try.func7, Try.ntmps7
  go_wp2_with (first
    | (go_at_call 14; refine (seal_any A L ca f (by omega) _ ha).mono ?_; rintro e w1 ⟨g, cap, rfl, hown, hg, hcap, hcm, hw1⟩)
    | (go_at_call 15; refine (open_any _ (L + 4) _ (sealF f L) (by omega) _ (hown.row hsb) (by omega)).mono ?_; rintro e w2 ⟨A2, n2, cap2, x2, rfl, hx2, hrow2, hw2⟩; obtain ⟨rfl, hn2⟩ := open9 (m := L) hx2 (seal_open f L); obtain rfl := hn2.symm; have cv1 := conv_row (C := cap2) hrow2.row; rw [str_seal] at cv1; have cv2 := conv_row (C := ca) ((ha.keep hw1).keep hw2))
    | (go_at_call 9; refine (wakes_any _).mono ?_; rintro e w3 ⟨rfl, hw3⟩))
  go_ret
  exact ⟨rfl, hw1.trans (hw2.trans hw3)⟩

theorem chg_set {f : Nat → Int} (hf : ∀ i, 0 ≤ f i ∧ f i < 256) {L u p k j r : Nat} (hb : u / 2 ^ k % 2 = 1) (hj : j = (p + k) / 8) (hr : r = (p + k) % 8) : bits .xor .u8 (chgF f L u p k j) ((2 : Int) ^ r % 256) = chgF f L u p (k + 1) j := by
  have h8 : r < 8 := by omega
  have h2 : (2 : Nat) ^ r < 256 := by have := Nat.pow_lt_pow_right (a := 2) (by decide) h8; simpa using this
  have e : (2 : Int) ^ r % 256 = ((2 ^ r : Nat) : Int) := by
    have e : (2 : Int) ^ r = ((2 ^ r : Nat) : Int) := by rw [Int.natCast_pow]; rfl
    rw [e]
    generalize (2 : Nat) ^ r = q at *
    omega
  have hlt := Crc.xor_lt8 (nb_lt (sealF_bd hf L) j) (Crc.byteAt_lt (Crc.chg u p k) j)
  rw [e]
  unfold chgF
  rw [u8_xor_nat _ _ hlt h2, Crc.chg_yes hb, Crc.byteAt_xor, Crc.byteAt_pow, if_pos hj, ← hr, Nat.xor_assoc]
theorem chg_other (f : Nat → Int) {L u p k j c : Nat} (hb : u / 2 ^ k % 2 = 1) (hj : j = (p + k) / 8) (hc : c ≠ j) : chgF f L u p (k + 1) c = chgF f L u p k c := by
  unfold chgF
  rw [Crc.chg_yes hb, Crc.byteAt_xor, Crc.byteAt_pow, if_neg (by omega), Nat.xor_zero]

theorem shut9 {f : Nat → Int} {x : Bool} {n m : Nat} (h : OpenSays (m + 4) f x n) (ho : ¬ Crc.Opens (nb f) m) : x = false ∧ n = 0 := by
  obtain ⟨h1, h2⟩ := h
  cases x with
  | false => exact ⟨rfl, h2⟩
  | true =>
    have := (h1.1 rfl).2
    rw [Nat.add_sub_cancel] at this
    exact absurd this ho
theorem chg_shut {f : Nat → Int} (hf : ∀ i, 0 ≤ f i ∧ f i < 256) (L u p : Nat) (hu : u < 4294967296) (u0 : u ≠ 0) (hp : p + 32 ≤ 8 * (L + 4)) : ¬ Crc.Opens (nb (chgF f L u p 32)) L := by
  have e : nb (chgF f L u p 32) = fun j => nb (sealF f L) j ^^^ Crc.byteAt (u * 2 ^ p) j := by
    funext j
    unfold chgF
    rw [Crc.chg_all p hu]
    exact Int.toNat_natCast _
  rw [e]
  exact Crc.notices (nb (sealF f L)) (nb_lt (sealF_bd hf L)) L p u hu u0 hp (seal_open f L)

set_option maxHeartbeats 4000000 in
theorem notices_ok (A : Option Addr) (L ca : Nat) (f : Nat → Int) (c : Int) (u : Nat) (hu : u < 4294967296) (u0 : 0 < u) (w : World) (h : L ≤ 65536) (ha : RowAt w A L f) :
    Calls Try.prog 7 #[.slice A L ca, .int .i64 c, .int .u32 (u : Int)] w fun e w' => e = .returned (.bool true) ∧ Bw w w' := by
  have hsb := sealF_bd ha.2 L
  have hcb := chgF_bd ha.2 L u
  obtain ⟨p, hp, hpl⟩ := place_at L c
  have q1 := Int.tmod_lt_of_pos c (b := 8 * ((L : Int) + 4) - 31) (by omega)
  have q2 := Int.lt_tmod_of_pos c (b := 8 * ((L : Int) + 4) - 31) (by omega)
  have hu0 : ((u : Int) == 0) = false := by rw [beq_eq_false_iff_ne]; omega
  go_enter Try.func7, Try.ntmps7
  go_wp2_with (first
    | (go_at_call 14; refine (seal_any A L ca f (by omega) _ ha).mono ?_; rintro e w1 ⟨g, cap, rfl, hown, hg, hcap, hcm, hw1⟩)
    | (go_at_call 15; refine (open_any _ (L + 4) _ (sealF f L) (by omega) _ (hown.row hsb) (by omega)).mono ?_; rintro e w2 ⟨A2, n2, cap2, x2, rfl, hx2, hrow2, hw2⟩; obtain ⟨rfl, hn2⟩ := open9 (m := L) hx2 (seal_open f L); obtain rfl := hn2.symm; have cv1 := conv_row (C := cap2) hrow2.row; rw [str_seal] at cv1; have cv2 := conv_row (C := ca) ((ha.keep hw1).keep hw2)))
  have hown2 := hown.keep hw2
  have hbw2 := hw1.trans hw2
  clear cv1 cv2 hx2 hrow2 hw1 hw2 hown hpl q1 q2
  go_loopw [12] (fun i wr => ∃ k : Nat, k ≤ 32 ∧ i = .int .i64 k ∧ Own wr g (L + 4) (chgF f L u p k) ∧ Bw w wr) (fun i _ => 32 - (intOf i).toNat)
  case atStart => exact ⟨0, Nat.zero_le _, rfl, hown2.congr (fun j _ => by unfold chgF; rw [Crc.chg_zero, show Crc.byteAt 0 j = 0 by unfold Crc.byteAt; rw [Nat.zero_div], Nat.xor_zero, ← nb_eq hsb]), hbw2⟩
  case round =>
    obtain ⟨k, hk, rfl, hown, hw⟩ := hrel
    by_cases hlt : k < 32
    · by_cases hbit : u / 2 ^ k % 2 = 1
      · have e1 : (bits .and .u32 ((u : Int) / 2 ^ k) 1 == 1) = true := by rw [bit_and u k hu, hbit]; rfl
        have e1' : Hid (u / 2 ^ k % 2 = 1) := hbit
        clear hbit
        obtain ⟨j, hj⟩ : ∃ j, Hid (j = (p + k) / 8) := ⟨_, rfl⟩
        obtain ⟨r, hr⟩ : ∃ r, Hid (r = (p + k) % 8) := ⟨_, rfl⟩
        have hjL : j < L + 4 := by have := hj.out; omega
        have hr8 : r < 8 := by have := hr.out; omega
        have i1 : ((p : Int) + (k : Int)) / 8 = (j : Int) := by have := hj.out; omega
        have i2 : ((p : Int) + (k : Int)) % 8 = (r : Int) := by have := hr.out; omega
        obtain ⟨c1, c2⟩ := hown.cell hjL
        have j0 : (0 : Int) ≤ (j : Int) := Int.natCast_nonneg _
        have j1 : (j : Int) < (L : Int) + 4 := by omega
        have r0 : (0 : Int) ≤ (r : Int) := Int.natCast_nonneg _
        have r1 : (r : Int) < 8 := by omega
        go_wp2
        go_region
        go_wp2
        go_roundw
        case rel => exact ⟨k + 1, by omega, by go_num, hown.set hjL (chg_set ha.2 e1'.out hj.out hr.out).symm (fun c _ hc => chg_other f e1'.out hj.out hc), (Bw.put hw hg _ _).drew⟩
        case measure => simp [intOf]; omega
      · have e1 : (bits .and .u32 ((u : Int) / 2 ^ k) 1 == 1) = false := by rw [bit_and u k hu, show u / 2 ^ k % 2 = 0 by omega]; rfl
        have e2 : Hid (u / 2 ^ k % 2 = 0) := by show _ = _; omega
        clear hbit
        go_wp2
        go_roundw
        case rel => exact ⟨k + 1, by omega, by go_num, hown.congr (fun j _ => by unfold chgF; rw [Crc.chg_no e2.out]), hw⟩
        case measure => simp [intOf]; omega
    · have ek : k = 32 := by omega
      subst ek
      have hno := chg_shut ha.2 L u p hu (by omega) (by omega)
      go_wp2_with (first
        | (go_at_call 15; refine (open_any _ (L + 4) _ (chgF f L u p 32) (by omega) _ (hown.row (hcb p 32)) (by omega)).mono ?_; rintro e w3 ⟨A3, n3, cap3, x3, rfl, hx3, hrow3, hw3⟩; obtain ⟨rfl, rfl⟩ := shut9 hx3 hno)
        | (go_at_call 9; refine (wakes_any _).mono ?_; rintro e w4 ⟨rfl, hw4⟩))
      go_ret
      exact ⟨rfl, hw.trans (hw3.trans hw4)⟩

theorem walk (a0 : Option Addr) (len0 cap0 : Nat) (f0 : Nat → Int) (a1 : Int) (a2 : Int) (w : World) (w0 : InRow w a0 len0 cap0 f0) (w1 : (Lit.int .i64 a1).wf = true) (w2 : (Lit.int .u32 a2).wf = true) :
    Calls Try.prog 7 #[.slice a0 len0 cap0, .int .i64 a1, .int .u32 a2] w fun e w' => e = .returned (.bool true) ∧ Below w.heap.size w w' := by
  have hb2 := bounds_u32 w2
  obtain ⟨u, rfl⟩ : ∃ u : Nat, a2 = (u : Int) := ⟨a2.toNat, by omega⟩
  by_cases h1 : 65536 < len0
  · exact notices_great _ _ _ _ _ w h1
  · by_cases h2 : u = 0
    · subst h2
      exact notices_zero _ _ _ _ _ w (by omega) w0.row
    · exact notices_ok _ _ _ _ _ u (by omega) (by omega) w (by omega) w0.row

set_option maxRecDepth 100000 in
theorem lifted (os : Os) (started : os.Started) (H : Type) (enc : TypeId × Value → H) :
    ReturnsInHanded {} Try.checked os 7 .any (Rows.crcNoticesSpec.pre6 enc Try.prog Try.f7 Rows.crcNoticesRow.domain false) (Rows.crcNoticesSpec.post enc Try.prog Try.f7 false true false false) := by
  refine returnsInHanded_of_change_sized (C := Try.checked) own started (by kernel_rfl) Try.func7
    (ChangeSpec.witness6 (enc := enc) (C := Try.checked) false ⟨#[], #[.slice none 0 0, .int .i64 0, .int .u32 0], []⟩ 8 (by kernel_rfl) (by kernel_rfl) (by kernel_rfl) (by kernel_rfl)) ?_
  intro W base args ds gs before hval0 hW hcnd hsz0 _
  have hval : ∀ (j : Nat) t v, Try.f7.params[j]? = some t → args[j]? = some v → Value.okWide Try.prog W .any base t v := hval0
  have hW' := hW
  obtain ⟨p, q, hA0, hV, rfl, hfz, hnd⟩ := hW
  have hA : DataW.TrodAll enc Try.prog W 0 (fun _ => true) true Try.f7.params.toList args.toList ds p := hA0
  have hsz : (DataW.weightsEach Try.prog (Try.f7.params.toList ++ Rows.crcNoticesSpec.plain.varTypes Try.prog) (ds ++ gs)).all (· ≤ reachBytes) = true := hsz0
  rw [Try.params7] at hA hval hsz
  obtain ⟨v0, vs0, d0, ds0, p0, q0, hargs, rfl, rfl, h0, r0⟩ := trodAll_cons hA
  obtain ⟨v1, vs1, d1, ds1, p1, q1, rfl, rfl, rfl, h1, r1⟩ := trodAll_cons r0
  obtain ⟨v2, vs2, d2, ds2, p2, q2, rfl, rfl, rfl, h2, r2⟩ := trodAll_cons r1
  obtain ⟨rfl, rfl, rfl⟩ := trodAll_nil r2
  obtain rfl : args = #[v0, v1, v2] := by cases args; simp_all
  obtain ⟨rfl, rfl⟩ := trodVars_none hV
  obtain ⟨a0, len0, cap0, rfl⟩ := okWide_slice Try.underlying23 (hval 0 23 v0 rfl rfl)
  have k0 := h0
  have lt0 : ∀ x ∈ p0, x.block < W.heap.size := by obtain ⟨m, hm⟩ := k0; exact DataW.trod_lt m _ _ _ hm
  obtain ⟨f0, w0⟩ := open_bytes h0 (fun x hx => by simpa using List.all_eq_true.1 hsz x (DataW.weights_mem_each (j := 0) (t := 23) rfl rfl x hx))
  obtain ⟨a1, rfl, rfl, rfl, w1⟩ := open_int Try.underlying3 (hval 1 3 v1 rfl rfl) h1
  obtain ⟨a2, rfl, rfl, rfl, w2⟩ := open_int Try.underlying22 (hval 2 22 v2 rfl rfl) h2
  clear hA0 hval0
  refine (walk a0 len0 cap0 f0 a1 a2 W w0 w1 w2).mono fun e W' ⟨he, bel⟩ => ?_
  subst he
  exact ⟨_, rfl, _, _, _, [], _, [], hW', trodAll_mk1 (shut_bool Try.underlying4 _), (trodAll_cons_mk (Below.trod laidOut (by kernel_rfl) (of_decide_eq_true (by kernel_rfl)) k0 bel lt0) (trodAll_cons_mk (shut_int Try.underlying3 w1) (trodAll_cons_mk (shut_int Try.underlying22 w2) trodAll_mk0))), rfl, bel.frame _, fun h => by cases h⟩

theorem over : Rows.crcNoticesRow.holds Try.pinned (OpenSpec.ofChange Rows.crcNoticesSpec) :=
  OpenClaim.holds_of_wide 7 Try.f7 rfl rfl rfl rfl rfl rfl rfl ⟨rfl, rfl, rfl, rfl, rfl⟩ rfl rfl rfl rfl rfl (by kernel_rfl) Try.func7 (by kernel_rfl)
    (of_decide_eq_true (by kernel_rfl)) (by unfold Func.isWrapper; first | (rw [if_pos (by decide +kernel)]; kernel_rfl) | (rw [if_neg (by decide +kernel)]; exact ⟨rfl, rfl⟩))
    (fun os started H enc _ => lifted os started H enc)

theorem proved : Rows.CrcNoticesSaid := over
#print axioms proved
end Go.Proofs.Ytndammedmnkpbaa.crcNotices
