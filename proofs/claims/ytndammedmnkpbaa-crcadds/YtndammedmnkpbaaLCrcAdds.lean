/- Proved: for every two rows of bytes the statement CrcAdds answers true (the document's P4.6: the sums of two rows, of both together, and of noughts come to nothing), with no condition but the reach; the arguments may share memory. -/
import Derived.Test.YtndammedmnkpbaaK6
import Derived.Test.YtndammedmnkpbaaK0
import Derived.ShutString
import Derived.ChangeOld
namespace Go.Proofs.Ytndammedmnkpbaa.crcAdds
open Go.ChangeShapes Go.WideShapes Go.ChangeAt Go.RowKit
set_option linter.unusedVariables false

theorem adds_great (A B : Option Addr) (la ca lb cb : Nat) (w : World) (h1 : 65536 < la) (h2 : 65536 < lb) :
    Calls Try.prog 8 #[.slice A la ca, .slice B lb cb] w fun e w' => e = .returned (.bool true) ∧ Bw w w' := by
  go_enter Try.func8, Try.ntmps8
  go_wp2_with (go_at_call 9; refine (wakes_any _).mono ?_; rintro e w1 ⟨rfl, hw1⟩)
  all_goals go_ret
  all_goals exact ⟨rfl, hw1⟩

/-- the first k bytes of both rows, by exclusive or -/
def bothF (f g : Nat → Int) (k c : Nat) : Int := if c < k then ((((f c).toNat ^^^ (g c).toNat) : Nat) : Int) else 0
theorem bothF_bd {f g : Nat → Int} (hf : ∀ i, 0 ≤ f i ∧ f i < 256) (hg : ∀ i, 0 ≤ g i ∧ g i < 256) (k c : Nat) : 0 ≤ bothF f g k c ∧ bothF f g k c < 256 := by
  unfold bothF; split
  · have h1 := hf c
    have h2 := hg c
    have := Crc.xor_lt8 (a := (f c).toNat) (b := (g c).toNat) (by omega) (by omega)
    omega
  · decide

theorem row_drew {w : World} {A : Option Addr} {n : Nat} {f : Nat → Int} (h : RowAt w A n f) : RowAt w.drew A n f := h
theorem both_nb (f g : Nat → Int) (n i : Nat) (hi : i < n) : nb (bothF f g n) i = nb f i ^^^ nb g i := by
  unfold nb bothF; rw [if_pos hi, Int.toNat_natCast]

set_option maxHeartbeats 4000000 in
theorem adds_a (A B : Option Addr) (la N ca cb : Nat) (f g : Nat → Int) (w : World) (hN : N ≤ 65536) (ha : RowAt w A N f) (hb : RowAt w B N g) (hlt0 : N < la) (hca : N ≤ ca) (hcb : N ≤ cb) :
    Calls Try.prog 8 #[.slice A la ca, .slice B N cb] w fun e w' => e = .returned (.bool true) ∧ Bw w w' := by
  obtain ⟨M, hM, hM0, hmk⟩ := made_bytes N (by omega)
  have hbw1 : Bw w (w.alloc (.cells M 5)) := (Below.refl _ _).alloc (Nat.le_refl _) _
  have hblk : BlockIs (w.alloc (.cells M 5)) w.heap.size N (fun _ => 0) := ⟨M, heap_alloc_new _ _, hM, hM0⟩
  go_enter Try.func8, Try.ntmps8
  go_wp2
  go_loopw [7] (fun i wr => ∃ k : Nat, k ≤ N ∧ i = .int .i64 k ∧ BlockIs wr w.heap.size N (bothF f g k) ∧ Bw w wr) (fun i _ => N - (intOf i).toNat)
  case atStart => exact ⟨0, Nat.zero_le _, rfl, hblk.congr (fun c hc => by unfold bothF; rw [if_neg (by omega)]), hbw1⟩
  case round =>
    obtain ⟨k, hk, rfl, hb1, hw⟩ := hrel
    by_cases hlt : k < N
    · obtain ⟨b1, o1, rfl, hc1⟩ := (ha.keep hw).at hlt
      obtain ⟨b2, o2, rfl, hc2⟩ := (hb.keep hw).at hlt
      have r1 := hc1 k hlt
      have r2 := hc2 k hlt
      have f1 := ha.2 k
      have g1 := hb.2 k
      have l1 := ha.lt hlt
      have l2 := hb.lt hlt
      obtain ⟨r3, r4⟩ := hb1.cell hlt
      have hx := u8_xor _ _ f1.1 f1.2 g1.1 g1.2
      have k0 : (0 : Int) ≤ (k : Int) := Int.natCast_nonneg _
      have k1 : (k : Int) < (N : Int) := by omega
      have k2 : (k : Int) < (la : Int) := by omega
      clear hc1 hc2
      go_wp2
      go_region
      go_wp2
      go_roundw
      case rel =>
        refine ⟨k + 1, by omega, by go_num, ?_, (Bw.put hw (Nat.le_refl _) _ _).drew⟩
        exact hb1.set hlt (by unfold bothF; rw [if_pos (by omega)]) (fun c _ hc => by unfold bothF; by_cases e : c < k; (rw [if_pos e, if_pos (by omega)]); (rw [if_neg e, if_neg (by omega)]))
      case measure => simp [intOf]; omega
    · have ek : N = k := by omega
      subst ek
      have hra := ha.keep hw
      have hrb := hb.keep hw
      have hrc := hb1.row (bothF_bd ha.2 hb.2 N)
      have n0 : (0 : Int) ≤ (N : Int) := Int.natCast_nonneg _
      have n1 : (N : Int) ≤ (ca : Int) := by omega
      have n2 : (N : Int) ≤ (cb : Int) := by omega
      clear hblk hbw1 hM
      have hz0 : ∀ i : Nat, 0 ≤ (fun _ : Nat => (0 : Int)) i ∧ (fun _ : Nat => (0 : Int)) i < 256 := fun _ => ⟨Int.le_refl 0, show (0 : Int) < 256 by decide⟩
      have s1 := Crc.more_lt (s := 0) (by decide) (nb_lt ha.2) N
      have s2 := Crc.more_lt (s := 0) (by decide) (nb_lt hb.2) N
      have s3 := Crc.more_lt (s := 0) (by decide) (nb_lt hrc.2) N
      have s4 := Crc.more_lt (s := 0) (f := nb fun _ => 0) (by decide) (fun _ => by show (0 : Nat) < 256; decide) N
      have x1 := u32_xor_nat _ _ s1 s2
      have x2 := u32_xor_nat _ _ (Crc.xor_lt32 s1 s2) s3
      have x3 := u32_xor_nat _ _ (Crc.xor_lt32 (Crc.xor_lt32 s1 s2) s3) s4
      rw [show (nb fun _ => 0) = (fun _ => 0) from rfl, Crc.adds (nb f) (nb g) (nb (bothF f g N)) N (fun i hi => both_nb f g N i hi)] at x3
      rw [show ((0 : Nat) : Int) = 0 from rfl] at x3
      go_wp2
      go_region_held3 (fun w' => Bw wr w')
        (first | exact Below.drew (Bw.refl _) | assumption | (exact Bw.trans (by assumption) (by assumption)) | (exact Bw.trans (by assumption) (Below.alloc (Below.refl _ _) (Nat.le_refl _) _)) | (exact Bw.trans (by assumption) (Bw.past (by assumption))))
        (first
          | (go_at_call_of 10 (Value.slice A N ca); refine (sum_any A N _ f (by omega) _ (hra.keep (by assumption))).mono ?_; rintro e w2 ⟨rfl, hw2⟩)
          | (go_at_call_of 10 (Value.slice B N cb); refine (sum_any B N _ g (by omega) _ (hrb.keep (by assumption))).mono ?_; rintro e w2 ⟨rfl, hw2⟩)
          | (go_at_call_of 10 w; refine (sum_any _ N _ _ (by omega) _ (hrc.keep (by assumption))).mono ?_; rintro e w2 ⟨rfl, hw2⟩)
          | (go_at_call 10; refine (sum_any _ N _ (fun _ => 0) (by omega) _ (row_new _ M _ N (fun _ => 0) hz0 hM0)).mono ?_; rintro e w2 ⟨rfl, hw2⟩)
          | (go_at_call 10; refine (sum_any _ N _ (fun _ => 0) (by omega) _ ((row_new _ M _ N (fun _ => 0) hz0 hM0).keep (by repeat (first | assumption | (apply Bw.trans; assumption))))).mono ?_; rintro e w2 ⟨rfl, hw2⟩)
          | (go_at_call 10; refine (sum_any _ N _ (fun _ => 0) (by omega) _ ((row_drew (row_new _ M _ N (fun _ => 0) hz0 hM0)).keep (by repeat (first | assumption | (apply Bw.trans; assumption))))).mono ?_; rintro e w2 ⟨rfl, hw2⟩)
          | (go_at_call 9; refine (wakes_any _).mono ?_; rintro e w2 ⟨rfl, hw2⟩))
      all_goals go_wp2
      all_goals go_ret
      all_goals exact ⟨rfl, hw.trans (by assumption)⟩

set_option maxHeartbeats 4000000 in
theorem adds_b (A B : Option Addr) (lb N ca cb : Nat) (f g : Nat → Int) (w : World) (hN : N ≤ 65536) (ha : RowAt w A N f) (hb : RowAt w B N g) (hlt0 : N ≤ lb) (hca : N ≤ ca) (hcb : N ≤ cb) :
    Calls Try.prog 8 #[.slice A N ca, .slice B lb cb] w fun e w' => e = .returned (.bool true) ∧ Bw w w' := by
  obtain ⟨M, hM, hM0, hmk⟩ := made_bytes N (by omega)
  have hbw1 : Bw w (w.alloc (.cells M 5)) := (Below.refl _ _).alloc (Nat.le_refl _) _
  have hblk : BlockIs (w.alloc (.cells M 5)) w.heap.size N (fun _ => 0) := ⟨M, heap_alloc_new _ _, hM, hM0⟩
  have hnl : ¬ (lb : Int) < (N : Int) := by omega
  go_enter Try.func8, Try.ntmps8
  go_wp2
  go_loopw [7] (fun i wr => ∃ k : Nat, k ≤ N ∧ i = .int .i64 k ∧ BlockIs wr w.heap.size N (bothF f g k) ∧ Bw w wr) (fun i _ => N - (intOf i).toNat)
  case atStart => exact ⟨0, Nat.zero_le _, rfl, hblk.congr (fun c hc => by unfold bothF; rw [if_neg (by omega)]), hbw1⟩
  case round =>
    obtain ⟨k, hk, rfl, hb1, hw⟩ := hrel
    by_cases hlt : k < N
    · obtain ⟨b1, o1, rfl, hc1⟩ := (ha.keep hw).at hlt
      obtain ⟨b2, o2, rfl, hc2⟩ := (hb.keep hw).at hlt
      have r1 := hc1 k hlt
      have r2 := hc2 k hlt
      have f1 := ha.2 k
      have g1 := hb.2 k
      have l1 := ha.lt hlt
      have l2 := hb.lt hlt
      obtain ⟨r3, r4⟩ := hb1.cell hlt
      have hx := u8_xor _ _ f1.1 f1.2 g1.1 g1.2
      have k0 : (0 : Int) ≤ (k : Int) := Int.natCast_nonneg _
      have k1 : (k : Int) < (N : Int) := by omega
      have k2 : (k : Int) < (lb : Int) := by omega
      clear hc1 hc2
      go_wp2
      go_region
      go_wp2
      go_roundw
      case rel =>
        refine ⟨k + 1, by omega, by go_num, ?_, (Bw.put hw (Nat.le_refl _) _ _).drew⟩
        exact hb1.set hlt (by unfold bothF; rw [if_pos (by omega)]) (fun c _ hc => by unfold bothF; by_cases e : c < k; (rw [if_pos e, if_pos (by omega)]); (rw [if_neg e, if_neg (by omega)]))
      case measure => simp [intOf]; omega
    · have ek : N = k := by omega
      subst ek
      have hra := ha.keep hw
      have hrb := hb.keep hw
      have hrc := hb1.row (bothF_bd ha.2 hb.2 N)
      have n0 : (0 : Int) ≤ (N : Int) := Int.natCast_nonneg _
      have n1 : (N : Int) ≤ (ca : Int) := by omega
      have n2 : (N : Int) ≤ (cb : Int) := by omega
      clear hblk hbw1 hM
      have hz0 : ∀ i : Nat, 0 ≤ (fun _ : Nat => (0 : Int)) i ∧ (fun _ : Nat => (0 : Int)) i < 256 := fun _ => ⟨Int.le_refl 0, show (0 : Int) < 256 by decide⟩
      have s1 := Crc.more_lt (s := 0) (by decide) (nb_lt ha.2) N
      have s2 := Crc.more_lt (s := 0) (by decide) (nb_lt hb.2) N
      have s3 := Crc.more_lt (s := 0) (by decide) (nb_lt hrc.2) N
      have s4 := Crc.more_lt (s := 0) (f := nb fun _ => 0) (by decide) (fun _ => by show (0 : Nat) < 256; decide) N
      have x1 := u32_xor_nat _ _ s1 s2
      have x2 := u32_xor_nat _ _ (Crc.xor_lt32 s1 s2) s3
      have x3 := u32_xor_nat _ _ (Crc.xor_lt32 (Crc.xor_lt32 s1 s2) s3) s4
      rw [show (nb fun _ => 0) = (fun _ => 0) from rfl, Crc.adds (nb f) (nb g) (nb (bothF f g N)) N (fun i hi => both_nb f g N i hi)] at x3
      rw [show ((0 : Nat) : Int) = 0 from rfl] at x3
      go_wp2
      go_region_held3 (fun w' => Bw wr w')
        (first | exact Below.drew (Bw.refl _) | assumption | (exact Bw.trans (by assumption) (by assumption)) | (exact Bw.trans (by assumption) (Below.alloc (Below.refl _ _) (Nat.le_refl _) _)) | (exact Bw.trans (by assumption) (Bw.past (by assumption))))
        (first
          | (go_at_call_of 10 (Value.slice A N ca); refine (sum_any A N _ f (by omega) _ (hra.keep (by assumption))).mono ?_; rintro e w2 ⟨rfl, hw2⟩)
          | (go_at_call_of 10 (Value.slice B N cb); refine (sum_any B N _ g (by omega) _ (hrb.keep (by assumption))).mono ?_; rintro e w2 ⟨rfl, hw2⟩)
          | (go_at_call_of 10 w; refine (sum_any _ N _ _ (by omega) _ (hrc.keep (by assumption))).mono ?_; rintro e w2 ⟨rfl, hw2⟩)
          | (go_at_call 10; refine (sum_any _ N _ (fun _ => 0) (by omega) _ (row_new _ M _ N (fun _ => 0) hz0 hM0)).mono ?_; rintro e w2 ⟨rfl, hw2⟩)
          | (go_at_call 10; refine (sum_any _ N _ (fun _ => 0) (by omega) _ ((row_new _ M _ N (fun _ => 0) hz0 hM0).keep (by repeat (first | assumption | (apply Bw.trans; assumption))))).mono ?_; rintro e w2 ⟨rfl, hw2⟩)
          | (go_at_call 10; refine (sum_any _ N _ (fun _ => 0) (by omega) _ ((row_drew (row_new _ M _ N (fun _ => 0) hz0 hM0)).keep (by repeat (first | assumption | (apply Bw.trans; assumption))))).mono ?_; rintro e w2 ⟨rfl, hw2⟩)
          | (go_at_call 9; refine (wakes_any _).mono ?_; rintro e w2 ⟨rfl, hw2⟩))
      all_goals go_wp2
      all_goals go_ret
      all_goals exact ⟨rfl, hw.trans (by assumption)⟩

theorem walk (a0 : Option Addr) (len0 cap0 : Nat) (f0 : Nat → Int) (a1 : Option Addr) (len1 cap1 : Nat) (f1 : Nat → Int) (w : World) (w0 : InRow w a0 len0 cap0 f0) (w1 : InRow w a1 len1 cap1 f1) :
    Calls Try.prog 8 #[.slice a0 len0 cap0, .slice a1 len1 cap1] w fun e w' => e = .returned (.bool true) ∧ Below w.heap.size w w' := by
  by_cases h1 : len1 < len0
  · by_cases h2 : 65536 < len1
    · exact adds_great _ _ _ _ _ _ w (by omega) h2
    · exact adds_a _ _ _ _ _ _ _ _ w (by omega) (w0.row.less (by omega)) w1.row h1 (by have := w0.le; omega) w1.le
  · by_cases h2 : 65536 < len0
    · exact adds_great _ _ _ _ _ _ w h2 (by omega)
    · exact adds_b _ _ _ _ _ _ _ _ w (by omega) w0.row (w1.row.less (by omega)) (by omega) w0.le (by have := w1.le; omega)

set_option maxRecDepth 100000 in
theorem lifted (os : Os) (started : os.Started) (H : Type) (enc : TypeId × Value → H) :
    ReturnsInHanded {} Try.checked os 8 .any (Rows.crcAddsSpec.pre6 enc Try.prog Try.f8 Rows.crcAddsRow.domain false) (Rows.crcAddsSpec.post enc Try.prog Try.f8 false true false false) := by
  refine returnsInHanded_of_change_sized (C := Try.checked) own started (by kernel_rfl) Try.func8
    (ChangeSpec.witness6 (enc := enc) (C := Try.checked) false ⟨#[], #[.slice none 0 0, .slice none 0 0], []⟩ 8 (by kernel_rfl) (by kernel_rfl) (by kernel_rfl) (by kernel_rfl)) ?_
  intro W base args ds gs before hval0 hW hcnd hsz0 _
  have hval : ∀ (j : Nat) t v, Try.f8.params[j]? = some t → args[j]? = some v → Value.okWide Try.prog W .any base t v := hval0
  have hW' := hW
  obtain ⟨p, q, hA0, hV, rfl, hfz, hnd⟩ := hW
  have hA : DataW.TrodAll enc Try.prog W 0 (fun _ => true) true Try.f8.params.toList args.toList ds p := hA0
  have hsz : (DataW.weightsEach Try.prog (Try.f8.params.toList ++ Rows.crcAddsSpec.plain.varTypes Try.prog) (ds ++ gs)).all (· ≤ reachBytes) = true := hsz0
  rw [Try.params8] at hA hval hsz
  obtain ⟨v0, vs0, d0, ds0, p0, q0, hargs, rfl, rfl, h0, r0⟩ := trodAll_cons hA
  obtain ⟨v1, vs1, d1, ds1, p1, q1, rfl, rfl, rfl, h1, r1⟩ := trodAll_cons r0
  obtain ⟨rfl, rfl, rfl⟩ := trodAll_nil r1
  obtain rfl : args = #[v0, v1] := by cases args; simp_all
  obtain ⟨rfl, rfl⟩ := trodVars_none hV
  obtain ⟨a0, len0, cap0, rfl⟩ := okWide_slice Try.underlying23 (hval 0 23 v0 rfl rfl)
  have k0 := h0
  have lt0 : ∀ x ∈ p0, x.block < W.heap.size := by obtain ⟨m, hm⟩ := k0; exact DataW.trod_lt m _ _ _ hm
  obtain ⟨f0, w0⟩ := open_bytes h0 (fun x hx => by simpa using List.all_eq_true.1 hsz x (DataW.weights_mem_each (j := 0) (t := 23) rfl rfl x hx))
  obtain ⟨a1, len1, cap1, rfl⟩ := okWide_slice Try.underlying23 (hval 1 23 v1 rfl rfl)
  have k1 := h1
  have lt1 : ∀ x ∈ p1, x.block < W.heap.size := by obtain ⟨m, hm⟩ := k1; exact DataW.trod_lt m _ _ _ hm
  obtain ⟨f1, w1⟩ := open_bytes h1 (fun x hx => by simpa using List.all_eq_true.1 hsz x (DataW.weights_mem_each (j := 1) (t := 23) rfl rfl x hx))
  clear hA0 hval0
  refine (walk a0 len0 cap0 f0 a1 len1 cap1 f1 W w0 w1).mono fun e W' ⟨he, bel⟩ => ?_
  subst he
  exact ⟨_, rfl, _, _, _, [], _, [], hW', trodAll_mk1 (shut_bool Try.underlying4 _), (trodAll_cons_mk (Below.trod laidOut (by kernel_rfl) (of_decide_eq_true (by kernel_rfl)) k0 bel lt0) (trodAll_cons_mk (Below.trod laidOut (by kernel_rfl) (of_decide_eq_true (by kernel_rfl)) k1 bel lt1) trodAll_mk0)), rfl, bel.frame _, fun h => by cases h⟩

theorem over : Rows.crcAddsRow.holds Try.pinned (OpenSpec.ofChange Rows.crcAddsSpec) :=
  OpenClaim.holds_of_wide 8 Try.f8 rfl rfl rfl rfl rfl rfl rfl ⟨rfl, rfl, rfl, rfl, rfl⟩ rfl rfl rfl rfl rfl (by kernel_rfl) Try.func8 (by kernel_rfl)
    (of_decide_eq_true (by kernel_rfl)) (by unfold Func.isWrapper; first | (rw [if_pos (by decide +kernel)]; kernel_rfl) | (rw [if_neg (by decide +kernel)]; exact ⟨rfl, rfl⟩))
    (fun os started H enc _ => lifted os started H enc)

theorem proved : Rows.CrcAddsSaid := over
#print axioms proved
end Go.Proofs.Ytndammedmnkpbaa.crcAdds
