/- Proved: for every row of bytes and every cut the statement CrcPieces answers true (the document's P4.4: however bytes are cut, and whether their sums are gone on with or joined, the sum is one), with no condition but the reach. -/
import Derived.Test.YtndammedmnkpbaaK8
import Derived.Test.YtndammedmnkpbaaK0
import Derived.ShutString
import Derived.ChangeOld
namespace Go.Proofs.Ytndammedmnkpbaa.crcPieces
open Go.ChangeShapes Go.WideShapes Go.ChangeAt Go.RowKit
set_option linter.unusedVariables false

theorem pieces_great (A : Option Addr) (L ca : Nat) (c : Int) (w : World) (h : 65536 < L) :
    Calls Try.prog 6 #[.slice A L ca, .int .i64 c] w fun e w' => e = .returned (.bool true) ∧ Bw w w' := by
  go_enter Try.func6, Try.ntmps6
  go_wp2_with (go_at_call 9; refine (wakes_any _).mono ?_; rintro e w1 ⟨rfl, hw1⟩)
  go_ret
  exact ⟨rfl, hw1⟩

theorem cut_at (L : Nat) (c : Int) : ∃ p : Nat, p ≤ L ∧ ((c.tmod (L + 1) + L + 1).tmod (L + 1) = (p : Int)) := by
  have h1 := Int.tmod_lt_of_pos c (b := (L : Int) + 1) (by omega)
  have h2 := Int.lt_tmod_of_pos c (b := (L : Int) + 1) (by omega)
  refine ⟨((c.tmod (L + 1) + L + 1).tmod (L + 1)).toNat, ?_, ?_⟩
  · have := Int.tmod_lt_of_pos (c.tmod (L + 1) + L + 1) (b := (L : Int) + 1) (by omega)
    omega
  · have := Int.tmod_nonneg (a := c.tmod (L + 1) + L + 1) ((L : Int) + 1) (by omega)
    omega

theorem row_from {w : World} {A : Option Addr} {L : Nat} {f : Nat → Int} (h : RowAt w A L f) (p ca : Nat) (hca : L ≤ ca) : RowAt w (if ca = p then A else Option.map (fun x => x.add p) A) (L - p) (fun i => f (p + i)) := by
  refine ⟨?_, fun i => h.2 _⟩
  by_cases h0 : L - p = 0
  · exact Or.inl h0
  · rw [if_neg (by omega)]
    obtain ⟨b, off, rfl, hc⟩ := h.at (k := 0) (by omega)
    refine Or.inr ⟨b, off + p, by rw [Option.map_some, Addr.add_lit], fun i hi => ?_⟩
    rw [Nat.add_assoc]
    exact hc (p + i) (by omega)

set_option maxHeartbeats 4000000 in
theorem pieces_in (A : Option Addr) (L ca : Nat) (f : Nat → Int) (c : Int) (p : Nat) (hp : p ≤ L) (hcut : (c.tmod (L + 1) + L + 1).tmod (L + 1) = (p : Int)) (w : World) (h : L ≤ 65536) (ha : RowAt w A L f) (hca : L ≤ ca) (hpc : ¬ ca = p) :
    Calls Try.prog 6 #[.slice A L ca, .int .i64 c] w fun e w' => e = .returned (.bool true) ∧ Bw w w' := by
  have h1 := Int.tmod_lt_of_pos c (b := (L : Int) + 1) (by omega)
  have h2 := Int.lt_tmod_of_pos c (b := (L : Int) + 1) (by omega)
  go_enter Try.func6, Try.ntmps6
  go_wp2_with (first
    | (go_at_call 10; refine (sum_any A L ca f (by omega) _ ha).mono ?_; rintro e w1 ⟨rfl, hw1⟩; have ha1 := ha.keep hw1))
  clear hcut h1 h2 ha
  have hlt1 := Crc.more_lt (s := 0) (by decide) (nb_lt ha1.2)
  have hlt2 := Crc.more_lt (s := 0) (f := nb fun i => f (p + i)) (by decide) (fun i => nb_lt ha1.2 _)
  have hmore : Hid (Crc.more (Crc.more 0 (nb f) p) (nb fun i => f (p + i)) (L - p) = Crc.more 0 (nb f) L) := by
    have := Crc.more_more 0 (nb f) p (L - p)
    rwa [show p + (L - p) = L by omega] at this
  have hwr : Hid (IntKind.i64.wrap ((L : Int) - (p : Int)) = ((L - p : Nat) : Int)) := by
    show _ = _
    rw [IntKind.wrap_i64]; omega
  have hjoin : Hid (Crc.join (Crc.more 0 (nb f) p) (Crc.more 0 (nb fun i => f (p + i)) (L - p)) ((L - p : Nat) : Int).toNat = Crc.more 0 (nb f) L) := by
    show _ = _
    rw [Int.toNat_natCast, Crc.join_more]
    exact hmore
  have hra : RowAt w1 A p f := ha1.less hp
  have hrb : RowAt w1 (Option.map (fun x => x.add p) A) (L - p) (fun i => f (p + i)) := by have := row_from ha1 p ca hca; rwa [if_neg hpc] at this
  have p0 : (0 : Int) ≤ (p : Int) := Int.natCast_nonneg _
  have p1 : (p : Int) ≤ (L : Int) := by omega
  have p2 : (p : Int) ≤ (ca : Int) := by omega
  go_region_held3 (fun w' => Bw w1 w')
    (first | exact Below.drew (Bw.refl _) | assumption | (exact Bw.trans (by assumption) (by assumption)))
    (first
      | (go_at_call_of 10 (Value.slice A p ca); refine (sum_any A p _ f (by omega) _ (hra.keep (by assumption))).mono ?_; rintro e w2 ⟨rfl, hw2⟩)
      | (go_at_call 10; refine (sum_any _ (L - p) _ (fun i => f (p + i)) (by omega) _ (hrb.keep (by assumption))).mono ?_; rintro e w2 ⟨rfl, hw2⟩)
      | (go_at_call 12; refine (more_any _ (L - p) _ (fun i => f (p + i)) _ (hlt1 p) (by omega) _ (hrb.keep (by assumption))).mono ?_; rintro e w2 ⟨rfl, hw2⟩; rw [hmore.out])
      | (go_at_call 18; rw [hwr.out]; refine (join_any _ _ _ (hlt1 p) (hlt2 (L - p)) (by omega) _).mono ?_; rintro e w2 ⟨rfl, hw2⟩; rw [hjoin.out])
      | (go_at_call 9; refine (wakes_any _).mono ?_; rintro e w2 ⟨rfl, hw2⟩))
  go_wp2
  go_ret
  exact ⟨rfl, hw1.trans (by assumption)⟩

set_option maxHeartbeats 4000000 in
theorem pieces_end (A : Option Addr) (L : Nat) (f : Nat → Int) (c : Int) (hcut : (c.tmod (L + 1) + L + 1).tmod (L + 1) = (L : Int)) (w : World) (h : L ≤ 65536) (ha : RowAt w A L f) :
    Calls Try.prog 6 #[.slice A L L, .int .i64 c] w fun e w' => e = .returned (.bool true) ∧ Bw w w' := by
  have h1 := Int.tmod_lt_of_pos c (b := (L : Int) + 1) (by omega)
  have h2 := Int.lt_tmod_of_pos c (b := (L : Int) + 1) (by omega)
  go_enter Try.func6, Try.ntmps6
  go_wp2_with (first
    | (go_at_call 10; refine (sum_any A L L f (by omega) _ ha).mono ?_; rintro e w1 ⟨rfl, hw1⟩; have ha1 := ha.keep hw1))
  clear hcut h1 h2 ha
  have hlt1 := Crc.more_lt (s := 0) (by decide) (nb_lt ha1.2)
  have hlt2 := Crc.more_lt (s := 0) (f := nb fun i => f (L + i)) (by decide) (fun i => nb_lt ha1.2 _)
  have hmore : Hid (Crc.more (Crc.more 0 (nb f) L) (nb fun i => f (L + i)) 0 = Crc.more 0 (nb f) L) := Crc.more_more 0 (nb f) L 0
  have hwr : Hid (IntKind.i64.wrap 0 = 0) := by
    show _ = _
    decide
  have hjoin : Hid (Crc.join (Crc.more 0 (nb f) L) (Crc.more 0 (nb fun i => f (L + i)) 0) (0 : Int).toNat = Crc.more 0 (nb f) L) := by
    show _ = _
    rw [show (0 : Int).toNat = 0 from rfl, Crc.join_more]
    exact hmore
  have hra : RowAt w1 A L f := ha1
  have hrb : RowAt w1 A 0 (fun i => f (L + i)) := ⟨Or.inl rfl, fun i => ha1.2 _⟩
  have p0 : (0 : Int) ≤ (L : Int) := Int.natCast_nonneg _
  have p1 : (L : Int) ≤ (L : Int) := Int.le_refl _
  go_region_held3 (fun w' => Bw w1 w')
    (first | exact Below.drew (Bw.refl _) | assumption | (exact Bw.trans (by assumption) (by assumption)))
    (first
      | (go_at_call_of 10 (Value.slice A L L); refine (sum_any A L _ f (by omega) _ (hra.keep (by assumption))).mono ?_; rintro e w2 ⟨rfl, hw2⟩)
      | (go_at_call 10; refine (sum_any _ 0 _ (fun i => f (L + i)) (by omega) _ (hrb.keep (by assumption))).mono ?_; rintro e w2 ⟨rfl, hw2⟩)
      | (go_at_call 12; refine (more_any _ 0 _ (fun i => f (L + i)) _ (hlt1 L) (by omega) _ (hrb.keep (by assumption))).mono ?_; rintro e w2 ⟨rfl, hw2⟩; rw [hmore.out])
      | (go_at_call 18; rw [hwr.out]; refine (join_any _ _ _ (hlt1 L) (hlt2 0) (by omega) _).mono ?_; rintro e w2 ⟨rfl, hw2⟩; rw [hjoin.out])
      | (go_at_call 9; refine (wakes_any _).mono ?_; rintro e w2 ⟨rfl, hw2⟩))
  go_wp2
  go_ret
  exact ⟨rfl, hw1.trans (by assumption)⟩

theorem pieces_ok (A : Option Addr) (L ca : Nat) (f : Nat → Int) (c : Int) (w : World) (h : L ≤ 65536) (ha : RowAt w A L f) (hca : L ≤ ca) :
    Calls Try.prog 6 #[.slice A L ca, .int .i64 c] w fun e w' => e = .returned (.bool true) ∧ Bw w w' := by
  obtain ⟨p, hp, hcut⟩ := cut_at L c
  by_cases hpc : ca = p
  · subst hpc
    obtain rfl : L = ca := by omega
    exact pieces_end A L f c hcut w h ha
  · exact pieces_in A L ca f c p hp hcut w h ha hca hpc

theorem walk (a0 : Option Addr) (len0 cap0 : Nat) (f0 : Nat → Int) (a1 : Int) (w : World) (w0 : InRow w a0 len0 cap0 f0) (w1 : (Lit.int .i64 a1).wf = true) :
    Calls Try.prog 6 #[.slice a0 len0 cap0, .int .i64 a1] w fun e w' => e = .returned (.bool true) ∧ Below w.heap.size w w' := by
  by_cases h1 : 65536 < len0
  · exact pieces_great _ _ _ _ w h1
  · exact pieces_ok _ _ _ _ _ w (by omega) w0.row w0.le

set_option maxRecDepth 100000 in
theorem lifted (os : Os) (started : os.Started) (H : Type) (enc : TypeId × Value → H) :
    ReturnsInHanded {} Try.checked os 6 .any (Rows.crcPiecesSpec.pre6 enc Try.prog Try.f6 Rows.crcPiecesRow.domain false) (Rows.crcPiecesSpec.post enc Try.prog Try.f6 false true false false) := by
  refine returnsInHanded_of_change_sized (C := Try.checked) own started (by kernel_rfl) Try.func6
    (ChangeSpec.witness6 (enc := enc) (C := Try.checked) false ⟨#[], #[.slice none 0 0, .int .i64 0], []⟩ 8 (by kernel_rfl) (by kernel_rfl) (by kernel_rfl) (by kernel_rfl)) ?_
  intro W base args ds gs before hval0 hW hcnd hsz0 _
  have hval : ∀ (j : Nat) t v, Try.f6.params[j]? = some t → args[j]? = some v → Value.okWide Try.prog W .any base t v := hval0
  have hW' := hW
  obtain ⟨p, q, hA0, hV, rfl, hfz, hnd⟩ := hW
  have hA : DataW.TrodAll enc Try.prog W 0 (fun _ => true) true Try.f6.params.toList args.toList ds p := hA0
  have hsz : (DataW.weightsEach Try.prog (Try.f6.params.toList ++ Rows.crcPiecesSpec.plain.varTypes Try.prog) (ds ++ gs)).all (· ≤ reachBytes) = true := hsz0
  rw [Try.params6] at hA hval hsz
  obtain ⟨v0, vs0, d0, ds0, p0, q0, hargs, rfl, rfl, h0, r0⟩ := trodAll_cons hA
  obtain ⟨v1, vs1, d1, ds1, p1, q1, rfl, rfl, rfl, h1, r1⟩ := trodAll_cons r0
  obtain ⟨rfl, rfl, rfl⟩ := trodAll_nil r1
  obtain rfl : args = #[v0, v1] := by cases args; simp_all
  obtain ⟨rfl, rfl⟩ := trodVars_none hV
  obtain ⟨a0, len0, cap0, rfl⟩ := okWide_slice Try.underlying23 (hval 0 23 v0 rfl rfl)
  have k0 := h0
  have lt0 : ∀ x ∈ p0, x.block < W.heap.size := by obtain ⟨m, hm⟩ := k0; exact DataW.trod_lt m _ _ _ hm
  obtain ⟨f0, w0⟩ := open_bytes h0 (fun x hx => by simpa using List.all_eq_true.1 hsz x (DataW.weights_mem_each (j := 0) (t := 23) rfl rfl x hx))
  obtain ⟨a1, rfl, rfl, rfl, w1⟩ := open_int Try.underlying3 (hval 1 3 v1 rfl rfl) h1
  clear hA0 hval0
  refine (walk a0 len0 cap0 f0 a1 W w0 w1).mono fun e W' ⟨he, bel⟩ => ?_
  subst he
  exact ⟨_, rfl, _, _, _, [], _, [], hW', trodAll_mk1 (shut_bool Try.underlying4 _), (trodAll_cons_mk (Below.trod laidOut (by kernel_rfl) (of_decide_eq_true (by kernel_rfl)) k0 bel lt0) (trodAll_cons_mk (shut_int Try.underlying3 w1) trodAll_mk0)), rfl, bel.frame _, fun h => by cases h⟩

theorem over : Rows.crcPiecesRow.holds Try.pinned (OpenSpec.ofChange Rows.crcPiecesSpec) :=
  OpenClaim.holds_of_wide 6 Try.f6 rfl rfl rfl rfl rfl rfl rfl ⟨rfl, rfl, rfl, rfl, rfl⟩ rfl rfl rfl rfl rfl (by kernel_rfl) Try.func6 (by kernel_rfl)
    (of_decide_eq_true (by kernel_rfl)) (by unfold Func.isWrapper; first | (rw [if_pos (by decide +kernel)]; kernel_rfl) | (rw [if_neg (by decide +kernel)]; exact ⟨rfl, rfl⟩))
    (fun os started H enc _ => lifted os started H enc)

theorem proved : Rows.CrcPiecesSaid := over
#print axioms proved
end Go.Proofs.Ytndammedmnkpbaa.crcPieces
