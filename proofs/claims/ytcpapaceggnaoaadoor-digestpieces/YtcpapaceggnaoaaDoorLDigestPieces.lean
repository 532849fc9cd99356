/- DigestPieces is true for every list of bytes and every list of cuts: however bytes are cut, their digest is one; the arguments stay as they were. (A tied card: the table k reads as the program's text lays it.) -/
import Derived.Test.YtcpapaceggnaoaaDoorEE
import Derived.Test.YtcpapaceggnaoaaDoorFi
import Derived.Test.YtcpapaceggnaoaaDoorCards
import Derived.Test.YtcpapaceggnaoaaDoorTie
import Derived.ShutString
import Derived.ChangeOld
import Derived.SevenTiedAt
namespace Go.Proofs.YtcpapaceggnaoaaDoor.digestPieces
open Go.ChangeShapes Go.WideShapes Go.ChangeAt Go.RowKit Go.Deep
set_option linter.unusedVariables false

theorem row_add {w : World} {A : Option Addr} {n : Nat} {f : Nat → Int} (h : RowAt w A n f) (o : Nat) (ho : o ≤ n) : RowAt w (Option.map (fun x => x.add o) A) (n - o) (fun c => f (o + c)) := by
  refine ⟨?_, fun i => h.2 _⟩
  by_cases h0 : n - o = 0
  · exact Or.inl h0
  · obtain ⟨b, off, rfl, hc⟩ := h.at (k := 0) (by omega)
    refine Or.inr ⟨b, off + o, by rw [Option.map_some, Addr.add_lit], fun i hi => ?_⟩
    rw [Nat.add_assoc]
    exact hc (o + i) (by omega)
/-- where a cut falls -/
theorem cut_at (L : Nat) (c : Int) : ∃ p : Nat, p ≤ L ∧ ((c.tmod (L + 1) + L + 1).tmod (L + 1) = (p : Int)) := by
  have h1 := Int.tmod_lt_of_pos c (b := (L : Int) + 1) (by omega)
  have h2 := Int.lt_tmod_of_pos c (b := (L : Int) + 1) (by omega)
  refine ⟨((c.tmod (L + 1) + L + 1).tmod (L + 1)).toNat, ?_, ?_⟩
  · have := Int.tmod_lt_of_pos (c.tmod (L + 1) + L + 1) (b := (L : Int) + 1) (by omega)
    omega
  · have := Int.tmod_nonneg (a := c.tmod (L + 1) + L + 1) ((L : Int) + 1) (by omega)
    omega
set_option maxRecDepth 100000 in
set_option maxHeartbeats 4000000 in
theorem walk (a0 : Option Addr) (len0 cap0 : Nat) (f0 : Nat → Int) (a1 : Option Addr) (len1 cap1 : Nat) (f1 : Nat → Int) (w : World) (hk : KAt w) (w0 : InRow w a0 len0 cap0 f0) (w1 : InInts w a1 len1 cap1 f1) :
    Calls Tryd.prog 6 #[.slice a0 len0 cap0, .slice a1 len1 cap1] w fun e w' => e = .returned (.bool true) ∧ Below w.heap.size w w' := by
  obtain ⟨hr, hle, hroom, hnil⟩ := w0
  obtain ⟨hc1, hle1, hroom1, hnil1, hbd1⟩ := w1
  have hg := guard32
  by_cases hbig : 65536 < len0 ∨ 300 < len1
  · go_enter Tryd.func6, Tryd.ntmps6
    by_cases hb0 : 65536 < len0
    · have hb1 : ((len0 : Int) > 65536) := by omega
      go_wp2_with (go_at_call 9; refine (wakes_any _ hk).mono ?_; rintro e w1 ⟨rfl, hw1⟩)
      go_ret
      exact ⟨rfl, hw1⟩
    · have hb1 : ¬ ((len0 : Int) > 65536) := by omega
      have hb1' : ¬ (65536 < (len0 : Int)) := by omega
      have hb2 : ((len1 : Int) > 300) := by omega
      go_wp2_with (go_at_call 9; refine (wakes_any _ hk).mono ?_; rintro e w1 ⟨rfl, hw1⟩)
      go_ret
      exact ⟨rfl, hw1⟩
  · have hb1 : ¬ ((len0 : Int) > 65536) := by omega
    have hb1' : ¬ (65536 < (len0 : Int)) := by omega
    have hb2 : ¬ ((len1 : Int) > 300) := by omega
    have hb2' : ¬ (300 < (len1 : Int)) := by omega
    have hF : ∀ i : Nat, (0 : Int) ≤ (fun _ : Nat => (0 : Int)) i ∧ (fun _ : Nat => (0 : Int)) i < 256 := fun _ => (by decide : (0 : Int) ≤ 0 ∧ (0 : Int) < 256)
    have hH0 := new_hash w _ hF
    have hal : Bw w (w.alloc (.cells (hcells Sha.iv none 0 0) 47)) := (Below.refl _ _).alloc (Nat.le_refl _) _
    go_enter Tryd.func6, Tryd.ntmps6
    go_wp2_with (go_at_call 14; refine (new_any _).mono ?_; rintro e w1 ⟨rfl, hw1⟩; subst w1)
    go_loopw [6, 7] (fun v i wr => ∃ (k c : Nat) (A' A'' : Option Addr) (F : Nat → Int), k ≤ len1 ∧ i = .int .i64 (k : Int) ∧ c ≤ len0 ∧ v = .slice A' (len0 - c) (cap0 - c) ∧ RowAt w A' (len0 - c) (fun x => f0 (c + x)) ∧ (∀ x, x < c → F x = f0 x) ∧ HashAt wr w.heap.size F c A'' ∧ Bw w wr) (fun _ i _ => len1 - (intOf i).toNat)
    case atStart =>
      refine ⟨0, 0, a0, none, _, Nat.zero_le _, rfl, Nat.zero_le _, rfl, ?_, fun x hx => by omega, hH0, hal⟩
      have e : (fun x => f0 (0 + x)) = f0 := funext fun x => by rw [Nat.zero_add]
      rw [e]; exact hr
    case round =>
      clear hH0 hal
      obtain ⟨k, c, A', A'', F, hk1, rfl, hc, rfl, hrA, hFf, hH, hbw⟩ := hrel
      obtain ⟨n, hn⟩ : ∃ n, Hid (n = len0 - c) := ⟨_, rfl⟩
      obtain ⟨C, hC⟩ : ∃ C, Hid (C = cap0 - c) := ⟨_, rfl⟩
      have hnC : n ≤ C ∧ n ≤ 65536 ∧ C ≤ 140737488351232 := by have := hn.out; have := hC.out; omega
      rw [← hn.out] at hrA ⊢
      rw [← hC.out]
      have hkr := hk.keep hbw
      have hrr := hrA.keep hbw
      by_cases hlt : k < len1
      · obtain ⟨b, off, rfl, hcell⟩ : ∃ b off, a1 = some ⟨b, off, none⟩ ∧ ∀ i, i < len1 → wr.cell? ⟨b, off + i, none⟩ = some (.int .i64 (f1 i)) := by
          rcases hc1.keep hbw with h0 | h
          · omega
          · exact h
        have ck := hcell k hlt
        obtain ⟨p, hp, p1⟩ := cut_at n (f1 k)
        have p4 := Int.tmod_lt_of_pos (f1 k) (b := (n : Int) + 1) (by omega)
        have p5 := Int.lt_tmod_of_pos (f1 k) (b := (n : Int) + 1) (by omega)
        have hne : ¬ ((n : Int) + 1 = 0) := by omega
        have k0 : (0 : Int) ≤ (k : Int) := Int.natCast_nonneg _
        have k1 : (k : Int) < (len1 : Int) := by omega
        have q0 : (0 : Int) ≤ (p : Int) := Int.natCast_nonneg _
        have q1 : (p : Int) ≤ (n : Int) := by omega
        have q2 : (p : Int) ≤ (C : Int) := by omega
        have m0 : n - p = len0 - (c + p) := by have := hn.out; omega
        have m1 : C - p = cap0 - (c + p) := by have := hC.out; omega
        have hF2 : ∀ x, x < c + p → joinF F c (fun x => f0 (c + x)) x = f0 x := fun x hx => by
          unfold joinF
          by_cases e : x < c
          · rw [if_pos e]; exact hFf x e
          · rw [if_neg e]; dsimp only; rw [show c + (x - c) = x by omega]
        have hfe : (fun x => f0 (c + (p + x))) = fun x => f0 (c + p + x) := funext fun x => by rw [Nat.add_assoc]
        have m0' : Hid (n - p = len0 - (c + p)) := m0
        have m1' : Hid (C - p = cap0 - (c + p)) := m1
        clear m0 m1 hcell
        by_cases hCp : C = p
        · have hrN : RowAt w A' (len0 - (c + p)) (fun x => f0 (c + p + x)) := by
            rw [← m0'.out, show n - p = 0 by omega]; exact ⟨Or.inl rfl, fun i => hr.2 _⟩
          have hCp' : p = C := hCp.symm
          clear hCp
          subst hCp'
          by_cases h16 : k % 16 = 3
          · have h16' : ((k : Int).tmod 16 == 3) = true := by rw [Int.tmod_eq_emod_of_nonneg (by omega), beq_iff_eq]; omega
            have h16'' : ((k : Int) % 16 == 3) = true := by rw [beq_iff_eq]; omega
            go_wp2_with (first
              | (go_at_call 15; clear p1 p4 p5; refine (write_any _ F c A'' A' p p (fun x => f0 (c + x)) (by omega) (by omega) (by omega) _ hH (row_less hrr hp) hkr).mono ?_; rintro e w2 ⟨rfl, A3, hH2, -, hx2⟩; have hb2 : Bw w w2 := Below.trans hbw (hx2.below hbw.size (fun b e => by omega)); have hk2 := hk.keep hb2)
              | (go_at_call 16; refine (sum_any _ _ (c + p) A3 (by omega) _ hH2 hk2).mono ?_; rintro e w3 ⟨T, rfl, -, -, hw3⟩))
            go_roundw
            case rel => exact ⟨k + 1, c + p, _, A3, _, by omega, by go_num, by have := hn.out; omega, by rw [← m0'.out, ← m1'.out, Nat.sub_self, show n - p = 0 by omega], hrN, hF2, (hH2.keep hw3), (hb2.trans hw3)⟩
            case measure => simp [intOf]; omega
          · have h16' : ((k : Int).tmod 16 == 3) = false := by rw [Int.tmod_eq_emod_of_nonneg (by omega), beq_eq_false_iff_ne]; omega
            have h16'' : ((k : Int) % 16 == 3) = false := by rw [beq_eq_false_iff_ne]; omega
            go_wp2_with (first
              | (go_at_call 15; clear p1 p4 p5; refine (write_any _ F c A'' A' p p (fun x => f0 (c + x)) (by omega) (by omega) (by omega) _ hH (row_less hrr hp) hkr).mono ?_; rintro e w2 ⟨rfl, A3, hH2, -, hx2⟩; have hb2 : Bw w w2 := Below.trans hbw (hx2.below hbw.size (fun b e => by omega)); have hk2 := hk.keep hb2))
            go_roundw
            case rel => exact ⟨k + 1, c + p, _, A3, _, by omega, by go_num, by have := hn.out; omega, by rw [← m0'.out, ← m1'.out, Nat.sub_self, show n - p = 0 by omega], hrN, hF2, hH2, hb2⟩
            case measure => simp [intOf]; omega
        · have hrN := row_add hrA p hp
          rw [hfe, m0'.out] at hrN
          by_cases h16 : k % 16 = 3
          · have h16' : ((k : Int).tmod 16 == 3) = true := by rw [Int.tmod_eq_emod_of_nonneg (by omega), beq_iff_eq]; omega
            have h16'' : ((k : Int) % 16 == 3) = true := by rw [beq_iff_eq]; omega
            go_wp2_with (first
              | (go_at_call 15; clear p1 p4 p5; refine (write_any _ F c A'' A' p C (fun x => f0 (c + x)) (by omega) (by omega) (by omega) _ hH (row_less hrr hp) hkr).mono ?_; rintro e w2 ⟨rfl, A3, hH2, -, hx2⟩; have hb2 : Bw w w2 := Below.trans hbw (hx2.below hbw.size (fun b e => by omega)); have hk2 := hk.keep hb2)
              | (go_at_call 16; refine (sum_any _ _ (c + p) A3 (by omega) _ hH2 hk2).mono ?_; rintro e w3 ⟨T, rfl, -, -, hw3⟩))
            go_roundw
            case rel => exact ⟨k + 1, c + p, _, A3, _, by omega, by go_num, by have := hn.out; omega, by rw [← m0'.out, ← m1'.out], hrN, hF2, (hH2.keep hw3), (hb2.trans hw3)⟩
            case measure => simp [intOf]; omega
          · have h16' : ((k : Int).tmod 16 == 3) = false := by rw [Int.tmod_eq_emod_of_nonneg (by omega), beq_eq_false_iff_ne]; omega
            have h16'' : ((k : Int) % 16 == 3) = false := by rw [beq_eq_false_iff_ne]; omega
            go_wp2_with (first
              | (go_at_call 15; clear p1 p4 p5; refine (write_any _ F c A'' A' p C (fun x => f0 (c + x)) (by omega) (by omega) (by omega) _ hH (row_less hrr hp) hkr).mono ?_; rintro e w2 ⟨rfl, A3, hH2, -, hx2⟩; have hb2 : Bw w w2 := Below.trans hbw (hx2.below hbw.size (fun b e => by omega)); have hk2 := hk.keep hb2))
            go_roundw
            case rel => exact ⟨k + 1, c + p, _, A3, _, by omega, by go_num, by have := hn.out; omega, by rw [← m0'.out, ← m1'.out], hrN, hF2, hH2, hb2⟩
            case measure => simp [intOf]; omega
      · have hlast : Hid (k = len1) := by show _ = _; omega
        have hki : ¬ (k : Int) < (len1 : Int) := by omega
        have hd : Sha.dig (nbD (joinF F c (fun x => f0 (c + x)))) (c + n) = Sha.dig (nbD f0) len0 := by
          have e : c + n = len0 := by have := hn.out; omega
          rw [e]
          refine Sha.dig_congr len0 (fun x hx => ?_)
          unfold nbD joinF
          by_cases h : x < c
          · rw [if_pos h, hFf x h]
          · rw [if_neg h]; dsimp only; rw [show c + (x - c) = x by omega]
        have hcn : ((c + n : Nat) : Int) = (len0 : Int) := by have := hn.out; omega
        have hr0 := hr.keep hbw
        go_wp2_with (first
          | (go_at_call 15; refine (write_any _ F c A'' A' n C (fun x => f0 (c + x)) (by omega) (by omega) (by omega) _ hH hrr hkr).mono ?_; rintro e w2 ⟨rfl, A3, hH2, -, hx2⟩; have hb2 : Bw w w2 := Below.trans hbw (hx2.below hbw.size (fun b e => by omega)); have hk2 := hk.keep hb2)
          | (go_at_call 16; refine (sum_any _ _ (c + n) A3 (by omega) _ hH2 hk2).mono ?_; rintro e w3 ⟨T, rfl, hTs, hT, hw3⟩; have hT32 := In32.mk hTs (Sha.dig_lt _ _) hT; clear hT hTs)
          | (go_at_call 10; refine (pof_any a0 len0 cap0 f0 hle (by omega) (by omega) _ (hr.keep (hb2.trans hw3)) (hk2.keep hw3)).mono ?_; rintro e w4 ⟨U, rfl, hUs, hU, hw4⟩; have heq : ∀ W', (Op.equalIn 10000 23 (.agg T) (.agg U)).run Tryd.prog W' = .ok true W' := (fun W' => by rw [equal32 hT32 (In32.mk hUs (Sha.dig_lt _ _) hU) W', hd, same32_rfl rfl]); clear hU hUs hT32; have hH4 := (hH2.keep hw3).keep hw4)
          | (go_at_call 17; refine (len_any _ _ _ _ _ _ hH4.at_).mono ?_; rintro e w' ⟨rfl, hw'⟩; subst w'; rw [hcn])
          | (go_at_call 9; refine (wakes_any _ ((hk2.keep hw3).keep hw4)).mono ?_; rintro e w5 ⟨rfl, hw5⟩))
        go_ret
        exact ⟨rfl, hb2.trans (hw3.trans (hw4.trans hw5))⟩

set_option maxRecDepth 100000 in
theorem lifted (os : Os) (started : os.Started) (H : Type) (enc : TypeId × Value → H) :
    ReturnsInHanded {} Tryd.checked os 6 .any (fun w args => (Rows.digestPiecesSpec.pre enc Tryd.prog Tryd.f6 [] false w args ∧ laidMetH Tryd.prog laidK w) ∧ sizedMet enc Tryd.prog Tryd.f6 (OpenSpec.ofChange Rows.digestPiecesSpec) false w args)
      (Rows.digestPiecesSpec.post enc Tryd.prog Tryd.f6 false true false false) := by
  refine returnsInHanded_of_change_and (C := Tryd.checked) (X := fun w _ => laidMetH Tryd.prog laidK w) (fun _ _ _ hh h => h.of_heap hh) own started (by kernel_rfl) Tryd.func6
    (ChangeSpec.witness_shaped (enc := enc) (C := Tryd.checked) (os := os) (X := fun w _ => laidMetH Tryd.prog laidK w) false (World.doorLaid Tryd.prog 400 os) #[.slice none 0 0, .slice none 0 0] 8 rfl (World.shaped_of_RefB (by kernel_rfl) (by kernel_rfl)) (by kernel_rfl) (by kernel_rfl) (by kernel_rfl) (door_met os _)) ?_
  intro W base args ds gs before hval0 hW hcnd hsz0 hL _
  have hval : ∀ (j : Nat) t v, Tryd.f6.params[j]? = some t → args[j]? = some v → Value.okWide Tryd.prog W .any base t v := hval0
  have hW' := hW
  obtain ⟨p, q, hA0, hV, rfl, hfz, hnd⟩ := hW
  have hA : DataW.TrodAll enc Tryd.prog W 0 (fun _ => true) true Tryd.f6.params.toList args.toList ds p := hA0
  have hsz : (DataW.weightsEach Tryd.prog (Tryd.f6.params.toList ++ Rows.digestPiecesSpec.plain.varTypes Tryd.prog) (ds ++ gs)).all (· ≤ reachBytes) = true := hsz0
  have hkat := kat_of_laid hL
  rw [Tryd.params6] at hA hval hsz
  obtain ⟨v0, vs0, d0, ds0, p0, q0, hargs, rfl, rfl, h0, r0⟩ := trodAll_cons hA
  obtain ⟨v1, vs1, d1, ds1, p1, q1, rfl, rfl, rfl, h1, r1⟩ := trodAll_cons r0
  obtain ⟨rfl, rfl, rfl⟩ := trodAll_nil r1
  obtain rfl : args = #[v0, v1] := by cases args; simp_all
  obtain ⟨rfl, rfl⟩ := trodVars_none hV
  obtain ⟨a0, len0, cap0, rfl⟩ := okWide_slice Tryd.underlying22 (hval 0 22 v0 rfl rfl)
  have k0 := h0
  have lt0 : ∀ x ∈ p0, x.block < W.heap.size := by obtain ⟨m, hm⟩ := k0; exact DataW.trod_lt m _ _ _ hm
  obtain ⟨f0, w0⟩ := open_bytes h0 (fun x hx => by simpa using List.all_eq_true.1 hsz x (DataW.weights_mem_each (j := 0) (t := 22) rfl rfl x hx))
  obtain ⟨a1, len1, cap1, rfl⟩ := okWide_slice Tryd.underlying38 (hval 1 38 v1 rfl rfl)
  have k1 := h1
  have lt1 : ∀ x ∈ p1, x.block < W.heap.size := by obtain ⟨m, hm⟩ := k1; exact DataW.trod_lt m _ _ _ hm
  obtain ⟨f1, w1⟩ := open_introw h1 (fun x hx => by simpa using List.all_eq_true.1 hsz x (DataW.weights_mem_each (j := 1) (t := 38) rfl rfl x hx))
  clear hA0 hval0
  refine (walk a0 len0 cap0 f0 a1 len1 cap1 f1 W hkat w0 w1).mono fun e W' ⟨he, bel⟩ => ?_
  subst he
  exact ⟨_, rfl, _, _, _, [], _, [], hW', trodAll_mk1 (shut_bool Tryd.underlying4 _), (trodAll_cons_mk (Below.trod laidOut (by kernel_rfl) (of_decide_eq_true (by kernel_rfl)) k0 bel lt0) (trodAll_cons_mk (Below.trod laidOut (by kernel_rfl) (of_decide_eq_true (by kernel_rfl)) k1 bel lt1) trodAll_mk0)), rfl, bel.frame _, fun h => by cases h⟩

theorem over : Rows.digestPiecesRow.holds Tryd.pinned (OpenSpec.ofChange Rows.digestPiecesSpec) :=
  OpenClaim.holds_of_wide 6 Tryd.f6 rfl rfl rfl rfl rfl rfl rfl ⟨rfl, rfl, rfl, rfl, rfl⟩ rfl rfl rfl rfl rfl (by kernel_rfl) Tryd.func6 (by kernel_rfl)
    (of_decide_eq_true (by kernel_rfl)) (by unfold Func.isWrapper; first | (rw [if_pos (by decide +kernel)]; kernel_rfl) | (rw [if_neg (by decide +kernel)]; exact ⟨rfl, rfl⟩))
    (fun os started H enc _ => lifted os started H enc)

theorem proved : Rows.DigestPiecesCardSaid :=
  Claim7.holds_tied_plain_at .later [] [.data] true (true, "dfd591aa29c56175f19a07ad5d69340116d5ff8aa6883449b7bcc9a4d873338d") false
    over (fun _ h => by cases h) (by kernel_rfl) (fun _ h => by cases h) digestPieces_row_tie rfl ⟨rfl, rfl⟩ (by kernel_rfl) rfl
    (fun f fn hf hfn => by
      obtain rfl : f = 6 := Option.some.inj ((show Tryd.prog.funcNamed "tabulary/tabularylaw05.DigestPieces" = some 6 by kernel_rfl).symm.trans hf) |>.symm
      obtain rfl : fn = Tryd.f6 := (Option.some.inj (Tryd.func6.symm.trans hfn)).symm
      exact ⟨by kernel_rfl, fun j t ht => by
        rw [Tryd.params6] at ht
        have hm : t ∈ [22, 38] := by simpa using Array.mem_of_getElem? ht
        have hall : ([22, 38].all fun u => !Tryd.prog.wantsStandIn u) = true := by kernel_rfl
        exact (show Tryd.prog.wantsStandIn t = false by simpa using List.all_eq_true.1 hall t hm)⟩)
    (by kernel_rfl)
#print axioms proved
end Go.Proofs.YtcpapaceggnaoaaDoor.digestPieces
