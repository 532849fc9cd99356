/- The statements' own refused and edges, of layer 8. -/
import Derived.Test.YtpkdnockbbppiabNA
namespace Go.Proofs.Ytpkdnockbbppiab
open Go.RowKit Go.Deep
set_option linter.unusedVariables false
set_option linter.unusedSimpArgs false

/-- so many bytes x -/
def rp (n : Nat) : Nm.B := List.replicate n 120
theorem nm_hid (l : Nm.B) : ∃ X, Hid (X = Nm.S l) := ⟨Nm.S l, show Nm.S l = Nm.S l from rfl⟩
theorem rp_add (a b : Nat) : rp a ++ rp b = rp (a + b) := List.replicate_append_replicate
theorem rp_take (a b : Nat) (h : a ≤ b) : (rp b).take a = rp a := by unfold rp; rw [List.take_replicate, Nat.min_eq_left h]
theorem rp_no (n : Nat) : (47 : UInt8) ∉ rp n := fun h => absurd (List.eq_of_mem_replicate h) (by decide)
theorem add_S (a b : Nm.B) (h : a.length + b.length ≤ 9223372036854775807) (u : World) : (Op.stringOp .add (Nm.S a) (Nm.S b)).run Try.prog u = .ok (.string (Nm.S (a ++ b))) u := by
  rw [run_string_add_sum _ _ _ (by rw [Nm.size_S, Nm.size_S]; exact h), Nm.append_S]
set_option maxHeartbeats 1000000 in
theorem refused_yes (s : ByteArray) (a er : Int) (hs : s.size ≤ 4611686018427387904) (w : World) (h : Nm.check s.toList = (a, er)) :
    Calls Try.prog 36 #[.string s, .int .i64 a, .int .i64 er] w fun e w' => e = .returned (.bool true) ∧ Bw w w' := by
  have H : Hid (Nm.check s.toList = (a, er)) := h
  clear h
  go_enter Try.func36, Try.ntmps36
  go_wp2_with (go_at_call 13; refine (ncheck_any s hs _).mono ?_; rintro e w1 ⟨rfl, hw1⟩; rw [H.out])
  go_ret
  exact ⟨rfl, hw1⟩
theorem q_pa : Nm.check (rp 120 ++ [47] ++ rp 120 ++ [47] ++ rp 120 ++ [47] ++ rp 37) = (0, 0) := by decide +kernel
theorem q_c1 : Nm.check (rp 120 ++ [47] ++ rp 120 ++ [47] ++ rp 120 ++ [47] ++ rp 37 ++ [120]) = (0, 2) := by decide +kernel
theorem q_c3 : Nm.check ([97, 47] ++ rp 120 ++ [120]) = (2, 2) := by decide +kernel
theorem q_b2 : Nm.check (rp 120 ++ [47] ++ rp 34 ++ [47] ++ rp 100) = (0, 0) := by decide +kernel
theorem q_b4 : Nm.check (rp 120 ++ [47] ++ rp 34 ++ [120, 47] ++ rp 100) = (0, 0) := by decide +kernel
theorem q_b5 : Nm.check (rp 120 ++ [47] ++ rp 34 ++ [47] ++ rp 100 ++ [120]) = (0, 0) := by decide +kernel
theorem q_ta : Nm.check (rp 100) = (0, 0) := by decide +kernel
theorem q_n : Nm.check [97, 98, 47, 99, 0] = (4, 82) := by decide
theorem q_d : Nm.check [97, 47, 46, 46] = (2, 81) := by decide
theorem s_b2 : Nm.SplitSays (rp 120 ++ [47] ++ rp 34 ++ [47] ++ rp 100) (rp 120 ++ [47] ++ rp 34) (rp 100) 0 := by
  have hl : (rp 120 ++ [47] ++ rp 34 ++ [47] ++ rp 100).length = 256 := by decide +kernel
  have hc : Nm.CutAt (rp 120 ++ [47] ++ rp 34 ++ [47] ++ rp 100) 155 := ⟨by decide +kernel, by decide, by rw [hl]; decide⟩
  refine ⟨fun h => absurd (by rw [q_b2]) h, fun _ h => by rw [hl] at h; omega, fun _ _ i hi hlast => ?_, fun _ _ h => absurd hc (h 155)⟩
  have : i = 155 := by
    have h1 := hi.2.1
    rcases Nat.lt_or_ge i 155 with h | h
    · exact absurd hc (hlast 155 h)
    · omega
  subst this
  exact ⟨by decide +kernel, by decide +kernel, rfl⟩
theorem no_cut {l : Nm.B} (h : l.length = 257) (hc : (Nm.check l).2 = 0) : Nm.SplitSays l [] [] 2 :=
  ⟨fun k => absurd hc k, fun _ k => by omega, fun _ _ i hi => by have := hi.2.1; have := hi.2.2; omega, fun _ _ _ => ⟨rfl, rfl, rfl⟩⟩
theorem s_b4 : Nm.SplitSays (rp 120 ++ [47] ++ rp 34 ++ [120, 47] ++ rp 100) [] [] 2 := no_cut (by decide +kernel) (by rw [q_b4])
theorem s_b5 : Nm.SplitSays (rp 120 ++ [47] ++ rp 34 ++ [47] ++ rp 100 ++ [120]) [] [] 2 := no_cut (by decide +kernel) (by rw [q_b5])
theorem s_ta : Nm.SplitSays (rp 100) [] (rp 100) 0 := by
  have hl : (rp 100).length = 100 := by decide +kernel
  exact ⟨fun h => absurd (by rw [q_ta]) h, fun _ _ => ⟨rfl, rfl, rfl⟩, fun _ h => by omega, fun _ h => by omega⟩
attribute [local go_sem] List.getElem?_cons_zero Option.getD_some
set_option maxRecDepth 100000 in
set_option maxHeartbeats 4000000 in
theorem edges_any (L : ByteArray) (hL : L = Nm.S (rp 90)) (w : World) : Calls Try.prog 19 #[.string L] w fun e w' => e = .returned (.bool true) ∧ Bw w w' := by
  have HL : Hid (L = Nm.S (rp 90)) := hL
  have zL : L.size = 90 := by rw [hL, Nm.size_S]; decide +kernel
  clear hL
  obtain ⟨L30, HL30⟩ := nm_hid (rp 30)
  have zL30 : L30.size = 30 := by rw [HL30.out, Nm.size_S]; decide +kernel
  obtain ⟨P, HP⟩ := nm_hid (rp 120)
  have zP : P.size = 120 := by rw [HP.out, Nm.size_S]; decide +kernel
  obtain ⟨A1, HA1⟩ := nm_hid (rp 120 ++ [47])
  have zA1 : A1.size = 121 := by rw [HA1.out, Nm.size_S]; decide +kernel
  obtain ⟨A2, HA2⟩ := nm_hid (rp 120 ++ [47] ++ rp 120)
  have zA2 : A2.size = 241 := by rw [HA2.out, Nm.size_S]; decide +kernel
  obtain ⟨A3, HA3⟩ := nm_hid (rp 120 ++ [47] ++ rp 120 ++ [47])
  have zA3 : A3.size = 242 := by rw [HA3.out, Nm.size_S]; decide +kernel
  obtain ⟨A4, HA4⟩ := nm_hid (rp 120 ++ [47] ++ rp 120 ++ [47] ++ rp 120)
  have zA4 : A4.size = 362 := by rw [HA4.out, Nm.size_S]; decide +kernel
  obtain ⟨A5, HA5⟩ := nm_hid (rp 120 ++ [47] ++ rp 120 ++ [47] ++ rp 120 ++ [47])
  have zA5 : A5.size = 363 := by rw [HA5.out, Nm.size_S]; decide +kernel
  obtain ⟨L37, HL37⟩ := nm_hid (rp 37)
  have zL37 : L37.size = 37 := by rw [HL37.out, Nm.size_S]; decide +kernel
  obtain ⟨PA, HPA⟩ := nm_hid (rp 120 ++ [47] ++ rp 120 ++ [47] ++ rp 120 ++ [47] ++ rp 37)
  have zPA : PA.size = 400 := by rw [HPA.out, Nm.size_S]; decide +kernel
  obtain ⟨L34, HL34⟩ := nm_hid (rp 34)
  have zL34 : L34.size = 34 := by rw [HL34.out, Nm.size_S]; decide +kernel
  obtain ⟨PR, HPR⟩ := nm_hid (rp 120 ++ [47] ++ rp 34)
  have zPR : PR.size = 155 := by rw [HPR.out, Nm.size_S]; decide +kernel
  obtain ⟨L10, HL10⟩ := nm_hid (rp 10)
  have zL10 : L10.size = 10 := by rw [HL10.out, Nm.size_S]; decide +kernel
  obtain ⟨TA, HTA⟩ := nm_hid (rp 100)
  have zTA : TA.size = 100 := by rw [HTA.out, Nm.size_S]; decide +kernel
  obtain ⟨B1, HB1⟩ := nm_hid (rp 120 ++ [47] ++ rp 34 ++ [47])
  have zB1 : B1.size = 156 := by rw [HB1.out, Nm.size_S]; decide +kernel
  obtain ⟨B2, HB2⟩ := nm_hid (rp 120 ++ [47] ++ rp 34 ++ [47] ++ rp 100)
  have zB2 : B2.size = 256 := by rw [HB2.out, Nm.size_S]; decide +kernel
  obtain ⟨B3, HB3⟩ := nm_hid (rp 120 ++ [47] ++ rp 34 ++ [120, 47])
  have zB3 : B3.size = 157 := by rw [HB3.out, Nm.size_S]; decide +kernel
  obtain ⟨B4, HB4⟩ := nm_hid (rp 120 ++ [47] ++ rp 34 ++ [120, 47] ++ rp 100)
  have zB4 : B4.size = 257 := by rw [HB4.out, Nm.size_S]; decide +kernel
  obtain ⟨B5, HB5⟩ := nm_hid (rp 120 ++ [47] ++ rp 34 ++ [47] ++ rp 100 ++ [120])
  have zB5 : B5.size = 257 := by rw [HB5.out, Nm.size_S]; decide +kernel
  obtain ⟨C1, HC1⟩ := nm_hid (rp 120 ++ [47] ++ rp 120 ++ [47] ++ rp 120 ++ [47] ++ rp 37 ++ [120])
  have zC1 : C1.size = 401 := by rw [HC1.out, Nm.size_S]; decide +kernel
  obtain ⟨C2, HC2⟩ := nm_hid ([97, 47] ++ rp 120)
  have zC2 : C2.size = 122 := by rw [HC2.out, Nm.size_S]; decide +kernel
  obtain ⟨C3, HC3⟩ := nm_hid ([97, 47] ++ rp 120 ++ [120])
  have zC3 : C3.size = 123 := by rw [HC3.out, Nm.size_S]; decide +kernel
  have xL30 : L.extract 0 30 = L30 := by rw [Nm.extract_to, HL.out, HL30.out, Nm.toList_S, rp_take _ _ (by decide)]
  have xL37 : L.extract 0 37 = L37 := by rw [Nm.extract_to, HL.out, HL37.out, Nm.toList_S, rp_take _ _ (by decide)]
  have xL34 : L.extract 0 34 = L34 := by rw [Nm.extract_to, HL.out, HL34.out, Nm.toList_S, rp_take _ _ (by decide)]
  have xL10 : L.extract 0 10 = L10 := by rw [Nm.extract_to, HL.out, HL10.out, Nm.toList_S, rp_take _ _ (by decide)]
  have xTA : P.extract 0 100 = TA := by rw [Nm.extract_to, HP.out, HTA.out, Nm.toList_S, rp_take _ _ (by decide)]
  have r1 : ∀ u : World, (Op.stringOp .add L L30).run Try.prog u = .ok (.string P) u := fun u => by
    rw [HL.out, HL30.out, HP.out, add_S _ _ (by decide +kernel), rp_add]
  have r2 : ∀ u : World, (Op.stringOp .add P ⟨#[47]⟩).run Try.prog u = .ok (.string A1) u := fun u => by
    rw [HP.out, show ((⟨#[47]⟩ : ByteArray)) = Nm.S [47] from rfl, HA1.out, add_S _ _ (by decide +kernel)]
  have r3 : ∀ u : World, (Op.stringOp .add A1 P).run Try.prog u = .ok (.string A2) u := fun u => by
    rw [HA1.out, HP.out, HA2.out, add_S _ _ (by decide +kernel)]
  have r4 : ∀ u : World, (Op.stringOp .add A2 ⟨#[47]⟩).run Try.prog u = .ok (.string A3) u := fun u => by
    rw [HA2.out, show ((⟨#[47]⟩ : ByteArray)) = Nm.S [47] from rfl, HA3.out, add_S _ _ (by decide +kernel)]
  have r5 : ∀ u : World, (Op.stringOp .add A3 P).run Try.prog u = .ok (.string A4) u := fun u => by
    rw [HA3.out, HP.out, HA4.out, add_S _ _ (by decide +kernel)]
  have r6 : ∀ u : World, (Op.stringOp .add A4 ⟨#[47]⟩).run Try.prog u = .ok (.string A5) u := fun u => by
    rw [HA4.out, show ((⟨#[47]⟩ : ByteArray)) = Nm.S [47] from rfl, HA5.out, add_S _ _ (by decide +kernel)]
  have r7 : ∀ u : World, (Op.stringOp .add A5 L37).run Try.prog u = .ok (.string PA) u := fun u => by
    rw [HA5.out, HL37.out, HPA.out, add_S _ _ (by decide +kernel)]
  have r8 : ∀ u : World, (Op.stringOp .add A1 L34).run Try.prog u = .ok (.string PR) u := fun u => by
    rw [HA1.out, HL34.out, HPR.out, add_S _ _ (by decide +kernel)]
  have r9 : ∀ u : World, (Op.stringOp .add L L10).run Try.prog u = .ok (.string TA) u := fun u => by
    rw [HL.out, HL10.out, HTA.out, add_S _ _ (by decide +kernel), rp_add]
  have r10 : ∀ u : World, (Op.stringOp .add PR ⟨#[47]⟩).run Try.prog u = .ok (.string B1) u := fun u => by
    rw [HPR.out, show ((⟨#[47]⟩ : ByteArray)) = Nm.S [47] from rfl, HB1.out, add_S _ _ (by decide +kernel)]
  have r11 : ∀ u : World, (Op.stringOp .add B1 TA).run Try.prog u = .ok (.string B2) u := fun u => by
    rw [HB1.out, HTA.out, HB2.out, add_S _ _ (by decide +kernel)]
  have r12 : ∀ u : World, (Op.stringOp .add PR ⟨#[120, 47]⟩).run Try.prog u = .ok (.string B3) u := fun u => by
    rw [HPR.out, show ((⟨#[120, 47]⟩ : ByteArray)) = Nm.S [120, 47] from rfl, HB3.out, add_S _ _ (by decide +kernel)]
  have r13 : ∀ u : World, (Op.stringOp .add B3 TA).run Try.prog u = .ok (.string B4) u := fun u => by
    rw [HB3.out, HTA.out, HB4.out, add_S _ _ (by decide +kernel)]
  have r14 : ∀ u : World, (Op.stringOp .add B2 ⟨#[120]⟩).run Try.prog u = .ok (.string B5) u := fun u => by
    rw [HB2.out, show ((⟨#[120]⟩ : ByteArray)) = Nm.S [120] from rfl, HB5.out, add_S _ _ (by decide +kernel)]
  have r15 : ∀ u : World, (Op.stringOp .add PA ⟨#[120]⟩).run Try.prog u = .ok (.string C1) u := fun u => by
    rw [HPA.out, show ((⟨#[120]⟩ : ByteArray)) = Nm.S [120] from rfl, HC1.out, add_S _ _ (by decide +kernel)]
  have r16 : ∀ u : World, (Op.stringOp .add ⟨#[97, 47]⟩ P).run Try.prog u = .ok (.string C2) u := fun u => by
    rw [show ((⟨#[97, 47]⟩ : ByteArray)) = Nm.S [97, 47] from rfl, HP.out, HC2.out, add_S _ _ (by decide +kernel)]
  have r17 : ∀ u : World, (Op.stringOp .add C2 ⟨#[120]⟩).run Try.prog u = .ok (.string C3) u := fun u => by
    rw [HC2.out, show ((⟨#[120]⟩ : ByteArray)) = Nm.S [120] from rfl, HC3.out, add_S _ _ (by decide +kernel)]
  have lB2 : Hid (B2.toList = rp 120 ++ [47] ++ rp 34 ++ [47] ++ rp 100) := by show _ = _; rw [HB2.out, Nm.toList_S]
  have lB4 : Hid (B4.toList = rp 120 ++ [47] ++ rp 34 ++ [120, 47] ++ rp 100) := by show _ = _; rw [HB4.out, Nm.toList_S]
  have lB5 : Hid (B5.toList = rp 120 ++ [47] ++ rp 34 ++ [47] ++ rp 100 ++ [120]) := by show _ = _; rw [HB5.out, Nm.toList_S]
  have lTA : Hid (TA.toList = rp 100) := by show _ = _; rw [HTA.out, Nm.toList_S]
  have lPA : Hid (PA.toList = rp 120 ++ [47] ++ rp 120 ++ [47] ++ rp 120 ++ [47] ++ rp 37) := by show _ = _; rw [HPA.out, Nm.toList_S]
  have lC1 : Hid (C1.toList = rp 120 ++ [47] ++ rp 120 ++ [47] ++ rp 120 ++ [47] ++ rp 37 ++ [120]) := by show _ = _; rw [HC1.out, Nm.toList_S]
  have lC3 : Hid (C3.toList = [97, 47] ++ rp 120 ++ [120]) := by show _ = _; rw [HC3.out, Nm.toList_S]
  obtain ⟨N0, HN0⟩ : ∃ X, Hid (X = Nm.S []) := ⟨_, rfl⟩
  have eN0 : (N0.toList == []) = true := by rw [HN0.out, Nm.toList_S]; rfl
  have tok1 : Hid (w = w) := rfl
  have tok2 : Hid (w = w) := rfl
  have tok3 : Hid (w = w) := rfl
  have tok4 : Hid (w = w) := rfl
  have tok5 : Hid (w = w) := rfl
  have tok6 : Hid (w = w) := rfl
  have tok7 : Hid (w = w) := rfl
  have tok8 : Hid (w = w) := rfl
  go_enter Try.func19, Try.ntmps19
  go_wp2_with (go_at_call 14; clear tok1; refine (nsplit_any B2 (by omega) _).mono ?_; rintro e v1 ⟨⟨a', b', er', rfl, hsp'⟩, hv1⟩; rw [lB2.out] at hsp'; obtain ⟨rfl, rfl, rfl⟩ := Nm.split_unique s_b2 hsp'; clear hsp'; rw [← HPR.out, ← HTA.out])
  go_wp2_with (go_at_call 14; clear tok2; refine (nsplit_any B4 (by omega) _).mono ?_; rintro e v2 ⟨⟨a', b', er', rfl, hsp'⟩, hv2⟩; rw [lB4.out] at hsp'; obtain ⟨rfl, rfl, rfl⟩ := Nm.split_unique s_b4 hsp'; clear hsp'; rw [← HN0.out])
  go_wp2_with (go_at_call 14; clear tok3; refine (nsplit_any B5 (by omega) _).mono ?_; rintro e v3 ⟨⟨a', b', er', rfl, hsp'⟩, hv3⟩; rw [lB5.out] at hsp'; obtain ⟨rfl, rfl, rfl⟩ := Nm.split_unique s_b5 hsp'; clear hsp'; rw [← HN0.out])
  go_wp2_with (go_at_call 14; clear tok4; refine (nsplit_any TA (by omega) _).mono ?_; rintro e v4 ⟨⟨a', b', er', rfl, hsp'⟩, hv4⟩; rw [lTA.out] at hsp'; obtain ⟨rfl, rfl, rfl⟩ := Nm.split_unique s_ta hsp'; clear hsp'; rw [← HN0.out, ← HTA.out])
  go_wp2_with (go_at_call 36; clear tok5; refine (refused_yes PA 0 0 (by omega) _ (by rw [lPA.out]; exact q_pa)).mono ?_; rintro e v5 ⟨rfl, hv5⟩)
  go_wp2_with (go_at_call 36; clear tok6; refine (refused_yes C1 0 2 (by omega) _ (by rw [lC1.out]; exact q_c1)).mono ?_; rintro e v6 ⟨rfl, hv6⟩)
  go_wp2_with (go_at_call 36; clear tok7; refine (refused_yes C3 2 2 (by omega) _ (by rw [lC3.out]; exact q_c3)).mono ?_; rintro e v7 ⟨rfl, hv7⟩)
  go_wp2_with (go_at_call 36; clear tok8; refine (refused_yes ⟨#[97, 98, 47, 99, 0]⟩ 4 82 (by decide) _ (by rw [show (⟨#[97, 98, 47, 99, 0]⟩ : ByteArray).toList = [97, 98, 47, 99, 0] from Nm.toList_S [97, 98, 47, 99, 0]]; exact q_n)).mono ?_; rintro e v8 ⟨rfl, hv8⟩)
  go_wp2_with (go_at_call 36; refine (refused_yes ⟨#[97, 47, 46, 46]⟩ 2 81 (by decide) _ (by rw [show (⟨#[97, 47, 46, 46]⟩ : ByteArray).toList = [97, 47, 46, 46] from Nm.toList_S [97, 47, 46, 46]]; exact q_d)).mono ?_; rintro e v9 ⟨rfl, hv9⟩)
  go_ret
  exact ⟨rfl, (hv1.trans (hv2.trans (hv3.trans (hv4.trans (hv5.trans (hv6.trans (hv7.trans (hv8.trans hv9))))))))⟩
end Go.Proofs.Ytpkdnockbbppiab
