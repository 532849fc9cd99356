/- The document's own Check. -/
import Derived.Test.YtpkdnockbbppiaaN3
namespace Go.Proofs.Ytpkdnockbbppiaa
open Go.RowKit Go.Deep
set_option linter.unusedVariables false
set_option linter.unusedSimpArgs false

theorem piece_len {l p : Nm.B} (h : p ∈ Nm.pieces l) : p.length ≤ l.length := by
  have h1 : ∀ ps : List Nm.B, p ∈ ps → p.length + 1 ≤ Nm.tot ps := fun ps => by
    induction ps with
    | nil => intro h; cases h
    | cons q r ih =>
      intro h
      rcases List.mem_cons.1 h with rfl | h
      · unfold Nm.tot; omega
      · have := ih h; unfold Nm.tot; omega
  have h2 := h1 _ h
  rw [Nm.tot_joined _ (Nm.pieces_ne l), Nm.joined_pieces] at h2
  omega
theorem partE_bd {p : Nm.B} (h : p.length ≤ 400) : (Nm.partE p).1 ≤ 400 ∧ 0 ≤ (Nm.partE p).2 ∧ (Nm.partE p).2 ≤ 100 := by
  unfold Nm.partE
  split
  · decide
  · split
    · decide
    · split
      · decide
      · cases e : Nm.nul p with
        | none => exact ⟨by show 0 ≤ 400; omega, by show (0 : Int) ≤ 0; decide, by show (0 : Int) ≤ 100; decide⟩
        | some n => have := Nm.nul_lt p n e; exact ⟨by show n ≤ 400; omega, by show (0 : Int) ≤ 82; decide, by show (82 : Int) ≤ 100; decide⟩
theorem tot_take_le {l : Nm.B} (j : Nat) : Nm.tot ((Nm.pieces l).take j) ≤ l.length + 1 := by
  have h : Nm.tot (Nm.pieces l) = l.length + 1 := by rw [Nm.tot_joined _ (Nm.pieces_ne l), Nm.joined_pieces]
  have h2 := Nm.tot_append ((Nm.pieces l).take j) ((Nm.pieces l).drop j)
  rw [List.take_append_drop, h] at h2
  omega

set_option maxRecDepth 100000 in
set_option maxHeartbeats 2000000 in
theorem rcheck_any (s : ByteArray) (hs : s.size ≤ 4611686018427387904) (w : World) :
    Calls Try.prog 10 #[.string s] w fun e w' => e = .returned (.tuple #[.int .i64 (Nm.check s.toList).1, .int .i64 (Nm.check s.toList).2]) ∧ Bw w w' := by
  have hsz : s.toList.length = s.size := Nm.size_toList s
  have HSZ : Hid (s.toList.length = s.size) := hsz
  obtain ⟨E, hE⟩ : ∃ E, Hid (Nm.check s.toList = E) := ⟨_, rfl⟩
  rw [hE.out]
  by_cases h0 : 400 < s.size
  · have hE2 : E = (0, 2) := by rw [← hE.out]; unfold Nm.check; rw [if_pos (by omega)]
    subst hE2
    clear hsz
    go_enter Try.func10, Try.ntmps10
    go_wp2
    go_ret2
    exact ⟨rfl, Bw.refl _⟩
  · have hE2 : Hid (E = Nm.chk 0 (Nm.pieces s.toList)) := by show _ = _; rw [← hE.out]; unfold Nm.check; rw [if_neg (by omega)]
    obtain ⟨ps, hps⟩ : ∃ ps, Hid (ps = Nm.pieces s.toList) := ⟨_, rfl⟩
    have HLP : Hid (∀ j (h : j < ps.length), ps[j].length ≤ 400) := fun j h => by
      have h1 : ps[j] ∈ ps := List.getElem_mem h
      have h2 := piece_len (l := s.toList) (p := ps[j]) (by rw [← hps.out]; exact h1)
      omega
    have HTT : Hid (∀ j, Nm.tot (ps.take j) ≤ 401) := fun j => by rw [hps.out]; have := tot_take_le (l := s.toList) j; omega
    have HPL : ps.length ≤ 401 := by rw [hps.out]; have := Nm.len_pieces s.toList; omega
    clear hsz
    go_enter Try.func10, Try.ntmps10
    go_wp2_with (go_at_call 15; refine (rpieces_any s (by omega) _).mono ?_; rintro e w1 ⟨v, rfl, hp, hw1⟩; rw [← hps.out] at hp; obtain ⟨g, cap, rfl, hcap, hg, hc⟩ := hp)
    have HC : Hid (∀ j (h : j < ps.length), w1.cell? ⟨g, j * 2, none⟩ = some (.int .i64 ((Nm.tot (ps.take j) : Nat) : Int)) ∧ w1.cell? ⟨g, j * 2 + 1, none⟩ = some (.string (Nm.S ps[j]))) := hc
    clear hc
    go_loop [2, 3, 5] (fun r q i => ∃ (k : Nat), k ≤ ps.length ∧ r = .int .i64 0 ∧ q = .int .i64 0 ∧ i = .int .i64 (k : Int) ∧ Hid (∀ i (hi : i < ps.length), i < k → (Nm.partE ps[i]).2 = 0)) (fun _ _ i => ps.length - (intOf i).toNat)
    case atStart => exact ⟨0, Nat.zero_le _, rfl, rfl, rfl, fun i hi h => by omega⟩
    case round =>
      obtain ⟨k, hk, rfl, rfl, rfl, hall⟩ := hrel
      have k0 : (0 : Int) ≤ (k : Int) := Int.natCast_nonneg _
      by_cases hlt : k < ps.length
      · have t1 : (k : Int) < (ps.length : Int) := by omega
        obtain ⟨c1, c2⟩ := HC.out k hlt
        obtain ⟨a, er, hpe⟩ : ∃ a er, Hid (Nm.partE ps[k] = (a, er)) := ⟨(Nm.partE ps[k]).1, (Nm.partE ps[k]).2, show Nm.partE ps[k] = _ from rfl⟩
        have hbd := partE_bd (HLP.out k hlt)
        rw [hpe.out] at hbd
        obtain ⟨b1, b2, b3⟩ := hbd
        have hl : Hid ((Nm.S ps[k]).size ≤ 400) := by show _ ≤ _; rw [Nm.size_S]; exact HLP.out k hlt
        have htt := HTT.out k
        obtain ⟨T, hT⟩ : ∃ T, Hid (T = Nm.tot (ps.take k)) := ⟨_, rfl⟩
        rw [← hT.out] at c1 htt
        dsimp only at b1 b2 b3
        obtain ⟨X, hX⟩ : ∃ X, Hid (X = Nm.S ps[k]) := ⟨Nm.S ps[k], show Nm.S ps[k] = _ from rfl⟩
        rw [← hX.out] at c2 hl
        have hXl : Hid (X.toList = ps[k]) := by show _ = _; rw [hX.out, Nm.toList_S]
        by_cases he : er = 0
        · have hn : Hid (∀ i (hi : i < ps.length), i < k + 1 → (Nm.partE ps[i]).2 = 0) := fun i hi h => by
            rcases Nat.lt_or_ge i k with h2 | h2
            · exact hall.out i hi h2
            · obtain rfl : i = k := by omega
              rw [hpe.out]; exact he
          subst he
          go_wp2_with (go_at_call 24; refine (rpart_any X (by have := hl.out; omega) _).mono ?_; rintro e w' ⟨rfl, hw'⟩; subst w'; rw [hXl.out, hpe.out])
          go_round
          case rel => exact ⟨k + 1, by omega, rfl, rfl, by go_num, hn⟩
          case measure => simp [intOf]; omega
        · have e1 : (er != 0) = true := by rw [bne_iff_ne]; exact he
          have hans : Hid (E = (((T + a : Nat) : Int), er)) := by
            show _ = _
            rw [hE2.out, ← hps.out, Nm.chk_at 0 ps k hlt hall.out (by rw [hpe.out]; exact he), hpe.out, Nat.zero_add, ← hT.out]
          go_wp2_with (go_at_call 24; refine (rpart_any X (by have := hl.out; omega) _).mono ?_; rintro e w' ⟨rfl, hw'⟩; subst w'; rw [hXl.out, hpe.out])
          go_ret2
          exact ⟨by rw [hans.out]; rfl, hw1⟩
      · have ek : k = ps.length := by omega
        subst ek
        have hans : Hid (E = (0, 0)) := by
          show _ = _
          rw [hE2.out, ← hps.out]
          exact Nm.chk_all 0 ps (fun p hp => by obtain ⟨i, hi, rfl⟩ := List.mem_iff_getElem.1 hp; exact hall.out i hi hi)
        go_wp2
        go_ret2
        exact ⟨by rw [hans.out]; rfl, hw1⟩
end Go.Proofs.Ytpkdnockbbppiaa
