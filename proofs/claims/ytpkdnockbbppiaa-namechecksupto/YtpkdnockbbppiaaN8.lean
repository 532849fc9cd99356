/- The document's own Join. -/
import Derived.Test.YtpkdnockbbppiaaN7
namespace Go.Proofs.Ytpkdnockbbppiaa
open Go.RowKit Go.Deep
set_option linter.unusedVariables false
set_option linter.unusedSimpArgs false

namespace Nm
theorem pieces_one (l : B) : (pieces l).length = 1 ↔ (47 : UInt8) ∉ l := by
  constructor
  · intro h
    cases e : pieces l with
    | nil => exact absurd e (pieces_ne l)
    | cons p ps =>
      rw [e] at h
      have : ps = [] := by cases ps with | nil => rfl | cons q r => simp at h
      subst this
      have hj := joined_pieces l
      rw [e] at hj
      have hl : p = l := hj
      rw [← hl]
      exact pieces_no l p (by rw [e]; simp)
  · intro h; rw [pieces_free l h]; rfl
/-- what Join answers -/
def joinE (ps : List B) : B × Int := if ps = [] then ([], 4) else if ∃ p ∈ ps, (47 : UInt8) ∈ p then ([], 1) else if (check (joined ps)).2 = 0 then (joined ps, 0) else ([], (check (joined ps)).2)
theorem check_long {l : B} (h : 400 < l.length) : (check l).2 = 2 := by unfold check; rw [if_pos h]
end Nm
theorem partsL_mem {T : Nat → ByteArray} {n : Nat} {p : Nm.B} : p ∈ partsL T n ↔ ∃ i, i < n ∧ (T i).toList = p := by
  unfold partsL
  rw [List.mem_map]
  constructor
  · rintro ⟨i, hi, rfl⟩; exact ⟨i, List.mem_range.1 hi, rfl⟩
  · rintro ⟨i, hi, rfl⟩; exact ⟨i, List.mem_range.2 hi, rfl⟩
theorem tot_partsL_succ (T : Nat → ByteArray) (k : Nat) : Nm.tot (partsL T (k + 1)) = Nm.tot (partsL T k) + ((T k).size + 1) := by
  rw [partsL_succ, Nm.tot_append]
  unfold Nm.tot
  rw [Nm.size_toList]
  unfold Nm.tot
  omega
theorem tot_partsL_mono (T : Nat → ByteArray) {k n : Nat} (h : k ≤ n) : Nm.tot (partsL T k) + (n - k) ≤ Nm.tot (partsL T n) := by
  obtain ⟨d, rfl⟩ : ∃ d, n = k + d := ⟨n - k, by omega⟩
  induction d with
  | zero => rw [Nat.add_zero]; omega
  | succ d ih => have := tot_partsL_succ T (k + d); rw [show k + (d + 1) = k + d + 1 from rfl, this]; have := ih (by omega); omega

set_option maxRecDepth 100000 in
set_option maxHeartbeats 2000000 in
theorem rjoin_any (A : Option Addr) (n cap : Nat) (T : Nat → ByteArray) (hn : n ≤ 4611686018427387904) (hT : ∀ i, i < n → (T i).size ≤ 1099511627776) (hsum : (Nm.joined (partsL T n)).length ≤ 4611686018427387904) (w : World) (ha : StrsAt w A n T) :
    Calls Try.prog 14 #[.slice A n cap] w fun e w' => e = .returned (.tuple #[.string (Nm.S (Nm.joinE (partsL T n)).1), .int .i64 (Nm.joinE (partsL T n)).2]) ∧ Bw w w' := by
  obtain ⟨E, hE⟩ : ∃ E, Hid (Nm.joinE (partsL T n) = E) := ⟨_, rfl⟩
  rw [hE.out]
  have HT : Hid (∀ i, i < n → (T i).size ≤ 1099511627776) := hT
  have HSUM : Hid ((Nm.joined (partsL T n)).length ≤ 4611686018427387904) := hsum
  clear hT hsum
  by_cases h0 : n = 0
  · have hE2 : E = ([], 4) := by rw [← hE.out]; subst h0; rfl
    subst hE2
    subst h0
    go_enter Try.func14, Try.ntmps14
    go_wp2
    go_ret2
    exact ⟨rfl, Bw.refl _⟩
  · have hne : partsL T n ≠ [] := fun e => h0 (by have := partsL_len T n; rw [e] at this; exact this.symm)
    have e0 : ((n : Int) == 0) = false := by rw [beq_eq_false_iff_ne]; omega
    have HNE : Hid (partsL T n ≠ []) := hne
    clear hne
    go_enter Try.func14, Try.ntmps14
    go_wp2
    go_loopw [2, 3, 5] (fun x r i wr => ∃ (k : Nat), k ≤ n ∧ x = .string ⟨#[]⟩ ∧ r = .int .i64 0 ∧ i = .int .i64 (k : Int) ∧ Hid (∀ i, i < k → (47 : UInt8) ∉ (T i).toList) ∧ Bw w wr) (fun _ _ i _ => n - (intOf i).toNat)
    case atStart => exact ⟨0, Nat.zero_le _, rfl, rfl, rfl, fun i hi => by omega, Bw.refl _⟩
    case round =>
      obtain ⟨k, hk, rfl, rfl, rfl, hall, hbw⟩ := hrel
      have k0 : (0 : Int) ≤ (k : Int) := Int.natCast_nonneg _
      by_cases hlt : k < n
      · obtain ⟨b1, o1, rfl, hc1⟩ := (ha.keep hbw).at hlt
        have c1 := hc1 k hlt
        have t1 : (k : Int) < (n : Int) := by omega
        clear hc1
        have hTk := HT.out k hlt
        obtain ⟨ps, hps⟩ : ∃ ps, Hid (ps = Nm.pieces (T k).toList) := ⟨Nm.pieces (T k).toList, show Nm.pieces (T k).toList = _ from rfl⟩
        have lps : ps.length ≤ 1099511627777 := by rw [hps.out]; have := Nm.len_pieces (T k).toList; rw [Nm.size_toList] at this; omega
        have lp0 : 0 < ps.length := by rw [hps.out]; exact List.length_pos_iff.2 (Nm.pieces_ne _)
        by_cases h47 : (47 : UInt8) ∈ (T k).toList
        · have t2 : (1 : Int) < (ps.length : Int) := by
            have : ps.length ≠ 1 := fun e => (Nm.pieces_one _).1 (by rw [← hps.out]; exact e) h47
            omega
          have hE2 : Hid (E = ([], 1)) := by
            show _ = _
            rw [← hE.out]; unfold Nm.joinE
            rw [if_neg HNE.out, if_pos ⟨_, partsL_mem.2 ⟨k, hlt, rfl⟩, h47⟩]
          clear h47
          go_wp2_with (go_at_call 15; refine (rpieces_any (T k) hTk _).mono ?_; rintro e w1 ⟨v, rfl, hp, hw1⟩; rw [← hps.out] at hp; obtain ⟨g, c, rfl, hcap, hg, hc⟩ := hp; clear hc)
          go_ret2
          exact ⟨by rw [hE2.out]; rfl, hbw.trans hw1⟩
        · have t2 : ¬ (1 : Int) < (ps.length : Int) := by
            have : ps.length = 1 := by rw [hps.out]; exact (Nm.pieces_one _).2 h47
            omega
          have hnx : Hid (∀ i, i < k + 1 → (47 : UInt8) ∉ (T i).toList) := fun i hi => by
            rcases Nat.lt_or_ge i k with h | h
            · exact hall.out i h
            · rw [show i = k by omega]; exact h47
          clear h47
          go_wp2_with (go_at_call 15; refine (rpieces_any (T k) hTk _).mono ?_; rintro e w1 ⟨v, rfl, hp, hw1⟩; rw [← hps.out] at hp; obtain ⟨g, c, rfl, hcap, hg, hc⟩ := hp; clear hc)
          go_roundw
          case rel => exact ⟨k + 1, by omega, rfl, rfl, by go_num, hnx, hbw.trans hw1⟩
          case measure => simp [intOf]; omega
      · have ek : k = n := by omega
        subst ek
        rename World => wl
        have hno : Hid (¬ ∃ p ∈ partsL T k, (47 : UInt8) ∈ p) := by
          rintro ⟨p, hp, h47⟩
          obtain ⟨i, hi, rfl⟩ := partsL_mem.1 hp
          exact hall.out i hi h47
        have haw := ha.keep hbw
        clear hall ha
        go_wp2
        go_loop [4, 6] (fun x i => ∃ (j X : Nat), j ≤ k ∧ i = .int .i64 (j : Int) ∧ x = .int .i64 (X : Int) ∧ Hid (X = Nm.tot (partsL T j)) ∧ (X ≤ 1200000000000)) (fun _ i => k - (intOf i).toNat)
        case atStart => exact ⟨0, 0, Nat.zero_le _, rfl, rfl, rfl, by omega⟩
        case round =>
          obtain ⟨j, X, hj, rfl, rfl, hX, hXb⟩ := hrel
          have j0 : (0 : Int) ≤ (j : Int) := Int.natCast_nonneg _
          have x0 : (0 : Int) ≤ (X : Int) := Int.natCast_nonneg _
          by_cases hgo : j < k ∧ X ≤ 400
          · obtain ⟨hlt, hx4⟩ := hgo
            obtain ⟨b1, o1, rfl, hc1⟩ := haw.at hlt
            have c1 := hc1 j hlt
            have t1 : (j : Int) < (k : Int) := by omega
            have t2 : (X : Int) ≤ 400 := by omega
            have hTk := HT.out j hlt
            clear hc1
            have hnx : Hid (X + (T j).size + 1 = Nm.tot (partsL T (j + 1))) := by show _ = _; rw [tot_partsL_succ, ← hX.out]; omega
            go_wp2
            go_round
            case rel => exact ⟨j + 1, X + (T j).size + 1, by omega, by go_num, by go_num, hnx, by omega⟩
            case measure => simp [intOf]; omega
          · have hexit : (¬ (j : Int) < (k : Int)) ∨ ((j : Int) < (k : Int) ∧ ¬ (X : Int) ≤ 400) := by omega
            have hlen : Hid ((Nm.joined (partsL T k)).length + 1 = Nm.tot (partsL T k)) := (Nm.tot_joined _ HNE.out).symm
            have hmono := tot_partsL_mono T hj
            rw [← hX.out, ← hlen.out] at hmono
            by_cases h4 : 401 < X
            · have t4 : (400 : Int) < (X : Int) - 1 := by omega
              have hE2 : Hid (E = ([], 2)) := by
                show _ = _
                have hl : 400 < (Nm.joined (partsL T k)).length := by omega
                rw [← hE.out]; unfold Nm.joinE
                rw [if_neg HNE.out, if_neg hno.out, Nm.check_long hl, if_neg (by decide)]
              clear hmono
              rcases hexit with h1 | ⟨h1, h2⟩
              · go_wp2
                go_ret2
                exact ⟨by rw [hE2.out]; rfl, hbw⟩
              · go_wp2
                go_ret2
                exact ⟨by rw [hE2.out]; rfl, hbw⟩
            · have t4 : ¬ (400 : Int) < (X : Int) - 1 := by omega
              have hJ4 := HSUM.out
              obtain ⟨J, hJ⟩ : ∃ J, Hid (J = Nm.S (Nm.joined (partsL T k))) := ⟨_, rfl⟩
              have hJl : Hid (J.toList = Nm.joined (partsL T k)) := by show _ = _; rw [hJ.out, Nm.toList_S]
              have hJs : J.size ≤ 4611686018427387904 := by rw [hJ.out, Nm.size_S]; exact hJ4
              obtain ⟨ca, ea, hca⟩ : ∃ a b, Hid (Nm.check (Nm.joined (partsL T k)) = (a, b)) := ⟨(Nm.check (Nm.joined (partsL T k))).1, (Nm.check (Nm.joined (partsL T k))).2, show Nm.check (Nm.joined (partsL T k)) = _ from rfl⟩
              clear hmono hJ4
              by_cases hea : ea = 0
              · have hE2 : Hid (E = (Nm.joined (partsL T k), 0)) := by
                  show _ = _
                  rw [← hE.out]; unfold Nm.joinE
                  rw [if_neg HNE.out, if_neg hno.out, hca.out, if_pos hea]
                subst hea
                rcases hexit with h1 | ⟨h1, h2⟩
                · go_wp2_with (first
                    | (go_at_call 28; refine (rjoined_any A k cap T hn HSUM.out _ haw).mono ?_; rintro e w' ⟨rfl, hw'⟩; subst w'; rw [← hJ.out])
                    | (go_at_call 10; refine (rcheck_any J hJs _).mono ?_; rintro e w2 ⟨rfl, hw2⟩; rw [hJl.out, hca.out]))
                  go_ret2
                  exact ⟨by rw [hE2.out, ← hJl.out, Nm.S_toList]; rfl, hbw.trans hw2⟩
                · go_wp2_with (first
                    | (go_at_call 28; refine (rjoined_any A k cap T hn HSUM.out _ haw).mono ?_; rintro e w' ⟨rfl, hw'⟩; subst w'; rw [← hJ.out])
                    | (go_at_call 10; refine (rcheck_any J hJs _).mono ?_; rintro e w2 ⟨rfl, hw2⟩; rw [hJl.out, hca.out]))
                  go_ret2
                  exact ⟨by rw [hE2.out, ← hJl.out, Nm.S_toList]; rfl, hbw.trans hw2⟩
              · have e5 : (ea != 0) = true := by rw [bne_iff_ne]; exact hea
                have hE2 : Hid (E = ([], ea)) := by
                  show _ = _
                  rw [← hE.out]; unfold Nm.joinE
                  rw [if_neg HNE.out, if_neg hno.out, hca.out, if_neg hea]
                rcases hexit with h1 | ⟨h1, h2⟩
                · go_wp2_with (first
                    | (go_at_call 28; refine (rjoined_any A k cap T hn HSUM.out _ haw).mono ?_; rintro e w' ⟨rfl, hw'⟩; subst w'; rw [← hJ.out])
                    | (go_at_call 10; refine (rcheck_any J hJs _).mono ?_; rintro e w2 ⟨rfl, hw2⟩; rw [hJl.out, hca.out]))
                  go_ret2
                  exact ⟨by rw [hE2.out]; rfl, hbw.trans hw2⟩
                · go_wp2_with (first
                    | (go_at_call 28; refine (rjoined_any A k cap T hn HSUM.out _ haw).mono ?_; rintro e w' ⟨rfl, hw'⟩; subst w'; rw [← hJ.out])
                    | (go_at_call 10; refine (rcheck_any J hJs _).mono ?_; rintro e w2 ⟨rfl, hw2⟩; rw [hJl.out, hca.out]))
                  go_ret2
                  exact ⟨by rw [hE2.out]; rfl, hbw.trans hw2⟩
end Go.Proofs.Ytpkdnockbbppiaa
