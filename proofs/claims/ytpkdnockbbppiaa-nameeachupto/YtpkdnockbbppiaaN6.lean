/- The document's own Beneath and Split. -/
import Derived.Test.YtpkdnockbbppiaaN5
namespace Go.Proofs.Ytpkdnockbbppiaa
open Go.RowKit Go.Deep
set_option linter.unusedVariables false
set_option linter.unusedSimpArgs false

namespace Nm
theorem check_bd (l : B) : 0 ≤ (check l).1 ∧ (check l).1 ≤ 1000 ∧ 0 ≤ (check l).2 ∧ (check l).2 ≤ 100 := by
  unfold check
  split
  · decide
  · rename_i h
    have hp : ∀ p ∈ pieces l, p.length ≤ 400 := fun p hp => by have := piece_len hp; omega
    have ht : tot (pieces l) ≤ 401 := by rw [tot_joined _ (pieces_ne l), joined_pieces]; omega
    have : ∀ (ps : List B) (k : Nat), (∀ p ∈ ps, p.length ≤ 400) → k + tot ps ≤ 401 → 0 ≤ (chk k ps).1 ∧ (chk k ps).1 ≤ 1000 ∧ 0 ≤ (chk k ps).2 ∧ (chk k ps).2 ≤ 100 := by
      intro ps
      induction ps with
      | nil => intro k _ _; unfold chk; decide
      | cons p ps ih =>
        intro k h1 h2
        unfold chk
        unfold tot at h2
        have hb := partE_bd (h1 p (by simp))
        split
        · exact ih _ (fun q hq => h1 q (List.mem_cons_of_mem _ hq)) (by omega)
        · dsimp only; omega
    exact this _ 0 hp (by omega)
/-- all of one list are the first of another one, which has more -/
def Front (xs ys : List B) : Prop := xs.length < ys.length ∧ ∀ i (h1 : i < xs.length) (h2 : i < ys.length), xs[i] = ys[i]
def Beneath (root p : B) : Prop := (check p).2 = 0 ∧ (root = [] ∨ ((check root).2 = 0 ∧ Front (pieces root) (pieces p)))
/-- a stroke at which a path can be cut -/
def CutAt (l : B) (i : Nat) : Prop := l[i]? = some 47 ∧ i ≤ 155 ∧ l.length - i - 1 ≤ 100
/-- what Split answers -/
structure SplitSays (l a b : B) (er : Int) : Prop where
  bad : (check l).2 ≠ 0 → a = [] ∧ b = [] ∧ er = (check l).2
  short : (check l).2 = 0 → l.length ≤ 100 → a = [] ∧ b = l ∧ er = 0
  cut : (check l).2 = 0 → 100 < l.length → ∀ i, CutAt l i → (∀ j, i < j → ¬ CutAt l j) → a = l.take i ∧ b = l.drop (i + 1) ∧ er = 0
  long : (check l).2 = 0 → 100 < l.length → (∀ j, ¬ CutAt l j) → a = [] ∧ b = [] ∧ er = 2
theorem cut_lt {l : B} {i : Nat} (h : CutAt l i) : i < l.length := (List.getElem?_eq_some_iff.1 h.1).1
theorem last_cut (l : B) : (∀ j, ¬ CutAt l j) ∨ ∃ i, CutAt l i ∧ ∀ j, i < j → ¬ CutAt l j := by
  have : ∀ n, (∀ j, j < n → ¬ CutAt l j) ∨ ∃ i, i < n ∧ CutAt l i ∧ ∀ j, i < j → j < n → ¬ CutAt l j := by
    intro n
    induction n with
    | zero => exact Or.inl (fun j hj => by omega)
    | succ n ih =>
      by_cases h : CutAt l n
      · exact Or.inr ⟨n, by omega, h, fun j h1 h2 => by omega⟩
      · rcases ih with ih | ⟨i, h1, h2, h3⟩
        · exact Or.inl (fun j hj => by rcases Nat.lt_or_ge j n with k | k; exact ih j k; rw [show j = n by omega]; exact h)
        · exact Or.inr ⟨i, by omega, h2, fun j k1 k2 => by rcases Nat.lt_or_ge j n with k | k; exact h3 j k1 k; rw [show j = n by omega]; exact h⟩
  rcases this l.length with h | ⟨i, h1, h2, h3⟩
  · exact Or.inl (fun j hj => h j (cut_lt hj) hj)
  · exact Or.inr ⟨i, h2, fun j k hj => h3 j k (cut_lt hj) hj⟩
theorem split_unique {l a b a' b' : B} {e e' : Int} (h : SplitSays l a b e) (k : SplitSays l a' b' e') : a = a' ∧ b = b' ∧ e = e' := by
  by_cases h1 : (check l).2 = 0
  · by_cases h2 : l.length ≤ 100
    · obtain ⟨rfl, rfl, rfl⟩ := h.short h1 h2
      obtain ⟨rfl, rfl, rfl⟩ := k.short h1 h2
      exact ⟨rfl, rfl, rfl⟩
    · rcases last_cut l with hc | ⟨i, hi, hl⟩
      · obtain ⟨rfl, rfl, rfl⟩ := h.long h1 (by omega) hc
        obtain ⟨rfl, rfl, rfl⟩ := k.long h1 (by omega) hc
        exact ⟨rfl, rfl, rfl⟩
      · obtain ⟨rfl, rfl, rfl⟩ := h.cut h1 (by omega) i hi hl
        obtain ⟨rfl, rfl, rfl⟩ := k.cut h1 (by omega) i hi hl
        exact ⟨rfl, rfl, rfl⟩
  · obtain ⟨rfl, rfl, rfl⟩ := h.bad h1
    obtain ⟨rfl, rfl, rfl⟩ := k.bad h1
    exact ⟨rfl, rfl, rfl⟩
end Nm
/-- a call answers whether something holds -/
def TellsN (e : Ending) (P : Prop) : Prop := ∃ x : Bool, e = .returned (.bool x) ∧ (x = true ↔ P)
theorem TellsN.no {P : Prop} (h : ¬ P) : TellsN (.returned (.bool false)) P := ⟨false, rfl, ⟨fun e => Bool.noConfusion e, fun e => absurd e h⟩⟩
theorem TellsN.yes {P : Prop} (h : P) : TellsN (.returned (.bool true)) P := ⟨true, rfl, ⟨fun _ => h, fun _ => rfl⟩⟩

set_option maxRecDepth 100000 in
set_option maxHeartbeats 2000000 in
theorem rbeneath_any (s t : ByteArray) (hs : s.size ≤ 4611686018427387904) (ht : t.size ≤ 4611686018427387904) (w : World) :
    Calls Try.prog 20 #[.string s, .string t] w fun e w' => TellsN e (Nm.Beneath s.toList t.toList) ∧ Bw w w' := by
  have tok1 : Hid (s = s) := rfl
  have tok2 : Hid (s = s) := rfl
  obtain ⟨P, hP⟩ : ∃ P, Hid (P = Nm.Beneath s.toList t.toList) := ⟨_, rfl⟩
  rw [← hP.out]
  obtain ⟨ct, et, hct⟩ : ∃ a b, Hid (Nm.check t.toList = (a, b)) := ⟨(Nm.check t.toList).1, (Nm.check t.toList).2, show Nm.check t.toList = _ from rfl⟩
  obtain ⟨cs, es, hcs⟩ : ∃ a b, Hid (Nm.check s.toList = (a, b)) := ⟨(Nm.check s.toList).1, (Nm.check s.toList).2, show Nm.check s.toList = _ from rfl⟩
  by_cases h1 : et = 0
  · by_cases h2 : s.toList = []
    · have hans : Hid P := by show P; rw [hP.out]; exact ⟨by rw [hct.out]; exact h1, Or.inl h2⟩
      subst h1
      go_enter Try.func20, Try.ntmps20
      go_wp2_with (go_at_call 10; clear tok1; refine (rcheck_any t ht _).mono ?_; rintro e w1 ⟨rfl, hw1⟩; rw [hct.out])
      go_ret
      exact ⟨TellsN.yes hans.out, hw1⟩
    · have e2 : (s.toList == []) = false := by rw [beq_eq_false_iff_ne]; exact h2
      by_cases h3 : es = 0
      · obtain ⟨xs, hxs⟩ : ∃ ps, Hid (ps = Nm.pieces s.toList) := ⟨_, rfl⟩
        obtain ⟨ys, hys⟩ : ∃ ps, Hid (ps = Nm.pieces t.toList) := ⟨_, rfl⟩
        have hss : s.size ≤ 400 := by
          rcases Nat.lt_or_ge 400 s.size with h | h
          · have := hcs.out; unfold Nm.check at this; rw [if_pos (by rw [Nm.size_toList]; exact h)] at this; cases this; omega
          · exact h
        have hts : t.size ≤ 400 := by
          rcases Nat.lt_or_ge 400 t.size with h | h
          · have := hct.out; unfold Nm.check at this; rw [if_pos (by rw [Nm.size_toList]; exact h)] at this; cases this; omega
          · exact h
        have lx : xs.length ≤ 401 := by rw [hxs.out]; have := Nm.len_pieces s.toList; rw [Nm.size_toList] at this; omega
        have ly : ys.length ≤ 401 := by rw [hys.out]; have := Nm.len_pieces t.toList; rw [Nm.size_toList] at this; omega
        have hPF : Hid (P ↔ Nm.Front xs ys) := by
          show P ↔ _
          rw [hP.out, hxs.out, hys.out]
          constructor
          · intro h; exact (h.2.resolve_left h2).2
          · intro h; exact ⟨by rw [hct.out]; exact h1, Or.inr ⟨by rw [hcs.out]; exact h3, h⟩⟩
        have tok3 : Hid (s = s) := rfl
        subst h1 h3
        by_cases hlen : xs.length < ys.length
        · have t3 : ¬ (ys.length : Int) ≤ (xs.length : Int) := by omega
          go_enter Try.func20, Try.ntmps20
          go_wp2_with (first
            | (go_at_call 10; clear tok1; refine (rcheck_any t ht _).mono ?_; rintro e w1 ⟨rfl, hw1⟩; rw [hct.out])
            | (go_at_call 10; clear tok2; refine (rcheck_any s hs _).mono ?_; rintro e w2 ⟨rfl, hw2⟩; rw [hcs.out])
            | (go_at_call 15; clear tok3; refine (rpieces_any s (by omega) _).mono ?_; rintro e w3 ⟨v, rfl, hp, hw3⟩; rw [← hxs.out] at hp; obtain ⟨g1, c1, rfl, hcap1, hg1, hc1⟩ := id hp)
            | (go_at_call 15; refine (rpieces_any t (by omega) _).mono ?_; rintro e w4 ⟨v2, rfl, hp2, hw4⟩; rw [← hys.out] at hp2; obtain ⟨g2, c2, rfl, hcap2, hg2, hc2⟩ := id hp2))
          have HC : Hid (∀ W, Bw w4 W → ∀ k (h1 : k < xs.length) (h2 : k < ys.length), W.cell? ⟨g1, k * 2 + 1, none⟩ = some (.string (Nm.S xs[k])) ∧ W.cell? ⟨g2, k * 2 + 1, none⟩ = some (.string (Nm.S ys[k]))) := fun W hW k h1 h2 => by
            rw [hW.cell (p := ⟨g1, k * 2 + 1, none⟩) (Nat.lt_of_lt_of_le hg1 hw4.size), hW.cell (p := ⟨g2, k * 2 + 1, none⟩) hg2, hw4.cell (p := ⟨g1, k * 2 + 1, none⟩) hg1]
            exact ⟨(hc1 k h1).2, (hc2 k h2).2⟩
          have hw04 : Bw w w4 := hw1.trans (hw2.trans (hw3.trans hw4))
          clear hp hp2 hc1 hc2 hg1 hg2 hw1 hw2 hw3 hw4 hcap1 hcap2
          go_loopw [4, 9] (fun r i wr => ∃ (k q : Nat), k ≤ xs.length ∧ r = .bool false ∧ i = .int .i64 (k : Int) ∧ Hid (∀ i (h1 : i < xs.length) (h2 : i < ys.length), i < k → xs[i] = ys[i]) ∧ Hid (wr = w4.drewN q)) (fun _ i _ => xs.length - (intOf i).toNat)
          case atStart => exact ⟨0, 0, Nat.zero_le _, rfl, rfl, fun i h1 h2 h => by omega, rfl⟩
          case round =>
            obtain ⟨k, q, hkx, rfl, rfl, hall, hq⟩ := hrel
            have k0 : (0 : Int) ≤ (k : Int) := Int.natCast_nonneg _
            have HBW : Hid (Bw w4 wr) := by show Bw w4 wr; rw [hq.out]; exact Bw.drewN w4 q
            by_cases h1 : k < xs.length
            · have t1 : (k : Int) < (xs.length : Int) := by omega
              have t2 : (k : Int) < (ys.length : Int) := by omega
              obtain ⟨a1, a2⟩ := HC.out _ HBW.out k h1 (by omega)
              obtain ⟨X, hX⟩ : ∃ X, Hid (X = Nm.S xs[k]) := ⟨Nm.S xs[k], show Nm.S xs[k] = _ from rfl⟩
              obtain ⟨Y, hY⟩ : ∃ Y, Hid (Y = Nm.S ys[k]) := ⟨Nm.S ys[k], show Nm.S ys[k] = _ from rfl⟩
              rw [← hX.out] at a1
              rw [← hY.out] at a2
              have hXl : Hid (X.toList = xs[k]) := by show _ = _; rw [hX.out, Nm.toList_S]
              have hYl : Hid (Y.toList = ys[k]) := by show _ = _; rw [hY.out, Nm.toList_S]
              have hq2 : Hid (∀ nq, Bw w (wr.drewN nq)) := fun nq => hw04.trans (HBW.out.trans (Bw.drewN _ nq))
              have hq4 : Hid (∀ nq, wr.drewN nq = w4.drewN (q + nq)) := fun nq => by rw [hq.out, drewN_add8]
              by_cases he : X.toList = Y.toList
              · have e1 : (X.toList == Y.toList) = true := by rw [beq_iff_eq]; exact he
                have hn : Hid (∀ i (h1 : i < xs.length) (h2 : i < ys.length), i < k + 1 → xs[i] = ys[i]) := fun i h1 h2 h => by
                  rcases Nat.lt_or_ge i k with h3 | h3
                  · exact hall.out i h1 h2 h3
                  · obtain rfl : i = k := by omega
                    rw [← hXl.out, ← hYl.out]; exact he
                clear he
                go_wp2
                go_quiet (fail)
                go_wp2
                go_roundw
                case rel => exact ⟨k + 1, _, by omega, rfl, by go_num, hn, hq4.out _⟩
                case measure => simp [intOf]; omega
              · have e1 : (X.toList == Y.toList) = false := by rw [beq_eq_false_iff_ne]; exact he
                have hans : Hid (¬ P) := fun h => he (by
                  have := (hPF.out.1 h).2 k h1 (by omega)
                  rw [hXl.out, hYl.out]; exact this)
                clear he
                go_wp2
                go_quiet (fail)
                go_wp2
                go_ret
                exact ⟨TellsN.no hans.out, hq2.out _⟩
            · have ek : k = xs.length := by omega
              subst ek
              have hans : Hid P := hPF.out.2 ⟨hlen, fun i a b => hall.out i a b a⟩
              have hfin : Hid (Bw w wr) := hw04.trans HBW.out
              go_wp2
              go_ret
              exact ⟨TellsN.yes hans.out, hfin.out⟩
        · have t3 : (ys.length : Int) ≤ (xs.length : Int) := by omega
          have hans : Hid (¬ P) := fun h => hlen (hPF.out.1 h).1
          go_enter Try.func20, Try.ntmps20
          go_wp2_with (first
            | (go_at_call 10; clear tok1; refine (rcheck_any t ht _).mono ?_; rintro e w1 ⟨rfl, hw1⟩; rw [hct.out])
            | (go_at_call 10; clear tok2; refine (rcheck_any s hs _).mono ?_; rintro e w2 ⟨rfl, hw2⟩; rw [hcs.out])
            | (go_at_call 15; clear tok3; refine (rpieces_any s (by omega) _).mono ?_; rintro e w3 ⟨v, rfl, hp, hw3⟩; rw [← hxs.out] at hp; obtain ⟨g1, c1, rfl, hcap1, hg1, hc1⟩ := id hp; clear hc1)
            | (go_at_call 15; refine (rpieces_any t (by omega) _).mono ?_; rintro e w4 ⟨v2, rfl, hp2, hw4⟩; rw [← hys.out] at hp2; obtain ⟨g2, c2, rfl, hcap2, hg2, hc2⟩ := id hp2; clear hc2))
          go_ret
          exact ⟨TellsN.no hans.out, hw1.trans (hw2.trans (hw3.trans hw4))⟩
      · have e3 : (es != 0) = true := by rw [bne_iff_ne]; exact h3
        have hans : Hid (¬ P) := by
          show ¬ P
          rw [hP.out]
          exact fun h => h3 (by have := (h.2.resolve_left h2).1; rwa [hcs.out] at this)
        subst h1
        go_enter Try.func20, Try.ntmps20
        go_wp2_with (first
          | (go_at_call 10; clear tok1; refine (rcheck_any t ht _).mono ?_; rintro e w1 ⟨rfl, hw1⟩; rw [hct.out])
          | (go_at_call 10; clear tok2; refine (rcheck_any s hs _).mono ?_; rintro e w2 ⟨rfl, hw2⟩; rw [hcs.out]))
        go_ret
        exact ⟨TellsN.no hans.out, hw1.trans hw2⟩
  · have e1 : (et != 0) = true := by rw [bne_iff_ne]; exact h1
    have hans : Hid (¬ P) := by show ¬ P; rw [hP.out]; exact fun h => h1 (by have := h.1; rwa [hct.out] at this)
    go_enter Try.func20, Try.ntmps20
    go_wp2_with (go_at_call 10; clear tok1; refine (rcheck_any t ht _).mono ?_; rintro e w1 ⟨rfl, hw1⟩; rw [hct.out])
    go_ret
    exact ⟨TellsN.no hans.out, hw1⟩
end Go.Proofs.Ytpkdnockbbppiaa
