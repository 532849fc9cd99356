/- The order of texts; the document's own Compare and Up. -/
import Derived.Test.YtpkdnockbbppiaaN4
import Derived.Laws.Cover1
import Derived.BigRegion
namespace Go.Proofs.Ytpkdnockbbppiaa
open Go.RowKit Go.Deep
set_option linter.unusedVariables false
set_option linter.unusedSimpArgs false

namespace Nm
abbrev less (a b : B) : Bool := Op.bytesLess a b
theorem less_nil (a : B) : less a [] = false := by cases a <;> rfl
theorem less_cons (a b : UInt8) (x y : B) : less (a :: x) (b :: y) = (decide (a < b) || (a == b && less x y)) := rfl
theorem less_irr : ∀ a : B, less a a = false
  | [] => rfl
  | c :: a => by
    rw [less_cons, less_irr a]
    simp [UInt8.lt_irrefl]
theorem less_tot : ∀ a b : B, less a b = false → less b a = false → a = b
  | [], [], _, _ => rfl
  | [], c :: b, h, _ => by simp [less, Op.bytesLess] at h
  | c :: a, [], _, h => by simp [less, Op.bytesLess] at h
  | c :: a, d :: b, h, k => by
    rw [less_cons] at h k
    simp only [Bool.or_eq_false_iff, decide_eq_false_iff_not, Bool.and_eq_false_imp, beq_iff_eq] at h k
    have e : c = d := UInt8.le_antisymm (UInt8.not_lt.1 k.1) (UInt8.not_lt.1 h.1)
    subst e
    rw [less_tot a b (h.2 rfl) (k.2 rfl)]
theorem less_trans : ∀ a b c : B, less a b = true → less b c = true → less a c = true
  | _, _, [], _, h => by rw [less_nil] at h; cases h
  | _, [], _ :: _, h, _ => by rw [less_nil] at h; cases h
  | [], _ :: _, _ :: _, _, _ => rfl
  | x :: a, y :: b, z :: c, h, k => by
    rw [less_cons] at h k ⊢
    simp only [Bool.or_eq_true, decide_eq_true_eq, Bool.and_eq_true, beq_iff_eq] at h k ⊢
    rcases h with h | ⟨rfl, h⟩
    · rcases k with k | ⟨rfl, k⟩
      · exact Or.inl (UInt8.lt_trans h k)
      · exact Or.inl h
    · rcases k with k | ⟨rfl, k⟩
      · exact Or.inl k
      · exact Or.inr ⟨rfl, less_trans a b c h k⟩
theorem less_asym {a b : B} (h : less a b = true) : less b a = false := by
  cases k : less b a with
  | false => rfl
  | true => have := less_trans a b a h k; rw [less_irr] at this; cases this
/-- the order of lists of pieces -/
def cmpP : List B → List B → Int
  | [], [] => 0
  | [], _ :: _ => -1
  | _ :: _, [] => 1
  | x :: xs, y :: ys => if less x y = true then -1 else if less y x = true then 1 else cmpP xs ys
/-- the order of texts -/
def cmp (a b : B) : Int := cmpP (pieces a) (pieces b)
theorem cmpP_less : ∀ (xs ys : List B) (k : Nat) (hx : k < xs.length) (hy : k < ys.length), (∀ i (h1 : i < xs.length) (h2 : i < ys.length), i < k → xs[i] = ys[i]) → less xs[k] ys[k] = true → cmpP xs ys = -1
  | x :: xs, y :: ys, 0, hx, hy, _, h => by unfold cmpP; rw [if_pos (by simpa using h)]
  | x :: xs, y :: ys, k + 1, hx, hy, ha, h => by
    have e : x = y := ha 0 (by simp) (by simp) (by omega)
    subst e
    unfold cmpP
    rw [less_irr, if_neg (by simp), if_neg (by simp)]
    exact cmpP_less xs ys k (by simpa using hx) (by simpa using hy) (fun i h1 h2 hk => by have := ha (i + 1) (by simpa using h1) (by simpa using h2) (by omega); simpa using this) (by simpa using h)
theorem cmpP_more : ∀ (xs ys : List B) (k : Nat) (hx : k < xs.length) (hy : k < ys.length), (∀ i (h1 : i < xs.length) (h2 : i < ys.length), i < k → xs[i] = ys[i]) → less ys[k] xs[k] = true → cmpP xs ys = 1
  | x :: xs, y :: ys, 0, hx, hy, _, h => by
    have h' : less y x = true := by simpa using h
    unfold cmpP; rw [less_asym h', if_neg (by simp), if_pos h']
  | x :: xs, y :: ys, k + 1, hx, hy, ha, h => by
    have e : x = y := ha 0 (by simp) (by simp) (by omega)
    subst e
    unfold cmpP
    rw [less_irr, if_neg (by simp), if_neg (by simp)]
    exact cmpP_more xs ys k (by simpa using hx) (by simpa using hy) (fun i h1 h2 hk => by have := ha (i + 1) (by simpa using h1) (by simpa using h2) (by omega); simpa using this) (by simpa using h)
theorem cmpP_end : ∀ (xs ys : List B), (∀ i (h1 : i < xs.length) (h2 : i < ys.length), xs[i] = ys[i]) → cmpP xs ys = if xs.length < ys.length then -1 else if ys.length < xs.length then 1 else 0
  | [], [], _ => rfl
  | [], _ :: _, _ => by simp [cmpP]
  | _ :: _, [], _ => by simp [cmpP]
  | x :: xs, y :: ys, ha => by
    have e : x = y := ha 0 (by simp) (by simp)
    subst e
    unfold cmpP
    rw [less_irr, if_neg (by simp), if_neg (by simp), cmpP_end xs ys (fun i h1 h2 => by have := ha (i + 1) (by simpa using h1) (by simpa using h2); simpa using this)]
    simp only [List.length_cons, Nat.add_lt_add_iff_right]
end Nm

theorem drewN_add8 (w : World) (q : Nat) : ∀ n, (w.drewN q).drewN n = w.drewN (q + n)
  | 0 => rfl
  | n + 1 => by show ((w.drewN q).drewN n).drew = (w.drewN (q + n)).drew; rw [drewN_add8 w q n]
set_option maxRecDepth 100000 in
set_option maxHeartbeats 2000000 in
theorem rcompare_any (s t : ByteArray) (hs : s.size ≤ 1099511627776) (ht : t.size ≤ 1099511627776) (w : World) :
    Calls Try.prog 18 #[.string s, .string t] w fun e w' => e = .returned (.int .i64 (Nm.cmp s.toList t.toList)) ∧ Bw w w' := by
  have tok1 : Hid (s = s) := rfl
  obtain ⟨xs, hxs⟩ : ∃ ps, Hid (ps = Nm.pieces s.toList) := ⟨_, rfl⟩
  obtain ⟨ys, hys⟩ : ∃ ps, Hid (ps = Nm.pieces t.toList) := ⟨_, rfl⟩
  obtain ⟨E, hE⟩ : ∃ E, Hid (E = Nm.cmpP xs ys) := ⟨_, rfl⟩
  have hEq : Nm.cmp s.toList t.toList = E := by unfold Nm.cmp; rw [hE.out, hxs.out, hys.out]
  rw [hEq]
  have lx : xs.length ≤ 1099511627777 := by rw [hxs.out]; have := Nm.len_pieces s.toList; rw [Nm.size_toList] at this; omega
  have ly : ys.length ≤ 1099511627777 := by rw [hys.out]; have := Nm.len_pieces t.toList; rw [Nm.size_toList] at this; omega
  clear hEq
  go_enter Try.func18, Try.ntmps18
  go_wp2_with (first
    | (go_at_call 15; clear tok1; refine (rpieces_any s hs _).mono ?_; rintro e w1 ⟨v, rfl, hp, hw1⟩; rw [← hxs.out] at hp)
    | (go_at_call 15; refine (rpieces_any t ht _).mono ?_; rintro e w2 ⟨v2, rfl, hp2, hw2⟩; rw [← hys.out] at hp2))
  obtain ⟨g1, c1, rfl, hcap1, hg1, hc1⟩ := hp.keep hw2
  obtain ⟨g2, c2, rfl, hcap2, hg2, hc2⟩ := hp2
  have HC : Hid (∀ W, Bw w2 W → ∀ k (h1 : k < xs.length) (h2 : k < ys.length), W.cell? ⟨g1, k * 2 + 1, none⟩ = some (.string (Nm.S xs[k])) ∧ W.cell? ⟨g2, k * 2 + 1, none⟩ = some (.string (Nm.S ys[k]))) := fun W hW k h1 h2 => by
    rw [hW.cell (p := ⟨g1, k * 2 + 1, none⟩) hg1, hW.cell (p := ⟨g2, k * 2 + 1, none⟩) hg2]
    exact ⟨(hc1 k h1).2, (hc2 k h2).2⟩
  have hw02 : Bw w w2 := hw1.trans hw2
  clear hp hc1 hc2 hg1 hg2 hw1 hw2 hs ht
  go_loopw [4, 7] (fun r i wr => ∃ (k q : Nat), k ≤ xs.length ∧ k ≤ ys.length ∧ r = .int .i64 0 ∧ i = .int .i64 (k : Int) ∧ Hid (∀ i (h1 : i < xs.length) (h2 : i < ys.length), i < k → xs[i] = ys[i]) ∧ Hid (wr = w2.drewN q)) (fun _ i _ => xs.length - (intOf i).toNat)
  case atStart => exact ⟨0, 0, Nat.zero_le _, Nat.zero_le _, rfl, rfl, fun i h1 h2 h => by omega, rfl⟩
  case round =>
    obtain ⟨k, q, hkx, hky, rfl, rfl, hall, hq⟩ := hrel
    have k0 : (0 : Int) ≤ (k : Int) := Int.natCast_nonneg _
    have hbw : Bw w2 wr := by rw [hq.out]; exact Bw.drewN w2 q
    have HBW : Hid (Bw w2 wr) := hbw
    clear hbw
    by_cases h1 : k < xs.length
    · have t1 : (k : Int) < (xs.length : Int) := by omega
      by_cases h2 : k < ys.length
      · have t2 : (k : Int) < (ys.length : Int) := by omega
        obtain ⟨a1, a2⟩ := HC.out _ HBW.out k h1 h2
        obtain ⟨X, hX⟩ : ∃ X, Hid (X = Nm.S xs[k]) := ⟨Nm.S xs[k], show Nm.S xs[k] = _ from rfl⟩
        obtain ⟨Y, hY⟩ : ∃ Y, Hid (Y = Nm.S ys[k]) := ⟨Nm.S ys[k], show Nm.S ys[k] = _ from rfl⟩
        rw [← hX.out] at a1
        rw [← hY.out] at a2
        have hXl : Hid (X.toList = xs[k]) := by show _ = _; rw [hX.out, Nm.toList_S]
        have hYl : Hid (Y.toList = ys[k]) := by show _ = _; rw [hY.out, Nm.toList_S]
        have hq2 : Hid (∀ nq, Bw w (wr.drewN nq)) := fun nq => hw02.trans (HBW.out.trans (Bw.drewN _ nq))
        have hq3 : Hid (∀ m nq, Bw w ((wr.drewN m).drewN nq)) := fun m nq => hw02.trans (HBW.out.trans ((Bw.drewN _ m).trans (Bw.drewN _ nq)))
        have hq4 : Hid (∀ nq, wr.drewN nq = w2.drewN (q + nq)) := fun nq => by rw [hq.out, drewN_add8]
        by_cases hl : Op.bytesLess X.toList Y.toList = true
        · have hans : Hid (E = -1) := by show _ = _; rw [hE.out]; exact Nm.cmpP_less xs ys k h1 h2 hall.out (by rw [← hXl.out, ← hYl.out]; exact hl)
          go_wp2
          go_quiet (fail)
          go_wp2
          go_ret
          exact ⟨ret_int hans.out.symm, hq2.out _⟩
        · have hl' : Op.bytesLess X.toList Y.toList = false := by simpa using hl
          by_cases he : X.toList = Y.toList
          · have e1 : (X.toList == Y.toList) = true := by rw [beq_iff_eq]; exact he
            have hn : Hid (∀ i (h1 : i < xs.length) (h2 : i < ys.length), i < k + 1 → xs[i] = ys[i]) := fun i h1 h2 h => by
              rcases Nat.lt_or_ge i k with h3 | h3
              · exact hall.out i h1 h2 h3
              · obtain rfl : i = k := by omega
                rw [← hXl.out, ← hYl.out]; exact he
            clear hl he
            go_wp2
            go_quiet (fail)
            go_wp2
            go_quiet (fail)
            go_wp2
            go_roundw
            case rel => exact ⟨k + 1, _, by omega, by omega, rfl, by go_num, hn, hq4.out _⟩
            case measure => simp [intOf]; omega
          · have e1 : (X.toList == Y.toList) = false := by rw [beq_eq_false_iff_ne]; exact he
            have hans : Hid (E = 1) := by
              show _ = _
              rw [hE.out]
              refine Nm.cmpP_more xs ys k h1 h2 hall.out ?_
              rw [← hXl.out, ← hYl.out]
              cases hm : Nm.less Y.toList X.toList with
              | true => rfl
              | false => exact absurd (Nm.less_tot _ _ hl' hm) he
            clear hl he
            go_wp2
            go_quiet (fail)
            go_wp2
            go_quiet (fail)
            go_wp2
            go_ret
            exact ⟨ret_int hans.out.symm, hq3.out _ _⟩
      · have ek : k = ys.length := by omega
        subst ek
        have hans : Hid (E = 1) := by
          show _ = _
          rw [hE.out, Nm.cmpP_end xs ys (fun i a b => hall.out i a b b), if_neg (by omega), if_pos h1]
        go_wp2
        go_ret
        exact ⟨ret_int hans.out.symm, hw02.trans HBW.out⟩
    · have ek : k = xs.length := by omega
      subst ek
      have hfin : Hid (Bw w wr) := hw02.trans HBW.out
      by_cases h2 : xs.length < ys.length
      · have hans : Hid (E = -1) := by
          show _ = _
          rw [hE.out, Nm.cmpP_end xs ys (fun i a b => hall.out i a b a), if_pos h2]
        go_wp2
        go_ret
        exact ⟨ret_int hans.out.symm, hfin.out⟩
      · have hans : Hid (E = 0) := by
          show _ = _
          rw [hE.out, Nm.cmpP_end xs ys (fun i a b => hall.out i a b a), if_neg h2, if_neg (by omega)]
        have hey : ys.length = xs.length := by omega
        have hey' : ¬ (xs.length : Int) < (ys.length : Int) := by omega
        have hey2 : ¬ (ys.length : Int) < (xs.length : Int) := by omega
        clear hey
        go_wp2
        go_ret
        exact ⟨ret_int hans.out.symm, hfin.out⟩

namespace Nm
/-- what stands above a text -/
def up (l : B) : B := joined (pieces l).dropLast
theorem joined_append : ∀ (ps : List B) (p : B), ps ≠ [] → joined (ps ++ [p]) = joined ps ++ 47 :: p
  | [], p, h => absurd rfl h
  | [q], p, _ => rfl
  | q :: r :: t, p, _ => by
    show q ++ 47 :: joined ((r :: t) ++ [p]) = (q ++ 47 :: joined (r :: t)) ++ 47 :: p
    rw [joined_append (r :: t) p (by simp)]; simp
theorem up_of {l : B} {ps : List B} {p : B} (h : pieces l = ps ++ [p]) : up l = if tot ps = 0 then [] else l.take (tot ps - 1) := by
  unfold up
  rw [h, List.dropLast_concat]
  by_cases hp : ps = []
  · subst hp; rfl
  · have e := joined_append ps p hp
    rw [← h, joined_pieces] at e
    have ht := tot_joined ps hp
    rw [if_neg (by omega), ht, Nat.add_sub_cancel, e, List.take_left]
end Nm
set_option maxRecDepth 100000 in
set_option maxHeartbeats 1000000 in
theorem rup_any (s : ByteArray) (hs : s.size ≤ 1099511627776) (w : World) :
    Calls Try.prog 12 #[.string s] w fun e w' => e = .returned (.string (Nm.S (Nm.up s.toList))) ∧ Bw w w' := by
  obtain ⟨ps, p, hpp⟩ : ∃ ps p, Nm.pieces s.toList = ps ++ [p] := ⟨_, _, (List.dropLast_concat_getLast (Nm.pieces_ne s.toList)).symm⟩
  have HPP : Hid (Nm.pieces s.toList = ps ++ [p]) := hpp
  obtain ⟨U, hU⟩ : ∃ U, Hid (U = Nm.S (Nm.up s.toList)) := ⟨_, rfl⟩
  rw [← hU.out]
  have hup := Nm.up_of hpp
  obtain ⟨T, hT⟩ : ∃ T, Hid (T = Nm.tot ps) := ⟨_, rfl⟩
  rw [← hT.out] at hup
  have hTs : T ≤ s.size := by
    have h1 := Nm.tot_append ps [p]
    rw [← hpp, Nm.tot_joined _ (Nm.pieces_ne _), Nm.joined_pieces, Nm.size_toList, ← hT.out] at h1
    unfold Nm.tot at h1
    omega
  have HL : Hid ((ps ++ [p]).length = ps.length + 1) := by show _ = _; simp
  have lx : ps.length + 1 ≤ 1099511627777 := by have := Nm.len_pieces s.toList; rw [Nm.size_toList, hpp, HL.out] at this; omega
  clear hpp
  have l0 : (0 : Int) ≤ (ps.length : Int) := Int.natCast_nonneg _
  by_cases h0 : T = 0
  · have hu0 : Hid (U = ⟨#[]⟩) := by show _ = _; rw [hU.out, hup, if_pos h0]; rfl
    clear hup
    have hT0 : Hid (T = 0) := h0
    go_enter Try.func12, Try.ntmps12
    go_wp2_with (go_at_call 15; refine (rpieces_any s hs _).mono ?_; rintro e w1 ⟨v, rfl, hp, hw1⟩; rw [HPP.out] at hp; obtain ⟨g, cap, rfl, hcap, hg, hc⟩ := hp; rw [HL.out]; have c1 := (hc ps.length (by rw [HL.out]; omega)).1; rw [List.take_left, ← hT.out, hT0.out] at c1; clear hc hcap)
    go_ret
    exact ⟨by rw [hu0.out]; rfl, hw1⟩
  · have hu1 : Hid (U = s.extract 0 (T - 1)) := by show _ = _; rw [hU.out, hup, if_neg h0, Nm.extract_to]
    clear hup
    obtain ⟨Q, hQ⟩ : ∃ Q, T = Q + 1 := ⟨T - 1, by omega⟩
    subst hQ
    have hq0 : (0 : Int) ≤ (Q : Int) := Int.natCast_nonneg _
    have hqs : (Q : Int) ≤ (s.size : Int) := by omega
    have hu2 : Hid (U = s.extract 0 Q) := hu1.out
    clear hu1 h0
    go_enter Try.func12, Try.ntmps12
    go_wp2_with (go_at_call 15; refine (rpieces_any s hs _).mono ?_; rintro e w1 ⟨v, rfl, hp, hw1⟩; rw [HPP.out] at hp; obtain ⟨g, cap, rfl, hcap, hg, hc⟩ := hp; rw [HL.out]; have c1 := (hc ps.length (by rw [HL.out]; omega)).1; rw [List.take_left, ← hT.out] at c1; clear hc hcap)
    go_ret
    exact ⟨by rw [hu2.out]; rfl, hw1⟩
end Go.Proofs.Ytpkdnockbbppiaa
