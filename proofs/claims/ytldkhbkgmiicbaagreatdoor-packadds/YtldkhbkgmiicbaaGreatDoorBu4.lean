/- Texts of mine, put together. -/
import Derived.Test.YtldkhbkgmiicbaaGreatDoorBu3
import Derived.Laws.Cover1
import Derived.BigRegion

/- The order of texts; the document's own Compare and Up. -/
namespace Go.Proofs.YtldkhbkgmiicbaaGreatDoor
open Go.RowKit Go.Deep
set_option linter.unusedVariables false
set_option linter.unusedSimpArgs false

namespace Nm
abbrev less (a b : B) : Bool := Op.bytesLess a b
theorem less_nil (a : B) : less a [] = false := by cases a <;> rfl
theorem less_cons (a b : UInt8) (x y : B) : less (a :: x) (b :: y) = (decide (a < b) || (a == b && less x y)) := rfl
theorem less_irr : ∀ a : B, less a a = false
  | [] => rfl
  | c :: a => by
    rw [less_cons, less_irr a]
    simp [UInt8.lt_irrefl]
theorem less_tot : ∀ a b : B, less a b = false → less b a = false → a = b
  | [], [], _, _ => rfl
  | [], c :: b, h, _ => by simp [less, Op.bytesLess] at h
  | c :: a, [], _, h => by simp [less, Op.bytesLess] at h
  | c :: a, d :: b, h, k => by
    rw [less_cons] at h k
    simp only [Bool.or_eq_false_iff, decide_eq_false_iff_not, Bool.and_eq_false_imp, beq_iff_eq] at h k
    have e : c = d := UInt8.le_antisymm (UInt8.not_lt.1 k.1) (UInt8.not_lt.1 h.1)
    subst e
    rw [less_tot a b (h.2 rfl) (k.2 rfl)]
theorem less_trans : ∀ a b c : B, less a b = true → less b c = true → less a c = true
  | _, _, [], _, h => by rw [less_nil] at h; cases h
  | _, [], _ :: _, h, _ => by rw [less_nil] at h; cases h
  | [], _ :: _, _ :: _, _, _ => rfl
  | x :: a, y :: b, z :: c, h, k => by
    rw [less_cons] at h k ⊢
    simp only [Bool.or_eq_true, decide_eq_true_eq, Bool.and_eq_true, beq_iff_eq] at h k ⊢
    rcases h with h | ⟨rfl, h⟩
    · rcases k with k | ⟨rfl, k⟩
      · exact Or.inl (UInt8.lt_trans h k)
      · exact Or.inl h
    · rcases k with k | ⟨rfl, k⟩
      · exact Or.inl k
      · exact Or.inr ⟨rfl, less_trans a b c h k⟩
theorem less_asym {a b : B} (h : less a b = true) : less b a = false := by
  cases k : less b a with
  | false => rfl
  | true => have := less_trans a b a h k; rw [less_irr] at this; cases this
/-- the order of lists of pieces -/
def cmpP : List B → List B → Int
  | [], [] => 0
  | [], _ :: _ => -1
  | _ :: _, [] => 1
  | x :: xs, y :: ys => if less x y = true then -1 else if less y x = true then 1 else cmpP xs ys
/-- the order of texts -/
def cmp (a b : B) : Int := cmpP (pieces a) (pieces b)
theorem cmpP_less : ∀ (xs ys : List B) (k : Nat) (hx : k < xs.length) (hy : k < ys.length), (∀ i (h1 : i < xs.length) (h2 : i < ys.length), i < k → xs[i] = ys[i]) → less xs[k] ys[k] = true → cmpP xs ys = -1
  | x :: xs, y :: ys, 0, hx, hy, _, h => by unfold cmpP; rw [if_pos (by simpa using h)]
  | x :: xs, y :: ys, k + 1, hx, hy, ha, h => by
    have e : x = y := ha 0 (by simp) (by simp) (by omega)
    subst e
    unfold cmpP
    rw [less_irr, if_neg (by simp), if_neg (by simp)]
    exact cmpP_less xs ys k (by simpa using hx) (by simpa using hy) (fun i h1 h2 hk => by have := ha (i + 1) (by simpa using h1) (by simpa using h2) (by omega); simpa using this) (by simpa using h)
theorem cmpP_more : ∀ (xs ys : List B) (k : Nat) (hx : k < xs.length) (hy : k < ys.length), (∀ i (h1 : i < xs.length) (h2 : i < ys.length), i < k → xs[i] = ys[i]) → less ys[k] xs[k] = true → cmpP xs ys = 1
  | x :: xs, y :: ys, 0, hx, hy, _, h => by
    have h' : less y x = true := by simpa using h
    unfold cmpP; rw [less_asym h', if_neg (by simp), if_pos h']
  | x :: xs, y :: ys, k + 1, hx, hy, ha, h => by
    have e : x = y := ha 0 (by simp) (by simp) (by omega)
    subst e
    unfold cmpP
    rw [less_irr, if_neg (by simp), if_neg (by simp)]
    exact cmpP_more xs ys k (by simpa using hx) (by simpa using hy) (fun i h1 h2 hk => by have := ha (i + 1) (by simpa using h1) (by simpa using h2) (by omega); simpa using this) (by simpa using h)
theorem cmpP_end : ∀ (xs ys : List B), (∀ i (h1 : i < xs.length) (h2 : i < ys.length), xs[i] = ys[i]) → cmpP xs ys = if xs.length < ys.length then -1 else if ys.length < xs.length then 1 else 0
  | [], [], _ => rfl
  | [], _ :: _, _ => by simp [cmpP]
  | _ :: _, [], _ => by simp [cmpP]
  | x :: xs, y :: ys, ha => by
    have e : x = y := ha 0 (by simp) (by simp)
    subst e
    unfold cmpP
    rw [less_irr, if_neg (by simp), if_neg (by simp), cmpP_end xs ys (fun i h1 h2 => by have := ha (i + 1) (by simpa using h1) (by simpa using h2); simpa using this)]
    simp only [List.length_cons, Nat.add_lt_add_iff_right]
end Nm

theorem drewN_add8 (w : World) (q : Nat) : ∀ n, (w.drewN q).drewN n = w.drewN (q + n)
  | 0 => rfl
  | n + 1 => by show ((w.drewN q).drewN n).drew = (w.drewN (q + n)).drew; rw [drewN_add8 w q n]
set_option maxRecDepth 100000 in
set_option maxHeartbeats 2000000 in
theorem rcompare_any (s t : ByteArray) (hs : s.size ≤ 1099511627776) (ht : t.size ≤ 1099511627776) (w : World) :
    Calls Tryz.prog 46 #[.string s, .string t] w fun e w' => e = .returned (.int .i64 (Nm.cmp s.toList t.toList)) ∧ Bw w w' := by
  have tok1 : Hid (s = s) := rfl
  obtain ⟨xs, hxs⟩ : ∃ ps, Hid (ps = Nm.pieces s.toList) := ⟨_, rfl⟩
  obtain ⟨ys, hys⟩ : ∃ ps, Hid (ps = Nm.pieces t.toList) := ⟨_, rfl⟩
  obtain ⟨E, hE⟩ : ∃ E, Hid (E = Nm.cmpP xs ys) := ⟨_, rfl⟩
  have hEq : Nm.cmp s.toList t.toList = E := by unfold Nm.cmp; rw [hE.out, hxs.out, hys.out]
  rw [hEq]
  have lx : xs.length ≤ 1099511627777 := by rw [hxs.out]; have := Nm.len_pieces s.toList; rw [Nm.size_toList] at this; omega
  have ly : ys.length ≤ 1099511627777 := by rw [hys.out]; have := Nm.len_pieces t.toList; rw [Nm.size_toList] at this; omega
  clear hEq
  go_enter Tryz.func46, Tryz.ntmps46
  go_wp2_with (first
    | (go_at_call 74; clear tok1; refine (rpieces_any s hs _).mono ?_; rintro e w1 ⟨v, rfl, hp, hw1⟩; rw [← hxs.out] at hp)
    | (go_at_call 74; refine (rpieces_any t ht _).mono ?_; rintro e w2 ⟨v2, rfl, hp2, hw2⟩; rw [← hys.out] at hp2))
  obtain ⟨g1, c1, rfl, hcap1, hg1, hc1⟩ := hp.keep hw2
  obtain ⟨g2, c2, rfl, hcap2, hg2, hc2⟩ := hp2
  have HC : Hid (∀ W, Bw w2 W → ∀ k (h1 : k < xs.length) (h2 : k < ys.length), W.cell? ⟨g1, k * 2 + 1, none⟩ = some (.string (Nm.S xs[k])) ∧ W.cell? ⟨g2, k * 2 + 1, none⟩ = some (.string (Nm.S ys[k]))) := fun W hW k h1 h2 => by
    rw [hW.cell (p := ⟨g1, k * 2 + 1, none⟩) hg1, hW.cell (p := ⟨g2, k * 2 + 1, none⟩) hg2]
    exact ⟨(hc1 k h1).2, (hc2 k h2).2⟩
  have hw02 : Bw w w2 := hw1.trans hw2
  clear hp hc1 hc2 hg1 hg2 hw1 hw2 hs ht
  go_loopw [4, 7] (fun r i wr => ∃ (k q : Nat), k ≤ xs.length ∧ k ≤ ys.length ∧ r = .int .i64 0 ∧ i = .int .i64 (k : Int) ∧ Hid (∀ i (h1 : i < xs.length) (h2 : i < ys.length), i < k → xs[i] = ys[i]) ∧ Hid (wr = w2.drewN q)) (fun _ i _ => xs.length - (intOf i).toNat)
  case atStart => exact ⟨0, 0, Nat.zero_le _, Nat.zero_le _, rfl, rfl, fun i h1 h2 h => by omega, rfl⟩
  case round =>
    obtain ⟨k, q, hkx, hky, rfl, rfl, hall, hq⟩ := hrel
    have k0 : (0 : Int) ≤ (k : Int) := Int.natCast_nonneg _
    have hbw : Bw w2 wr := by rw [hq.out]; exact Bw.drewN w2 q
    have HBW : Hid (Bw w2 wr) := hbw
    clear hbw
    by_cases h1 : k < xs.length
    · have t1 : (k : Int) < (xs.length : Int) := by omega
      by_cases h2 : k < ys.length
      · have t2 : (k : Int) < (ys.length : Int) := by omega
        obtain ⟨a1, a2⟩ := HC.out _ HBW.out k h1 h2
        obtain ⟨X, hX⟩ : ∃ X, Hid (X = Nm.S xs[k]) := ⟨Nm.S xs[k], show Nm.S xs[k] = _ from rfl⟩
        obtain ⟨Y, hY⟩ : ∃ Y, Hid (Y = Nm.S ys[k]) := ⟨Nm.S ys[k], show Nm.S ys[k] = _ from rfl⟩
        rw [← hX.out] at a1
        rw [← hY.out] at a2
        have hXl : Hid (X.toList = xs[k]) := by show _ = _; rw [hX.out, Nm.toList_S]
        have hYl : Hid (Y.toList = ys[k]) := by show _ = _; rw [hY.out, Nm.toList_S]
        have hq2 : Hid (∀ nq, Bw w (wr.drewN nq)) := fun nq => hw02.trans (HBW.out.trans (Bw.drewN _ nq))
        have hq3 : Hid (∀ m nq, Bw w ((wr.drewN m).drewN nq)) := fun m nq => hw02.trans (HBW.out.trans ((Bw.drewN _ m).trans (Bw.drewN _ nq)))
        have hq4 : Hid (∀ nq, wr.drewN nq = w2.drewN (q + nq)) := fun nq => by rw [hq.out, drewN_add8]
        by_cases hl : Op.bytesLess X.toList Y.toList = true
        · have hans : Hid (E = -1) := by show _ = _; rw [hE.out]; exact Nm.cmpP_less xs ys k h1 h2 hall.out (by rw [← hXl.out, ← hYl.out]; exact hl)
          go_wp2
          go_quiet (fail)
          go_wp2
          go_ret
          exact ⟨ret_int hans.out.symm, hq2.out _⟩
        · have hl' : Op.bytesLess X.toList Y.toList = false := by simpa using hl
          by_cases he : X.toList = Y.toList
          · have e1 : (X.toList == Y.toList) = true := by rw [beq_iff_eq]; exact he
            have hn : Hid (∀ i (h1 : i < xs.length) (h2 : i < ys.length), i < k + 1 → xs[i] = ys[i]) := fun i h1 h2 h => by
              rcases Nat.lt_or_ge i k with h3 | h3
              · exact hall.out i h1 h2 h3
              · obtain rfl : i = k := by omega
                rw [← hXl.out, ← hYl.out]; exact he
            clear hl he
            go_wp2
            go_quiet (fail)
            go_wp2
            go_quiet (fail)
            go_wp2
            go_roundw
            case rel => exact ⟨k + 1, _, by omega, by omega, rfl, by go_num, hn, hq4.out _⟩
            case measure => simp [intOf]; omega
          · have e1 : (X.toList == Y.toList) = false := by rw [beq_eq_false_iff_ne]; exact he
            have hans : Hid (E = 1) := by
              show _ = _
              rw [hE.out]
              refine Nm.cmpP_more xs ys k h1 h2 hall.out ?_
              rw [← hXl.out, ← hYl.out]
              cases hm : Nm.less Y.toList X.toList with
              | true => rfl
              | false => exact absurd (Nm.less_tot _ _ hl' hm) he
            clear hl he
            go_wp2
            go_quiet (fail)
            go_wp2
            go_quiet (fail)
            go_wp2
            go_ret
            exact ⟨ret_int hans.out.symm, hq3.out _ _⟩
      · have ek : k = ys.length := by omega
        subst ek
        have hans : Hid (E = 1) := by
          show _ = _
          rw [hE.out, Nm.cmpP_end xs ys (fun i a b => hall.out i a b b), if_neg (by omega), if_pos h1]
        go_wp2
        go_ret
        exact ⟨ret_int hans.out.symm, hw02.trans HBW.out⟩
    · have ek : k = xs.length := by omega
      subst ek
      have hfin : Hid (Bw w wr) := hw02.trans HBW.out
      by_cases h2 : xs.length < ys.length
      · have hans : Hid (E = -1) := by
          show _ = _
          rw [hE.out, Nm.cmpP_end xs ys (fun i a b => hall.out i a b a), if_pos h2]
        go_wp2
        go_ret
        exact ⟨ret_int hans.out.symm, hfin.out⟩
      · have hans : Hid (E = 0) := by
          show _ = _
          rw [hE.out, Nm.cmpP_end xs ys (fun i a b => hall.out i a b a), if_neg h2, if_neg (by omega)]
        have hey : ys.length = xs.length := by omega
        have hey' : ¬ (xs.length : Int) < (ys.length : Int) := by omega
        have hey2 : ¬ (ys.length : Int) < (xs.length : Int) := by omega
        clear hey
        go_wp2
        go_ret
        exact ⟨ret_int hans.out.symm, hfin.out⟩

namespace Nm
/-- what stands above a text -/
def up (l : B) : B := joined (pieces l).dropLast
theorem joined_append : ∀ (ps : List B) (p : B), ps ≠ [] → joined (ps ++ [p]) = joined ps ++ 47 :: p
  | [], p, h => absurd rfl h
  | [q], p, _ => rfl
  | q :: r :: t, p, _ => by
    show q ++ 47 :: joined ((r :: t) ++ [p]) = (q ++ 47 :: joined (r :: t)) ++ 47 :: p
    rw [joined_append (r :: t) p (by simp)]; simp
theorem up_of {l : B} {ps : List B} {p : B} (h : pieces l = ps ++ [p]) : up l = if tot ps = 0 then [] else l.take (tot ps - 1) := by
  unfold up
  rw [h, List.dropLast_concat]
  by_cases hp : ps = []
  · subst hp; rfl
  · have e := joined_append ps p hp
    rw [← h, joined_pieces] at e
    have ht := tot_joined ps hp
    rw [if_neg (by omega), ht, Nat.add_sub_cancel, e, List.take_left]
end Nm
set_option maxRecDepth 100000 in
set_option maxHeartbeats 1000000 in
theorem rup_any (s : ByteArray) (hs : s.size ≤ 1099511627776) (w : World) :
    Calls Tryz.prog 47 #[.string s] w fun e w' => e = .returned (.string (Nm.S (Nm.up s.toList))) ∧ Bw w w' := by
  obtain ⟨ps, p, hpp⟩ : ∃ ps p, Nm.pieces s.toList = ps ++ [p] := ⟨_, _, (List.dropLast_concat_getLast (Nm.pieces_ne s.toList)).symm⟩
  have HPP : Hid (Nm.pieces s.toList = ps ++ [p]) := hpp
  obtain ⟨U, hU⟩ : ∃ U, Hid (U = Nm.S (Nm.up s.toList)) := ⟨_, rfl⟩
  rw [← hU.out]
  have hup := Nm.up_of hpp
  obtain ⟨T, hT⟩ : ∃ T, Hid (T = Nm.tot ps) := ⟨_, rfl⟩
  rw [← hT.out] at hup
  have hTs : T ≤ s.size := by
    have h1 := Nm.tot_append ps [p]
    rw [← hpp, Nm.tot_joined _ (Nm.pieces_ne _), Nm.joined_pieces, Nm.size_toList, ← hT.out] at h1
    unfold Nm.tot at h1
    omega
  have HL : Hid ((ps ++ [p]).length = ps.length + 1) := by show _ = _; simp
  have lx : ps.length + 1 ≤ 1099511627777 := by have := Nm.len_pieces s.toList; rw [Nm.size_toList, hpp, HL.out] at this; omega
  clear hpp
  have l0 : (0 : Int) ≤ (ps.length : Int) := Int.natCast_nonneg _
  by_cases h0 : T = 0
  · have hu0 : Hid (U = ⟨#[]⟩) := by show _ = _; rw [hU.out, hup, if_pos h0]; rfl
    clear hup
    have hT0 : Hid (T = 0) := h0
    go_enter Tryz.func47, Tryz.ntmps47
    go_wp2_with (go_at_call 74; refine (rpieces_any s hs _).mono ?_; rintro e w1 ⟨v, rfl, hp, hw1⟩; rw [HPP.out] at hp; obtain ⟨g, cap, rfl, hcap, hg, hc⟩ := hp; rw [HL.out]; have c1 := (hc ps.length (by rw [HL.out]; omega)).1; rw [List.take_left, ← hT.out, hT0.out] at c1; clear hc hcap)
    go_ret
    exact ⟨by rw [hu0.out]; rfl, hw1⟩
  · have hu1 : Hid (U = s.extract 0 (T - 1)) := by show _ = _; rw [hU.out, hup, if_neg h0, Nm.extract_to]
    clear hup
    obtain ⟨Q, hQ⟩ : ∃ Q, T = Q + 1 := ⟨T - 1, by omega⟩
    subst hQ
    have hq0 : (0 : Int) ≤ (Q : Int) := Int.natCast_nonneg _
    have hqs : (Q : Int) ≤ (s.size : Int) := by omega
    have hu2 : Hid (U = s.extract 0 Q) := hu1.out
    clear hu1 h0
    go_enter Tryz.func47, Tryz.ntmps47
    go_wp2_with (go_at_call 74; refine (rpieces_any s hs _).mono ?_; rintro e w1 ⟨v, rfl, hp, hw1⟩; rw [HPP.out] at hp; obtain ⟨g, cap, rfl, hcap, hg, hc⟩ := hp; rw [HL.out]; have c1 := (hc ps.length (by rw [HL.out]; omega)).1; rw [List.take_left, ← hT.out] at c1; clear hc hcap)
    go_ret
    exact ⟨by rw [hu2.out]; rfl, hw1⟩
end Go.Proofs.YtldkhbkgmiicbaaGreatDoor

/- The document's own Beneath and Split. -/
namespace Go.Proofs.YtldkhbkgmiicbaaGreatDoor
open Go.RowKit Go.Deep
set_option linter.unusedVariables false
set_option linter.unusedSimpArgs false

namespace Nm
theorem check_bd (l : B) : 0 ≤ (check l).1 ∧ (check l).1 ≤ 1000 ∧ 0 ≤ (check l).2 ∧ (check l).2 ≤ 100 := by
  unfold check
  split
  · decide
  · rename_i h
    have hp : ∀ p ∈ pieces l, p.length ≤ 400 := fun p hp => by have := piece_len hp; omega
    have ht : tot (pieces l) ≤ 401 := by rw [tot_joined _ (pieces_ne l), joined_pieces]; omega
    have : ∀ (ps : List B) (k : Nat), (∀ p ∈ ps, p.length ≤ 400) → k + tot ps ≤ 401 → 0 ≤ (chk k ps).1 ∧ (chk k ps).1 ≤ 1000 ∧ 0 ≤ (chk k ps).2 ∧ (chk k ps).2 ≤ 100 := by
      intro ps
      induction ps with
      | nil => intro k _ _; unfold chk; decide
      | cons p ps ih =>
        intro k h1 h2
        unfold chk
        unfold tot at h2
        have hb := partE_bd (h1 p (by simp))
        split
        · exact ih _ (fun q hq => h1 q (List.mem_cons_of_mem _ hq)) (by omega)
        · dsimp only; omega
    exact this _ 0 hp (by omega)
/-- all of one list are the first of another one, which has more -/
def Front (xs ys : List B) : Prop := xs.length < ys.length ∧ ∀ i (h1 : i < xs.length) (h2 : i < ys.length), xs[i] = ys[i]
def Beneath (root p : B) : Prop := (check p).2 = 0 ∧ (root = [] ∨ ((check root).2 = 0 ∧ Front (pieces root) (pieces p)))
/-- a stroke at which a path can be cut -/
def CutAt (l : B) (i : Nat) : Prop := l[i]? = some 47 ∧ i ≤ 155 ∧ l.length - i - 1 ≤ 100
/-- what Split answers -/
structure SplitSays (l a b : B) (er : Int) : Prop where
  bad : (check l).2 ≠ 0 → a = [] ∧ b = [] ∧ er = (check l).2
  short : (check l).2 = 0 → l.length ≤ 100 → a = [] ∧ b = l ∧ er = 0
  cut : (check l).2 = 0 → 100 < l.length → ∀ i, CutAt l i → (∀ j, i < j → ¬ CutAt l j) → a = l.take i ∧ b = l.drop (i + 1) ∧ er = 0
  long : (check l).2 = 0 → 100 < l.length → (∀ j, ¬ CutAt l j) → a = [] ∧ b = [] ∧ er = 2
theorem cut_lt {l : B} {i : Nat} (h : CutAt l i) : i < l.length := (List.getElem?_eq_some_iff.1 h.1).1
theorem last_cut (l : B) : (∀ j, ¬ CutAt l j) ∨ ∃ i, CutAt l i ∧ ∀ j, i < j → ¬ CutAt l j := by
  have : ∀ n, (∀ j, j < n → ¬ CutAt l j) ∨ ∃ i, i < n ∧ CutAt l i ∧ ∀ j, i < j → j < n → ¬ CutAt l j := by
    intro n
    induction n with
    | zero => exact Or.inl (fun j hj => by omega)
    | succ n ih =>
      by_cases h : CutAt l n
      · exact Or.inr ⟨n, by omega, h, fun j h1 h2 => by omega⟩
      · rcases ih with ih | ⟨i, h1, h2, h3⟩
        · exact Or.inl (fun j hj => by rcases Nat.lt_or_ge j n with k | k; exact ih j k; rw [show j = n by omega]; exact h)
        · exact Or.inr ⟨i, by omega, h2, fun j k1 k2 => by rcases Nat.lt_or_ge j n with k | k; exact h3 j k1 k; rw [show j = n by omega]; exact h⟩
  rcases this l.length with h | ⟨i, h1, h2, h3⟩
  · exact Or.inl (fun j hj => h j (cut_lt hj) hj)
  · exact Or.inr ⟨i, h2, fun j k hj => h3 j k (cut_lt hj) hj⟩
theorem split_unique {l a b a' b' : B} {e e' : Int} (h : SplitSays l a b e) (k : SplitSays l a' b' e') : a = a' ∧ b = b' ∧ e = e' := by
  by_cases h1 : (check l).2 = 0
  · by_cases h2 : l.length ≤ 100
    · obtain ⟨rfl, rfl, rfl⟩ := h.short h1 h2
      obtain ⟨rfl, rfl, rfl⟩ := k.short h1 h2
      exact ⟨rfl, rfl, rfl⟩
    · rcases last_cut l with hc | ⟨i, hi, hl⟩
      · obtain ⟨rfl, rfl, rfl⟩ := h.long h1 (by omega) hc
        obtain ⟨rfl, rfl, rfl⟩ := k.long h1 (by omega) hc
        exact ⟨rfl, rfl, rfl⟩
      · obtain ⟨rfl, rfl, rfl⟩ := h.cut h1 (by omega) i hi hl
        obtain ⟨rfl, rfl, rfl⟩ := k.cut h1 (by omega) i hi hl
        exact ⟨rfl, rfl, rfl⟩
  · obtain ⟨rfl, rfl, rfl⟩ := h.bad h1
    obtain ⟨rfl, rfl, rfl⟩ := k.bad h1
    exact ⟨rfl, rfl, rfl⟩
end Nm
/-- a call answers whether something holds -/
def TellsN (e : Ending) (P : Prop) : Prop := ∃ x : Bool, e = .returned (.bool x) ∧ (x = true ↔ P)
theorem TellsN.no {P : Prop} (h : ¬ P) : TellsN (.returned (.bool false)) P := ⟨false, rfl, ⟨fun e => Bool.noConfusion e, fun e => absurd e h⟩⟩
theorem TellsN.yes {P : Prop} (h : P) : TellsN (.returned (.bool true)) P := ⟨true, rfl, ⟨fun _ => h, fun _ => rfl⟩⟩

end Go.Proofs.YtldkhbkgmiicbaaGreatDoor

/- The document's own Split and Joined. -/
namespace Go.Proofs.YtldkhbkgmiicbaaGreatDoor
open Go.RowKit Go.Deep
set_option linter.unusedVariables false
set_option linter.unusedSimpArgs false

/-- what Split answers, as a call's end -/
def SplitEnds (l : Nm.B) (e : Ending) : Prop := ∃ a b er, e = .returned (.tuple #[.string (Nm.S a), .string (Nm.S b), .int .i64 er]) ∧ Nm.SplitSays l a b er
set_option maxRecDepth 100000 in
set_option maxHeartbeats 2000000 in
theorem rsplit_any (s : ByteArray) (hs : s.size ≤ 4611686018427387904) (w : World) :
    Calls Tryz.prog 55 #[.string s] w fun e w' => SplitEnds s.toList e ∧ Bw w w' := by
  obtain ⟨cs, es, hcs⟩ : ∃ a b, Hid (Nm.check s.toList = (a, b)) := ⟨(Nm.check s.toList).1, (Nm.check s.toList).2, show Nm.check s.toList = _ from rfl⟩
  have HSZ : Hid (s.toList.length = s.size) := Nm.size_toList s
  by_cases h1 : es = 0
  · have hc0 : Hid ((Nm.check s.toList).2 = 0) := by show _ = _; rw [hcs.out]; exact h1
    have hss : s.size ≤ 400 := by
      rcases Nat.lt_or_ge 400 s.size with h | h
      · have := hcs.out; unfold Nm.check at this; rw [if_pos (by rw [Nm.size_toList]; exact h)] at this; cases this; omega
      · exact h
    subst h1
    by_cases h2 : s.size ≤ 100
    · have hans : Hid (Nm.SplitSays s.toList [] s.toList 0) := ⟨fun h => absurd hc0.out h, fun _ _ => ⟨rfl, rfl, rfl⟩, fun _ h => by rw [HSZ.out] at h; omega, fun _ h => by rw [HSZ.out] at h; omega⟩
      go_enter Tryz.func55, Tryz.ntmps55
      go_wp2_with (go_at_call 71; refine (rcheck_any s hs _).mono ?_; rintro e w1 ⟨rfl, hw1⟩; rw [hcs.out])
      try simp only [Exit.inBlock, Exit.then]
      refine bodyPost_ret (results_tmp3 rfl _ _ _) rfl ?_
      exact ⟨⟨[], s.toList, 0, by rw [Nm.S_toList]; rfl, hans.out⟩, hw1⟩
    · have t2 : ¬ (s.size : Int) ≤ 100 := by omega
      go_enter Tryz.func55, Tryz.ntmps55
      go_wp2_with (go_at_call 71; refine (rcheck_any s hs _).mono ?_; rintro e w1 ⟨rfl, hw1⟩; rw [hcs.out])
      go_loopw [2, 3, 4, 7] (fun p q r i wr => ∃ y : Nat, y ≤ s.size ∧ p = .string ⟨#[]⟩ ∧ q = .string ⟨#[]⟩ ∧ r = .int .i64 0 ∧ i = .int .i64 ((y : Int) - 1) ∧ Hid (∀ j, y ≤ j → ¬ Nm.CutAt s.toList j) ∧ wr = w1) (fun _ _ _ i _ => (intOf i + 1).toNat)
      case atStart => exact ⟨s.size, Nat.le_refl _, rfl, rfl, rfl, by go_num, fun j hj h => by have := Nm.cut_lt h; rw [HSZ.out] at this; omega, rfl⟩
      case round =>
        obtain ⟨y, hy, rfl, rfl, rfl, rfl, hall, hww⟩ := hrel
        subst wr
        rcases y with _ | y
        · have hans : Hid (Nm.SplitSays s.toList [] [] 2) := ⟨fun h => absurd hc0.out h, fun _ h => by rw [HSZ.out] at h; omega, fun _ _ i hi => absurd hi (hall.out i (Nat.zero_le _)), fun _ _ _ => ⟨rfl, rfl, rfl⟩⟩
          go_wp2
          try simp only [Exit.inBlock, Exit.then]
          refine bodyPost_ret (results_tmp3 rfl _ _ _) rfl ?_
          exact ⟨⟨[], [], 2, rfl, hans.out⟩, hw1⟩
        · have ey : ((y + 1 : Nat) : Int) - 1 = (y : Int) := by omega
          rw [ey]
          clear ey
          have y0 : (0 : Int) ≤ (y : Int) := Int.natCast_nonneg _
          have y1 : (y : Int) < (s.size : Int) := by omega
          have hlt : y < s.size := by omega
          have hg : Hid (s.toList[y]? = some s[y]) := by
            show _ = _
            rw [List.getElem?_eq_getElem (by rw [HSZ.out]; exact hlt), Nm.get_toList s y hlt (by rw [HSZ.out]; exact hlt)]
          by_cases h47 : s[y] = 47
          · have e1 : ((s[y].toNat : Int) == 47) = true := by rw [h47]; rfl
            by_cases h5 : y ≤ 155
            · by_cases h6 : s.size - y - 1 ≤ 100
              · have hcut : Nm.CutAt s.toList y := ⟨by rw [hg.out, h47], h5, by rw [HSZ.out]; exact h6⟩
                have hans : Hid (Nm.SplitSays s.toList (s.toList.take y) (s.toList.drop (y + 1)) 0) := ⟨fun h => absurd hc0.out h, fun _ h => by rw [HSZ.out] at h; omega, fun _ _ i hi hl => by
                  have : i = y := by
                    rcases Nat.lt_trichotomy i y with h | h | h
                    · exact absurd hcut (hl y h)
                    · exact h
                    · exact absurd hi (hall.out i (by omega))
                  subst this
                  exact ⟨rfl, rfl, rfl⟩, fun _ _ h => absurd hcut (h y)⟩
                have t6 : (s.size : Int) - (y : Int) - 1 ≤ 100 := by omega
                have t5 : (y : Int) ≤ 155 := by omega
                have t7 : (y : Int) + 1 ≤ (s.size : Int) := by omega
                have t8 : (y : Int) ≤ (s.size : Int) := by omega
                have hfin : Hid (∀ nq, Bw w (w1.drewN nq)) := fun nq => hw1.trans (Bw.drewN _ nq)
                clear h47 hcut
                go_wp2
                go_quiet (fail)
                go_wp2
                try simp only [Exit.inBlock, Exit.then]
                refine bodyPost_ret (results_tmp3 rfl _ _ _) rfl ?_
                exact ⟨⟨_, _, 0, by rw [← Nm.extract_to, ← Nm.extract_from]; rfl, hans.out⟩, hfin.out _⟩
              · have t6 : ¬ (s.size : Int) - (y : Int) - 1 ≤ 100 := by omega
                have t5 : (y : Int) ≤ 155 := by omega
                have hn : Hid (∀ j, y ≤ j → ¬ Nm.CutAt s.toList j) := fun j hj h => by
                  rcases Nat.lt_or_ge y j with k | k
                  · exact hall.out j (by omega) h
                  · obtain rfl : j = y := by omega
                    have := h.2.2; rw [HSZ.out] at this; omega
                clear h47
                go_wp2
                go_roundw
                case rel => exact ⟨y, by omega, rfl, rfl, rfl, by go_num, hn, by first | rfl | trivial⟩
                case measure => simp [intOf]
            · have t5 : ¬ (y : Int) ≤ 155 := by omega
              have hn : Hid (∀ j, y ≤ j → ¬ Nm.CutAt s.toList j) := fun j hj h => by have := h.2.1; omega
              clear h47
              go_wp2
              go_roundw
              case rel => exact ⟨y, by omega, rfl, rfl, rfl, by go_num, hn, by first | rfl | trivial⟩
              case measure => simp [intOf]
          · have e1 : ((s[y].toNat : Int) == 47) = false := by
              rw [beq_eq_false_iff_ne]
              exact fun h => h47 ((Nm.byte_eq _ 47).1 h)
            have hn : Hid (∀ j, y ≤ j → ¬ Nm.CutAt s.toList j) := fun j hj h => by
              rcases Nat.lt_or_ge y j with k | k
              · exact hall.out j (by omega) h
              · obtain rfl : j = y := by omega
                have := h.1; rw [hg.out] at this; exact h47 (Option.some.inj this)
            clear h47
            go_wp2
            go_roundw
            case rel => exact ⟨y, by omega, rfl, rfl, rfl, by go_num, hn, by first | rfl | trivial⟩
            case measure => simp [intOf]
  · have e1 : (es != 0) = true := by rw [bne_iff_ne]; exact h1
    have hans : Hid (Nm.SplitSays s.toList [] [] es) := ⟨fun _ => ⟨rfl, rfl, by rw [hcs.out]⟩, fun h => absurd (by rw [← h, hcs.out]) h1, fun h => absurd (by rw [← h, hcs.out]) h1, fun h => absurd (by rw [← h, hcs.out]) h1⟩
    go_enter Tryz.func55, Tryz.ntmps55
    go_wp2_with (go_at_call 71; refine (rcheck_any s hs _).mono ?_; rintro e w1 ⟨rfl, hw1⟩; rw [hcs.out])
    try simp only [Exit.inBlock, Exit.then]
    refine bodyPost_ret (results_tmp3 rfl _ _ _) rfl ?_
    exact ⟨⟨[], [], es, rfl, hans.out⟩, hw1⟩

/-- a list of texts in memory -/
def StrsAt (w : World) (A : Option Addr) (n : Nat) (T : Nat → ByteArray) : Prop := n = 0 ∨ ∃ b off, A = some ⟨b, off, none⟩ ∧ ∀ i, i < n → w.cell? ⟨b, off + i, none⟩ = some (.string (T i))
theorem StrsAt.keep {w w' : World} {A : Option Addr} {n : Nat} {T : Nat → ByteArray} (h : StrsAt w A n T) (g : Bw w w') : StrsAt w' A n T := by
  rcases h with h0 | ⟨b, off, hA, hc⟩
  · exact Or.inl h0
  · refine Or.inr ⟨b, off, hA, fun i hi => ?_⟩
    have := hc i hi
    rw [g.cell (p := ⟨b, off + i, none⟩) (block_lt_of_cell this)]
    exact this
theorem StrsAt.at {w : World} {A : Option Addr} {n : Nat} {T : Nat → ByteArray} (h : StrsAt w A n T) {k : Nat} (hk : k < n) : ∃ b off, A = some ⟨b, off, none⟩ ∧ ∀ i, i < n → w.cell? ⟨b, off + i, none⟩ = some (.string (T i)) := by
  rcases h with h0 | h
  · omega
  · exact h
/-- the parts, as lists of bytes -/
def partsL (T : Nat → ByteArray) (n : Nat) : List Nm.B := (List.range n).map fun i => (T i).toList
theorem partsL_succ (T : Nat → ByteArray) (n : Nat) : partsL T (n + 1) = partsL T n ++ [(T n).toList] := by unfold partsL; rw [List.range_succ, List.map_append]; rfl
theorem partsL_len (T : Nat → ByteArray) (n : Nat) : (partsL T n).length = n := by unfold partsL; simp
theorem joined_next (T : Nat → ByteArray) (k : Nat) : Nm.joined (partsL T (k + 1)) = if k = 0 then (T 0).toList else Nm.joined (partsL T k) ++ (47 :: (T k).toList) := by
  rw [partsL_succ]
  by_cases h : k = 0
  · subst h; rw [if_pos rfl]; rfl
  · rw [if_neg h, Nm.joined_append _ _ (fun e => h (by have := partsL_len T k; rw [e] at this; exact this.symm))]
set_option maxRecDepth 100000 in
set_option maxHeartbeats 2000000 in
theorem rjoined_any (A : Option Addr) (n cap : Nat) (T : Nat → ByteArray) (hn : n ≤ 4611686018427387904) (hsum : (Nm.joined (partsL T n)).length ≤ 4611686018427387904) (w : World) (ha : StrsAt w A n T) :
    Calls Tryz.prog 94 #[.slice A n cap] w fun e w' => e = .returned (.string (Nm.S (Nm.joined (partsL T n)))) ∧ w' = w := by
  have HT : Hid (∀ k, k ≤ n → (Nm.joined (partsL T k)).length ≤ 4611686018427387904) := by
    intro k hk
    have : ∀ d k, k + d = n → (Nm.joined (partsL T k)).length ≤ (Nm.joined (partsL T n)).length := by
      intro d
      induction d with
      | zero => intro k h; rw [show k = n by omega]; exact Nat.le_refl _
      | succ d ih =>
        intro k h
        refine Nat.le_trans ?_ (ih (k + 1) (by omega))
        rw [joined_next]
        split
        · rename_i h0; subst h0; exact Nat.zero_le _
        · rw [List.length_append]; omega
    exact Nat.le_trans (this (n - k) k (by omega)) hsum
  have HJ : Hid (∀ k, Nm.joined (partsL T (k + 1)) = if k = 0 then (T 0).toList else Nm.joined (partsL T k) ++ (47 :: (T k).toList)) := joined_next T
  clear hsum
  go_enter Tryz.func94, Tryz.ntmps94
  go_wp2
  go_loop [3, 4] (fun x i => ∃ (k : Nat) (X : ByteArray), k ≤ n ∧ i = .int .i64 (k : Int) ∧ x = .string X ∧ Hid (X = Nm.S (Nm.joined (partsL T k)))) (fun _ i => n - (intOf i).toNat)
  case atStart => exact ⟨0, ⟨#[]⟩, Nat.zero_le _, rfl, rfl, rfl⟩
  case round =>
    obtain ⟨k, X, hk, rfl, rfl, hX⟩ := hrel
    have k0 : (0 : Int) ≤ (k : Int) := Int.natCast_nonneg _
    by_cases hlt : k < n
    · obtain ⟨b1, o1, rfl, hc1⟩ := ha.at hlt
      have c1 := hc1 k hlt
      have t1 : (k : Int) < (n : Int) := by omega
      clear hc1
      have hj := HT.out (k + 1) (by omega)
      rw [HJ.out k] at hj
      by_cases h0 : k = 0
      · rw [if_pos h0] at hj
        subst h0
        rw [Nat.add_zero] at c1
        have hX0 : X = ⟨#[]⟩ := by rw [hX.out]; rfl
        subst hX0
        have hadd : (⟨#[]⟩ : ByteArray) ++ T 0 = T 0 := by
          rw [← Nm.S_toList (T 0), show (⟨#[]⟩ : ByteArray) = Nm.S [] from rfl, Nm.append_S]; rfl
        have hsz : (T 0).size ≤ 4611686018427387904 := by rw [Nm.size_toList] at hj; exact hj
        have hrun : ∀ u : World, (Op.stringOp .add ⟨#[]⟩ (T 0)).run Tryz.prog u = .ok (.string (T 0)) u := fun u => by
          rw [run_string_add_sum _ _ _ (by rw [show (⟨#[]⟩ : ByteArray).size = 0 from rfl]; omega), hadd]
        have hnx : Hid (T 0 = Nm.S (Nm.joined (partsL T (0 + 1)))) := by show _ = _; rw [HJ.out 0, if_pos rfl, Nm.S_toList]
        clear hadd
        go_wp2
        go_round
        case rel => exact ⟨1, T 0, by omega, by go_num, rfl, hnx⟩
        case measure => simp [intOf]; omega
      · rw [if_neg h0, List.length_append, List.length_cons, Nm.size_toList] at hj
        have t2 : (0 : Int) < (k : Int) := by omega
        have hXs : X.size = (Nm.joined (partsL T k)).length := by rw [hX.out, Nm.size_S]
        obtain ⟨Y, hY⟩ : ∃ Y, Y = X ++ (⟨#[47]⟩ : ByteArray) := ⟨_, rfl⟩
        have hYs : Y.size = X.size + 1 := by rw [hY, ByteArray.size_append]; rfl
        have hrun1 : ∀ u : World, (Op.stringOp .add X ⟨#[47]⟩).run Tryz.prog u = .ok (.string Y) u := fun u => by
          rw [run_string_add_sum _ _ _ (by rw [show (⟨#[47]⟩ : ByteArray).size = 1 from rfl]; omega), hY]
        obtain ⟨Z, hZ⟩ : ∃ Z, Z = Y ++ T k := ⟨_, rfl⟩
        have hrun2 : ∀ u : World, (Op.stringOp .add Y (T k)).run Tryz.prog u = .ok (.string Z) u := fun u => by
          rw [run_string_add_sum _ _ _ (by omega), hZ]
        have hnx : Hid (Z = Nm.S (Nm.joined (partsL T (k + 1)))) := by
          show _ = _
          rw [HJ.out k, if_neg h0, hZ, hY, hX.out, ← Nm.S_toList (T k), show (⟨#[47]⟩ : ByteArray) = Nm.S [47] from rfl, Nm.append_S, Nm.append_S, Nm.toList_S]
          simp
        clear hY hZ hXs hYs hj
        go_wp2
        go_round
        case rel => exact ⟨k + 1, Z, by omega, by go_num, rfl, hnx⟩
        case measure => simp [intOf]; omega
    · have ek : k = n := by omega
      subst ek
      go_wp2
      go_ret
      exact ⟨by rw [← hX.out]; rfl, rfl⟩
end Go.Proofs.YtldkhbkgmiicbaaGreatDoor

/- The document's own Join. -/
namespace Go.Proofs.YtldkhbkgmiicbaaGreatDoor
open Go.RowKit Go.Deep
set_option linter.unusedVariables false
set_option linter.unusedSimpArgs false

namespace Nm
/-- what Join answers -/
def joinE (ps : List B) : B × Int := if ps = [] then ([], 4) else if ∃ p ∈ ps, (47 : UInt8) ∈ p then ([], 1) else if (check (joined ps)).2 = 0 then (joined ps, 0) else ([], (check (joined ps)).2)
end Nm
end Go.Proofs.YtldkhbkgmiicbaaGreatDoor
