/- Texts of mine, put together. -/
import Derived.Test.YtldkhbkgmiicbaaGreatDoorBu4
import Derived.RangeFuncNested
import Derived.RangeFuncBound
import Derived.RangeFuncCalls
import Derived.RangeFuncLeaves
import Derived.Shelf.Abstract
import Derived.Shelf.RegionOpen
import Derived.OwnWalkIn
import Derived.TacticsInMore
import Derived.LoopNIn
import Derived.LoopIn
import Derived.RangeFuncFrom

/- The document's own Lead. -/
namespace Go.Proofs.YtldkhbkgmiicbaaGreatDoor
open Go.RowKit Go.Deep
set_option linter.unusedVariables false
set_option linter.unusedSimpArgs false

namespace Nm
/-- a link's way -/
def leadF : List B → List B → Option (List B)
  | way, [] => some way
  | way, s :: ss => if s = [] ∨ s = [46] then leadF way ss else if s ≠ [46, 46] then leadF (way ++ [s]) ss else if way = [] then none else leadF way.dropLast ss
/-- where a link leads -/
def lead (from_ to : B) : B × Int := if (check from_).2 ≠ 0 then ([], (check from_).2) else if to = [] then ([], 80) else if 400 < to.length then ([], 2) else if nul to ≠ none then ([], 82) else if to.head? = some 47 then ([], 83) else
  match leadF (pieces from_).dropLast (pieces to) with | none => ([], 83) | some way => (joined way, 0)
theorem lead_bd (a b : B) : 0 ≤ (lead a b).2 ∧ (lead a b).2 ≤ 100 := by
  unfold lead
  split
  · have := check_bd a; dsimp only; omega
  · repeat (split; · decide)
    show (0 : Int) ≤ 0 ∧ (0 : Int) ≤ 100
    decide
/-- the cells of a list of texts -/
def cellsS (ps : List B) : List Value := ps.map fun p => .string (S p)
theorem cellsS_snoc (ps : List B) (p : B) : cellsS (ps ++ [p]) = cellsS ps ++ [.string (S p)] := by unfold cellsS; simp
end Nm
theorem info_str : (Tryz.prog.info? 9).map (fun i => (i.zero, i.size, i.bytes)) = some (some (.string ⟨#[]⟩), 1, 16) := by kernel_rfl
/-- a row of the call's own, cut short -/
theorem own_cut {W : World} {b g n m cap : Nat} {e : TypeId} {xs : List Value} (h : W.ownsRow b e 1 (.slice (some ⟨g, 0, none⟩) n cap) n xs) (hm : m ≤ n) : W.ownsRow b e 1 (.slice (some ⟨g, 0, none⟩) m cap) m (xs.take m) := by
  obtain ⟨h1, h2⟩ := h
  refine ⟨by rw [List.length_take, h1]; omega, ?_⟩
  rcases h2 with ⟨h0, _⟩ | ⟨g', cap', cur, hv, hg, hc, k1, k2, k3, k4⟩
  · cases h0
  · cases hv
    refine Or.inr ⟨g, cap, cur, rfl, hg, hc, by omega, k2, k3, ?_⟩
    rw [← k4, List.take_take, Nat.mul_one, Nat.mul_one, Nat.min_eq_left hm]
theorem strs_own {W : World} {b : Nat} {v : Value} {ps : List Nm.B} (h : W.ownsRow b 9 1 v ps.length (Nm.cellsS ps)) : ∃ A cap, v = .slice A ps.length cap ∧ StrsAt W A ps.length (fun i => Nm.S (ps.getD i [])) ∧ (ps ≠ [] → ∃ g, A = some ⟨g, 0, none⟩) := by
  rcases h.2 with ⟨rfl, h0⟩ | ⟨g, cap, cur, rfl, hg, hc, k1, k2, k3, k4⟩
  · exact ⟨none, 0, by rw [h0], Or.inl h0, fun hne => absurd (List.eq_nil_of_length_eq_zero h0) hne⟩
  · refine ⟨_, cap, rfl, Or.inr ⟨g, 0, rfl, fun i hi => ?_⟩, fun _ => ⟨g, rfl⟩⟩
    rw [Nat.zero_add, cell_of_row W g i cur _ _ hc, ← Array.getElem?_toList]
    have e : (cur.toList.take (ps.length * 1))[i]? = (Nm.cellsS ps)[i]? := by rw [k4]
    rw [Nat.mul_one, List.getElem?_take, if_pos hi] at e
    rw [e]
    unfold Nm.cellsS
    rw [List.getElem?_map, List.getElem?_eq_getElem hi]
    dsimp only [Option.map]
    rw [List.getD_eq_getElem?_getD, List.getElem?_eq_getElem hi]; rfl
theorem partsL_of (ps : List Nm.B) : partsL (fun i => Nm.S (ps.getD i [])) ps.length = ps := by
  apply List.ext_getElem?
  intro i
  unfold partsL
  rw [List.getElem?_map]
  rcases Nat.lt_or_ge i ps.length with h | h
  · rw [List.getElem?_range h, List.getElem?_eq_getElem h]
    simp only [Option.map_some, Nm.toList_S, List.getD_eq_getElem?_getD, List.getElem?_eq_getElem h, Option.getD_some]
  · rw [List.getElem?_eq_none (by simpa using h), List.getElem?_eq_none h]; rfl

set_option maxRecDepth 100000 in
set_option maxHeartbeats 2000000 in
theorem rlead_bad (s t : ByteArray) (hs : s.size ≤ 4611686018427387904) (ht : t.size ≤ 4611686018427387904) (w : World)
    (h : (Nm.check s.toList).2 ≠ 0 ∨ t.toList = [] ∨ 400 < t.size ∨ Nm.nul t.toList ≠ none ∨ t.toList.head? = some 47) :
    Calls Tryz.prog 73 #[.string s, .string t] w fun e w' => e = .returned (.tuple #[.string (Nm.S (Nm.lead s.toList t.toList).1), .int .i64 (Nm.lead s.toList t.toList).2]) ∧ Bw w w' := by
  obtain ⟨E, hE⟩ : ∃ E, Hid (Nm.lead s.toList t.toList = E) := ⟨_, rfl⟩
  rw [hE.out]
  have HSZ : t.toList.length = t.size := Nm.size_toList t
  obtain ⟨cs, es, hcs⟩ : ∃ a b, Hid (Nm.check s.toList = (a, b)) := ⟨(Nm.check s.toList).1, (Nm.check s.toList).2, show Nm.check s.toList = _ from rfl⟩
  by_cases h1 : es = 0
  · have hc0 : (Nm.check s.toList).2 = 0 := by rw [hcs.out]; exact h1
    subst h1
    by_cases h2 : t.toList = []
    · have hE2 : E = ([], 80) := by rw [← hE.out]; unfold Nm.lead; rw [if_neg (fun h => h hc0), if_pos h2]
      subst hE2
      clear hc0 HSZ h
      go_enter Tryz.func73, Tryz.ntmps73
      go_wp2_with (go_at_call 71; refine (rcheck_any s hs _).mono ?_; rintro e w1 ⟨rfl, hw1⟩; rw [hcs.out])
      go_ret2
      exact ⟨rfl, hw1⟩
    · have e2 : (t.toList == []) = false := by rw [beq_eq_false_iff_ne]; exact h2
      by_cases h3 : 400 < t.size
      · have hE2 : E = ([], 2) := by rw [← hE.out]; unfold Nm.lead; rw [if_neg (fun h => h hc0), if_neg h2, if_pos (by omega)]
        subst hE2
        clear hc0 HSZ h
        go_enter Tryz.func73, Tryz.ntmps73
        go_wp2_with (go_at_call 71; refine (rcheck_any s hs _).mono ?_; rintro e w1 ⟨rfl, hw1⟩; rw [hcs.out])
        go_ret2
        exact ⟨rfl, hw1⟩
      · cases h4 : Nm.nul t.toList with
        | some n =>
          have hE2 : E = ([], 82) := by rw [← hE.out]; unfold Nm.lead; rw [if_neg (fun h => h hc0), if_neg h2, if_neg (by omega), if_pos (by rw [h4]; simp)]
          subst hE2
          have hI : Hid (Nm.nulI t.toList = (n : Int)) := by show _ = _; unfold Nm.nulI; rw [h4]
          have n0 : (0 : Int) ≤ (n : Int) := Int.natCast_nonneg _
          clear hc0 HSZ h h4
          go_enter Tryz.func73, Tryz.ntmps73
          go_wp2_with (first
            | (go_at_call 71; refine (rcheck_any s hs _).mono ?_; rintro e w1 ⟨rfl, hw1⟩; rw [hcs.out])
            | (go_at_call 93; refine (rnul_any t ht _).mono ?_; rintro e w' ⟨rfl, hw'⟩; subst w'; rw [hI.out]))
          go_ret2
          exact ⟨rfl, hw1⟩
        | none =>
          have h5 : t.toList.head? = some 47 := by
            rcases h with h | h | h | h | h
            · exact absurd hc0 h
            · exact absurd h h2
            · exact absurd h h3
            · exact absurd h4 h
            · exact h
          have hE2 : E = ([], 83) := by rw [← hE.out]; unfold Nm.lead; rw [if_neg (fun h => h hc0), if_neg h2, if_neg (by omega), if_neg (by rw [h4]; simp), if_pos h5]
          subst hE2
          have hI : Hid (Nm.nulI t.toList = -1) := by show _ = _; unfold Nm.nulI; rw [h4]
          have hlt : 0 < t.size := by rw [← HSZ]; exact List.length_pos_iff.2 h2
          have hg : t[0] = 47 := by
            rw [Nm.get_toList t 0 hlt (by omega)]
            rw [List.head?_eq_getElem?, List.getElem?_eq_getElem (by omega)] at h5
            exact Option.some.inj h5
          have e5 : ((t[0].toNat : Int) == 47) = true := by rw [hg]; rfl
          have t0 : (0 : Int) < (t.size : Int) := by omega
          clear hc0 HSZ h h4 h5 hg
          go_enter Tryz.func73, Tryz.ntmps73
          go_wp2_with (first
            | (go_at_call 71; refine (rcheck_any s hs _).mono ?_; rintro e w1 ⟨rfl, hw1⟩; rw [hcs.out])
            | (go_at_call 93; refine (rnul_any t ht _).mono ?_; rintro e w' ⟨rfl, hw'⟩; subst w'; rw [hI.out]))
          go_ret2
          exact ⟨rfl, hw1⟩
  · have e1 : (es != 0) = true := by rw [bne_iff_ne]; exact h1
    have hE2 : E = ([], es) := by rw [← hE.out]; unfold Nm.lead; rw [if_pos (by rw [hcs.out]; exact h1), hcs.out]
    subst hE2
    clear HSZ h
    go_enter Tryz.func73, Tryz.ntmps73
    go_wp2_with (go_at_call 71; refine (rcheck_any s hs _).mono ?_; rintro e w1 ⟨rfl, hw1⟩; rw [hcs.out])
    go_ret2
    exact ⟨rfl, hw1⟩
/-- two rows of the call's own of unlike types lie apart -/
theorem own_apart8 {W : World} {b b' : Nat} {e e' : TypeId} {s s' n n' : Nat} {v v' : Value} {xs xs' : List Value} (h : W.ownsRow b e s v n xs) (h' : W.ownsRow b' e' s' v' n' xs') (hne : e ≠ e') : v.ownBlock = none ∨ v.ownBlock ≠ v'.ownBlock := by
  rcases h.2 with ⟨rfl, _⟩ | ⟨g, cap, cur, rfl, _, hg, _⟩
  · exact Or.inl rfl
  · rcases h'.2 with ⟨rfl, _⟩ | ⟨g', cap', cur', rfl, _, hg', _⟩
    · exact Or.inr (fun e => by cases e)
    · refine Or.inr fun e => ?_
      simp only [Value.ownBlock, Option.some.injEq] at e
      subst e
      rw [hg] at hg'
      cases hg'
      exact hne rfl
theorem tot_dropLast (ps : List Nm.B) : Nm.tot ps.dropLast ≤ Nm.tot ps := by
  cases h : ps with
  | nil => exact Nat.le_refl _
  | cons p r =>
    rw [← h]
    have e := List.dropLast_concat_getLast (show ps ≠ [] by rw [h]; simp)
    have h2 := Nm.tot_append ps.dropLast [ps.getLast (by rw [h]; simp)]
    rw [e] at h2
    omega
set_option maxRecDepth 100000 in
set_option maxHeartbeats 4000000 in
theorem rlead_good (s t : ByteArray) (w : World) (h1 : (Nm.check s.toList).2 = 0) (h2 : t.toList ≠ []) (h3 : t.size ≤ 400) (h4 : Nm.nul t.toList = none) (h5 : t.toList.head? ≠ some 47) :
    Calls Tryz.prog 73 #[.string s, .string t] w fun e w' => e = .returned (.tuple #[.string (Nm.S (Nm.lead s.toList t.toList).1), .int .i64 (Nm.lead s.toList t.toList).2]) ∧ Bw w w' := by
  obtain ⟨i0, hi0, hz0, hz1, hz2⟩ := info_parts info_str
  obtain ⟨E, hE⟩ : ∃ E, Hid (Nm.lead s.toList t.toList = E) := ⟨_, rfl⟩
  rw [hE.out]
  have HSZ : t.toList.length = t.size := Nm.size_toList t
  obtain ⟨cs, hcs⟩ : ∃ a, Hid (Nm.check s.toList = (a, 0)) := ⟨(Nm.check s.toList).1, show Nm.check s.toList = _ by rw [← h1]⟩
  obtain ⟨xs, hxs⟩ : ∃ ps, Hid (ps = Nm.pieces s.toList) := ⟨_, rfl⟩
  obtain ⟨ys, hys⟩ : ∃ ps, Hid (ps = Nm.pieces t.toList) := ⟨_, rfl⟩
  have hss : s.size ≤ 400 := by
    rcases Nat.lt_or_ge 400 s.size with h | h
    · have := hcs.out; unfold Nm.check at this; rw [if_pos (by rw [Nm.size_toList]; exact h)] at this; cases this
    · exact h
  have HE2 : Hid (E = match Nm.leadF xs.dropLast ys with | none => ([], 83) | some way => (Nm.joined way, 0)) := by
    show _ = _
    rw [← hE.out]; unfold Nm.lead
    rw [if_neg (fun h => h h1), if_neg h2, if_neg (by omega), if_neg (fun h => h h4), if_neg h5, ← hxs.out, ← hys.out]
  have lx : xs.length ≤ 401 := by rw [hxs.out]; have := Nm.len_pieces s.toList; rw [Nm.size_toList] at this; omega
  have ly : ys.length ≤ 401 := by rw [hys.out]; have := Nm.len_pieces t.toList; rw [Nm.size_toList] at this; omega
  have lx0 : 0 < xs.length := by rw [hxs.out]; exact List.length_pos_iff.2 (Nm.pieces_ne _)
  have TX : Hid (Nm.tot xs ≤ 401) := by show _ ≤ _; rw [hxs.out, Nm.tot_joined _ (Nm.pieces_ne _), Nm.joined_pieces, Nm.size_toList]; omega
  have TY : Hid (∀ j, Nm.tot (ys.take j) ≤ 401) := fun j => by rw [hys.out]; have := tot_take_le (l := t.toList) j; rw [HSZ] at this; omega
  have e2 : (t.toList == []) = false := by rw [beq_eq_false_iff_ne]; exact h2
  have hI : Hid (Nm.nulI t.toList = -1) := by show _ = _; unfold Nm.nulI; rw [h4]
  have hlt : 0 < t.size := by rw [← HSZ]; exact List.length_pos_iff.2 h2
  have hg : t[0] ≠ 47 := fun e => h5 (by
    rw [List.head?_eq_getElem?, List.getElem?_eq_getElem (by omega), ← Nm.get_toList t 0 hlt (by omega), e])
  have e5 : ((t[0].toNat : Int) == 47) = false := by
    rw [beq_eq_false_iff_ne]
    exact fun h => hg ((Nm.byte_eq _ 47).1 h)
  have t0 : (0 : Int) < (t.size : Int) := by omega
  have tok1 : Hid (s = s) := rfl
  clear h1 h2 h4 h5 hg HSZ
  go_enter Tryz.func73, Tryz.ntmps73
  go_wp2_with (first
    | (go_at_call 71; refine (rcheck_any s (by omega) _).mono ?_; rintro e w1 ⟨rfl, hw1⟩; rw [hcs.out])
    | (go_at_call 93; refine (rnul_any t (by omega) _).mono ?_; rintro e w' ⟨rfl, hw'⟩; subst w'; rw [hI.out])
    | (go_at_call 74; clear tok1; refine (rpieces_any s (by omega) _).mono ?_; rintro e w2 ⟨v, rfl, hp, hw2⟩; rw [← hxs.out] at hp; obtain ⟨g1, c1, rfl, hcap1, hg1, hc1⟩ := id hp))
  have HC1 : Hid (∀ W, Bw w2 W → ∀ k (h1 : k < xs.length), W.cell? ⟨g1, k * 2 + 1, none⟩ = some (.string (Nm.S xs[k]))) := fun W hW k h1 => by
    rw [hW.cell (p := ⟨g1, k * 2 + 1, none⟩) hg1]
    exact (hc1 k h1).2
  have hw02 : Bw w w2 := hw1.trans hw2
  have sz2 := hw02.size
  clear hp hc1 hg1 hw1 hw2 hcap1
  go_loopw [8, 10] (fun v i wr => ∃ (k : Nat), k + 1 ≤ xs.length ∧ i = .int .i64 (k : Int) ∧ wr.ownsRow w2.heap.size 9 1 v k (Nm.cellsS (xs.take k)) ∧ Bw w2 wr) (fun _ i _ => xs.length - (intOf i).toNat)
  case atStart => exact ⟨0, by omega, rfl, World.ownsRow_nil _ _ _ _, Bw.refl _⟩
  case round =>
    obtain ⟨k, hk, rfl, hown, hbw⟩ := hrel
    have k0 : (0 : Int) ≤ (k : Int) := Int.natCast_nonneg _
    have szr := hbw.size
    by_cases hlt : k + 1 < xs.length
    · have t1 : (k : Int) + 1 < (xs.length : Int) := by omega
      have t2 : (k : Int) < (xs.length : Int) := by omega
      have a1 := HC1.out _ hbw k (by omega)
      have htk : Hid (xs.take (k + 1) = xs.take k ++ [xs[k]]) := by show _ = _; rw [List.take_add_one, List.getElem?_eq_getElem (by omega)]; rfl
      go_wp2_with (at_builtin; refine wpList_append_lies _ (by rfl) (.tmp 41) (.tmp 47) _ (by rfl) w2.heap.size 9 i0 _ 1 16 Tryz.underlying149 hi0 hz0 hz1 hz2 rfl (by omega) _ _ _ (by rfl) (hown.alloc _) ⟨wr.heap.size, 0, none⟩ 1 1 [_] (by rfl) (by rfl) (World.news_of_block (cs := #[_]) (t := 9) (fr := (0, 0)) (heap_alloc_new wr _)) (by simp [Value.oneCell']) (by omega) (by unfold maxLen; omega) (by omega) (by simp; omega) (wr.heap.size + 1) (by simp) ?_; intro g4 c4 w4 hown4 hgrow4 hat4 hlt4)
      go_roundw
      case rel => exact ⟨k + 1, by omega, by go_num, by rw [htk.out, Nm.cellsS_snoc]; exact hown4, bw_grow hgrow4 (Below.alloc hbw szr _) (by rw [size_alloc]; omega) (hown.alloc _)⟩
      case measure => simp [intOf]; omega
    · have ek : k + 1 = xs.length := by omega
      have t1 : ¬ (k : Int) + 1 < (xs.length : Int) := by omega
      rename World => wl
      have hdl : Hid (xs.take k = xs.dropLast) := by show _ = _; rw [List.dropLast_eq_take, ← ek, Nat.add_sub_cancel]
      have ekd : k = (xs.dropLast).length := by rw [List.length_dropLast, ← ek, Nat.add_sub_cancel]
      have hown' := hown
      rw [hdl.out, ekd] at hown'
      have htd : Hid (Nm.tot xs.dropLast ≤ 401) := Nat.le_trans (tot_dropLast xs) TX.out
      clear hown hdl
      obtain ⟨way0, hway0⟩ : ∃ l, Hid (l = xs.dropLast) := ⟨_, rfl⟩
      rw [← hway0.out] at hown' htd HE2
      have lw0 : way0.length ≤ 401 := by rw [hway0.out, List.length_dropLast]; omega
      go_wp2_with (go_at_call 74; refine (rpieces_own t (by omega) _).mono ?_; rintro e w3 ⟨v, rfl, hop, hw3⟩; rw [← hys.out] at hop; obtain ⟨g2, c2, rfl, hcap2, hg2, hc2⟩ := pcs_of_own (by rw [hys.out]; exact Nm.pieces_ne _) hop)
      have hown3 := own_keep hown' hw3
      have hb3 : Below w2.heap.size w2 w3 := hbw.trans hw3
      have HYN : Hid (ys ≠ []) := by show ys ≠ []; rw [hys.out]; exact Nm.pieces_ne _
      have HOP : Hid (w3.ownsRow w2.heap.size 128 2 (.slice (some ⟨g2, 0, none⟩) ys.length c2) ys.length (Nm.cellsP (Nm.ats 0 ys))) := by
        refine ⟨hop.1, ?_⟩
        rcases hop.2 with h | ⟨g, cap, cur, hv, hg, hr⟩
        · exact Or.inl h
        · exact Or.inr ⟨g, cap, cur, hv, by omega, hr⟩
      clear hown' hw3 hc2 hg2 hop hbw hcap2
      go_loopw [4, 5, 8, 11, 12] (fun x r v i _ wr => ∃ (j : Nat) (way : List Nm.B), j ≤ ys.length ∧ x = .string ⟨#[]⟩ ∧ r = .int .i64 0 ∧ i = .int .i64 (j : Int) ∧ wr.ownsRow w2.heap.size 9 1 v way.length (Nm.cellsS way) ∧ Hid (wr.ownsRow w2.heap.size 128 2 (.slice (some ⟨g2, 0, none⟩) ys.length c2) ys.length (Nm.cellsP (Nm.ats 0 ys))) ∧ Hid (Nm.leadF way0 ys = Nm.leadF way (ys.drop j)) ∧ Hid (Nm.tot way ≤ 401 + Nm.tot (ys.take j)) ∧ Below w2.heap.size w2 wr) (fun _ _ _ i _ _ => ys.length - (intOf i).toNat)
      case atStart => exact ⟨0, way0, Nat.zero_le _, rfl, rfl, rfl, hown3, HOP, rfl, by show _ ≤ _; have := htd.out; omega, hb3⟩
      case round =>
        clear hown3 HOP hb3
        obtain ⟨j, way, hj, rfl, rfl, rfl, hown, hP, hl, htw, hb⟩ := hrel
        have j0 : (0 : Int) ≤ (j : Int) := Int.natCast_nonneg _
        have szr := hb.size
        have htt := TY.out j
        have lway : way.length ≤ 802 := by have := Nm.len_tot way; have := htw.out; omega
        by_cases hlt : j < ys.length
        · have t1' : (j : Int) < (ys.length : Int) := by omega
          have a1 : wr.cell? ⟨g2, j * 2 + 1, none⟩ = some (.string (Nm.S ys[j])) := by
            obtain ⟨g', c', e', -, -, hc⟩ := pcs_of_own HYN.out hP.out
            cases e'
            exact (hc j hlt).2
          obtain ⟨X, hX⟩ : ∃ X, Hid (X = Nm.S ys[j]) := ⟨Nm.S ys[j], show Nm.S ys[j] = _ from rfl⟩
          rw [← hX.out] at a1
          have hXl : Hid (X.toList = ys[j]) := by show _ = _; rw [hX.out, Nm.toList_S]
          have hdr : Hid (ys.drop j = X.toList :: ys.drop (j + 1)) := by show _ = _; rw [hXl.out]; exact List.drop_eq_getElem_cons hlt
          have htk : Hid (Nm.tot (ys.take (j + 1)) = Nm.tot (ys.take j) + (X.toList.length + 1)) := by
            show _ = _
            rw [List.take_add_one, List.getElem?_eq_getElem hlt, hXl.out, show (some ys[j]).toList = [ys[j]] from rfl, Nm.tot_append]
            unfold Nm.tot
            unfold Nm.tot
            omega
          have hstep := hl.out
          rw [hdr.out] at hstep
          unfold Nm.leadF at hstep
          have HST : Hid (Nm.leadF way0 ys = if X.toList = [] ∨ X.toList = [46] then Nm.leadF way (ys.drop (j + 1)) else if X.toList ≠ [46, 46] then Nm.leadF (way ++ [X.toList]) (ys.drop (j + 1)) else if way = [] then none else Nm.leadF way.dropLast (ys.drop (j + 1))) := hl.out.trans (by rw [hdr.out]; rfl)
          clear hstep
          have htn : Hid (Nm.tot way ≤ 401 + Nm.tot (ys.take (j + 1))) := by show _ ≤ _; rw [htk.out]; have := htw.out; omega
          by_cases hs1 : X.toList = []
          · have hnx : Hid (Nm.leadF way0 ys = Nm.leadF way (ys.drop (j + 1))) := by show _ = _; rw [HST.out, if_pos (Or.inl hs1)]
            go_wp2
            go_roundw
            case rel => exact ⟨j + 1, way, by omega, rfl, rfl, by go_num, hown, hP, hnx, htn, hb⟩
            case measure => simp [intOf]; omega
          · have e1 : (X.toList == []) = false := by rw [beq_eq_false_iff_ne]; exact hs1
            by_cases hs2 : X.toList = [46]
            · have hnx : Hid (Nm.leadF way0 ys = Nm.leadF way (ys.drop (j + 1))) := by show _ = _; rw [HST.out, if_pos (Or.inr hs2)]
              go_wp2
              go_roundw
              case rel => exact ⟨j + 1, way, by omega, rfl, rfl, by go_num, hown, hP, hnx, htn, hb⟩
              case measure => simp [intOf]; omega
            · have e2' : (X.toList == [46]) = false := by rw [beq_eq_false_iff_ne]; exact hs2
              by_cases hs3 : X.toList = [46, 46]
              · have e3 : (X.toList == [46, 46]) = true := by rw [beq_iff_eq]; exact hs3
                by_cases hw : way = []
                · have hans : Hid (E = ([], 83)) := by
                    show _ = _
                    rw [HE2.out, HST.out, if_neg (fun h => h.elim hs1 hs2), if_neg (fun h => h hs3), if_pos hw]
                  subst hw
                  obtain ⟨A, cap, rfl, hst, -⟩ := strs_own hown
                  have hfin : Hid (Bw w wr) := hw02.trans hb
                  clear hs1 hs2 hs3
                  go_wp2
                  go_ret2
                  exact ⟨by rw [hans.out]; rfl, hfin.out⟩
                · have hnx : Hid (Nm.leadF way0 ys = Nm.leadF way.dropLast (ys.drop (j + 1))) := by
                    show _ = _
                    rw [HST.out, if_neg (fun h => h.elim hs1 hs2), if_neg (fun h => h hs3), if_neg hw]
                  obtain ⟨A, cap, rfl, hst, hA⟩ := strs_own hown
                  obtain ⟨g5, rfl⟩ := hA hw
                  have hcap5 : way.length ≤ cap := by
                    rcases hown.2 with ⟨h, _⟩ | ⟨g, c, cur, hv, _, _, h, _⟩
                    · cases h
                    · cases hv; exact h
                  obtain ⟨m, hm⟩ : ∃ m, way.length = m + 1 := ⟨way.length - 1, by have := List.length_pos_iff.2 hw; omega⟩
                  have hcut := own_cut hown (m := m) (by omega)
                  have hdl2 : Hid (Nm.cellsS way.dropLast = (Nm.cellsS way).take m) := by
                    show _ = _
                    unfold Nm.cellsS
                    rw [List.dropLast_eq_take, hm, Nat.add_sub_cancel, List.map_take]
                  have hdl3 : Hid (way.dropLast.length = m) := by show _ = _; rw [List.length_dropLast, hm, Nat.add_sub_cancel]
                  have htn2 : Hid (Nm.tot way.dropLast ≤ 401 + Nm.tot (ys.take (j + 1))) := Nat.le_trans (tot_dropLast way) htn.out
                  have hgood : Hid (wr.ownsRow w2.heap.size 9 1 (.slice (some ⟨g5, 0, none⟩) m cap) way.dropLast.length (Nm.cellsS way.dropLast)) := by
                    show World.ownsRow _ _ _ _ _ _ _
                    rw [hdl3.out, hdl2.out]; exact hcut
                  have m0 : (0 : Int) ≤ (m : Int) := Int.natCast_nonneg _
                  have mcap : (m : Int) ≤ (cap : Int) := by omega
                  have en : ((m : Int) + 1 == 0) = false := by rw [beq_eq_false_iff_ne]; omega
                  clear hcut hst hs1 hs2 hs3
                  rw [hm]
                  go_wp2
                  go_roundw
                  case rel => exact ⟨j + 1, way.dropLast, by omega, rfl, rfl, by go_num, hgood.out, hP, hnx, htn2, hb⟩
                  case measure => simp [intOf]; omega
              · have e3 : (X.toList == [46, 46]) = false := by rw [beq_eq_false_iff_ne]; exact hs3
                have hnx : Hid (Nm.leadF way0 ys = Nm.leadF (way ++ [X.toList]) (ys.drop (j + 1))) := by
                  show _ = _
                  rw [HST.out, if_neg (fun h => h.elim hs1 hs2), if_pos hs3]
                have htn3 : Hid (Nm.tot (way ++ [X.toList]) ≤ 401 + Nm.tot (ys.take (j + 1))) := by
                  show _ ≤ _
                  rw [htk.out, Nm.tot_append, show Nm.tot [X.toList] = X.toList.length + 1 from rfl]
                  have := htw.out
                  omega
                clear hs1 hs2 hs3
                go_wp2_with (at_builtin; refine wpList_append_lies _ (by rfl) (.tmp 70) (.tmp 72) _ (by rfl) w2.heap.size 9 i0 _ 1 16 Tryz.underlying149 hi0 hz0 hz1 hz2 rfl (by omega) _ _ _ (by rfl) (hown.alloc _) ⟨wr.heap.size, 0, none⟩ 1 1 [_] (by rfl) (by rfl) (World.news_of_block (cs := #[_]) (t := 9) (fr := (0, 0)) (heap_alloc_new wr _)) (by simp [Value.oneCell']) (by omega) (by unfold maxLen; omega) (by omega) (by simp; omega) (wr.heap.size + 1) (by simp) ?_; intro g4 c4 w4 hown4 hgrow4 hat4 hlt4)
                have hP4 := (hP.out.alloc (.cells #[.string X] 9)).kept hgrow4 (own_apart8 hP.out hown (by decide))
                go_roundw
                case rel => exact ⟨j + 1, way ++ [X.toList], by omega, rfl, rfl, by go_num, by rw [List.length_append, Nm.cellsS_snoc, Nm.S_toList]; exact hown4, hP4, hnx, htn3, bw_grow hgrow4 (Below.alloc hb szr _) (by rw [size_alloc]; omega) (hown.alloc _)⟩
                case measure => simp [intOf]; omega
        · have ek' : j = ys.length := by omega
          subst ek'
          have hans : Hid (E = (Nm.joined way, 0)) := by
            show _ = _
            rw [HE2.out, hl.out, List.drop_length]; rfl
          obtain ⟨A, cap, rfl, hst, -⟩ := strs_own hown
          have hjl : (Nm.joined way).length ≤ 4611686018427387904 := by
            have h1 := htw.out
            by_cases hw : way = []
            · rw [hw]; exact Nat.zero_le _
            · have := Nm.tot_joined way hw; omega
          have HJL : Hid ((Nm.joined (partsL (fun i => Nm.S (way.getD i [])) way.length)).length ≤ 4611686018427387904) := by show _ ≤ _; rw [partsL_of]; exact hjl
          have hfin : Hid (Bw w wr) := hw02.trans hb
          clear hjl
          go_wp2_with (go_at_call 94; refine (rjoined_any A way.length cap (fun i => Nm.S (way.getD i [])) (by omega) HJL.out _ hst).mono ?_; rintro e w' ⟨rfl, hw'⟩; subst w'; rw [partsL_of])
          go_ret2
          exact ⟨by rw [hans.out]; rfl, hfin.out⟩
theorem rlead_any (s t : ByteArray) (hs : s.size ≤ 4611686018427387904) (ht : t.size ≤ 4611686018427387904) (w : World) :
    Calls Tryz.prog 73 #[.string s, .string t] w fun e w' => e = .returned (.tuple #[.string (Nm.S (Nm.lead s.toList t.toList).1), .int .i64 (Nm.lead s.toList t.toList).2]) ∧ Bw w w' := by
  by_cases h : (Nm.check s.toList).2 ≠ 0 ∨ t.toList = [] ∨ 400 < t.size ∨ Nm.nul t.toList ≠ none ∨ t.toList.head? = some 47
  · exact rlead_bad s t hs ht w h
  · refine rlead_good s t w ?_ ?_ ?_ ?_ ?_
    · exact Classical.byContradiction fun k => h (Or.inl k)
    · exact fun k => h (Or.inr (Or.inl k))
    · rcases Nat.lt_or_ge 400 t.size with k | k
      · exact absurd (Or.inr (Or.inr (Or.inl k))) h
      · exact k
    · exact Classical.byContradiction fun k => h (Or.inr (Or.inr (Or.inr (Or.inl k))))
    · exact fun k => h (Or.inr (Or.inr (Or.inr (Or.inr k))))
end Go.Proofs.YtldkhbkgmiicbaaGreatDoor

/- A range over a text's pieces: what is not the program's own: all the pieces with their places, a list's next, a function beside nil, what stays beneath a range. -/
namespace Go.Proofs.YtldkhbkgmiicbaaGreatDoor
open Go.RowKit Go.Deep Go.Shelf
set_option linter.unusedVariables false
set_option linter.unusedSimpArgs false

namespace Nm
/-- the pieces of a text, with their places -/
def all (l : B) : List (Nat × B) := ats 0 (pieces l)
theorem ats_snoc (out : List B) (p : B) : ats 0 (out ++ [p]) = ats 0 out ++ [(tot out, p)] := by rw [ats_append, Nat.zero_add]; rfl
end Nm
/-- what a round of a range over pieces is handed -/
def encP (x : Nat × Nm.B) : Array Value := #[.int .i64 (x.1 : Int), .string (Nm.S x.2)]
namespace Nm
end Nm
theorem new_cell8 (W : World) (v : Value) (t : TypeId) : (W.alloc (.cells #[v] t)).cell? ⟨W.heap.size, 0, none⟩ = some v ∧ (W.alloc (.cells #[v] t)).frozen? ⟨W.heap.size, 0, none⟩ = false := by
  constructor
  · simp [go_sem]
  · simp [go_sem]
theorem kept_cell8 {W : World} {a : Addr} {v : Value} (o : Obj) (h : W.cell? a = some v) : (W.alloc o).cell? a = some v := cell_kept h (World.grownBy_alloc W o none) (fun r e => by cases e)
theorem kept_froz8 {W : World} {a : Addr} {v : Value} (o : Obj) (h : W.cell? a = some v) (hf : W.frozen? a = false) : (W.alloc o).frozen? a = false := (frozen_kept h (World.grownBy_alloc W o none) (fun r e => by cases e)).trans hf
def isFunc (t : Option TypeDesc) : Bool := match t with | some (.func ..) => true | _ => false
end Go.Proofs.YtldkhbkgmiicbaaGreatDoor
