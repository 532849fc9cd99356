/- Texts as lists of bytes; the contract of the document's own Pieces. -/
import Derived.Test.YtpkdnockbbppiaaN1
namespace Go.Proofs.Ytpkdnockbbppiaa
open Go.RowKit Go.Deep
set_option linter.unusedVariables false
set_option linter.unusedSimpArgs false

namespace Nm
/-- a text of these bytes -/
def S (l : B) : ByteArray := ⟨l.toArray⟩
theorem toList_S (l : B) : (S l).toList = l := ByteArray.toList_mk l
theorem S_toList (s : ByteArray) : S s.toList = s := by
  rw [ByteArray.toList_eq]; unfold S; rw [Array.toArray_toList]
theorem size_S (l : B) : (S l).size = l.length := by unfold S; rfl
theorem size_toList (s : ByteArray) : s.toList.length = s.size := by rw [ByteArray.toList_eq, Array.length_toList]; rfl
theorem extract_S (s : ByteArray) (a b : Nat) : s.extract a b = S ((s.toList.drop a).take (b - a)) := by
  have h := ByteArray.extract_mk s.toList a b
  rw [show ByteArray.mk s.toList.toArray = s from S_toList s] at h
  exact h
theorem extract_from (s : ByteArray) (a : Nat) : s.extract a s.size = S (s.toList.drop a) := by
  rw [extract_S, List.take_of_length_le]
  rw [List.length_drop, size_toList]; exact Nat.le_refl _
theorem extract_cut (s : ByteArray) (a b : Nat) : s.extract a b = S ((s.toList.take b).drop a) := by
  rw [extract_S, List.drop_take]
theorem extract_to (s : ByteArray) (b : Nat) : s.extract 0 b = S (s.toList.take b) := by rw [extract_cut]; rfl
theorem get_toList (s : ByteArray) (i : Nat) (h : i < s.size) (h' : i < s.toList.length) : s[i] = s.toList[i] := by
  have e : s.toList = s.data.toList := ByteArray.toList_eq s
  have e2 : s.toList[i]? = s.data.toList[i]? := by rw [e]
  rw [List.getElem?_eq_getElem h', Array.getElem?_toList, Array.getElem?_eq_getElem h] at e2
  exact (Option.some.inj e2).symm
theorem append_S (a b : B) : S a ++ S b = S (a ++ b) := ByteArray.mk_append_mk a b
theorem S_inj {a b : B} (h : S a = S b) : a = b := by rw [← toList_S a, h, toList_S]
theorem byte_eq (x y : UInt8) : ((x.toNat : Int) = (y.toNat : Int)) ↔ x = y := by
  constructor
  · intro h; exact UInt8.toNat_inj.1 (by omega)
  · intro h; rw [h]
/-- the cells of a list of pieces -/
def cellsP : List (Nat × B) → List Value
  | [] => []
  | x :: xs => .int .i64 (x.1 : Int) :: .string (S x.2) :: cellsP xs
theorem cellsP_append : ∀ a b, cellsP (a ++ b) = cellsP a ++ cellsP b
  | [], b => rfl
  | x :: a, b => by simp only [List.cons_append, cellsP, cellsP_append a b]
theorem cellsP_len : ∀ a, (cellsP a).length = a.length * 2
  | [] => rfl
  | x :: a => by simp only [cellsP, List.length_cons, cellsP_len a]; omega
theorem cellsP_get : ∀ (a : List (Nat × B)) (j : Nat) (x : Nat × B), a[j]? = some x → (cellsP a)[j * 2]? = some (.int .i64 (x.1 : Int)) ∧ (cellsP a)[j * 2 + 1]? = some (.string (S x.2))
  | [], j, x, h => by simp at h
  | y :: a, 0, x, h => by simp at h; subst h; exact ⟨rfl, rfl⟩
  | y :: a, j + 1, x, h => by
    have := cellsP_get a j x (by simpa using h)
    rw [show (j + 1) * 2 = j * 2 + 1 + 1 by omega]
    exact this
end Nm

theorem info_piece : (Try.prog.info? 41).map (fun i => (i.zero, i.size, i.bytes)) = some (some (.agg #[.int .i64 0, .string ⟨#[]⟩]), 2, 24) := by kernel_rfl

set_option maxRecDepth 100000 in
set_option maxHeartbeats 2000000 in
theorem rpieces_own (s : ByteArray) (hs : s.size ≤ 1099511627776) (w : World) :
    Calls Try.prog 15 #[.string s] w fun e w' => ∃ v, e = .returned v ∧ w'.ownsRow w.heap.size 41 2 v (Nm.pieces s.toList).length (Nm.cellsP (Nm.ats 0 (Nm.pieces s.toList))) ∧ Bw w w' := by
  obtain ⟨i0, hi0, hz0, hz1, hz2⟩ := info_parts info_piece
  have hsz : s.toList.length = s.size := Nm.size_toList s
  have HSZ : Hid (s.toList.length = s.size) := hsz
  clear hsz
  go_enter Try.func15, Try.ntmps15
  go_wp2
  go_loopw [3, 4, 5] (fun v f i wr => ∃ (k q : Nat) (out : List Nm.B), k ≤ s.size ∧ i = .int .i64 (k : Int) ∧ f = .int .i64 (q : Int) ∧ q ≤ k ∧ Hid (Nm.Cut s.toList k out q) ∧ out.length ≤ k ∧ wr.ownsRow w.heap.size 41 2 v out.length (Nm.cellsP (Nm.ats 0 out)) ∧ Bw w wr) (fun _ _ i _ => s.size - (intOf i).toNat)
  case atStart => exact ⟨0, 0, [], Nat.zero_le _, rfl, rfl, Nat.le_refl _, Nm.cut_start _, Nat.le_refl _, World.ownsRow_nil _ _ _ _, Bw.refl _⟩
  case round =>
    obtain ⟨k, q, out, hk, rfl, rfl, hq, hcut, hlen, hown, hbw⟩ := hrel
    have k0 : (0 : Int) ≤ (k : Int) := Int.natCast_nonneg _
    have q0 : (0 : Int) ≤ (q : Int) := Int.natCast_nonneg _
    have qk : (q : Int) ≤ (k : Int) := by omega
    have szr := hbw.size
    by_cases hlt : k < s.size
    · have t1 : (k : Int) < (s.size : Int) := by omega
      have hg : Hid (s[k] = s.toList[k]'(by rw [HSZ.out]; exact hlt)) := Nm.get_toList s k hlt _
      by_cases h47 : s[k] = 47
      · have e1 : ((s[k].toNat : Int) == 47) = true := by rw [h47]; rfl
        have hc2 : Hid (Nm.Cut s.toList (k + 1) (out ++ [(s.toList.take k).drop q]) (k + 1)) := Nm.cut_stroke hcut.out (by rw [HSZ.out]; exact hlt) (by rw [← hg.out]; exact h47)
        have hcq : Hid (q = Nm.tot out) := hcut.out.2.2.1
        clear h47
        go_wp2_with (at_builtin; refine wpList_append_lies _ (by rfl) (.tmp 16) (.tmp 23) _ (by rfl) w.heap.size 41 i0 _ 2 24 Try.underlying35 hi0 hz0 hz1 hz2 rfl (by omega) _ _ _ (by rfl) (hown.alloc _) ⟨wr.heap.size, 0, none⟩ 1 1 [_, _] (by rfl) (by rfl) (World.news_of_block (cs := #[_, _]) (t := 41) (fr := (0, 0)) (heap_alloc_new wr _)) (by simp [Value.oneCell']) (by omega) (by unfold maxLen; omega) (by omega) (by simp; omega) (wr.heap.size + 1) (by simp) ?_; intro g4 c4 w4 hown4 hgrow4 hat4 hlt4)
        go_roundw
        case rel => exact ⟨k + 1, k + 1, _, by omega, by go_num, by go_num, Nat.le_refl _, hc2, by simp only [List.length_append, List.length_cons, List.length_nil]; omega, by
          rw [List.length_append, Nm.ats_append, Nm.cellsP_append, Nat.zero_add, ← hcq.out]
          rw [Nm.extract_cut] at hown4
          exact hown4, bw_grow hgrow4 (Below.alloc hbw szr _) (by rw [size_alloc]; omega) (hown.alloc _)⟩
        case measure => simp [intOf]; omega
      · have e1 : ((s[k].toNat : Int) == 47) = false := by
          rw [beq_eq_false_iff_ne]
          exact fun h => h47 ((Nm.byte_eq _ 47).1 h)
        have hc2 : Hid (Nm.Cut s.toList (k + 1) out q) := Nm.cut_other hcut.out (by rw [HSZ.out]; exact hlt) (by rw [← hg.out]; exact h47)
        clear h47
        go_wp2
        go_roundw
        case rel => exact ⟨k + 1, q, out, by omega, by go_num, rfl, by omega, hc2, by omega, hown, hbw⟩
        case measure => simp [intOf]; omega
    · have ek : k = s.size := by omega
      subst ek
      have hpe : Hid (Nm.pieces s.toList = out ++ [s.toList.drop q]) := Nm.cut_end (by rw [HSZ.out]; exact hcut.out)
      have hcq : Hid (q = Nm.tot out) := hcut.out.2.2.1
      go_wp2_with (at_builtin; refine wpList_append_lies _ (by rfl) (.tmp 27) (.tmp 33) _ (by rfl) w.heap.size 41 i0 _ 2 24 Try.underlying35 hi0 hz0 hz1 hz2 rfl (by omega) _ _ _ (by rfl) (hown.alloc _) ⟨wr.heap.size, 0, none⟩ 1 1 [_, _] (by rfl) (by rfl) (World.news_of_block (cs := #[_, _]) (t := 41) (fr := (0, 0)) (heap_alloc_new wr _)) (by simp [Value.oneCell']) (by omega) (by unfold maxLen; omega) (by omega) (by simp; omega) (wr.heap.size + 1) (by simp) ?_; intro g4 c4 w4 hown4 hgrow4 hat4 hlt4)
      go_ret
      refine ⟨_, rfl, ?_, bw_grow hgrow4 (Below.alloc hbw szr _) (by rw [size_alloc]; omega) (hown.alloc _)⟩
      rw [hpe.out, List.length_append, Nm.ats_append, Nm.cellsP_append, Nat.zero_add, ← hcq.out]
      rw [Nm.extract_from] at hown4
      exact hown4

/-- a list of pieces in memory -/
def PcsAt (w : World) (v : Value) (ps : List Nm.B) : Prop := ∃ g cap, v = .slice (some ⟨g, 0, none⟩) ps.length cap ∧ ps.length ≤ cap ∧ g < w.heap.size ∧ ∀ j (h : j < ps.length), w.cell? ⟨g, j * 2, none⟩ = some (.int .i64 ((Nm.tot (ps.take j) : Nat) : Int)) ∧ w.cell? ⟨g, j * 2 + 1, none⟩ = some (.string (Nm.S ps[j]))
theorem pcs_of_own {w : World} {base : Nat} {v : Value} {ps : List Nm.B} (hne : ps ≠ []) (h : w.ownsRow base 41 2 v ps.length (Nm.cellsP (Nm.ats 0 ps))) : PcsAt w v ps := by
  rcases h.2 with ⟨_, h0⟩ | ⟨g, cap, cur, hv, hb, hg, h1, h2, h3, h4⟩
  · exact absurd (List.eq_nil_of_length_eq_zero h0) hne
  · refine ⟨g, cap, hv, h1, (Array.getElem?_eq_some_iff.1 hg).1, fun j hj => ?_⟩
    have hc := Nm.cellsP_get (Nm.ats 0 ps) j _ (Nm.ats_get 0 ps j hj)
    rw [Nat.zero_add] at hc
    have e : ∀ i, i < ps.length * 2 → cur[i]? = (Nm.cellsP (Nm.ats 0 ps))[i]? := fun i hi => by
      rw [← h4, List.getElem?_take, if_pos hi, Array.getElem?_toList]
    rw [cell_of_row w g _ cur _ _ hg, cell_of_row w g _ cur _ _ hg, e _ (by omega), e _ (by omega)]
    exact hc
theorem PcsAt.keep {w w' : World} {v : Value} {ps : List Nm.B} (h : PcsAt w v ps) (b : Bw w w') : PcsAt w' v ps := by
  obtain ⟨g, cap, hv, h1, h2, h3⟩ := h
  refine ⟨g, cap, hv, h1, Nat.lt_of_lt_of_le h2 b.size, fun j hj => ?_⟩
  rw [b.cell (p := ⟨g, j * 2, none⟩) h2, b.cell (p := ⟨g, j * 2 + 1, none⟩) h2]
  exact h3 j hj
theorem rpieces_any (s : ByteArray) (hs : s.size ≤ 1099511627776) (w : World) :
    Calls Try.prog 15 #[.string s] w fun e w' => ∃ v, e = .returned v ∧ PcsAt w' v (Nm.pieces s.toList) ∧ Bw w w' :=
  (rpieces_own s hs w).mono fun e w' ⟨v, he, ho, hb⟩ => ⟨v, he, pcs_of_own (Nm.pieces_ne _) ho, hb⟩
end Go.Proofs.Ytpkdnockbbppiaa
