/- The document's own one (of tabularyref09): the record that bytes begin with. -/
import Derived.Test.YtldkhbkgmiicbaaAA
namespace Go.Proofs.Ytldkhbkgmiicbaa
open Go.RowKit Go.Deep
set_option linter.unusedVariables false
set_option linter.unusedSimpArgs false

namespace Px
theorem cut_at (b : B) (lo hi i : Nat) (c : UInt8) (h : ((b.take hi).drop lo)[i]? = some c) : lo + i < hi ∧ b[lo + i]? = some c := by
  rw [List.getElem?_drop, List.getElem?_take] at h
  by_cases hl : lo + i < hi
  · rw [if_pos hl] at h; exact ⟨hl, h⟩
  · rw [if_neg hl] at h; cases h
theorem cut_len (b : B) (lo hi : Nat) (h : hi ≤ b.length) : ((b.take hi).drop lo).length = hi - lo := by
  rw [List.length_drop, List.length_take, Nat.min_eq_left h]
theorem cut_cut (b : B) (lo hi j : Nat) (h : lo + j ≤ hi) : ((b.take hi).drop lo).take j = (b.take (lo + j)).drop lo := by
  rw [List.drop_take, List.take_take, List.drop_take]
  congr 1
  omega
theorem cut_drop (b : B) (lo hi j : Nat) : ((b.take hi).drop lo).drop j = (b.take hi).drop (lo + j) := by rw [List.drop_drop]
end Px
/-- a piece of a row of bytes, as a text -/
theorem conv_cut {u : World} {B off lo hi C : Nat} {b : Px.B} (h : RowAt u (some ⟨B, off, none⟩) b.length (Px.rowF b)) (h2 : hi ≤ b.length) :
    (convert 23 9 (.slice (some ⟨B, off + lo, none⟩) (hi - lo) C)).run Try.prog u = .ok (.string (Nm.S ((b.take hi).drop lo))) u := by
  have hl := Px.cut_len b lo hi h2
  rw [← hl]
  refine run_convert_bytes_back _ 23 9 5 ⟨B, off + lo, none⟩ C ((b.take hi).drop lo) Try.underlying23 Try.underlying5 Try.underlying9 ?_
  intro j hj
  obtain ⟨g1, g2⟩ := Px.cut_at b lo hi j _ (List.getElem?_eq_getElem hj)
  obtain ⟨b', o', e, hc⟩ := h.at (k := lo + j) (by omega)
  cases e
  rw [Addr.add_lit]
  show u.cell? ⟨B, off + lo + j, none⟩ = _
  rw [Nat.add_assoc, hc (lo + j) (by omega), Px.rowF_at g2]
namespace Px
theorem long_pos {b : B} (h : (longF b).2 ≠ 0) : 1 ≤ (longF b).1 ∧ (longF b).2 ≤ 4 ∧ (longF b).2 < b.length ∧ (longF b).1 ≤ 9999 := by
  unfold longF at h ⊢
  split at h
  · exact absurd rfl h
  · rename_i hc
    rw [if_neg hc]
    dsimp only
    simp only [not_or] at hc
    obtain ⟨h1, h2, h3, h4⟩ := hc
    have h5 : (b.takeWhile isD).length < b.length := by
      rcases Nat.lt_or_ge (b.takeWhile isD).length b.length with g | g
      · exact g
      · rw [List.getElem?_eq_none g] at h4; simp at h4
    have h6 := val_lt _ (b.takeWhile isD) rfl (takeWhile_all isD b)
    have h7 : 10 ^ (b.takeWhile isD).length ≤ 10 ^ 4 := Nat.pow_le_pow_right (by decide) (by omega)
    refine ⟨?_, by omega, h5, by omega⟩
    have h8 := takeWhile_all isD b
    cases e : b.takeWhile isD with
    | nil => rw [e] at h1; exact absurd rfl h1
    | cons c t =>
      rw [e] at h3 h8
      exact val_pos (h8 c (by simp)) (fun hc => h3 (by rw [hc]; rfl)) _ rfl
theorem one_bad1 {b : B} (h : (longF b).2 = 0 ∨ b.length < (longF b).1 ∨ b[(longF b).1 - 1]? ≠ some 10) : oneF b = (([], []), 0, 90) := by
  unfold oneF
  rw [if_pos h]
theorem one_bad2 {b : B} {n d : Nat} (hl : longF b = (n, d)) (hd : d ≠ 0) (hn : n ≤ b.length) (ht : b[n - 1]? = some 10) (hno : ∀ (i : Nat) (c : UInt8), ((b.take (n - 1)).drop (d + 1))[i]? = some c → c ≠ 61) : oneF b = (([], []), 0, 90) := by
  unfold oneF
  rw [hl, if_neg (by
    rintro (h | h | h)
    · exact hd h
    · exact absurd hn (by omega)
    · exact h ht)]
  dsimp only
  rw [if_pos]
  rw [takeWhile_whole]
  intro c hc
  obtain ⟨i, hi⟩ := List.getElem?_of_mem hc
  rw [bne_iff_ne]
  exact hno i c hi
theorem one_good {b : B} {n d j : Nat} (hl : longF b = (n, d)) (hd : d ≠ 0) (hn : n ≤ b.length) (ht : b[n - 1]? = some 10) (hno : ∀ (i : Nat) (c : UInt8), i < j → ((b.take (n - 1)).drop (d + 1))[i]? = some c → c ≠ 61) (hj : ((b.take (n - 1)).drop (d + 1))[j]? = some 61) :
    oneF b = (let p : Pr := (((b.take (d + 1 + j)).drop (d + 1)), ((b.take (n - 1)).drop (d + 1 + j + 1)));
      if fits p ≠ 0 then (([], []), 0, fits p) else if psize p ≠ n then (([], []), 0, 90) else (p, n, 0)) := by
  obtain ⟨g1, g2⟩ := cut_at _ _ _ _ _ hj
  have hjl : j < ((b.take (n - 1)).drop (d + 1)).length := (List.getElem?_eq_some_iff.1 hj).1
  have htw : ((b.take (n - 1)).drop (d + 1)).takeWhile (fun c => c != 61) = ((b.take (n - 1)).drop (d + 1)).take j := by
    conv => lhs; rw [← List.take_append_drop j ((b.take (n - 1)).drop (d + 1)), List.drop_eq_getElem_cons hjl]
    refine takeWhile_stop _ _ _ _ (fun c hc => ?_) ?_
    · obtain ⟨i, hi⟩ := List.getElem?_of_mem hc
      rw [List.getElem?_take] at hi
      by_cases hij : i < j
      · rw [if_pos hij] at hi
        rw [bne_iff_ne]; exact hno i c hij hi
      · rw [if_neg hij] at hi; cases hi
    · rw [List.getElem?_eq_getElem hjl, Option.some.injEq] at hj
      rw [hj]; rfl
  have hkl : (((b.take (n - 1)).drop (d + 1)).take j).length = j := by rw [List.length_take]; omega
  unfold oneF
  rw [hl, if_neg (by
    rintro (h | h | h)
    · exact hd h
    · exact absurd hn (by omega)
    · exact h ht)]
  dsimp only
  rw [htw, hkl, if_neg (by omega), cut_cut b (d + 1) (n - 1) j (by omega), cut_drop, ← Nat.add_assoc]
end Px
theorem two_cells {u : World} {g : Nat} {a b x y : Value} (h1 : u.cell? ⟨g, 0, none⟩ = some x) (h2 : u.cell? ⟨g, 1, none⟩ = some y) :
    ((u.setCell ⟨g, 0, none⟩ a).setCell ⟨g, 1, none⟩ b).cell? ⟨g, 0, none⟩ = some a ∧ ((u.setCell ⟨g, 0, none⟩ a).setCell ⟨g, 1, none⟩ b).cell? ⟨g, 1, none⟩ = some b := by
  constructor
  · rw [World.cell?_setCell_other _ _ _ _ (by simp), World.cell?_setCell_same' _ _ _ (by rw [h1]; rfl)]
  · rw [World.cell?_setCell_same' _ _ _ (by rw [World.cell?_setCell_other _ _ _ _ (by simp), h2]; rfl)]
/-- what one answers -/
def OneEnds (b : Px.B) (e : Ending) : Prop := e = .returned (.tuple #[.agg #[.string (Nm.S (Px.oneF b).1.1), .string (Nm.S (Px.oneF b).1.2)], .int .i64 ((Px.oneF b).2.1 : Int), .int .i64 ((Px.oneF b).2.2 : Int)])
end Go.Proofs.Ytldkhbkgmiicbaa
