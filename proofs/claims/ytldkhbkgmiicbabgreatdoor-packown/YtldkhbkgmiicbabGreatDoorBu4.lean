/- Texts of mine, put together. -/
import Derived.Test.YtldkhbkgmiicbabGreatDoorBu3
import Derived.Lib.Bytealg
import Derived.Lib.LastIndexByte
import Derived.Lib.Strings
import Derived.Lib.Small
import Derived.Lib.Join
import Derived.Test.YtldkhbkgmiicbabGreatDoorRows
import Derived.Shelf.Strings.Search3
import Derived.Shelf.Strings.LastIndex
import Derived.Shelf.Strings.Prefix
import Derived.Shelf.Small.Strs
import Derived.Shelf.Small.Wraps
import Derived.RangeFuncNested
import Derived.RangeFuncBound
import Derived.RangeFuncCalls
import Derived.RangeFuncLeaves
import Derived.Shelf.Abstract
import Derived.Shelf.RegionOpen
import Derived.OwnWalkIn
import Derived.TacticsInMore
import Derived.LoopNIn
import Derived.LoopIn

/- Names: the piece ahead of a text's first stroke, what stands behind it; the library's words for it. -/
namespace Go.Proofs.YtldkhbkgmiicbabGreatDoor
open Go.RowKit Go.Deep
set_option linter.unusedVariables false
set_option linter.unusedSimpArgs false

namespace Nm
/-- a text's piece ahead of its first stroke -/
def fst : B → B
  | [] => []
  | c :: l => if c = 47 then [] else c :: fst l
/-- what stands behind the first stroke -/
def rst : B → B
  | [] => []
  | c :: l => if c = 47 then l else rst l
theorem fst_len : ∀ l : B, (fst l).length ≤ l.length
  | [] => Nat.le_refl _
  | c :: l => by
    unfold fst
    split
    · simp
    · have := fst_len l; simp only [List.length_cons]; omega
theorem fst_no : ∀ l : B, (47 : UInt8) ∉ fst l
  | [] => by simp [fst]
  | c :: l => by
    unfold fst
    split
    · simp
    · rename_i h
      intro hm
      rcases List.mem_cons.1 hm with hm | hm
      · exact h hm.symm
      · exact fst_no l hm
theorem fst_free : ∀ l : B, (47 : UInt8) ∉ l → fst l = l
  | [], _ => rfl
  | c :: l, h => by
    have hc : c ≠ 47 := fun e => h (by rw [e]; simp)
    unfold fst
    rw [if_neg hc, fst_free l (fun hm => h (List.mem_cons_of_mem _ hm))]
theorem fst_rst : ∀ l : B, (47 : UInt8) ∈ l → l = fst l ++ 47 :: rst l
  | [], h => by simp at h
  | c :: l, h => by
    unfold fst rst
    by_cases hc : c = 47
    · rw [if_pos hc, if_pos hc, hc]; rfl
    · rw [if_neg hc, if_neg hc]
      have hm : (47 : UInt8) ∈ l := by
        rcases List.mem_cons.1 h with h | h
        · exact absurd h.symm hc
        · exact h
      have := fst_rst l hm
      show c :: l = c :: (fst l ++ 47 :: rst l)
      rw [← this]
theorem rst_drop {l : B} (h : (47 : UInt8) ∈ l) : rst l = l.drop ((fst l).length + 1) := by
  have e := fst_rst l h
  have : (fst l ++ 47 :: rst l).drop ((fst l).length + 1) = rst l := by
    simp [List.drop_append]
  rw [← e] at this
  exact this.symm
theorem fst_take {l : B} (h : (47 : UInt8) ∈ l) : fst l = l.take (fst l).length := by
  have e := fst_rst l h
  have : (fst l ++ 47 :: rst l).take (fst l).length = fst l := by simp
  rw [← e] at this
  exact this.symm
theorem pieces_fst {l : B} (h : (47 : UInt8) ∈ l) : pieces l = fst l :: pieces (l.drop ((fst l).length + 1)) := by
  conv => lhs; rw [fst_rst l h]
  rw [pieces_append _ _ (fst_no l), rst_drop h]
theorem fst_lt {l : B} (h : (47 : UInt8) ∈ l) : (fst l).length + 1 ≤ l.length := by
  have e := congrArg List.length (fst_rst l h)
  rw [List.length_append, List.length_cons] at e
  omega
theorem pieces_head (l : B) : ∃ r, pieces l = fst l :: r := by
  by_cases h : (47 : UInt8) ∈ l
  · exact ⟨_, pieces_fst h⟩
  · rw [pieces_free l h, fst_free l h]; exact ⟨[], rfl⟩
/-- the pieces of a text ahead of a place, and the text from there -/
def Past (l : B) (q : Nat) (out : List B) : Prop := q ≤ l.length ∧ q = tot out ∧ pieces l = out ++ pieces (l.drop q)
theorem past_start (l : B) : Past l 0 [] := ⟨Nat.zero_le _, rfl, rfl⟩
theorem past_next {l : B} {q : Nat} {out : List B} (h : Past l q out) (hm : (47 : UInt8) ∈ l.drop q) : Past l (q + ((fst (l.drop q)).length + 1)) (out ++ [fst (l.drop q)]) := by
  obtain ⟨h1, h2, h3⟩ := h
  have hl := fst_lt hm
  rw [List.length_drop] at hl
  refine ⟨by omega, ?_, ?_⟩
  · rw [tot_append, ← h2]; rfl
  · rw [h3, pieces_fst hm, List.drop_drop, List.append_assoc]; rfl
theorem past_end {l : B} {q : Nat} {out : List B} (h : Past l q out) (hm : (47 : UInt8) ∉ l.drop q) : pieces l = out ++ [fst (l.drop q)] := by
  rw [h.2.2, pieces_free _ hm, fst_free _ hm]
theorem past_front {l : B} {q : Nat} {out : List B} (h : Past l q out) : ats 0 out <+: all l ∧ (ats 0 out).length < (all l).length ∧ ats 0 out ++ [(q, fst (l.drop q))] <+: all l := by
  obtain ⟨r, hr⟩ := pieces_head (l.drop q)
  have e : all l = ats 0 out ++ (q, fst (l.drop q)) :: ats (q + (fst (l.drop q)).length + 1) r := by
    unfold all
    rw [h.2.2, ats_append, hr, Nat.zero_add, ← h.2.1]
    rfl
  refine ⟨?_, ?_, ?_⟩
  · rw [e]; exact List.prefix_append _ _
  · rw [e, List.length_append, List.length_cons]; omega
  · rw [e]
    exact ⟨ats (q + (fst (l.drop q)).length + 1) r, by rw [List.append_assoc]; rfl⟩
/-- what the library's search for a byte tells of a stroke -/
theorem idx_no : ∀ (l : B) (c : UInt8), c ∉ l → Lib.indexByte l c = -1
  | [], c, _ => rfl
  | b :: l, c, h => by
    have hb : (b == c) = false := by rw [beq_eq_false_iff_ne]; exact fun e => h (by rw [e]; simp)
    have ih := idx_no l c (fun hm => h (List.mem_cons_of_mem _ hm))
    unfold Lib.indexByte
    rw [hb, ih]; rfl
theorem idx_stroke : ∀ (l : B), (47 : UInt8) ∈ l → Lib.indexByte l 47 = ((fst l).length : Int)
  | [], h => by simp at h
  | b :: l, h => by
    by_cases hb : b = 47
    · subst hb; simp [Lib.indexByte, fst]
    · have hm : (47 : UInt8) ∈ l := by
        rcases List.mem_cons.1 h with h | h
        · exact absurd h.symm hb
        · exact h
      have ih := idx_stroke l hm
      unfold Lib.indexByte fst
      rw [if_neg hb, ih]
      have h1 : (b == (47 : UInt8)) = false := by rw [beq_eq_false_iff_ne]; exact hb
      have h2 : (((fst l).length : Int) == -1) = false := by rw [beq_eq_false_iff_ne]; omega
      rw [h1, h2, List.length_cons]
      simp
theorem idx_nul : ∀ (l : B), Lib.indexByte l 0 = nulI l
  | [] => rfl
  | b :: l => by
    have ih := idx_nul l
    unfold nulI at ih ⊢
    unfold Lib.indexByte nul
    by_cases hb : b = 0
    · subst hb; simp
    · have h1 : (b == (0 : UInt8)) = false := by rw [beq_eq_false_iff_ne]; exact hb
      rw [h1, ih]
      cases e : nul l with
      | none => simp [hb, e]
      | some n =>
        have h2 : ((n : Int) == -1) = false := by rw [beq_eq_false_iff_ne]; omega
        simp [hb, e, h2]
end Nm
end Go.Proofs.YtldkhbkgmiicbabGreatDoor

/- The library's own contracts of what the program calls, laid over this program. -/
namespace Go.Proofs.YtldkhbkgmiicbabGreatDoor
open Go.Shelf

def sx219_ren : Go.Shelf.Ren := ⟨fun | 219 => 95 | 217 => 84 | 225 => 105 | 224 => 106 | 267 => 107 | 266 => 94 | 314 => 117 | n => n, fun | 9 => 9 | 3 => 3 | 4 => 4 | 5 => 5 | 46 => 135 | 146 => 129 | 51 => 128 | n => n, fun | 1 => 1 | n => n⟩

theorem sx219 : Lays.n219 Tryz.prog sx219_ren := {
  mixed := by kernel_rfl,
  f217 := Tryz.func84.trans (congrArg some (by kernel_rfl)),
  f219 := Tryz.func95.trans (congrArg some (by kernel_rfl)),
  f224 := Tryz.func106.trans (congrArg some (by kernel_rfl)),
  f225 := Tryz.func105.trans (congrArg some (by kernel_rfl)),
  f266 := Tryz.func94.trans (congrArg some (by kernel_rfl)),
  f267 := Tryz.func107.trans (congrArg some (by kernel_rfl)),
  f314 := Tryz.func117.trans (congrArg some (by kernel_rfl)),
  t3 := Tryz.underlying3,
  a3 := Tryz.isAgg3,
  z3 := Tryz.sizeOf3,
  v3 := Tryz.zeroValue3,
  t4 := Tryz.underlying4,
  a4 := Tryz.isAgg4,
  z4 := Tryz.sizeOf4,
  v4 := Tryz.zeroValue4,
  t5 := Tryz.underlying5,
  a5 := Tryz.isAgg5,
  z5 := Tryz.sizeOf5,
  v5 := Tryz.zeroValue5,
  t9 := Tryz.underlying9,
  a9 := Tryz.isAgg9,
  z9 := Tryz.sizeOf9,
  v9 := Tryz.zeroValue9,
  t46 := Tryz.underlying135,
  a46 := Tryz.isAgg135,
  z46 := Tryz.sizeOf135,
  v46 := Tryz.zeroValue135,
  t51 := Tryz.underlying128,
  a51 := Tryz.isAgg128,
  z51 := Tryz.sizeOf128,
  v51 := Tryz.zeroValue128,
  t146 := Tryz.underlying129,
  a146 := Tryz.isAgg129,
  z146 := Tryz.sizeOf129,
  v146 := Tryz.zeroValue129,
  g1 := by kernel_rfl
}

def sx148_ren : Go.Shelf.Ren := ⟨fun | 148 => 53 | 222 => 69 | 223 => 70 | 269 => 87 | n => n, fun | 9 => 9 | 3 => 3 | 4 => 4 | 5 => 5 | 146 => 129 | 51 => 128 | 46 => 135 | n => n, fun  | n => n⟩

theorem sx148 : Lays.n148 Tryz.prog sx148_ren := {
  mixed := by kernel_rfl,
  f148 := Tryz.func53.trans (congrArg some (by kernel_rfl)),
  f222 := Tryz.func69.trans (congrArg some (by kernel_rfl)),
  f223 := Tryz.func70.trans (congrArg some (by kernel_rfl)),
  f269 := Tryz.func87.trans (congrArg some (by kernel_rfl)),
  t3 := Tryz.underlying3,
  a3 := Tryz.isAgg3,
  z3 := Tryz.sizeOf3,
  v3 := Tryz.zeroValue3,
  t4 := Tryz.underlying4,
  a4 := Tryz.isAgg4,
  z4 := Tryz.sizeOf4,
  v4 := Tryz.zeroValue4,
  t5 := Tryz.underlying5,
  a5 := Tryz.isAgg5,
  z5 := Tryz.sizeOf5,
  v5 := Tryz.zeroValue5,
  t9 := Tryz.underlying9,
  a9 := Tryz.isAgg9,
  z9 := Tryz.sizeOf9,
  v9 := Tryz.zeroValue9,
  t46 := Tryz.underlying135,
  a46 := Tryz.isAgg135,
  z46 := Tryz.sizeOf135,
  v46 := Tryz.zeroValue135,
  t51 := Tryz.underlying128,
  a51 := Tryz.isAgg128,
  z51 := Tryz.sizeOf128,
  v51 := Tryz.zeroValue128,
  t146 := Tryz.underlying129,
  a146 := Tryz.isAgg129,
  z146 := Tryz.sizeOf129,
  v146 := Tryz.zeroValue129
}

def sx137_ren : Go.Shelf.Ren := ⟨fun | 137 => 66 | 217 => 84 | 266 => 94 | n => n, fun | 9 => 9 | 5 => 5 | 3 => 3 | n => n, fun  | n => n⟩

theorem sx137 : Lays.n137 Tryz.prog sx137_ren := {
  mixed := by kernel_rfl,
  f137 := Tryz.func66.trans (congrArg some (by kernel_rfl)),
  f217 := Tryz.func84.trans (congrArg some (by kernel_rfl)),
  f266 := Tryz.func94.trans (congrArg some (by kernel_rfl)),
  t3 := Tryz.underlying3,
  a3 := Tryz.isAgg3,
  z3 := Tryz.sizeOf3,
  v3 := Tryz.zeroValue3,
  t5 := Tryz.underlying5,
  a5 := Tryz.isAgg5,
  z5 := Tryz.sizeOf5,
  v5 := Tryz.zeroValue5,
  t9 := Tryz.underlying9,
  a9 := Tryz.isAgg9,
  z9 := Tryz.sizeOf9,
  v9 := Tryz.zeroValue9
}

def sx99_ren : Go.Shelf.Ren := ⟨fun | 99 => 67 | 206 => 85 | n => n, fun | 9 => 9 | 4 => 4 | 3 => 3 | n => n, fun  | n => n⟩

theorem sx99 : Lays.n99 Tryz.prog sx99_ren := {
  mixed := by kernel_rfl,
  f99 := Tryz.func67.trans (congrArg some (by kernel_rfl)),
  f206 := Tryz.func85.trans (congrArg some (by kernel_rfl)),
  t3 := Tryz.underlying3,
  a3 := Tryz.isAgg3,
  z3 := Tryz.sizeOf3,
  v3 := Tryz.zeroValue3,
  t4 := Tryz.underlying4,
  a4 := Tryz.isAgg4,
  z4 := Tryz.sizeOf4,
  v4 := Tryz.zeroValue4,
  t9 := Tryz.underlying9,
  a9 := Tryz.isAgg9,
  z9 := Tryz.sizeOf9,
  v9 := Tryz.zeroValue9
}

def sx122_ren : Go.Shelf.Ren := ⟨fun | 122 => 56 | 215 => 73 | n => n, fun | 3 => 3 | 4 => 4 | n => n, fun  | n => n⟩

theorem sx122 : Lays.n122 Tryz.prog sx122_ren := {
  mixed := by kernel_rfl,
  f122 := Tryz.func56.trans (congrArg some (by kernel_rfl)),
  f215 := Tryz.func73.trans (congrArg some (by kernel_rfl)),
  t3 := Tryz.underlying3,
  a3 := Tryz.isAgg3,
  z3 := Tryz.sizeOf3,
  v3 := Tryz.zeroValue3,
  t4 := Tryz.underlying4,
  a4 := Tryz.isAgg4,
  z4 := Tryz.sizeOf4,
  v4 := Tryz.zeroValue4
}

end Go.Proofs.YtldkhbkgmiicbabGreatDoor

/- The program's own name, its small functions: the first piece of a text, what is wrong with a part, the order of two texts' bytes. -/
namespace Go.Proofs.YtldkhbkgmiicbabGreatDoor
open Go.RowKit Go.Deep Go.Shelf
set_option linter.unusedVariables false
set_option linter.unusedSimpArgs false

theorem lx_index (s : ByteArray) (w : World) : Calls Tryz.prog 95 #[.string s, .string ⟨#[47]⟩] w fun e w' => e = .returned (.int .i64 (Lib.indexByte s.toList 47)) ∧ w' = w := by
  rw [ByteArray.toList_eq]
  exact Any.stringslite_Index_one sx219 s 47 w
set_option maxRecDepth 100000 in
set_option maxHeartbeats 1000000 in
theorem lcut_any (s : ByteArray) (w : World) (hs : s.size ≤ 4611686018427387904) :
    Calls Tryz.prog 88 #[.string s, .string ⟨#[47]⟩] w fun e w' => (∃ r, e = .returned (.tuple #[.string (Nm.S (Nm.fst s.toList)), .string r, .bool (decide ((47 : UInt8) ∈ s.toList))])) ∧ ∃ n, w' = w.drewN n := by
  have HSZ : Hid (s.toList.length = s.size) := Nm.size_toList s
  by_cases hm : (47 : UInt8) ∈ s.toList
  · rw [decide_eq_true hm]
    obtain ⟨i, hi⟩ : ∃ i, Hid (i = (Nm.fst s.toList).length) := ⟨_, rfl⟩
    have hix : Hid (Lib.indexByte s.toList 47 = (i : Int)) := by show _ = _; rw [Nm.idx_stroke _ hm, ← hi.out]
    have hlt : i + 1 ≤ s.size := by have := Nm.fst_lt hm; rw [← hi.out, HSZ.out] at this; exact this
    have c1 : (0 : Int) ≤ (i : Int) := Int.natCast_nonneg _
    have c2 : (i : Int) ≤ (s.size : Int) := by omega
    have c3 : (0 : Int) ≤ (i : Int) + 1 := by omega
    have c4 : (i : Int) + 1 ≤ (s.size : Int) := by omega
    have hf : Hid (Nm.S (Nm.fst s.toList) = s.extract 0 i) := by show _ = _; rw [Nm.extract_to, hi.out, ← Nm.fst_take hm]
    rw [hf.out]
    clear hm
    go_enter Tryz.func88, Tryz.ntmps88
    go_wp2_with (go_at_call 95; refine (lx_index s _).mono ?_; rintro e w1 ⟨rfl, rfl⟩; rw [hix.out])
    go_region
    go_wp2
    go_ret3
    exact ⟨⟨_, rfl⟩, 1, rfl⟩
  · rw [decide_eq_false hm]
    have hix : Hid (Lib.indexByte s.toList 47 = -1) := Nm.idx_no _ _ hm
    have hf : Hid (Nm.S (Nm.fst s.toList) = s) := by show _ = _; rw [Nm.fst_free _ hm, Nm.S_toList]
    rw [hf.out]
    clear hm
    go_enter Tryz.func88, Tryz.ntmps88
    go_wp2_with (go_at_call 95; refine (lx_index s _).mono ?_; rintro e w1 ⟨rfl, rfl⟩; rw [hix.out])
    go_ret3
    exact ⟨⟨_, rfl⟩, 0, rfl⟩
set_option maxRecDepth 100000 in
set_option maxHeartbeats 1000000 in
theorem scut_any (s : ByteArray) (w : World) (hs : s.size ≤ 4611686018427387904) :
    Calls Tryz.prog 71 #[.string s, .string ⟨#[47]⟩] w fun e w' => (∃ r, e = .returned (.tuple #[.string (Nm.S (Nm.fst s.toList)), .string r, .bool (decide ((47 : UInt8) ∈ s.toList))])) ∧ ∃ n, w' = w.drewN n := by
  obtain ⟨F, hF⟩ : ∃ F, Hid (F = Nm.S (Nm.fst s.toList)) := ⟨_, rfl⟩
  obtain ⟨M, hM⟩ : ∃ M, Hid (M = decide ((47 : UInt8) ∈ s.toList)) := ⟨_, rfl⟩
  rw [← hF.out, ← hM.out]
  go_enter Tryz.func71, Tryz.ntmps71
  go_wp2_with (go_at_call 88; refine (lcut_any s _ hs).mono ?_; rintro e w1 ⟨⟨r, rfl⟩, n, hn⟩; rw [← hF.out, ← hM.out])
  go_ret3
  exact ⟨⟨r, rfl⟩, n, rfl⟩
set_option maxRecDepth 100000 in
set_option maxHeartbeats 1000000 in
theorem fpiece_any (s : ByteArray) (w : World) (hs : s.size ≤ 4611686018427387904) :
    Calls Tryz.prog 54 #[.string s] w fun e w' => e = .returned (.tuple #[.string (Nm.S (Nm.fst s.toList)), .bool (decide ((47 : UInt8) ∈ s.toList))]) ∧ ∃ n, w' = w.drewN n := by
  obtain ⟨F, hF⟩ : ∃ F, Hid (F = Nm.S (Nm.fst s.toList)) := ⟨_, rfl⟩
  obtain ⟨M, hM⟩ : ∃ M, Hid (M = decide ((47 : UInt8) ∈ s.toList)) := ⟨_, rfl⟩
  rw [← hF.out, ← hM.out]
  go_enter Tryz.func54, Tryz.ntmps54
  go_wp2_with (go_at_call 71; refine (scut_any s _ hs).mono ?_; rintro e w1 ⟨⟨r, rfl⟩, n, hn⟩; rw [← hF.out, ← hM.out])
  go_ret2
  exact ⟨rfl, n, rfl⟩
theorem lx_idx0 (s : ByteArray) (w : World) : Calls Tryz.prog 66 #[.string s, .int .u8 0] w fun e w' => e = .returned (.int .i64 (Nm.nulI s.toList)) ∧ w' = w := by
  rw [← Nm.idx_nul, ByteArray.toList_eq]
  exact Any.strings_IndexByte sx137 s 0 w
set_option maxRecDepth 100000 in
set_option maxHeartbeats 1000000 in
theorem cpart_any (s : ByteArray) (w : World) :
    Calls Tryz.prog 49 #[.string s] w fun e w' => e = .returned (.tuple #[.int .i64 ((Nm.partE s.toList).1 : Int), .int .i64 (Nm.partE s.toList).2]) ∧ w' = w := by
  have hsz : s.toList.length = s.size := Nm.size_toList s
  have HSZ : Hid (s.toList.length = s.size) := hsz
  obtain ⟨E, hE⟩ : ∃ E, Hid (Nm.partE s.toList = E) := ⟨_, rfl⟩
  rw [hE.out]
  by_cases h0 : s.toList = []
  · have hE2 : E = (0, 80) := by rw [← hE.out]; unfold Nm.partE; rw [if_pos h0]
    subst hE2
    go_enter Tryz.func49, Tryz.ntmps49
    go_wp2
    go_ret2
    exact ⟨rfl, rfl⟩
  · by_cases h1 : 120 < s.size
    · have hE2 : E = (0, 2) := by rw [← hE.out]; unfold Nm.partE; rw [if_neg h0, if_pos (by omega)]
      subst hE2
      clear hsz
      have e0 : (s.toList == []) = false := by rw [beq_eq_false_iff_ne]; exact h0
      go_enter Tryz.func49, Tryz.ntmps49
      go_wp2
      go_ret2
      exact ⟨rfl, rfl⟩
    · by_cases h2 : s.toList = [46]
      · have hE2 : E = (0, 81) := by rw [← hE.out]; unfold Nm.partE; rw [if_neg h0, if_neg (by omega), if_pos (Or.inl h2)]
        subst hE2
        clear hsz
        go_enter Tryz.func49, Tryz.ntmps49
        go_wp2
        go_ret2
        exact ⟨rfl, rfl⟩
      · by_cases h3 : s.toList = [46, 46]
        · have hE2 : E = (0, 81) := by rw [← hE.out]; unfold Nm.partE; rw [if_neg h0, if_neg (by omega), if_pos (Or.inr h3)]
          subst hE2
          clear hsz
          go_enter Tryz.func49, Tryz.ntmps49
          go_wp2
          go_ret2
          exact ⟨rfl, rfl⟩
        · have e0 : (s.toList == []) = false := by rw [beq_eq_false_iff_ne]; exact h0
          have e2 : (s.toList == [46]) = false := by rw [beq_eq_false_iff_ne]; exact h2
          have e3 : (s.toList == [46, 46]) = false := by rw [beq_eq_false_iff_ne]; exact h3
          cases hn : Nm.nul s.toList with
          | none =>
            have hE2 : E = (0, 0) := by rw [← hE.out]; unfold Nm.partE; rw [if_neg h0, if_neg (by omega), if_neg (fun h => h.elim h2 h3), hn]
            subst hE2
            have hI : Hid (Nm.nulI s.toList = -1) := by show _ = _; unfold Nm.nulI; rw [hn]
            clear hsz hn
            go_enter Tryz.func49, Tryz.ntmps49
            go_wp2_with (go_at_call 66; refine (lx_idx0 s _).mono ?_; rintro e w' ⟨rfl, hw'⟩; subst w'; rw [hI.out])
            go_ret2
            exact ⟨rfl, rfl⟩
          | some n =>
            have hE2 : E = (n, 82) := by rw [← hE.out]; unfold Nm.partE; rw [if_neg h0, if_neg (by omega), if_neg (fun h => h.elim h2 h3), hn]
            subst hE2
            have hI : Hid (Nm.nulI s.toList = (n : Int)) := by show _ = _; unfold Nm.nulI; rw [hn]
            have n0 : (0 : Int) ≤ (n : Int) := Int.natCast_nonneg _
            clear hsz hn
            go_enter Tryz.func49, Tryz.ntmps49
            go_wp2_with (go_at_call 66; refine (lx_idx0 s _).mono ?_; rintro e w' ⟨rfl, hw'⟩; subst w'; rw [hI.out])
            go_ret2
            exact ⟨rfl, rfl⟩
/-- what the library's comparison of two texts tells -/
def Nm.cmpS (a b : Nm.B) : Int := if Nm.less a b = true then -1 else if Nm.less b a = true then 1 else 0
set_option maxRecDepth 100000 in
set_option maxHeartbeats 1000000 in
theorem isnan_any (s : ByteArray) (w : World) :
    Calls Tryz.prog 72 #[.string s] w fun e w' => e = .returned (.bool false) ∧ w' = w := by
  go_enter Tryz.func72, Tryz.ntmps72
  go_wp2
  go_ret
  exact ⟨by simp, rfl⟩
set_option maxRecDepth 100000 in
set_option maxHeartbeats 1000000 in
theorem cmps_any (s t : ByteArray) (w : World) :
    Calls Tryz.prog 55 #[.string s, .string t] w fun e w' => e = .returned (.int .i64 (Nm.cmpS s.toList t.toList)) ∧ w' = w := by
  unfold Nm.cmpS
  cases h1 : Nm.less s.toList t.toList with
  | true =>
    have e1 : Op.bytesLess s.toList t.toList = true := h1
    go_enter Tryz.func55, Tryz.ntmps55
    go_wp2_with (go_at_call 72; refine (isnan_any _ _).mono ?_; rintro e w' ⟨rfl, hw'⟩; subst w')
    go_ret
    exact ⟨by simp, rfl⟩
  | false =>
    have e1 : Op.bytesLess s.toList t.toList = false := h1
    cases h2 : Nm.less t.toList s.toList with
    | true =>
      have e2 : Op.bytesLess t.toList s.toList = true := h2
      have e3 : (s.toList == t.toList) = false := by rw [beq_eq_false_iff_ne]; intro h; rw [h, Nm.less_irr] at h2; cases h2
      go_enter Tryz.func55, Tryz.ntmps55
      go_wp2_with (go_at_call 72; refine (isnan_any _ _).mono ?_; rintro e w' ⟨rfl, hw'⟩; subst w')
      go_ret
      exact ⟨by simp, rfl⟩
    | false =>
      have e2 : Op.bytesLess t.toList s.toList = false := h2
      have e3 : (s.toList == t.toList) = true := by rw [beq_iff_eq]; exact Nm.less_tot _ _ h1 h2
      go_enter Tryz.func55, Tryz.ntmps55
      go_wp2_with (go_at_call 72; refine (isnan_any _ _).mono ?_; rintro e w' ⟨rfl, hw'⟩; subst w')
      go_ret
      exact ⟨by simp, rfl⟩
end Go.Proofs.YtldkhbkgmiicbabGreatDoor

/- A range over a text's pieces: the program's own iterator. -/
namespace Go.Proofs.YtldkhbkgmiicbabGreatDoor
open Go.RowKit Go.Deep Go.Shelf
set_option linter.unusedVariables false
set_option linter.unusedSimpArgs false
attribute [local go_sem] Oper.semAt_some

theorem cell_drewN8 (w : World) (n : Nat) (a : Addr) : (w.drewN n).cell? a = w.cell? a := by
  induction n with
  | zero => rfl
  | succ n ih => exact ih
theorem grown_drewN8 (w : World) (n : Nat) (row : Option Nat) : w.grownBy (w.drewN n) row := ⟨rfl, rfl, rfl, Nat.le_refl _, fun _ _ _ => rfl⟩
set_option maxRecDepth 100000 in
set_option maxHeartbeats 2000000 in
theorem each1_in (n : Nat) (hn : 3 ≤ n) (l g : Nat) (s : ByteArray) (hs : s.size ≤ 4611686018427387904) (Kp : World → World → Prop) (hKg : ∀ W W', Kp W W' → W.cell? ⟨g, 0, none⟩ = some (.string s) → W'.cell? ⟨g, 0, none⟩ = some (.string s)) (J Jx : List (Nat × Nm.B) → World → Prop)
    (hJd : ∀ pre W m, J pre W → J pre (W.drewN m))
    (hY : ∀ pre x W, J pre W → pre.length < (Nm.all s.toList).length → pre ++ [x] <+: Nm.all s.toList → YieldAt Fence.wide (n - 1) Tryz.prog l (encP x) W fun e W' =>
      (e = .returned (.bool true) ∧ J (pre ++ [x]) W' ∧ Kp W W') ∨ (e = .returned (.bool false) ∧ Jx (pre ++ [x]) W'))
    (W : World) (hbox : W.cell? ⟨g, 0, none⟩ = some (.string s)) (h0 : J [] W) :
    CallsIn Fence.wide n Tryz.prog 65 #[.func (.yield l) #[] #[], .pointer (some ⟨g, 0, none⟩)] W fun e W' => (∃ v, e = .returned v) ∧
      ((∃ ys, ys = Nm.all s.toList ∧ J ys W') ∨ (∃ pre, pre <+: Nm.all s.toList ∧ Jx pre W')) := by
  have HSZ : Hid (s.toList.length = s.size) := Nm.size_toList s
  have h1 : 1 ≤ n := by omega
  refine callsIn_of_wp Tryz.func65 rfl trivial ?_ rfl
  simp only [Tryz.ntmps65, List.size_toArray, List.length_cons, List.length_nil, Nat.reduceAdd, Nat.reduceSub, Array.replicate_succ, Array.replicate_zero, List.push_toArray, List.append_toArray, List.nil_append, List.cons_append]
  gi_wp2
  gi_loopw [3] (fun f wr => ∃ (q : Nat) (out : List Nm.B), q ≤ s.size ∧ f = .int .i64 (q : Int) ∧ Hid (Nm.Past s.toList q out) ∧ wr.cell? ⟨g, 0, none⟩ = some (.string s) ∧ J (Nm.ats 0 out) wr) (fun f _ => s.size - (intOf f).toNat)
  case atStart => exact ⟨0, [], Nat.zero_le _, rfl, Nm.past_start _, hbox, h0⟩
  case round =>
    obtain ⟨q, out, hq, rfl, hpast, hb, hJ⟩ := hrel
    have q0 : (0 : Int) ≤ (q : Int) := Int.natCast_nonneg _
    have q1 : (q : Int) ≤ (s.size : Int) := by omega
    have hqt : Hid (q = Nm.tot out) := hpast.out.2.1
    have hfr := Nm.past_front hpast.out
    obtain ⟨P, hP⟩ : ∃ P, Hid (Nm.fst (s.toList.drop q) = P) := ⟨_, rfl⟩
    rw [hP.out] at hfr
    have hpf : Hid ((Nm.ats 0 out ++ [(q, P)]) <+: Nm.all s.toList) := hfr.2.2
    have hlt : Hid ((Nm.ats 0 out).length < (Nm.all s.toList).length) := hfr.2.1
    clear hfr
    have hex : Hid ((s.extract q s.size).toList = s.toList.drop q) := by show _ = _; rw [Nm.extract_from, Nm.toList_S]
    have hes : Hid ((s.extract q s.size).size ≤ 4611686018427387904) := by show _ ≤ _; rw [← Nm.size_toList, hex.out, List.length_drop, HSZ.out]; omega
    have hPl : (Nm.S P).size = P.length := Nm.size_S P
    have p0 : (0 : Int) ≤ (P.length : Int) := Int.natCast_nonneg _
    have hPq : q + P.length ≤ s.size := by
      have := Nm.fst_len (s.toList.drop q)
      rw [hP.out, List.length_drop, HSZ.out] at this
      omega
    by_cases hm : (47 : UInt8) ∈ s.toList.drop q
    · have hmd : Hid (decide ((47 : UInt8) ∈ (s.extract q s.size).toList) = true) := by show _ = _; rw [hex.out]; exact decide_eq_true hm
      have hnx : Hid (Nm.Past s.toList (q + (P.length + 1)) (out ++ [P])) := by have := Nm.past_next hpast.out hm; rw [hP.out] at this; exact this
      have hle : q + (P.length + 1) ≤ s.size := by have := hnx.out.1; rw [HSZ.out] at this; exact this
      clear hm
      gi_wp2_with (refine ⟨trivial, ?_⟩; gi_at_call 54; refine (callsIn_wide.2 (fpiece_any (s.extract q s.size) _ hes.out)).mono ?_; rintro e w1 ⟨rfl, m, hw1⟩; rw [hmd.out, hex.out, hP.out]; have hJ1 : J (Nm.ats 0 out) w1 := (by rw [hw1]; exact hJd _ _ m hJ); have hb1 : w1.cell? ⟨g, 0, none⟩ = some (.string s) := (by rw [hw1, cell_drewN8]; exact hb); clear hw1; obtain ⟨fn, tmps, assign, body, hy, hR⟩ := hY (Nm.ats 0 out) (q, P) w1 hJ1 hlt.out hpf.out; unfold encP at hy; dsimp only at hy)
      refine hR.mono ?_
      rintro e W3 (⟨rfl, hJ3, hk3⟩ | ⟨rfl, hJx3⟩)
      · have hb3 : W3.cell? ⟨g, 0, none⟩ = some (.string s) := hKg _ _ hk3 hb1
        have hJ4 : J (Nm.ats 0 (out ++ [P])) W3 := by rw [Nm.ats_snoc, ← hqt.out]; exact hJ3
        gi_wp2
        go_roundw
        case rel => exact ⟨q + (P.length + 1), _, hle, by go_num, hnx, hb3, hJ4⟩
        case measure => simp [intOf]; omega
      · gi_wp2
        refine bodyPost_ret (results_none rfl _ _ _) rfl ?_
        exact ⟨⟨_, rfl⟩, .inr ⟨_, hpf.out, hJx3⟩⟩
    · have hmd : Hid (decide ((47 : UInt8) ∈ (s.extract q s.size).toList) = false) := by show _ = _; rw [hex.out]; exact decide_eq_false hm
      have hall : Hid (Nm.ats 0 out ++ [(q, P)] = Nm.all s.toList) := by
        show _ = _
        unfold Nm.all
        rw [Nm.past_end hpast.out hm, hP.out, Nm.ats_snoc, ← hqt.out]
      clear hm
      gi_wp2_with (refine ⟨trivial, ?_⟩; gi_at_call 54; refine (callsIn_wide.2 (fpiece_any (s.extract q s.size) _ hes.out)).mono ?_; rintro e w1 ⟨rfl, m, hw1⟩; rw [hmd.out, hex.out, hP.out]; have hJ1 : J (Nm.ats 0 out) w1 := (by rw [hw1]; exact hJd _ _ m hJ); have hb1 : w1.cell? ⟨g, 0, none⟩ = some (.string s) := (by rw [hw1, cell_drewN8]; exact hb); clear hw1; obtain ⟨fn, tmps, assign, body, hy, hR⟩ := hY (Nm.ats 0 out) (q, P) w1 hJ1 hlt.out hpf.out; unfold encP at hy; dsimp only at hy)
      refine hR.mono ?_
      rintro e W3 (⟨rfl, hJ3, hk3⟩ | ⟨rfl, hJx3⟩)
      · gi_wp2
        refine bodyPost_ret (results_none rfl _ _ _) rfl ?_
        exact ⟨⟨_, rfl⟩, .inl ⟨_, hall.out, hJ3⟩⟩
      · gi_wp2
        refine bodyPost_ret (results_none rfl _ _ _) rfl ?_
        exact ⟨⟨_, rfl⟩, .inr ⟨_, hpf.out, hJx3⟩⟩
/-- a piece of a text, with its place -/
abbrev Px (l : Nm.B) := { x : Nat × Nm.B // x ∈ Nm.all l }
theorem each_stopsK (n : Nat) (hn : 3 ≤ n) (g : Nat) (s : ByteArray) (hs : s.size ≤ 4611686018427387904) (Kp : World → World → Prop) (hKg : ∀ W W', Kp W W' → W.cell? ⟨g, 0, none⟩ = some (.string s) → W'.cell? ⟨g, 0, none⟩ = some (.string s)) (w : World) (hbox : w.cell? ⟨g, 0, none⟩ = some (.string s)) :
    SeqStopsK Fence.wide n Tryz.prog 65 #[.pointer (some ⟨g, 0, none⟩)] (fun x : Px s.toList => encP x.1) Kp (fun xs => xs.map (fun x => x.1) = Nm.all s.toList) (fun pre => pre.map (fun x => x.1) <+: Nm.all s.toList) (Nm.all s.toList).length w := by
  intro l J Jx W hW hJ hJx hY h0
  refine (each1_in n hn l g s hs Kp hKg (fun pre W' => ∃ xs : List (Px s.toList), xs.map (fun x => x.1) = pre ∧ J xs W') (fun pre W' => ∃ xs : List (Px s.toList), xs.map (fun x => x.1) = pre ∧ Jx xs W') ?_ ?_ W ((hW.cell (p := ⟨g, 0, none⟩) (block_lt_of_cell hbox)).trans hbox) ⟨[], rfl, h0⟩).mono ?_
  · rintro pre W' m ⟨xs, hx, h⟩
    exact ⟨xs, hx, hJ xs W' _ none h (grown_drewN8 W' m none) (fun r e => by cases e)⟩
  · rintro pre x W1 ⟨xs, rfl, h1⟩ h2 h3
    rw [List.length_map] at h2
    have hx : x ∈ Nm.all s.toList := h3.mem (by simp)
    obtain ⟨fn, tmps, assign, body, hy, hR⟩ := hY xs ⟨x, hx⟩ W1 h1 h2
    refine ⟨fn, tmps, assign, body, hy, hR.mono ?_⟩
    rintro e W3 (⟨rfl, hJ3, hk3⟩ | ⟨rfl, hJx3⟩)
    · exact .inl ⟨rfl, ⟨xs ++ [⟨x, hx⟩], by simp, hJ3⟩, hk3⟩
    · exact .inr ⟨rfl, ⟨xs ++ [⟨x, hx⟩], by simp, hJx3⟩⟩
  · rintro e W3 ⟨hv, ⟨ys, rfl, xs, hx, h⟩ | ⟨pre, hp, xs, rfl, h⟩⟩
    · exact ⟨hv, .inl ⟨xs, hx, h⟩⟩
    · exact ⟨hv, .inr ⟨xs, hp, h⟩⟩
theorem each_stopsX (n : Nat) (hn : 3 ≤ n) (g n₀ : Nat) (s : ByteArray) (hs : s.size ≤ 4611686018427387904) (hg : g < n₀) (w : World) (hbox : w.cell? ⟨g, 0, none⟩ = some (.string s)) :
    SeqStopsK Fence.wide n Tryz.prog 65 #[.pointer (some ⟨g, 0, none⟩)] (fun x : Px s.toList => encP x.1) (Below n₀) (fun xs => xs.map (fun x => x.1) = Nm.all s.toList) (fun pre => pre.map (fun x => x.1) <+: Nm.all s.toList) (Nm.all s.toList).length w :=
  each_stopsK n hn g s hs (Below n₀) (fun W1 W2 hk hb => (hk.cell (p := ⟨g, 0, none⟩) hg).trans hb) w hbox
theorem neach_any (s : ByteArray) (w : World) :
    Calls Tryz.prog 48 #[.string s] w fun e w' => e = .returned (.func (.func 65) #[] #[.pointer (some ⟨w.heap.size, 0, none⟩)]) ∧ w'.cell? ⟨w.heap.size, 0, none⟩ = some (.string s) ∧ Bw w w' := by
  go_enter Tryz.func48, Tryz.ntmps48
  go_wp2
  go_ret
  exact ⟨rfl, by rw [World.cell?_alloc_at _ _ _ 0 rfl]; rfl, Below.alloc (Bw.refl _) (Nat.le_refl _) _⟩
end Go.Proofs.YtldkhbkgmiicbabGreatDoor
