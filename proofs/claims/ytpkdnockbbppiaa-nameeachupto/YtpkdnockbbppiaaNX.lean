/- The program's own name, its small functions: the first piece of a text, what is wrong with a part, the order of two texts' bytes. -/
import Derived.Test.YtpkdnockbbppiaaNF
import Derived.Test.YtpkdnockbbppiaaNL
namespace Go.Proofs.Ytpkdnockbbppiaa
open Go.RowKit Go.Deep Go.Shelf
set_option linter.unusedVariables false
set_option linter.unusedSimpArgs false

theorem lx_index (s : ByteArray) (w : World) : Calls Try.prog 50 #[.string s, .string ⟨#[47]⟩] w fun e w' => e = .returned (.int .i64 (Lib.indexByte s.toList 47)) ∧ w' = w := by
  rw [ByteArray.toList_eq]
  exact Any.stringslite_Index_one sx219 s 47 w
set_option maxRecDepth 100000 in
set_option maxHeartbeats 1000000 in
theorem lcut_any (s : ByteArray) (w : World) (hs : s.size ≤ 4611686018427387904) :
    Calls Try.prog 53 #[.string s, .string ⟨#[47]⟩] w fun e w' => (∃ r, e = .returned (.tuple #[.string (Nm.S (Nm.fst s.toList)), .string r, .bool (decide ((47 : UInt8) ∈ s.toList))])) ∧ ∃ n, w' = w.drewN n := by
  have HSZ : Hid (s.toList.length = s.size) := Nm.size_toList s
  by_cases hm : (47 : UInt8) ∈ s.toList
  · rw [decide_eq_true hm]
    obtain ⟨i, hi⟩ : ∃ i, Hid (i = (Nm.fst s.toList).length) := ⟨_, rfl⟩
    have hix : Hid (Lib.indexByte s.toList 47 = (i : Int)) := by show _ = _; rw [Nm.idx_stroke _ hm, ← hi.out]
    have hlt : i + 1 ≤ s.size := by have := Nm.fst_lt hm; rw [← hi.out, HSZ.out] at this; exact this
    have c1 : (0 : Int) ≤ (i : Int) := Int.natCast_nonneg _
    have c2 : (i : Int) ≤ (s.size : Int) := by omega
    have c3 : (0 : Int) ≤ (i : Int) + 1 := by omega
    have c4 : (i : Int) + 1 ≤ (s.size : Int) := by omega
    have hf : Hid (Nm.S (Nm.fst s.toList) = s.extract 0 i) := by show _ = _; rw [Nm.extract_to, hi.out, ← Nm.fst_take hm]
    rw [hf.out]
    clear hm
    go_enter Try.func53, Try.ntmps53
    go_wp2_with (go_at_call 50; refine (lx_index s _).mono ?_; rintro e w1 ⟨rfl, rfl⟩; rw [hix.out])
    go_region
    go_wp2
    go_ret3
    exact ⟨⟨_, rfl⟩, 1, rfl⟩
  · rw [decide_eq_false hm]
    have hix : Hid (Lib.indexByte s.toList 47 = -1) := Nm.idx_no _ _ hm
    have hf : Hid (Nm.S (Nm.fst s.toList) = s) := by show _ = _; rw [Nm.fst_free _ hm, Nm.S_toList]
    rw [hf.out]
    clear hm
    go_enter Try.func53, Try.ntmps53
    go_wp2_with (go_at_call 50; refine (lx_index s _).mono ?_; rintro e w1 ⟨rfl, rfl⟩; rw [hix.out])
    go_ret3
    exact ⟨⟨_, rfl⟩, 0, rfl⟩
set_option maxRecDepth 100000 in
set_option maxHeartbeats 1000000 in
theorem scut_any (s : ByteArray) (w : World) (hs : s.size ≤ 4611686018427387904) :
    Calls Try.prog 43 #[.string s, .string ⟨#[47]⟩] w fun e w' => (∃ r, e = .returned (.tuple #[.string (Nm.S (Nm.fst s.toList)), .string r, .bool (decide ((47 : UInt8) ∈ s.toList))])) ∧ ∃ n, w' = w.drewN n := by
  obtain ⟨F, hF⟩ : ∃ F, Hid (F = Nm.S (Nm.fst s.toList)) := ⟨_, rfl⟩
  obtain ⟨M, hM⟩ : ∃ M, Hid (M = decide ((47 : UInt8) ∈ s.toList)) := ⟨_, rfl⟩
  rw [← hF.out, ← hM.out]
  go_enter Try.func43, Try.ntmps43
  go_wp2_with (go_at_call 53; refine (lcut_any s _ hs).mono ?_; rintro e w1 ⟨⟨r, rfl⟩, n, hn⟩; rw [← hF.out, ← hM.out])
  go_ret3
  exact ⟨⟨r, rfl⟩, n, rfl⟩
set_option maxRecDepth 100000 in
set_option maxHeartbeats 1000000 in
theorem fpiece_any (s : ByteArray) (w : World) (hs : s.size ≤ 4611686018427387904) :
    Calls Try.prog 30 #[.string s] w fun e w' => e = .returned (.tuple #[.string (Nm.S (Nm.fst s.toList)), .bool (decide ((47 : UInt8) ∈ s.toList))]) ∧ ∃ n, w' = w.drewN n := by
  obtain ⟨F, hF⟩ : ∃ F, Hid (F = Nm.S (Nm.fst s.toList)) := ⟨_, rfl⟩
  obtain ⟨M, hM⟩ : ∃ M, Hid (M = decide ((47 : UInt8) ∈ s.toList)) := ⟨_, rfl⟩
  rw [← hF.out, ← hM.out]
  go_enter Try.func30, Try.ntmps30
  go_wp2_with (go_at_call 43; refine (scut_any s _ hs).mono ?_; rintro e w1 ⟨⟨r, rfl⟩, n, hn⟩; rw [← hF.out, ← hM.out])
  go_ret2
  exact ⟨rfl, n, rfl⟩
theorem lx_idx0 (s : ByteArray) (w : World) : Calls Try.prog 35 #[.string s, .int .u8 0] w fun e w' => e = .returned (.int .i64 (Nm.nulI s.toList)) ∧ w' = w := by
  rw [← Nm.idx_nul, ByteArray.toList_eq]
  exact Any.strings_IndexByte sx137 s 0 w
set_option maxRecDepth 100000 in
set_option maxHeartbeats 1000000 in
theorem cpart_any (s : ByteArray) (w : World) :
    Calls Try.prog 23 #[.string s] w fun e w' => e = .returned (.tuple #[.int .i64 ((Nm.partE s.toList).1 : Int), .int .i64 (Nm.partE s.toList).2]) ∧ w' = w := by
  have hsz : s.toList.length = s.size := Nm.size_toList s
  have HSZ : Hid (s.toList.length = s.size) := hsz
  obtain ⟨E, hE⟩ : ∃ E, Hid (Nm.partE s.toList = E) := ⟨_, rfl⟩
  rw [hE.out]
  by_cases h0 : s.toList = []
  · have hE2 : E = (0, 80) := by rw [← hE.out]; unfold Nm.partE; rw [if_pos h0]
    subst hE2
    go_enter Try.func23, Try.ntmps23
    go_wp2
    go_ret2
    exact ⟨rfl, rfl⟩
  · by_cases h1 : 120 < s.size
    · have hE2 : E = (0, 2) := by rw [← hE.out]; unfold Nm.partE; rw [if_neg h0, if_pos (by omega)]
      subst hE2
      clear hsz
      have e0 : (s.toList == []) = false := by rw [beq_eq_false_iff_ne]; exact h0
      go_enter Try.func23, Try.ntmps23
      go_wp2
      go_ret2
      exact ⟨rfl, rfl⟩
    · by_cases h2 : s.toList = [46]
      · have hE2 : E = (0, 81) := by rw [← hE.out]; unfold Nm.partE; rw [if_neg h0, if_neg (by omega), if_pos (Or.inl h2)]
        subst hE2
        clear hsz
        go_enter Try.func23, Try.ntmps23
        go_wp2
        go_ret2
        exact ⟨rfl, rfl⟩
      · by_cases h3 : s.toList = [46, 46]
        · have hE2 : E = (0, 81) := by rw [← hE.out]; unfold Nm.partE; rw [if_neg h0, if_neg (by omega), if_pos (Or.inr h3)]
          subst hE2
          clear hsz
          go_enter Try.func23, Try.ntmps23
          go_wp2
          go_ret2
          exact ⟨rfl, rfl⟩
        · have e0 : (s.toList == []) = false := by rw [beq_eq_false_iff_ne]; exact h0
          have e2 : (s.toList == [46]) = false := by rw [beq_eq_false_iff_ne]; exact h2
          have e3 : (s.toList == [46, 46]) = false := by rw [beq_eq_false_iff_ne]; exact h3
          cases hn : Nm.nul s.toList with
          | none =>
            have hE2 : E = (0, 0) := by rw [← hE.out]; unfold Nm.partE; rw [if_neg h0, if_neg (by omega), if_neg (fun h => h.elim h2 h3), hn]
            subst hE2
            have hI : Hid (Nm.nulI s.toList = -1) := by show _ = _; unfold Nm.nulI; rw [hn]
            clear hsz hn
            go_enter Try.func23, Try.ntmps23
            go_wp2_with (go_at_call 35; refine (lx_idx0 s _).mono ?_; rintro e w' ⟨rfl, hw'⟩; subst w'; rw [hI.out])
            go_ret2
            exact ⟨rfl, rfl⟩
          | some n =>
            have hE2 : E = (n, 82) := by rw [← hE.out]; unfold Nm.partE; rw [if_neg h0, if_neg (by omega), if_neg (fun h => h.elim h2 h3), hn]
            subst hE2
            have hI : Hid (Nm.nulI s.toList = (n : Int)) := by show _ = _; unfold Nm.nulI; rw [hn]
            have n0 : (0 : Int) ≤ (n : Int) := Int.natCast_nonneg _
            clear hsz hn
            go_enter Try.func23, Try.ntmps23
            go_wp2_with (go_at_call 35; refine (lx_idx0 s _).mono ?_; rintro e w' ⟨rfl, hw'⟩; subst w'; rw [hI.out])
            go_ret2
            exact ⟨rfl, rfl⟩
/-- what the library's comparison of two texts tells -/
def Nm.cmpS (a b : Nm.B) : Int := if Nm.less a b = true then -1 else if Nm.less b a = true then 1 else 0
set_option maxRecDepth 100000 in
set_option maxHeartbeats 1000000 in
theorem isnan_any (s : ByteArray) (w : World) :
    Calls Try.prog 44 #[.string s] w fun e w' => e = .returned (.bool false) ∧ w' = w := by
  go_enter Try.func44, Try.ntmps44
  go_wp2
  go_ret
  exact ⟨by simp, rfl⟩
set_option maxRecDepth 100000 in
set_option maxHeartbeats 1000000 in
theorem cmps_any (s t : ByteArray) (w : World) :
    Calls Try.prog 31 #[.string s, .string t] w fun e w' => e = .returned (.int .i64 (Nm.cmpS s.toList t.toList)) ∧ w' = w := by
  unfold Nm.cmpS
  cases h1 : Nm.less s.toList t.toList with
  | true =>
    have e1 : Op.bytesLess s.toList t.toList = true := h1
    go_enter Try.func31, Try.ntmps31
    go_wp2_with (go_at_call 44; refine (isnan_any _ _).mono ?_; rintro e w' ⟨rfl, hw'⟩; subst w')
    go_ret
    exact ⟨by simp, rfl⟩
  | false =>
    have e1 : Op.bytesLess s.toList t.toList = false := h1
    cases h2 : Nm.less t.toList s.toList with
    | true =>
      have e2 : Op.bytesLess t.toList s.toList = true := h2
      have e3 : (s.toList == t.toList) = false := by rw [beq_eq_false_iff_ne]; intro h; rw [h, Nm.less_irr] at h2; cases h2
      go_enter Try.func31, Try.ntmps31
      go_wp2_with (go_at_call 44; refine (isnan_any _ _).mono ?_; rintro e w' ⟨rfl, hw'⟩; subst w')
      go_ret
      exact ⟨by simp, rfl⟩
    | false =>
      have e2 : Op.bytesLess t.toList s.toList = false := h2
      have e3 : (s.toList == t.toList) = true := by rw [beq_iff_eq]; exact Nm.less_tot _ _ h1 h2
      go_enter Try.func31, Try.ntmps31
      go_wp2_with (go_at_call 44; refine (isnan_any _ _).mono ?_; rintro e w' ⟨rfl, hw'⟩; subst w')
      go_ret
      exact ⟨by simp, rfl⟩
end Go.Proofs.Ytpkdnockbbppiaa
