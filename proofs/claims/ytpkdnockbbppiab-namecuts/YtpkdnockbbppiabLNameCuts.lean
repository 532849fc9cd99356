/- Proved: for every text and place the statement NameCuts answers true (the document's P8.10: what Split answers is the path, put together again; a text that has such a cut is never refused, and of such strokes the last one is taken), with no condition but the reach. -/
import Derived.Test.YtpkdnockbbppiabNA
import Derived.Test.YtpkdnockbbppiabFs
import Derived.ShutString
import Derived.ChangeOld
namespace Go.Proofs.Ytpkdnockbbppiab.nameCuts
open Go.ChangeShapes Go.WideShapes Go.ChangeAt Go.RowKit
set_option linter.unusedVariables false

set_option linter.unusedSimpArgs false
attribute [local go_sem] List.getElem?_cons_zero Option.getD_some
theorem first_ok {l : Nm.B} (h : (Nm.check l).2 = 0) : ¬ Nm.CutAt l 0 := fun hc => by
  have h0 := hc.1
  cases l with
  | nil => cases h0
  | cons c l =>
    simp at h0
    subst h0
    unfold Nm.check at h
    split at h
    · cases h
    · rw [Nm.pieces_stroke] at h
      unfold Nm.chk at h
      rw [if_neg (by decide)] at h
      exact absurd h (by decide)
theorem cut_back {l : Nm.B} {i : Nat} (h : Nm.CutAt l i) : l.take i ++ 47 :: l.drop (i + 1) = l := by
  have hi := Nm.cut_lt h
  have e : l[i] = 47 := by have := h.1; rw [List.getElem?_eq_getElem hi] at this; exact Option.some.inj this
  rw [← e, ← List.drop_eq_getElem_cons hi, List.take_append_drop]
set_option maxRecDepth 100000 in
set_option maxHeartbeats 2000000 in
theorem cuts_bad (s : ByteArray) (at_ : Int) (w : World) (w0 : s.size ≤ 140737488351232) (a1 : -9223372036854775808 ≤ at_) (a2 : at_ ≤ 9223372036854775807) (c1 : Int) (c2 : Int) (HC : Hid (Nm.check s.toList = (c1, c2))) (hc : c2 ≠ 0) :
    Calls Try.prog 5 #[.string s, .int .i64 at_] w fun e w' => e = .returned (.bool true) ∧ Bw w w' := by
  have HSP : Hid (Nm.SplitSays s.toList [] [] c2) := ⟨fun _ => ⟨rfl, rfl, by rw [HC.out]⟩, fun h => absurd (by rw [← h, HC.out]) hc, fun h => absurd (by rw [← h, HC.out]) hc, fun h => absurd (by rw [← h, HC.out]) hc⟩
  have e1 : (c2 != 0) = true := by rw [bne_iff_ne]; exact hc
  obtain ⟨A, HA⟩ : ∃ A, Hid (A = Nm.S []) := ⟨_, rfl⟩
  have ea : (A.toList == []) = true := by rw [HA.out, Nm.toList_S]; rfl
  clear hc
  go_enter Try.func5, Try.ntmps5
  go_wp2_with (first
    | (go_at_call 10; refine (awake8_any _).mono ?_; rintro e w1 ⟨rfl, hw1⟩)
    | (go_at_call 13; refine (ncheck_any s (by omega) _).mono ?_; rintro e w2 ⟨rfl, hw2⟩; rw [HC.out])
    | (go_at_call 14; refine (nsplit_any s (by omega) _).mono ?_; rintro e w3 ⟨⟨a', b', er', rfl, hsp'⟩, hw3⟩; obtain ⟨rfl, rfl, rfl⟩ := Nm.split_unique HSP.out hsp'; clear hsp'; rw [← HA.out]))
  go_ret
  exact ⟨rfl, hw1.trans (hw2.trans hw3)⟩
set_option maxRecDepth 100000 in
set_option maxHeartbeats 2000000 in
theorem cuts_short_neg (s : ByteArray) (at_ : Int) (w : World) (w0 : s.size ≤ 140737488351232) (a1 : -9223372036854775808 ≤ at_) (a2 : at_ ≤ 9223372036854775807) (c1 : Int) (HC : Hid (Nm.check s.toList = (c1, 0))) (hl : s.size ≤ 100) (hp : at_ < 0) :
    Calls Try.prog 5 #[.string s, .int .i64 at_] w fun e w' => e = .returned (.bool true) ∧ Bw w w' := by
  have hsz : s.toList.length = s.size := Nm.size_toList s
  have HSP : Hid (Nm.SplitSays s.toList [] s.toList 0) := ⟨fun h => absurd (by rw [HC.out]) h, fun _ _ => ⟨rfl, rfl, rfl⟩, fun _ h => by omega, fun _ h => by omega⟩
  obtain ⟨A, HA⟩ : ∃ A, Hid (A = Nm.S []) := ⟨_, rfl⟩
  obtain ⟨BB, HBB⟩ : ∃ A, Hid (A = Nm.S s.toList) := ⟨_, rfl⟩
  have ea : (A.toList == []) = true := by rw [HA.out, Nm.toList_S]; rfl
  have eb : (BB.toList == s.toList) = true := by rw [HBB.out, Nm.S_toList, beq_iff_eq]
  have za : A.size = 0 := by rw [HA.out]; rfl
  have zb : BB.size = s.size := by rw [HBB.out, Nm.S_toList]
  have zl : ¬ (100 : Int) < (s.size : Int) := by omega
  clear hsz
  have p1 : at_ < 0 := hp
  go_enter Try.func5, Try.ntmps5
  go_wp2_with (first
    | (go_at_call 10; refine (awake8_any _).mono ?_; rintro e w1 ⟨rfl, hw1⟩)
    | (go_at_call 13; refine (ncheck_any s (by omega) _).mono ?_; rintro e w2 ⟨rfl, hw2⟩; rw [HC.out])
    | (go_at_call 14; refine (nsplit_any s (by omega) _).mono ?_; rintro e w3 ⟨⟨a', b', er', rfl, hsp'⟩, hw3⟩; obtain ⟨rfl, rfl, rfl⟩ := Nm.split_unique HSP.out hsp'; clear hsp'; rw [← HA.out, ← HBB.out]))
  go_ret
  exact ⟨rfl, hw1.trans (hw2.trans hw3)⟩
set_option maxRecDepth 100000 in
set_option maxHeartbeats 2000000 in
theorem cuts_cut_neg (s : ByteArray) (at_ : Int) (w : World) (w0 : s.size ≤ 140737488351232) (a1 : -9223372036854775808 ≤ at_) (a2 : at_ ≤ 9223372036854775807) (c1 : Int) (HC : Hid (Nm.check s.toList = (c1, 0))) (hl : 100 < s.size) (i : Nat) (hi : Nm.CutAt s.toList i) (hlast : ∀ j, i < j → ¬ Nm.CutAt s.toList j) (hp : at_ < 0) :
    Calls Try.prog 5 #[.string s, .int .i64 at_] w fun e w' => e = .returned (.bool true) ∧ Bw w w' := by
  have hsz : s.toList.length = s.size := Nm.size_toList s
  have HSP : Hid (Nm.SplitSays s.toList (s.toList.take i) (s.toList.drop (i + 1)) 0) := ⟨fun h => absurd (by rw [HC.out]) h, fun _ h => by omega, fun _ _ j hj hjl => by
    have : j = i := by
      rcases Nat.lt_trichotomy j i with h | h | h
      · exact absurd hi (hjl i h)
      · exact h
      · exact absurd hj (hlast j h)
    subst this
    exact ⟨rfl, rfl, rfl⟩, fun _ _ h => absurd hi (h i)⟩
  have hi0 : i ≠ 0 := fun e => first_ok (by rw [HC.out]) (by rw [← e]; exact hi)
  have hilt := Nm.cut_lt hi
  obtain ⟨A, HA⟩ : ∃ A, Hid (A = Nm.S (s.toList.take i)) := ⟨_, rfl⟩
  obtain ⟨BB, HBB⟩ : ∃ A, Hid (A = Nm.S (s.toList.drop (i + 1))) := ⟨_, rfl⟩
  have za : A.size = i := by rw [HA.out, Nm.size_S, List.length_take]; omega
  have zb : BB.size = s.size - i - 1 := by rw [HBB.out, Nm.size_S, List.length_drop]; omega
  have ea : (A.toList == []) = false := by
    rw [beq_eq_false_iff_ne]
    intro h
    have := Nm.size_toList A
    rw [h] at this
    simp at this
    omega
  have r1 : ∀ u : World, (Op.stringOp .add A ⟨#[47]⟩).run Try.prog u = .ok (.string (A ++ ⟨#[47]⟩)) u := fun u => run_string_add_sum _ _ _ (by rw [show (⟨#[47]⟩ : ByteArray).size = 1 from rfl]; omega)
  have r2 : ∀ u : World, (Op.stringOp .add (A ++ ⟨#[47]⟩) BB).run Try.prog u = .ok (.string s) u := fun u => by
    rw [run_string_add_sum _ _ _ (by rw [ByteArray.size_append, show (⟨#[47]⟩ : ByteArray).size = 1 from rfl]; omega), HA.out, HBB.out, show (⟨#[47]⟩ : ByteArray) = Nm.S [47] from rfl, Nm.append_S, Nm.append_S, List.append_assoc]
    have := cut_back hi
    rw [show [47] ++ s.toList.drop (i + 1) = 47 :: s.toList.drop (i + 1) from rfl, this, Nm.S_toList]
  have i1 : i ≤ 155 := hi.2.1
  have i2 : s.size - i - 1 ≤ 100 := by have := hi.2.2; omega
  have q1 : ¬ (155 : Int) < (A.size : Int) := by omega
  have q2 : ¬ (100 : Int) < (BB.size : Int) := by omega
  have zl : ¬ (s.size : Int) ≤ 100 := by omega
  have p1 : at_ < 0 := hp
  clear hsz hilt hlast hi zb za
  go_enter Try.func5, Try.ntmps5
  go_wp2_with (first
    | (go_at_call 10; refine (awake8_any _).mono ?_; rintro e w1 ⟨rfl, hw1⟩)
    | (go_at_call 13; refine (ncheck_any s (by omega) _).mono ?_; rintro e w2 ⟨rfl, hw2⟩; rw [HC.out])
    | (go_at_call 14; refine (nsplit_any s (by omega) _).mono ?_; rintro e w3 ⟨⟨a', b', er', rfl, hsp'⟩, hw3⟩; obtain ⟨rfl, rfl, rfl⟩ := Nm.split_unique HSP.out hsp'; clear hsp'; rw [← HA.out, ← HBB.out]))
  go_ret
  exact ⟨rfl, hw1.trans (hw2.trans hw3)⟩
set_option maxRecDepth 100000 in
set_option maxHeartbeats 2000000 in
theorem cuts_none_neg (s : ByteArray) (at_ : Int) (w : World) (w0 : s.size ≤ 140737488351232) (a1 : -9223372036854775808 ≤ at_) (a2 : at_ ≤ 9223372036854775807) (c1 : Int) (HC : Hid (Nm.check s.toList = (c1, 0))) (hl : 100 < s.size) (hno : ∀ j, ¬ Nm.CutAt s.toList j) (hp : at_ < 0) :
    Calls Try.prog 5 #[.string s, .int .i64 at_] w fun e w' => e = .returned (.bool true) ∧ Bw w w' := by
  have hsz : s.toList.length = s.size := Nm.size_toList s
  have HSP : Hid (Nm.SplitSays s.toList [] [] 2) := ⟨fun h => absurd (by rw [HC.out]) h, fun _ h => by omega, fun _ _ j hj => absurd hj (hno j), fun _ _ _ => ⟨rfl, rfl, rfl⟩⟩
  obtain ⟨A, HA⟩ : ∃ A, Hid (A = Nm.S []) := ⟨_, rfl⟩
  have ea : (A.toList == []) = true := by rw [HA.out, Nm.toList_S]; rfl
  have zl : ¬ (s.size : Int) ≤ 100 := by omega
  clear hsz hno
  have p1 : at_ < 0 := hp
  go_enter Try.func5, Try.ntmps5
  go_wp2_with (first
    | (go_at_call 10; refine (awake8_any _).mono ?_; rintro e w1 ⟨rfl, hw1⟩)
    | (go_at_call 13; refine (ncheck_any s (by omega) _).mono ?_; rintro e w2 ⟨rfl, hw2⟩; rw [HC.out])
    | (go_at_call 14; refine (nsplit_any s (by omega) _).mono ?_; rintro e w3 ⟨⟨a', b', er', rfl, hsp'⟩, hw3⟩; obtain ⟨rfl, rfl, rfl⟩ := Nm.split_unique HSP.out hsp'; clear hsp'; rw [← HA.out]))
  go_ret
  exact ⟨rfl, hw1.trans (hw2.trans hw3)⟩
set_option maxRecDepth 100000 in
set_option maxHeartbeats 2000000 in
theorem cuts_short_out (s : ByteArray) (at_ : Int) (w : World) (w0 : s.size ≤ 140737488351232) (a1 : -9223372036854775808 ≤ at_) (a2 : at_ ≤ 9223372036854775807) (c1 : Int) (HC : Hid (Nm.check s.toList = (c1, 0))) (hl : s.size ≤ 100) (hp : (s.size : Int) ≤ at_) :
    Calls Try.prog 5 #[.string s, .int .i64 at_] w fun e w' => e = .returned (.bool true) ∧ Bw w w' := by
  have hsz : s.toList.length = s.size := Nm.size_toList s
  have HSP : Hid (Nm.SplitSays s.toList [] s.toList 0) := ⟨fun h => absurd (by rw [HC.out]) h, fun _ _ => ⟨rfl, rfl, rfl⟩, fun _ h => by omega, fun _ h => by omega⟩
  obtain ⟨A, HA⟩ : ∃ A, Hid (A = Nm.S []) := ⟨_, rfl⟩
  obtain ⟨BB, HBB⟩ : ∃ A, Hid (A = Nm.S s.toList) := ⟨_, rfl⟩
  have ea : (A.toList == []) = true := by rw [HA.out, Nm.toList_S]; rfl
  have eb : (BB.toList == s.toList) = true := by rw [HBB.out, Nm.S_toList, beq_iff_eq]
  have za : A.size = 0 := by rw [HA.out]; rfl
  have zb : BB.size = s.size := by rw [HBB.out, Nm.S_toList]
  have zl : ¬ (100 : Int) < (s.size : Int) := by omega
  clear hsz
  have p0 : ¬ at_ < 0 := by omega
  have p1 : (s.size : Int) ≤ at_ := hp
  go_enter Try.func5, Try.ntmps5
  go_wp2_with (first
    | (go_at_call 10; refine (awake8_any _).mono ?_; rintro e w1 ⟨rfl, hw1⟩)
    | (go_at_call 13; refine (ncheck_any s (by omega) _).mono ?_; rintro e w2 ⟨rfl, hw2⟩; rw [HC.out])
    | (go_at_call 14; refine (nsplit_any s (by omega) _).mono ?_; rintro e w3 ⟨⟨a', b', er', rfl, hsp'⟩, hw3⟩; obtain ⟨rfl, rfl, rfl⟩ := Nm.split_unique HSP.out hsp'; clear hsp'; rw [← HA.out, ← HBB.out]))
  go_ret
  exact ⟨rfl, hw1.trans (hw2.trans hw3)⟩
set_option maxRecDepth 100000 in
set_option maxHeartbeats 2000000 in
theorem cuts_cut_out (s : ByteArray) (at_ : Int) (w : World) (w0 : s.size ≤ 140737488351232) (a1 : -9223372036854775808 ≤ at_) (a2 : at_ ≤ 9223372036854775807) (c1 : Int) (HC : Hid (Nm.check s.toList = (c1, 0))) (hl : 100 < s.size) (i : Nat) (hi : Nm.CutAt s.toList i) (hlast : ∀ j, i < j → ¬ Nm.CutAt s.toList j) (hp : (s.size : Int) ≤ at_) :
    Calls Try.prog 5 #[.string s, .int .i64 at_] w fun e w' => e = .returned (.bool true) ∧ Bw w w' := by
  have hsz : s.toList.length = s.size := Nm.size_toList s
  have HSP : Hid (Nm.SplitSays s.toList (s.toList.take i) (s.toList.drop (i + 1)) 0) := ⟨fun h => absurd (by rw [HC.out]) h, fun _ h => by omega, fun _ _ j hj hjl => by
    have : j = i := by
      rcases Nat.lt_trichotomy j i with h | h | h
      · exact absurd hi (hjl i h)
      · exact h
      · exact absurd hj (hlast j h)
    subst this
    exact ⟨rfl, rfl, rfl⟩, fun _ _ h => absurd hi (h i)⟩
  have hi0 : i ≠ 0 := fun e => first_ok (by rw [HC.out]) (by rw [← e]; exact hi)
  have hilt := Nm.cut_lt hi
  obtain ⟨A, HA⟩ : ∃ A, Hid (A = Nm.S (s.toList.take i)) := ⟨_, rfl⟩
  obtain ⟨BB, HBB⟩ : ∃ A, Hid (A = Nm.S (s.toList.drop (i + 1))) := ⟨_, rfl⟩
  have za : A.size = i := by rw [HA.out, Nm.size_S, List.length_take]; omega
  have zb : BB.size = s.size - i - 1 := by rw [HBB.out, Nm.size_S, List.length_drop]; omega
  have ea : (A.toList == []) = false := by
    rw [beq_eq_false_iff_ne]
    intro h
    have := Nm.size_toList A
    rw [h] at this
    simp at this
    omega
  have r1 : ∀ u : World, (Op.stringOp .add A ⟨#[47]⟩).run Try.prog u = .ok (.string (A ++ ⟨#[47]⟩)) u := fun u => run_string_add_sum _ _ _ (by rw [show (⟨#[47]⟩ : ByteArray).size = 1 from rfl]; omega)
  have r2 : ∀ u : World, (Op.stringOp .add (A ++ ⟨#[47]⟩) BB).run Try.prog u = .ok (.string s) u := fun u => by
    rw [run_string_add_sum _ _ _ (by rw [ByteArray.size_append, show (⟨#[47]⟩ : ByteArray).size = 1 from rfl]; omega), HA.out, HBB.out, show (⟨#[47]⟩ : ByteArray) = Nm.S [47] from rfl, Nm.append_S, Nm.append_S, List.append_assoc]
    have := cut_back hi
    rw [show [47] ++ s.toList.drop (i + 1) = 47 :: s.toList.drop (i + 1) from rfl, this, Nm.S_toList]
  have i1 : i ≤ 155 := hi.2.1
  have i2 : s.size - i - 1 ≤ 100 := by have := hi.2.2; omega
  have q1 : ¬ (155 : Int) < (A.size : Int) := by omega
  have q2 : ¬ (100 : Int) < (BB.size : Int) := by omega
  have zl : ¬ (s.size : Int) ≤ 100 := by omega
  have p0 : ¬ at_ < 0 := by omega
  have p1 : (s.size : Int) ≤ at_ := hp
  clear hsz hilt hlast hi zb za
  go_enter Try.func5, Try.ntmps5
  go_wp2_with (first
    | (go_at_call 10; refine (awake8_any _).mono ?_; rintro e w1 ⟨rfl, hw1⟩)
    | (go_at_call 13; refine (ncheck_any s (by omega) _).mono ?_; rintro e w2 ⟨rfl, hw2⟩; rw [HC.out])
    | (go_at_call 14; refine (nsplit_any s (by omega) _).mono ?_; rintro e w3 ⟨⟨a', b', er', rfl, hsp'⟩, hw3⟩; obtain ⟨rfl, rfl, rfl⟩ := Nm.split_unique HSP.out hsp'; clear hsp'; rw [← HA.out, ← HBB.out]))
  go_ret
  exact ⟨rfl, hw1.trans (hw2.trans hw3)⟩
set_option maxRecDepth 100000 in
set_option maxHeartbeats 2000000 in
theorem cuts_none_out (s : ByteArray) (at_ : Int) (w : World) (w0 : s.size ≤ 140737488351232) (a1 : -9223372036854775808 ≤ at_) (a2 : at_ ≤ 9223372036854775807) (c1 : Int) (HC : Hid (Nm.check s.toList = (c1, 0))) (hl : 100 < s.size) (hno : ∀ j, ¬ Nm.CutAt s.toList j) (hp : (s.size : Int) ≤ at_) :
    Calls Try.prog 5 #[.string s, .int .i64 at_] w fun e w' => e = .returned (.bool true) ∧ Bw w w' := by
  have hsz : s.toList.length = s.size := Nm.size_toList s
  have HSP : Hid (Nm.SplitSays s.toList [] [] 2) := ⟨fun h => absurd (by rw [HC.out]) h, fun _ h => by omega, fun _ _ j hj => absurd hj (hno j), fun _ _ _ => ⟨rfl, rfl, rfl⟩⟩
  obtain ⟨A, HA⟩ : ∃ A, Hid (A = Nm.S []) := ⟨_, rfl⟩
  have ea : (A.toList == []) = true := by rw [HA.out, Nm.toList_S]; rfl
  have zl : ¬ (s.size : Int) ≤ 100 := by omega
  clear hsz hno
  have p0 : ¬ at_ < 0 := by omega
  have p1 : (s.size : Int) ≤ at_ := hp
  go_enter Try.func5, Try.ntmps5
  go_wp2_with (first
    | (go_at_call 10; refine (awake8_any _).mono ?_; rintro e w1 ⟨rfl, hw1⟩)
    | (go_at_call 13; refine (ncheck_any s (by omega) _).mono ?_; rintro e w2 ⟨rfl, hw2⟩; rw [HC.out])
    | (go_at_call 14; refine (nsplit_any s (by omega) _).mono ?_; rintro e w3 ⟨⟨a', b', er', rfl, hsp'⟩, hw3⟩; obtain ⟨rfl, rfl, rfl⟩ := Nm.split_unique HSP.out hsp'; clear hsp'; rw [← HA.out]))
  go_ret
  exact ⟨rfl, hw1.trans (hw2.trans hw3)⟩
set_option maxRecDepth 100000 in
set_option maxHeartbeats 2000000 in
theorem cuts_short_no (s : ByteArray) (at_ : Int) (w : World) (w0 : s.size ≤ 140737488351232) (a1 : -9223372036854775808 ≤ at_) (a2 : at_ ≤ 9223372036854775807) (c1 : Int) (HC : Hid (Nm.check s.toList = (c1, 0))) (hl : s.size ≤ 100) (k : Nat) (hk : k < s.size) (hat : at_ = (k : Int)) (hp : s[k] ≠ 47) :
    Calls Try.prog 5 #[.string s, .int .i64 at_] w fun e w' => e = .returned (.bool true) ∧ Bw w w' := by
  have hsz : s.toList.length = s.size := Nm.size_toList s
  have HSP : Hid (Nm.SplitSays s.toList [] s.toList 0) := ⟨fun h => absurd (by rw [HC.out]) h, fun _ _ => ⟨rfl, rfl, rfl⟩, fun _ h => by omega, fun _ h => by omega⟩
  obtain ⟨A, HA⟩ : ∃ A, Hid (A = Nm.S []) := ⟨_, rfl⟩
  obtain ⟨BB, HBB⟩ : ∃ A, Hid (A = Nm.S s.toList) := ⟨_, rfl⟩
  have ea : (A.toList == []) = true := by rw [HA.out, Nm.toList_S]; rfl
  have eb : (BB.toList == s.toList) = true := by rw [HBB.out, Nm.S_toList, beq_iff_eq]
  have za : A.size = 0 := by rw [HA.out]; rfl
  have zb : BB.size = s.size := by rw [HBB.out, Nm.S_toList]
  have zl : ¬ (100 : Int) < (s.size : Int) := by omega
  clear hsz
  subst hat
  have p0 : ¬ (k : Int) < 0 := by omega
  have p1 : ¬ (s.size : Int) ≤ (k : Int) := by omega
  have p2 : ((s[k].toNat : Int) != 47) = true := by rw [bne_iff_ne]; exact fun h => hp ((Nm.byte_eq _ 47).1 h)
  have p3 : (k : Int) < (s.size : Int) := by omega
  clear hp
  go_enter Try.func5, Try.ntmps5
  go_wp2_with (first
    | (go_at_call 10; refine (awake8_any _).mono ?_; rintro e w1 ⟨rfl, hw1⟩)
    | (go_at_call 13; refine (ncheck_any s (by omega) _).mono ?_; rintro e w2 ⟨rfl, hw2⟩; rw [HC.out])
    | (go_at_call 14; refine (nsplit_any s (by omega) _).mono ?_; rintro e w3 ⟨⟨a', b', er', rfl, hsp'⟩, hw3⟩; obtain ⟨rfl, rfl, rfl⟩ := Nm.split_unique HSP.out hsp'; clear hsp'; rw [← HA.out, ← HBB.out]))
  go_ret
  exact ⟨rfl, hw1.trans (hw2.trans hw3)⟩
set_option maxRecDepth 100000 in
set_option maxHeartbeats 2000000 in
theorem cuts_cut_no (s : ByteArray) (at_ : Int) (w : World) (w0 : s.size ≤ 140737488351232) (a1 : -9223372036854775808 ≤ at_) (a2 : at_ ≤ 9223372036854775807) (c1 : Int) (HC : Hid (Nm.check s.toList = (c1, 0))) (hl : 100 < s.size) (i : Nat) (hi : Nm.CutAt s.toList i) (hlast : ∀ j, i < j → ¬ Nm.CutAt s.toList j) (k : Nat) (hk : k < s.size) (hat : at_ = (k : Int)) (hp : s[k] ≠ 47) :
    Calls Try.prog 5 #[.string s, .int .i64 at_] w fun e w' => e = .returned (.bool true) ∧ Bw w w' := by
  have hsz : s.toList.length = s.size := Nm.size_toList s
  have HSP : Hid (Nm.SplitSays s.toList (s.toList.take i) (s.toList.drop (i + 1)) 0) := ⟨fun h => absurd (by rw [HC.out]) h, fun _ h => by omega, fun _ _ j hj hjl => by
    have : j = i := by
      rcases Nat.lt_trichotomy j i with h | h | h
      · exact absurd hi (hjl i h)
      · exact h
      · exact absurd hj (hlast j h)
    subst this
    exact ⟨rfl, rfl, rfl⟩, fun _ _ h => absurd hi (h i)⟩
  have hi0 : i ≠ 0 := fun e => first_ok (by rw [HC.out]) (by rw [← e]; exact hi)
  have hilt := Nm.cut_lt hi
  obtain ⟨A, HA⟩ : ∃ A, Hid (A = Nm.S (s.toList.take i)) := ⟨_, rfl⟩
  obtain ⟨BB, HBB⟩ : ∃ A, Hid (A = Nm.S (s.toList.drop (i + 1))) := ⟨_, rfl⟩
  have za : A.size = i := by rw [HA.out, Nm.size_S, List.length_take]; omega
  have zb : BB.size = s.size - i - 1 := by rw [HBB.out, Nm.size_S, List.length_drop]; omega
  have ea : (A.toList == []) = false := by
    rw [beq_eq_false_iff_ne]
    intro h
    have := Nm.size_toList A
    rw [h] at this
    simp at this
    omega
  have r1 : ∀ u : World, (Op.stringOp .add A ⟨#[47]⟩).run Try.prog u = .ok (.string (A ++ ⟨#[47]⟩)) u := fun u => run_string_add_sum _ _ _ (by rw [show (⟨#[47]⟩ : ByteArray).size = 1 from rfl]; omega)
  have r2 : ∀ u : World, (Op.stringOp .add (A ++ ⟨#[47]⟩) BB).run Try.prog u = .ok (.string s) u := fun u => by
    rw [run_string_add_sum _ _ _ (by rw [ByteArray.size_append, show (⟨#[47]⟩ : ByteArray).size = 1 from rfl]; omega), HA.out, HBB.out, show (⟨#[47]⟩ : ByteArray) = Nm.S [47] from rfl, Nm.append_S, Nm.append_S, List.append_assoc]
    have := cut_back hi
    rw [show [47] ++ s.toList.drop (i + 1) = 47 :: s.toList.drop (i + 1) from rfl, this, Nm.S_toList]
  have i1 : i ≤ 155 := hi.2.1
  have i2 : s.size - i - 1 ≤ 100 := by have := hi.2.2; omega
  have q1 : ¬ (155 : Int) < (A.size : Int) := by omega
  have q2 : ¬ (100 : Int) < (BB.size : Int) := by omega
  have zl : ¬ (s.size : Int) ≤ 100 := by omega
  subst hat
  have p0 : ¬ (k : Int) < 0 := by omega
  have p1 : ¬ (s.size : Int) ≤ (k : Int) := by omega
  have p2 : ((s[k].toNat : Int) != 47) = true := by rw [bne_iff_ne]; exact fun h => hp ((Nm.byte_eq _ 47).1 h)
  have p3 : (k : Int) < (s.size : Int) := by omega
  clear hp
  clear hsz hilt hlast hi zb za
  go_enter Try.func5, Try.ntmps5
  go_wp2_with (first
    | (go_at_call 10; refine (awake8_any _).mono ?_; rintro e w1 ⟨rfl, hw1⟩)
    | (go_at_call 13; refine (ncheck_any s (by omega) _).mono ?_; rintro e w2 ⟨rfl, hw2⟩; rw [HC.out])
    | (go_at_call 14; refine (nsplit_any s (by omega) _).mono ?_; rintro e w3 ⟨⟨a', b', er', rfl, hsp'⟩, hw3⟩; obtain ⟨rfl, rfl, rfl⟩ := Nm.split_unique HSP.out hsp'; clear hsp'; rw [← HA.out, ← HBB.out]))
  go_ret
  exact ⟨rfl, hw1.trans (hw2.trans hw3)⟩
set_option maxRecDepth 100000 in
set_option maxHeartbeats 2000000 in
theorem cuts_none_no (s : ByteArray) (at_ : Int) (w : World) (w0 : s.size ≤ 140737488351232) (a1 : -9223372036854775808 ≤ at_) (a2 : at_ ≤ 9223372036854775807) (c1 : Int) (HC : Hid (Nm.check s.toList = (c1, 0))) (hl : 100 < s.size) (hno : ∀ j, ¬ Nm.CutAt s.toList j) (k : Nat) (hk : k < s.size) (hat : at_ = (k : Int)) (hp : s[k] ≠ 47) :
    Calls Try.prog 5 #[.string s, .int .i64 at_] w fun e w' => e = .returned (.bool true) ∧ Bw w w' := by
  have hsz : s.toList.length = s.size := Nm.size_toList s
  have HSP : Hid (Nm.SplitSays s.toList [] [] 2) := ⟨fun h => absurd (by rw [HC.out]) h, fun _ h => by omega, fun _ _ j hj => absurd hj (hno j), fun _ _ _ => ⟨rfl, rfl, rfl⟩⟩
  obtain ⟨A, HA⟩ : ∃ A, Hid (A = Nm.S []) := ⟨_, rfl⟩
  have ea : (A.toList == []) = true := by rw [HA.out, Nm.toList_S]; rfl
  have zl : ¬ (s.size : Int) ≤ 100 := by omega
  clear hsz hno
  subst hat
  have p0 : ¬ (k : Int) < 0 := by omega
  have p1 : ¬ (s.size : Int) ≤ (k : Int) := by omega
  have p2 : ((s[k].toNat : Int) != 47) = true := by rw [bne_iff_ne]; exact fun h => hp ((Nm.byte_eq _ 47).1 h)
  have p3 : (k : Int) < (s.size : Int) := by omega
  clear hp
  go_enter Try.func5, Try.ntmps5
  go_wp2_with (first
    | (go_at_call 10; refine (awake8_any _).mono ?_; rintro e w1 ⟨rfl, hw1⟩)
    | (go_at_call 13; refine (ncheck_any s (by omega) _).mono ?_; rintro e w2 ⟨rfl, hw2⟩; rw [HC.out])
    | (go_at_call 14; refine (nsplit_any s (by omega) _).mono ?_; rintro e w3 ⟨⟨a', b', er', rfl, hsp'⟩, hw3⟩; obtain ⟨rfl, rfl, rfl⟩ := Nm.split_unique HSP.out hsp'; clear hsp'; rw [← HA.out]))
  go_ret
  exact ⟨rfl, hw1.trans (hw2.trans hw3)⟩
set_option maxRecDepth 100000 in
set_option maxHeartbeats 2000000 in
theorem cuts_cut_far (s : ByteArray) (at_ : Int) (w : World) (w0 : s.size ≤ 140737488351232) (a1 : -9223372036854775808 ≤ at_) (a2 : at_ ≤ 9223372036854775807) (c1 : Int) (HC : Hid (Nm.check s.toList = (c1, 0))) (hl : 100 < s.size) (i : Nat) (hi : Nm.CutAt s.toList i) (hlast : ∀ j, i < j → ¬ Nm.CutAt s.toList j) (k : Nat) (hk : k < s.size) (hat : at_ = (k : Int)) (hp : s[k] = 47) (hf : 155 < k) :
    Calls Try.prog 5 #[.string s, .int .i64 at_] w fun e w' => e = .returned (.bool true) ∧ Bw w w' := by
  have hsz : s.toList.length = s.size := Nm.size_toList s
  have HSP : Hid (Nm.SplitSays s.toList (s.toList.take i) (s.toList.drop (i + 1)) 0) := ⟨fun h => absurd (by rw [HC.out]) h, fun _ h => by omega, fun _ _ j hj hjl => by
    have : j = i := by
      rcases Nat.lt_trichotomy j i with h | h | h
      · exact absurd hi (hjl i h)
      · exact h
      · exact absurd hj (hlast j h)
    subst this
    exact ⟨rfl, rfl, rfl⟩, fun _ _ h => absurd hi (h i)⟩
  have hi0 : i ≠ 0 := fun e => first_ok (by rw [HC.out]) (by rw [← e]; exact hi)
  have hilt := Nm.cut_lt hi
  obtain ⟨A, HA⟩ : ∃ A, Hid (A = Nm.S (s.toList.take i)) := ⟨_, rfl⟩
  obtain ⟨BB, HBB⟩ : ∃ A, Hid (A = Nm.S (s.toList.drop (i + 1))) := ⟨_, rfl⟩
  have za : A.size = i := by rw [HA.out, Nm.size_S, List.length_take]; omega
  have zb : BB.size = s.size - i - 1 := by rw [HBB.out, Nm.size_S, List.length_drop]; omega
  have ea : (A.toList == []) = false := by
    rw [beq_eq_false_iff_ne]
    intro h
    have := Nm.size_toList A
    rw [h] at this
    simp at this
    omega
  have r1 : ∀ u : World, (Op.stringOp .add A ⟨#[47]⟩).run Try.prog u = .ok (.string (A ++ ⟨#[47]⟩)) u := fun u => run_string_add_sum _ _ _ (by rw [show (⟨#[47]⟩ : ByteArray).size = 1 from rfl]; omega)
  have r2 : ∀ u : World, (Op.stringOp .add (A ++ ⟨#[47]⟩) BB).run Try.prog u = .ok (.string s) u := fun u => by
    rw [run_string_add_sum _ _ _ (by rw [ByteArray.size_append, show (⟨#[47]⟩ : ByteArray).size = 1 from rfl]; omega), HA.out, HBB.out, show (⟨#[47]⟩ : ByteArray) = Nm.S [47] from rfl, Nm.append_S, Nm.append_S, List.append_assoc]
    have := cut_back hi
    rw [show [47] ++ s.toList.drop (i + 1) = 47 :: s.toList.drop (i + 1) from rfl, this, Nm.S_toList]
  have i1 : i ≤ 155 := hi.2.1
  have i2 : s.size - i - 1 ≤ 100 := by have := hi.2.2; omega
  have q1 : ¬ (155 : Int) < (A.size : Int) := by omega
  have q2 : ¬ (100 : Int) < (BB.size : Int) := by omega
  have zl : ¬ (s.size : Int) ≤ 100 := by omega
  subst hat
  have p0 : ¬ (k : Int) < 0 := by omega
  have p1 : ¬ (s.size : Int) ≤ (k : Int) := by omega
  have p2 : ((s[k].toNat : Int) != 47) = false := by rw [hp]; rfl
  have p3 : (k : Int) < (s.size : Int) := by omega
  have p4 : (155 : Int) < (k : Int) := by omega
  clear hp
  clear hsz hilt hlast hi zb za
  go_enter Try.func5, Try.ntmps5
  go_wp2_with (first
    | (go_at_call 10; refine (awake8_any _).mono ?_; rintro e w1 ⟨rfl, hw1⟩)
    | (go_at_call 13; refine (ncheck_any s (by omega) _).mono ?_; rintro e w2 ⟨rfl, hw2⟩; rw [HC.out])
    | (go_at_call 14; refine (nsplit_any s (by omega) _).mono ?_; rintro e w3 ⟨⟨a', b', er', rfl, hsp'⟩, hw3⟩; obtain ⟨rfl, rfl, rfl⟩ := Nm.split_unique HSP.out hsp'; clear hsp'; rw [← HA.out, ← HBB.out]))
  go_ret
  exact ⟨rfl, hw1.trans (hw2.trans hw3)⟩
set_option maxRecDepth 100000 in
set_option maxHeartbeats 2000000 in
theorem cuts_none_far (s : ByteArray) (at_ : Int) (w : World) (w0 : s.size ≤ 140737488351232) (a1 : -9223372036854775808 ≤ at_) (a2 : at_ ≤ 9223372036854775807) (c1 : Int) (HC : Hid (Nm.check s.toList = (c1, 0))) (hl : 100 < s.size) (hno : ∀ j, ¬ Nm.CutAt s.toList j) (k : Nat) (hk : k < s.size) (hat : at_ = (k : Int)) (hp : s[k] = 47) (hf : 155 < k) :
    Calls Try.prog 5 #[.string s, .int .i64 at_] w fun e w' => e = .returned (.bool true) ∧ Bw w w' := by
  have hsz : s.toList.length = s.size := Nm.size_toList s
  have HSP : Hid (Nm.SplitSays s.toList [] [] 2) := ⟨fun h => absurd (by rw [HC.out]) h, fun _ h => by omega, fun _ _ j hj => absurd hj (hno j), fun _ _ _ => ⟨rfl, rfl, rfl⟩⟩
  obtain ⟨A, HA⟩ : ∃ A, Hid (A = Nm.S []) := ⟨_, rfl⟩
  have ea : (A.toList == []) = true := by rw [HA.out, Nm.toList_S]; rfl
  have zl : ¬ (s.size : Int) ≤ 100 := by omega
  clear hsz hno
  subst hat
  have p0 : ¬ (k : Int) < 0 := by omega
  have p1 : ¬ (s.size : Int) ≤ (k : Int) := by omega
  have p2 : ((s[k].toNat : Int) != 47) = false := by rw [hp]; rfl
  have p3 : (k : Int) < (s.size : Int) := by omega
  have p4 : (155 : Int) < (k : Int) := by omega
  clear hp
  go_enter Try.func5, Try.ntmps5
  go_wp2_with (first
    | (go_at_call 10; refine (awake8_any _).mono ?_; rintro e w1 ⟨rfl, hw1⟩)
    | (go_at_call 13; refine (ncheck_any s (by omega) _).mono ?_; rintro e w2 ⟨rfl, hw2⟩; rw [HC.out])
    | (go_at_call 14; refine (nsplit_any s (by omega) _).mono ?_; rintro e w3 ⟨⟨a', b', er', rfl, hsp'⟩, hw3⟩; obtain ⟨rfl, rfl, rfl⟩ := Nm.split_unique HSP.out hsp'; clear hsp'; rw [← HA.out]))
  go_ret
  exact ⟨rfl, hw1.trans (hw2.trans hw3)⟩
set_option maxRecDepth 100000 in
set_option maxHeartbeats 2000000 in
theorem cuts_cut_rest (s : ByteArray) (at_ : Int) (w : World) (w0 : s.size ≤ 140737488351232) (a1 : -9223372036854775808 ≤ at_) (a2 : at_ ≤ 9223372036854775807) (c1 : Int) (HC : Hid (Nm.check s.toList = (c1, 0))) (hl : 100 < s.size) (i : Nat) (hi : Nm.CutAt s.toList i) (hlast : ∀ j, i < j → ¬ Nm.CutAt s.toList j) (k : Nat) (hk : k < s.size) (hat : at_ = (k : Int)) (hp : s[k] = 47) (hf : k ≤ 155) (hr : 100 < s.size - k - 1) :
    Calls Try.prog 5 #[.string s, .int .i64 at_] w fun e w' => e = .returned (.bool true) ∧ Bw w w' := by
  have hsz : s.toList.length = s.size := Nm.size_toList s
  have HSP : Hid (Nm.SplitSays s.toList (s.toList.take i) (s.toList.drop (i + 1)) 0) := ⟨fun h => absurd (by rw [HC.out]) h, fun _ h => by omega, fun _ _ j hj hjl => by
    have : j = i := by
      rcases Nat.lt_trichotomy j i with h | h | h
      · exact absurd hi (hjl i h)
      · exact h
      · exact absurd hj (hlast j h)
    subst this
    exact ⟨rfl, rfl, rfl⟩, fun _ _ h => absurd hi (h i)⟩
  have hi0 : i ≠ 0 := fun e => first_ok (by rw [HC.out]) (by rw [← e]; exact hi)
  have hilt := Nm.cut_lt hi
  obtain ⟨A, HA⟩ : ∃ A, Hid (A = Nm.S (s.toList.take i)) := ⟨_, rfl⟩
  obtain ⟨BB, HBB⟩ : ∃ A, Hid (A = Nm.S (s.toList.drop (i + 1))) := ⟨_, rfl⟩
  have za : A.size = i := by rw [HA.out, Nm.size_S, List.length_take]; omega
  have zb : BB.size = s.size - i - 1 := by rw [HBB.out, Nm.size_S, List.length_drop]; omega
  have ea : (A.toList == []) = false := by
    rw [beq_eq_false_iff_ne]
    intro h
    have := Nm.size_toList A
    rw [h] at this
    simp at this
    omega
  have r1 : ∀ u : World, (Op.stringOp .add A ⟨#[47]⟩).run Try.prog u = .ok (.string (A ++ ⟨#[47]⟩)) u := fun u => run_string_add_sum _ _ _ (by rw [show (⟨#[47]⟩ : ByteArray).size = 1 from rfl]; omega)
  have r2 : ∀ u : World, (Op.stringOp .add (A ++ ⟨#[47]⟩) BB).run Try.prog u = .ok (.string s) u := fun u => by
    rw [run_string_add_sum _ _ _ (by rw [ByteArray.size_append, show (⟨#[47]⟩ : ByteArray).size = 1 from rfl]; omega), HA.out, HBB.out, show (⟨#[47]⟩ : ByteArray) = Nm.S [47] from rfl, Nm.append_S, Nm.append_S, List.append_assoc]
    have := cut_back hi
    rw [show [47] ++ s.toList.drop (i + 1) = 47 :: s.toList.drop (i + 1) from rfl, this, Nm.S_toList]
  have i1 : i ≤ 155 := hi.2.1
  have i2 : s.size - i - 1 ≤ 100 := by have := hi.2.2; omega
  have q1 : ¬ (155 : Int) < (A.size : Int) := by omega
  have q2 : ¬ (100 : Int) < (BB.size : Int) := by omega
  have zl : ¬ (s.size : Int) ≤ 100 := by omega
  subst hat
  have p0 : ¬ (k : Int) < 0 := by omega
  have p1 : ¬ (s.size : Int) ≤ (k : Int) := by omega
  have p2 : ((s[k].toNat : Int) != 47) = false := by rw [hp]; rfl
  have p3 : (k : Int) < (s.size : Int) := by omega
  have p4 : ¬ (155 : Int) < (k : Int) := by omega
  have p5 : (100 : Int) < (s.size : Int) - (k : Int) - 1 := by omega
  clear hp
  clear hsz hilt hlast hi zb za
  go_enter Try.func5, Try.ntmps5
  go_wp2_with (first
    | (go_at_call 10; refine (awake8_any _).mono ?_; rintro e w1 ⟨rfl, hw1⟩)
    | (go_at_call 13; refine (ncheck_any s (by omega) _).mono ?_; rintro e w2 ⟨rfl, hw2⟩; rw [HC.out])
    | (go_at_call 14; refine (nsplit_any s (by omega) _).mono ?_; rintro e w3 ⟨⟨a', b', er', rfl, hsp'⟩, hw3⟩; obtain ⟨rfl, rfl, rfl⟩ := Nm.split_unique HSP.out hsp'; clear hsp'; rw [← HA.out, ← HBB.out]))
  go_ret
  exact ⟨rfl, hw1.trans (hw2.trans hw3)⟩
set_option maxRecDepth 100000 in
set_option maxHeartbeats 2000000 in
theorem cuts_none_rest (s : ByteArray) (at_ : Int) (w : World) (w0 : s.size ≤ 140737488351232) (a1 : -9223372036854775808 ≤ at_) (a2 : at_ ≤ 9223372036854775807) (c1 : Int) (HC : Hid (Nm.check s.toList = (c1, 0))) (hl : 100 < s.size) (hno : ∀ j, ¬ Nm.CutAt s.toList j) (k : Nat) (hk : k < s.size) (hat : at_ = (k : Int)) (hp : s[k] = 47) (hf : k ≤ 155) (hr : 100 < s.size - k - 1) :
    Calls Try.prog 5 #[.string s, .int .i64 at_] w fun e w' => e = .returned (.bool true) ∧ Bw w w' := by
  have hsz : s.toList.length = s.size := Nm.size_toList s
  have HSP : Hid (Nm.SplitSays s.toList [] [] 2) := ⟨fun h => absurd (by rw [HC.out]) h, fun _ h => by omega, fun _ _ j hj => absurd hj (hno j), fun _ _ _ => ⟨rfl, rfl, rfl⟩⟩
  obtain ⟨A, HA⟩ : ∃ A, Hid (A = Nm.S []) := ⟨_, rfl⟩
  have ea : (A.toList == []) = true := by rw [HA.out, Nm.toList_S]; rfl
  have zl : ¬ (s.size : Int) ≤ 100 := by omega
  clear hsz hno
  subst hat
  have p0 : ¬ (k : Int) < 0 := by omega
  have p1 : ¬ (s.size : Int) ≤ (k : Int) := by omega
  have p2 : ((s[k].toNat : Int) != 47) = false := by rw [hp]; rfl
  have p3 : (k : Int) < (s.size : Int) := by omega
  have p4 : ¬ (155 : Int) < (k : Int) := by omega
  have p5 : (100 : Int) < (s.size : Int) - (k : Int) - 1 := by omega
  clear hp
  go_enter Try.func5, Try.ntmps5
  go_wp2_with (first
    | (go_at_call 10; refine (awake8_any _).mono ?_; rintro e w1 ⟨rfl, hw1⟩)
    | (go_at_call 13; refine (ncheck_any s (by omega) _).mono ?_; rintro e w2 ⟨rfl, hw2⟩; rw [HC.out])
    | (go_at_call 14; refine (nsplit_any s (by omega) _).mono ?_; rintro e w3 ⟨⟨a', b', er', rfl, hsp'⟩, hw3⟩; obtain ⟨rfl, rfl, rfl⟩ := Nm.split_unique HSP.out hsp'; clear hsp'; rw [← HA.out]))
  go_ret
  exact ⟨rfl, hw1.trans (hw2.trans hw3)⟩
set_option maxRecDepth 100000 in
set_option maxHeartbeats 2000000 in
theorem cuts_short_cut (s : ByteArray) (at_ : Int) (w : World) (w0 : s.size ≤ 140737488351232) (a1 : -9223372036854775808 ≤ at_) (a2 : at_ ≤ 9223372036854775807) (c1 : Int) (HC : Hid (Nm.check s.toList = (c1, 0))) (hl : s.size ≤ 100) (k : Nat) (hk : k < s.size) (hat : at_ = (k : Int)) (hp : s[k] = 47) (hf : k ≤ 155) (hr : s.size - k - 1 ≤ 100) :
    Calls Try.prog 5 #[.string s, .int .i64 at_] w fun e w' => e = .returned (.bool true) ∧ Bw w w' := by
  have hsz : s.toList.length = s.size := Nm.size_toList s
  have HSP : Hid (Nm.SplitSays s.toList [] s.toList 0) := ⟨fun h => absurd (by rw [HC.out]) h, fun _ _ => ⟨rfl, rfl, rfl⟩, fun _ h => by omega, fun _ h => by omega⟩
  obtain ⟨A, HA⟩ : ∃ A, Hid (A = Nm.S []) := ⟨_, rfl⟩
  obtain ⟨BB, HBB⟩ : ∃ A, Hid (A = Nm.S s.toList) := ⟨_, rfl⟩
  have ea : (A.toList == []) = true := by rw [HA.out, Nm.toList_S]; rfl
  have eb : (BB.toList == s.toList) = true := by rw [HBB.out, Nm.S_toList, beq_iff_eq]
  have za : A.size = 0 := by rw [HA.out]; rfl
  have zb : BB.size = s.size := by rw [HBB.out, Nm.S_toList]
  have zl : ¬ (100 : Int) < (s.size : Int) := by omega
  clear hsz
  subst hat
  have p0 : ¬ (k : Int) < 0 := by omega
  have p1 : ¬ (s.size : Int) ≤ (k : Int) := by omega
  have p2 : ((s[k].toNat : Int) != 47) = false := by rw [hp]; rfl
  have p3 : (k : Int) < (s.size : Int) := by omega
  have p4 : ¬ (155 : Int) < (k : Int) := by omega
  have p5 : ¬ (100 : Int) < (s.size : Int) - (k : Int) - 1 := by omega
  clear hp
  go_enter Try.func5, Try.ntmps5
  go_wp2_with (first
    | (go_at_call 10; refine (awake8_any _).mono ?_; rintro e w1 ⟨rfl, hw1⟩)
    | (go_at_call 13; refine (ncheck_any s (by omega) _).mono ?_; rintro e w2 ⟨rfl, hw2⟩; rw [HC.out])
    | (go_at_call 14; refine (nsplit_any s (by omega) _).mono ?_; rintro e w3 ⟨⟨a', b', er', rfl, hsp'⟩, hw3⟩; obtain ⟨rfl, rfl, rfl⟩ := Nm.split_unique HSP.out hsp'; clear hsp'; rw [← HA.out, ← HBB.out]))
  go_ret
  exact ⟨rfl, hw1.trans (hw2.trans hw3)⟩
set_option maxRecDepth 100000 in
set_option maxHeartbeats 2000000 in
theorem cuts_cut_cut (s : ByteArray) (at_ : Int) (w : World) (w0 : s.size ≤ 140737488351232) (a1 : -9223372036854775808 ≤ at_) (a2 : at_ ≤ 9223372036854775807) (c1 : Int) (HC : Hid (Nm.check s.toList = (c1, 0))) (hl : 100 < s.size) (i : Nat) (hi : Nm.CutAt s.toList i) (hlast : ∀ j, i < j → ¬ Nm.CutAt s.toList j) (k : Nat) (hk : k < s.size) (hat : at_ = (k : Int)) (hp : s[k] = 47) (hf : k ≤ 155) (hr : s.size - k - 1 ≤ 100) :
    Calls Try.prog 5 #[.string s, .int .i64 at_] w fun e w' => e = .returned (.bool true) ∧ Bw w w' := by
  have hsz : s.toList.length = s.size := Nm.size_toList s
  have HSP : Hid (Nm.SplitSays s.toList (s.toList.take i) (s.toList.drop (i + 1)) 0) := ⟨fun h => absurd (by rw [HC.out]) h, fun _ h => by omega, fun _ _ j hj hjl => by
    have : j = i := by
      rcases Nat.lt_trichotomy j i with h | h | h
      · exact absurd hi (hjl i h)
      · exact h
      · exact absurd hj (hlast j h)
    subst this
    exact ⟨rfl, rfl, rfl⟩, fun _ _ h => absurd hi (h i)⟩
  have hi0 : i ≠ 0 := fun e => first_ok (by rw [HC.out]) (by rw [← e]; exact hi)
  have hilt := Nm.cut_lt hi
  obtain ⟨A, HA⟩ : ∃ A, Hid (A = Nm.S (s.toList.take i)) := ⟨_, rfl⟩
  obtain ⟨BB, HBB⟩ : ∃ A, Hid (A = Nm.S (s.toList.drop (i + 1))) := ⟨_, rfl⟩
  have za : A.size = i := by rw [HA.out, Nm.size_S, List.length_take]; omega
  have zb : BB.size = s.size - i - 1 := by rw [HBB.out, Nm.size_S, List.length_drop]; omega
  have ea : (A.toList == []) = false := by
    rw [beq_eq_false_iff_ne]
    intro h
    have := Nm.size_toList A
    rw [h] at this
    simp at this
    omega
  have r1 : ∀ u : World, (Op.stringOp .add A ⟨#[47]⟩).run Try.prog u = .ok (.string (A ++ ⟨#[47]⟩)) u := fun u => run_string_add_sum _ _ _ (by rw [show (⟨#[47]⟩ : ByteArray).size = 1 from rfl]; omega)
  have r2 : ∀ u : World, (Op.stringOp .add (A ++ ⟨#[47]⟩) BB).run Try.prog u = .ok (.string s) u := fun u => by
    rw [run_string_add_sum _ _ _ (by rw [ByteArray.size_append, show (⟨#[47]⟩ : ByteArray).size = 1 from rfl]; omega), HA.out, HBB.out, show (⟨#[47]⟩ : ByteArray) = Nm.S [47] from rfl, Nm.append_S, Nm.append_S, List.append_assoc]
    have := cut_back hi
    rw [show [47] ++ s.toList.drop (i + 1) = 47 :: s.toList.drop (i + 1) from rfl, this, Nm.S_toList]
  have i1 : i ≤ 155 := hi.2.1
  have i2 : s.size - i - 1 ≤ 100 := by have := hi.2.2; omega
  have q1 : ¬ (155 : Int) < (A.size : Int) := by omega
  have q2 : ¬ (100 : Int) < (BB.size : Int) := by omega
  have zl : ¬ (s.size : Int) ≤ 100 := by omega
  have hki : k ≤ i := by
    rcases Nat.lt_or_ge i k with h | h
    · exact absurd (show Nm.CutAt s.toList k from ⟨by rw [List.getElem?_eq_getElem (by omega), ← Nm.get_toList s k hk (by omega), hp], hf, by omega⟩) (hlast k h)
    · exact h
  have q3 : (k : Int) ≤ (A.size : Int) := by omega
  subst hat
  have p0 : ¬ (k : Int) < 0 := by omega
  have p1 : ¬ (s.size : Int) ≤ (k : Int) := by omega
  have p2 : ((s[k].toNat : Int) != 47) = false := by rw [hp]; rfl
  have p3 : (k : Int) < (s.size : Int) := by omega
  have p4 : ¬ (155 : Int) < (k : Int) := by omega
  have p5 : ¬ (100 : Int) < (s.size : Int) - (k : Int) - 1 := by omega
  clear hp
  clear hsz hilt hlast hi zb za
  go_enter Try.func5, Try.ntmps5
  go_wp2_with (first
    | (go_at_call 10; refine (awake8_any _).mono ?_; rintro e w1 ⟨rfl, hw1⟩)
    | (go_at_call 13; refine (ncheck_any s (by omega) _).mono ?_; rintro e w2 ⟨rfl, hw2⟩; rw [HC.out])
    | (go_at_call 14; refine (nsplit_any s (by omega) _).mono ?_; rintro e w3 ⟨⟨a', b', er', rfl, hsp'⟩, hw3⟩; obtain ⟨rfl, rfl, rfl⟩ := Nm.split_unique HSP.out hsp'; clear hsp'; rw [← HA.out, ← HBB.out]))
  go_ret
  exact ⟨rfl, hw1.trans (hw2.trans hw3)⟩
theorem walk (s0 : ByteArray) (a1 : Int) (w : World) (w0 : s0.size ≤ 140737488351232) (w1 : (Lit.int .i64 a1).wf = true) :
    Calls Try.prog 5 #[.string s0, .int .i64 a1] w fun e w' => e = .returned (.bool true) ∧ Below w.heap.size w w' := by
  have b1 := bounds_i64 w1
  obtain ⟨c1, c2, HC⟩ : ∃ a b, Hid (Nm.check s0.toList = (a, b)) := ⟨(Nm.check s0.toList).1, (Nm.check s0.toList).2, show Nm.check s0.toList = _ from rfl⟩
  by_cases hc : c2 = 0
  · subst hc
    have hsz : s0.toList.length = s0.size := Nm.size_toList s0
    have place : a1 < 0 ∨ (s0.size : Int) ≤ a1 ∨ ∃ k : Nat, ∃ h : k < s0.size, a1 = (k : Int) ∧ (s0[k] ≠ 47 ∨ (s0[k] = 47 ∧ (155 < k ∨ (k ≤ 155 ∧ (100 < s0.size - k - 1 ∨ s0.size - k - 1 ≤ 100))))) := by
      by_cases h0 : a1 < 0
      · exact Or.inl h0
      · by_cases h1 : (s0.size : Int) ≤ a1
        · exact Or.inr (Or.inl h1)
        · obtain ⟨k, rfl⟩ := Int.eq_ofNat_of_zero_le (show 0 ≤ a1 by omega)
          refine Or.inr (Or.inr ⟨k, by omega, rfl, ?_⟩)
          by_cases h47 : s0[k]'(by omega) = 47
          · exact Or.inr ⟨h47, by omega⟩
          · exact Or.inl h47
    rcases Nat.lt_or_ge 100 s0.size with hl | hl
    · rcases Nm.last_cut s0.toList with hno | ⟨i, hi, hlast⟩
      · rcases place with h | h | ⟨k, hk, hat, h | ⟨h, h2 | ⟨h2, h3 | h3⟩⟩⟩
        · exact cuts_none_neg s0 a1 w w0 (by omega) (by omega) c1 HC hl hno h
        · exact cuts_none_out s0 a1 w w0 (by omega) (by omega) c1 HC hl hno h
        · exact cuts_none_no s0 a1 w w0 (by omega) (by omega) c1 HC hl hno k hk hat h
        · exact cuts_none_far s0 a1 w w0 (by omega) (by omega) c1 HC hl hno k hk hat h h2
        · exact cuts_none_rest s0 a1 w w0 (by omega) (by omega) c1 HC hl hno k hk hat h h2 h3
        · exact absurd (show Nm.CutAt s0.toList k from ⟨by rw [List.getElem?_eq_getElem (by omega), ← Nm.get_toList s0 k hk (by omega), h], h2, by omega⟩) (hno k)
      · rcases place with h | h | ⟨k, hk, hat, h | ⟨h, h2 | ⟨h2, h3 | h3⟩⟩⟩
        · exact cuts_cut_neg s0 a1 w w0 (by omega) (by omega) c1 HC hl i hi hlast h
        · exact cuts_cut_out s0 a1 w w0 (by omega) (by omega) c1 HC hl i hi hlast h
        · exact cuts_cut_no s0 a1 w w0 (by omega) (by omega) c1 HC hl i hi hlast k hk hat h
        · exact cuts_cut_far s0 a1 w w0 (by omega) (by omega) c1 HC hl i hi hlast k hk hat h h2
        · exact cuts_cut_rest s0 a1 w w0 (by omega) (by omega) c1 HC hl i hi hlast k hk hat h h2 h3
        · exact cuts_cut_cut s0 a1 w w0 (by omega) (by omega) c1 HC hl i hi hlast k hk hat h h2 h3
    · rcases place with h | h | ⟨k, hk, hat, h | ⟨h, h2 | ⟨h2, h3 | h3⟩⟩⟩
      · exact cuts_short_neg s0 a1 w w0 (by omega) (by omega) c1 HC hl h
      · exact cuts_short_out s0 a1 w w0 (by omega) (by omega) c1 HC hl h
      · exact cuts_short_no s0 a1 w w0 (by omega) (by omega) c1 HC hl k hk hat h
      · exact absurd hk (by omega)
      · exact absurd hk (by omega)
      · exact cuts_short_cut s0 a1 w w0 (by omega) (by omega) c1 HC hl k hk hat h h2 h3
  · exact cuts_bad s0 a1 w w0 (by omega) (by omega) c1 c2 HC hc

set_option maxRecDepth 100000 in
theorem lifted (os : Os) (started : os.Started) (H : Type) (enc : TypeId × Value → H) :
    ReturnsInHanded {} Try.checked os 5 .any (Rows.nameCutsSpec.pre6 enc Try.prog Try.f5 Rows.nameCutsRow.domain false) (Rows.nameCutsSpec.post enc Try.prog Try.f5 false true false false) := by
  refine returnsInHanded_of_change_sized (C := Try.checked) own started (by kernel_rfl) Try.func5
    (ChangeSpec.witness6 (enc := enc) (C := Try.checked) false ⟨#[], #[.string .empty, .int .i64 0], []⟩ 8 (by kernel_rfl) (by kernel_rfl) (by kernel_rfl) (by kernel_rfl)) ?_
  intro W base args ds gs before hval0 hW hcnd hsz0 _
  have hval : ∀ (j : Nat) t v, Try.f5.params[j]? = some t → args[j]? = some v → Value.okWide Try.prog W .any base t v := hval0
  have hW' := hW
  obtain ⟨p, q, hA0, hV, rfl, hfz, hnd⟩ := hW
  have hA : DataW.TrodAll enc Try.prog W 0 (fun _ => true) true Try.f5.params.toList args.toList ds p := hA0
  have hsz : (DataW.weightsEach Try.prog (Try.f5.params.toList ++ Rows.nameCutsSpec.plain.varTypes Try.prog) (ds ++ gs)).all (· ≤ reachBytes) = true := hsz0
  rw [Try.params5] at hA hval hsz
  obtain ⟨v0, vs0, d0, ds0, p0, q0, hargs, rfl, rfl, h0, r0⟩ := trodAll_cons hA
  obtain ⟨v1, vs1, d1, ds1, p1, q1, rfl, rfl, rfl, h1, r1⟩ := trodAll_cons r0
  obtain ⟨rfl, rfl, rfl⟩ := trodAll_nil r1
  obtain rfl : args = #[v0, v1] := by cases args; simp_all
  obtain ⟨rfl, rfl⟩ := trodVars_none hV
  have k0 := h0
  have lt0 : ∀ x ∈ p0, x.block < W.heap.size := by obtain ⟨m, hm⟩ := k0; exact DataW.trod_lt m _ _ _ hm
  obtain ⟨s0, rfl, rfl, w0⟩ := open_str (hval 0 9 v0 rfl rfl) h0 (fun x hx => by simpa using List.all_eq_true.1 hsz x (DataW.weights_mem_each (j := 0) (t := 9) rfl rfl x hx))
  obtain ⟨a1, rfl, rfl, rfl, w1⟩ := open_int Try.underlying3 (hval 1 3 v1 rfl rfl) h1
  clear hA0 hval0
  refine (walk s0 a1 W w0 w1).mono fun e W' ⟨he, bel⟩ => ?_
  subst he
  exact ⟨_, rfl, _, _, _, [], _, [], hW', trodAll_mk1 (shut_bool Try.underlying4 _), (trodAll_cons_mk (Below.trod laidOut (by kernel_rfl) (of_decide_eq_true (by kernel_rfl)) k0 bel lt0) (trodAll_cons_mk (shut_int Try.underlying3 w1) trodAll_mk0)), rfl, bel.frame _, fun h => by cases h⟩

theorem over : Rows.nameCutsRow.holds Try.pinned (OpenSpec.ofChange Rows.nameCutsSpec) :=
  OpenClaim.holds_of_wide 5 Try.f5 rfl rfl rfl rfl rfl rfl rfl ⟨rfl, rfl, rfl, rfl, rfl⟩ rfl rfl rfl rfl rfl (by kernel_rfl) Try.func5 (by kernel_rfl)
    (of_decide_eq_true (by kernel_rfl)) (by unfold Func.isWrapper; first | (rw [if_pos (by decide +kernel)]; kernel_rfl) | (rw [if_neg (by decide +kernel)]; exact ⟨rfl, rfl⟩))
    (fun os started H enc _ => lifted os started H enc)

theorem proved : Rows.NameCutsSaid := over
#print axioms proved
end Go.Proofs.Ytpkdnockbbppiab.nameCuts
