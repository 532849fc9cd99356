/- Proved: for any three texts the statement NameOrder answers true (the document's P8.9, the stage's theorem: Compare is one order; a path stands ahead of all that is beneath it, and nothing that is not beneath it stands between two that are), with no condition but the reach. -/
import Derived.Test.YtpkdnockbbppiabNA
import Derived.Test.YtpkdnockbbppiabFs
import Derived.ShutString
import Derived.ChangeOld
namespace Go.Proofs.Ytpkdnockbbppiab.nameOrder
open Go.ChangeShapes Go.WideShapes Go.ChangeAt Go.RowKit
set_option linter.unusedVariables false

set_option linter.unusedSimpArgs false
attribute [local go_sem] List.getElem?_cons_zero Option.getD_some
theorem tells_t {x : Bool} {P : Prop} (h : x = true ↔ P) (k : P) : x = true := h.2 k
theorem tells_f {x : Bool} {P : Prop} (h : x = true ↔ P) (k : ¬ P) : x = false := by cases x with | false => rfl | true => exact absurd (h.1 rfl) k
set_option maxRecDepth 100000 in
set_option maxHeartbeats 2000000 in
theorem ord_p_e (s0 s1 s2 : ByteArray) (w : World) (w0 : s0.size ≤ 140737488351232) (w1 : s1.size ≤ 140737488351232) (w2 : s2.size ≤ 140737488351232) (y z : Int) (hy : Nm.cmp s1.toList s2.toList = y) (hz : Nm.cmp s0.toList s2.toList = z) (hx : Nm.cmp s0.toList s1.toList = 1) (c1 c2 : Int) (HC : Hid (Nm.check s1.toList = (c1, c2))) (HB : 0 ≤ c2) (HB2 : c2 ≤ 100) (he : s0.toList = []) :
    Calls Try.prog 4 #[.string s0, .string s1, .string s2] w fun e w' => e = .returned (.bool true) ∧ Bw w w' := by
  have HX : Hid (Nm.cmp s0.toList s1.toList = 1) := hx
  have HY : Hid (Nm.cmp s1.toList s2.toList = y) := hy
  have HZ : Hid (Nm.cmp s0.toList s2.toList = z) := hz
  have HX' : Hid (Nm.cmp s1.toList s0.toList = (-1)) := by show _ = _; rw [(Nm.cmp_facts s0.toList s1.toList []).2.1, hx]
  have e1 : (s0.toList == s1.toList) = false := by rw [beq_eq_false_iff_ne]; exact fun h => by have := (Nm.cmp_facts s0.toList s1.toList []).2.2.1.2 h; omega
  have tok1 : Hid (w = w) := rfl
  have tok2 : Hid (w = w) := rfl
  have tok3 : Hid (w = w) := rfl
  clear hx hy hz
  have e0 : (s0.toList == []) = true := by rw [beq_iff_eq]; exact he
  clear he
  go_enter Try.func4, Try.ntmps4
  go_wp2_with (first
    | (go_at_call 10; refine (awake8_any _).mono ?_; rintro e w3 ⟨rfl, hw3⟩)
    | (go_at_call 11; clear tok1; refine (ncompare_any s0 s1 (by omega) (by omega) _).mono ?_; rintro e w4 ⟨rfl, hw4⟩; rw [HX.out])
    | (go_at_call 11; clear tok2; refine (ncompare_any s1 s2 (by omega) (by omega) _).mono ?_; rintro e w5 ⟨rfl, hw5⟩; rw [HY.out])
    | (go_at_call 11; clear tok3; refine (ncompare_any s0 s2 (by omega) (by omega) _).mono ?_; rintro e w6 ⟨rfl, hw6⟩; rw [HZ.out]))
  go_wp2_with (go_at_call 11; refine (ncompare_any s1 s0 (by omega) (by omega) _).mono ?_; rintro e w7 ⟨rfl, hw7⟩; rw [HX'.out])
  go_wp2_with (go_at_call 13; refine (ncheck_any s1 (by omega) _).mono ?_; rintro e w9 ⟨rfl, hw9⟩; rw [HC.out])
  go_ret
  exact ⟨rfl, hw3.trans (hw4.trans (hw5.trans (hw6.trans (hw7.trans hw9))))⟩
set_option maxRecDepth 100000 in
set_option maxHeartbeats 2000000 in
theorem ord_p_f (s0 s1 s2 : ByteArray) (w : World) (w0 : s0.size ≤ 140737488351232) (w1 : s1.size ≤ 140737488351232) (w2 : s2.size ≤ 140737488351232) (y z : Int) (hy : Nm.cmp s1.toList s2.toList = y) (hz : Nm.cmp s0.toList s2.toList = z) (hx : Nm.cmp s0.toList s1.toList = 1) (c1 c2 : Int) (HC : Hid (Nm.check s1.toList = (c1, c2))) (HB : 0 ≤ c2) (HB2 : c2 ≤ 100) (he : s0.toList ≠ []) (hab : ¬ Nm.Beneath s0.toList s1.toList) (q : Bool) (HQ : Hid (q = true ↔ Nm.Beneath s0.toList s2.toList)) (qx : Bool) (hqx : (c2 == 0) = qx) :
    Calls Try.prog 4 #[.string s0, .string s1, .string s2] w fun e w' => e = .returned (.bool true) ∧ Bw w w' := by
  have HX : Hid (Nm.cmp s0.toList s1.toList = 1) := hx
  have HY : Hid (Nm.cmp s1.toList s2.toList = y) := hy
  have HZ : Hid (Nm.cmp s0.toList s2.toList = z) := hz
  have HX' : Hid (Nm.cmp s1.toList s0.toList = (-1)) := by show _ = _; rw [(Nm.cmp_facts s0.toList s1.toList []).2.1, hx]
  have e1 : (s0.toList == s1.toList) = false := by rw [beq_eq_false_iff_ne]; exact fun h => by have := (Nm.cmp_facts s0.toList s1.toList []).2.2.1.2 h; omega
  have tok1 : Hid (w = w) := rfl
  have tok2 : Hid (w = w) := rfl
  have tok3 : Hid (w = w) := rfl
  clear hx hy hz
  have e0 : (s0.toList == []) = false := by rw [beq_eq_false_iff_ne]; exact he
  have HAB : Hid (¬ Nm.Beneath s0.toList s1.toList) := hab
  have tok4 : Hid (w = w) := rfl
  clear he hab
  go_enter Try.func4, Try.ntmps4
  go_wp2_with (first
    | (go_at_call 10; refine (awake8_any _).mono ?_; rintro e w3 ⟨rfl, hw3⟩)
    | (go_at_call 11; clear tok1; refine (ncompare_any s0 s1 (by omega) (by omega) _).mono ?_; rintro e w4 ⟨rfl, hw4⟩; rw [HX.out])
    | (go_at_call 11; clear tok2; refine (ncompare_any s1 s2 (by omega) (by omega) _).mono ?_; rintro e w5 ⟨rfl, hw5⟩; rw [HY.out])
    | (go_at_call 11; clear tok3; refine (ncompare_any s0 s2 (by omega) (by omega) _).mono ?_; rintro e w6 ⟨rfl, hw6⟩; rw [HZ.out]))
  go_wp2_with (go_at_call 11; refine (ncompare_any s1 s0 (by omega) (by omega) _).mono ?_; rintro e w7 ⟨rfl, hw7⟩; rw [HX'.out])
  go_wp2_with (go_at_call 12; clear tok4; refine (nbeneath_any s0 s1 (by omega) (by omega) _).mono ?_; rintro e w8 ⟨⟨x, rfl, hx⟩, hw8⟩; obtain rfl := tells_f hx HAB.out; clear hx)
  go_wp2_with (go_at_call 13; refine (ncheck_any s1 (by omega) _).mono ?_; rintro e w9 ⟨rfl, hw9⟩; rw [HC.out])
  cases q with
  | false =>
    have tok5 : Hid (w = w) := rfl
    go_wp2_with (go_at_call 12; clear tok5; refine (nbeneath_any s0 s2 (by omega) (by omega) _).mono ?_; rintro e w10 ⟨⟨x, rfl, hx⟩, hw10⟩; obtain rfl : x = false := (by cases x with | false => rfl | true => exact absurd (HQ.out.2 (hx.1 rfl)) (by simp)); clear hx)
    go_ret
    exact ⟨rfl, hw3.trans (hw4.trans (hw5.trans (hw6.trans (hw7.trans (hw8.trans (hw9.trans hw10))))))⟩
  | true =>
    cases qx with
    | false =>
      have tok5 : Hid (w = w) := rfl
      go_wp2_with (go_at_call 12; clear tok5; refine (nbeneath_any s0 s2 (by omega) (by omega) _).mono ?_; rintro e w10 ⟨⟨x, rfl, hx⟩, hw10⟩; obtain rfl : x = true := hx.2 (HQ.out.1 rfl); clear hx)
      go_ret
      exact ⟨rfl, hw3.trans (hw4.trans (hw5.trans (hw6.trans (hw7.trans (hw8.trans (hw9.trans hw10))))))⟩
    | true =>
      have tok5 : Hid (w = w) := rfl
      go_wp2_with (go_at_call 12; clear tok5; refine (nbeneath_any s0 s2 (by omega) (by omega) _).mono ?_; rintro e w10 ⟨⟨x, rfl, hx⟩, hw10⟩; obtain rfl : x = true := hx.2 (HQ.out.1 rfl); clear hx)
      go_ret
      exact ⟨rfl, hw3.trans (hw4.trans (hw5.trans (hw6.trans (hw7.trans (hw8.trans (hw9.trans hw10))))))⟩
set_option maxRecDepth 100000 in
set_option maxHeartbeats 2000000 in
theorem ord_zl_e (s0 s1 s2 : ByteArray) (w : World) (w0 : s0.size ≤ 140737488351232) (w1 : s1.size ≤ 140737488351232) (w2 : s2.size ≤ 140737488351232) (y z : Int) (hy : Nm.cmp s1.toList s2.toList = y) (hz : Nm.cmp s0.toList s2.toList = z) (hx : Nm.cmp s0.toList s1.toList = 0) (hyc : y ≤ 0) (hzc : z ≤ 0) (c1 c2 : Int) (HC : Hid (Nm.check s1.toList = (c1, c2))) (HB : 0 ≤ c2) (HB2 : c2 ≤ 100) (he : s0.toList = []) :
    Calls Try.prog 4 #[.string s0, .string s1, .string s2] w fun e w' => e = .returned (.bool true) ∧ Bw w w' := by
  have HX : Hid (Nm.cmp s0.toList s1.toList = 0) := hx
  have HY : Hid (Nm.cmp s1.toList s2.toList = y) := hy
  have HZ : Hid (Nm.cmp s0.toList s2.toList = z) := hz
  have HX' : Hid (Nm.cmp s1.toList s0.toList = 0) := by show _ = _; rw [(Nm.cmp_facts s0.toList s1.toList []).2.1, hx]; rfl
  have e1 : (s0.toList == s1.toList) = true := by rw [beq_iff_eq]; exact (Nm.cmp_facts s0.toList s1.toList []).2.2.1.1 hx
  have tok1 : Hid (w = w) := rfl
  have tok2 : Hid (w = w) := rfl
  have tok3 : Hid (w = w) := rfl
  clear hx hy hz
  have z1 : ¬ 0 < z := by omega
  have e0 : (s0.toList == []) = true := by rw [beq_iff_eq]; exact he
  clear he
  go_enter Try.func4, Try.ntmps4
  go_wp2_with (first
    | (go_at_call 10; refine (awake8_any _).mono ?_; rintro e w3 ⟨rfl, hw3⟩)
    | (go_at_call 11; clear tok1; refine (ncompare_any s0 s1 (by omega) (by omega) _).mono ?_; rintro e w4 ⟨rfl, hw4⟩; rw [HX.out])
    | (go_at_call 11; clear tok2; refine (ncompare_any s1 s2 (by omega) (by omega) _).mono ?_; rintro e w5 ⟨rfl, hw5⟩; rw [HY.out])
    | (go_at_call 11; clear tok3; refine (ncompare_any s0 s2 (by omega) (by omega) _).mono ?_; rintro e w6 ⟨rfl, hw6⟩; rw [HZ.out]))
  go_wp2_with (go_at_call 11; refine (ncompare_any s1 s0 (by omega) (by omega) _).mono ?_; rintro e w7 ⟨rfl, hw7⟩; rw [HX'.out])
  go_wp2_with (go_at_call 13; refine (ncheck_any s1 (by omega) _).mono ?_; rintro e w9 ⟨rfl, hw9⟩; rw [HC.out])
  go_ret
  exact ⟨rfl, hw3.trans (hw4.trans (hw5.trans (hw6.trans (hw7.trans hw9))))⟩
set_option maxRecDepth 100000 in
set_option maxHeartbeats 2000000 in
theorem ord_zl_f (s0 s1 s2 : ByteArray) (w : World) (w0 : s0.size ≤ 140737488351232) (w1 : s1.size ≤ 140737488351232) (w2 : s2.size ≤ 140737488351232) (y z : Int) (hy : Nm.cmp s1.toList s2.toList = y) (hz : Nm.cmp s0.toList s2.toList = z) (hx : Nm.cmp s0.toList s1.toList = 0) (hyc : y ≤ 0) (hzc : z ≤ 0) (c1 c2 : Int) (HC : Hid (Nm.check s1.toList = (c1, c2))) (HB : 0 ≤ c2) (HB2 : c2 ≤ 100) (he : s0.toList ≠ []) (hab : ¬ Nm.Beneath s0.toList s1.toList) (q : Bool) (HQ : Hid (q = true ↔ Nm.Beneath s0.toList s2.toList)) (qx : Bool) (hqx : (c2 == 0) = qx) :
    Calls Try.prog 4 #[.string s0, .string s1, .string s2] w fun e w' => e = .returned (.bool true) ∧ Bw w w' := by
  have HX : Hid (Nm.cmp s0.toList s1.toList = 0) := hx
  have HY : Hid (Nm.cmp s1.toList s2.toList = y) := hy
  have HZ : Hid (Nm.cmp s0.toList s2.toList = z) := hz
  have HX' : Hid (Nm.cmp s1.toList s0.toList = 0) := by show _ = _; rw [(Nm.cmp_facts s0.toList s1.toList []).2.1, hx]; rfl
  have e1 : (s0.toList == s1.toList) = true := by rw [beq_iff_eq]; exact (Nm.cmp_facts s0.toList s1.toList []).2.2.1.1 hx
  have tok1 : Hid (w = w) := rfl
  have tok2 : Hid (w = w) := rfl
  have tok3 : Hid (w = w) := rfl
  clear hx hy hz
  have z1 : ¬ 0 < z := by omega
  have e0 : (s0.toList == []) = false := by rw [beq_eq_false_iff_ne]; exact he
  have HAB : Hid (¬ Nm.Beneath s0.toList s1.toList) := hab
  have tok4 : Hid (w = w) := rfl
  clear he hab
  go_enter Try.func4, Try.ntmps4
  go_wp2_with (first
    | (go_at_call 10; refine (awake8_any _).mono ?_; rintro e w3 ⟨rfl, hw3⟩)
    | (go_at_call 11; clear tok1; refine (ncompare_any s0 s1 (by omega) (by omega) _).mono ?_; rintro e w4 ⟨rfl, hw4⟩; rw [HX.out])
    | (go_at_call 11; clear tok2; refine (ncompare_any s1 s2 (by omega) (by omega) _).mono ?_; rintro e w5 ⟨rfl, hw5⟩; rw [HY.out])
    | (go_at_call 11; clear tok3; refine (ncompare_any s0 s2 (by omega) (by omega) _).mono ?_; rintro e w6 ⟨rfl, hw6⟩; rw [HZ.out]))
  go_wp2_with (go_at_call 11; refine (ncompare_any s1 s0 (by omega) (by omega) _).mono ?_; rintro e w7 ⟨rfl, hw7⟩; rw [HX'.out])
  go_wp2_with (go_at_call 12; clear tok4; refine (nbeneath_any s0 s1 (by omega) (by omega) _).mono ?_; rintro e w8 ⟨⟨x, rfl, hx⟩, hw8⟩; obtain rfl := tells_f hx HAB.out; clear hx)
  go_wp2_with (go_at_call 13; refine (ncheck_any s1 (by omega) _).mono ?_; rintro e w9 ⟨rfl, hw9⟩; rw [HC.out])
  cases q with
  | false =>
    have tok5 : Hid (w = w) := rfl
    go_wp2_with (go_at_call 12; clear tok5; refine (nbeneath_any s0 s2 (by omega) (by omega) _).mono ?_; rintro e w10 ⟨⟨x, rfl, hx⟩, hw10⟩; obtain rfl : x = false := (by cases x with | false => rfl | true => exact absurd (HQ.out.2 (hx.1 rfl)) (by simp)); clear hx)
    go_ret
    exact ⟨rfl, hw3.trans (hw4.trans (hw5.trans (hw6.trans (hw7.trans (hw8.trans (hw9.trans hw10))))))⟩
  | true =>
    cases qx with
    | false =>
      have tok5 : Hid (w = w) := rfl
      go_wp2_with (go_at_call 12; clear tok5; refine (nbeneath_any s0 s2 (by omega) (by omega) _).mono ?_; rintro e w10 ⟨⟨x, rfl, hx⟩, hw10⟩; obtain rfl : x = true := hx.2 (HQ.out.1 rfl); clear hx)
      go_ret
      exact ⟨rfl, hw3.trans (hw4.trans (hw5.trans (hw6.trans (hw7.trans (hw8.trans (hw9.trans hw10))))))⟩
    | true =>
      have tok5 : Hid (w = w) := rfl
      go_wp2_with (go_at_call 12; clear tok5; refine (nbeneath_any s0 s2 (by omega) (by omega) _).mono ?_; rintro e w10 ⟨⟨x, rfl, hx⟩, hw10⟩; obtain rfl : x = true := hx.2 (HQ.out.1 rfl); clear hx)
      go_ret
      exact ⟨rfl, hw3.trans (hw4.trans (hw5.trans (hw6.trans (hw7.trans (hw8.trans (hw9.trans hw10))))))⟩
set_option maxRecDepth 100000 in
set_option maxHeartbeats 2000000 in
theorem ord_zp_e (s0 s1 s2 : ByteArray) (w : World) (w0 : s0.size ≤ 140737488351232) (w1 : s1.size ≤ 140737488351232) (w2 : s2.size ≤ 140737488351232) (y z : Int) (hy : Nm.cmp s1.toList s2.toList = y) (hz : Nm.cmp s0.toList s2.toList = z) (hx : Nm.cmp s0.toList s1.toList = 0) (hyc : 0 < y) (c1 c2 : Int) (HC : Hid (Nm.check s1.toList = (c1, c2))) (HB : 0 ≤ c2) (HB2 : c2 ≤ 100) (he : s0.toList = []) :
    Calls Try.prog 4 #[.string s0, .string s1, .string s2] w fun e w' => e = .returned (.bool true) ∧ Bw w w' := by
  have HX : Hid (Nm.cmp s0.toList s1.toList = 0) := hx
  have HY : Hid (Nm.cmp s1.toList s2.toList = y) := hy
  have HZ : Hid (Nm.cmp s0.toList s2.toList = z) := hz
  have HX' : Hid (Nm.cmp s1.toList s0.toList = 0) := by show _ = _; rw [(Nm.cmp_facts s0.toList s1.toList []).2.1, hx]; rfl
  have e1 : (s0.toList == s1.toList) = true := by rw [beq_iff_eq]; exact (Nm.cmp_facts s0.toList s1.toList []).2.2.1.1 hx
  have tok1 : Hid (w = w) := rfl
  have tok2 : Hid (w = w) := rfl
  have tok3 : Hid (w = w) := rfl
  clear hx hy hz
  have y1 : ¬ y ≤ 0 := by omega
  have y2 : ¬ y < 0 := by omega
  have e0 : (s0.toList == []) = true := by rw [beq_iff_eq]; exact he
  clear he
  go_enter Try.func4, Try.ntmps4
  go_wp2_with (first
    | (go_at_call 10; refine (awake8_any _).mono ?_; rintro e w3 ⟨rfl, hw3⟩)
    | (go_at_call 11; clear tok1; refine (ncompare_any s0 s1 (by omega) (by omega) _).mono ?_; rintro e w4 ⟨rfl, hw4⟩; rw [HX.out])
    | (go_at_call 11; clear tok2; refine (ncompare_any s1 s2 (by omega) (by omega) _).mono ?_; rintro e w5 ⟨rfl, hw5⟩; rw [HY.out])
    | (go_at_call 11; clear tok3; refine (ncompare_any s0 s2 (by omega) (by omega) _).mono ?_; rintro e w6 ⟨rfl, hw6⟩; rw [HZ.out]))
  go_wp2_with (go_at_call 11; refine (ncompare_any s1 s0 (by omega) (by omega) _).mono ?_; rintro e w7 ⟨rfl, hw7⟩; rw [HX'.out])
  go_wp2_with (go_at_call 13; refine (ncheck_any s1 (by omega) _).mono ?_; rintro e w9 ⟨rfl, hw9⟩; rw [HC.out])
  go_ret
  exact ⟨rfl, hw3.trans (hw4.trans (hw5.trans (hw6.trans (hw7.trans hw9))))⟩
set_option maxRecDepth 100000 in
set_option maxHeartbeats 2000000 in
theorem ord_zp_f (s0 s1 s2 : ByteArray) (w : World) (w0 : s0.size ≤ 140737488351232) (w1 : s1.size ≤ 140737488351232) (w2 : s2.size ≤ 140737488351232) (y z : Int) (hy : Nm.cmp s1.toList s2.toList = y) (hz : Nm.cmp s0.toList s2.toList = z) (hx : Nm.cmp s0.toList s1.toList = 0) (hyc : 0 < y) (c1 c2 : Int) (HC : Hid (Nm.check s1.toList = (c1, c2))) (HB : 0 ≤ c2) (HB2 : c2 ≤ 100) (he : s0.toList ≠ []) (hab : ¬ Nm.Beneath s0.toList s1.toList) (q : Bool) (HQ : Hid (q = true ↔ Nm.Beneath s0.toList s2.toList)) (qx : Bool) (hqx : (c2 == 0) = qx) :
    Calls Try.prog 4 #[.string s0, .string s1, .string s2] w fun e w' => e = .returned (.bool true) ∧ Bw w w' := by
  have HX : Hid (Nm.cmp s0.toList s1.toList = 0) := hx
  have HY : Hid (Nm.cmp s1.toList s2.toList = y) := hy
  have HZ : Hid (Nm.cmp s0.toList s2.toList = z) := hz
  have HX' : Hid (Nm.cmp s1.toList s0.toList = 0) := by show _ = _; rw [(Nm.cmp_facts s0.toList s1.toList []).2.1, hx]; rfl
  have e1 : (s0.toList == s1.toList) = true := by rw [beq_iff_eq]; exact (Nm.cmp_facts s0.toList s1.toList []).2.2.1.1 hx
  have tok1 : Hid (w = w) := rfl
  have tok2 : Hid (w = w) := rfl
  have tok3 : Hid (w = w) := rfl
  clear hx hy hz
  have y1 : ¬ y ≤ 0 := by omega
  have y2 : ¬ y < 0 := by omega
  have e0 : (s0.toList == []) = false := by rw [beq_eq_false_iff_ne]; exact he
  have HAB : Hid (¬ Nm.Beneath s0.toList s1.toList) := hab
  have tok4 : Hid (w = w) := rfl
  clear he hab
  go_enter Try.func4, Try.ntmps4
  go_wp2_with (first
    | (go_at_call 10; refine (awake8_any _).mono ?_; rintro e w3 ⟨rfl, hw3⟩)
    | (go_at_call 11; clear tok1; refine (ncompare_any s0 s1 (by omega) (by omega) _).mono ?_; rintro e w4 ⟨rfl, hw4⟩; rw [HX.out])
    | (go_at_call 11; clear tok2; refine (ncompare_any s1 s2 (by omega) (by omega) _).mono ?_; rintro e w5 ⟨rfl, hw5⟩; rw [HY.out])
    | (go_at_call 11; clear tok3; refine (ncompare_any s0 s2 (by omega) (by omega) _).mono ?_; rintro e w6 ⟨rfl, hw6⟩; rw [HZ.out]))
  go_wp2_with (go_at_call 11; refine (ncompare_any s1 s0 (by omega) (by omega) _).mono ?_; rintro e w7 ⟨rfl, hw7⟩; rw [HX'.out])
  go_wp2_with (go_at_call 12; clear tok4; refine (nbeneath_any s0 s1 (by omega) (by omega) _).mono ?_; rintro e w8 ⟨⟨x, rfl, hx⟩, hw8⟩; obtain rfl := tells_f hx HAB.out; clear hx)
  go_wp2_with (go_at_call 13; refine (ncheck_any s1 (by omega) _).mono ?_; rintro e w9 ⟨rfl, hw9⟩; rw [HC.out])
  cases q with
  | false =>
    have tok5 : Hid (w = w) := rfl
    go_wp2_with (go_at_call 12; clear tok5; refine (nbeneath_any s0 s2 (by omega) (by omega) _).mono ?_; rintro e w10 ⟨⟨x, rfl, hx⟩, hw10⟩; obtain rfl : x = false := (by cases x with | false => rfl | true => exact absurd (HQ.out.2 (hx.1 rfl)) (by simp)); clear hx)
    go_ret
    exact ⟨rfl, hw3.trans (hw4.trans (hw5.trans (hw6.trans (hw7.trans (hw8.trans (hw9.trans hw10))))))⟩
  | true =>
    cases qx with
    | false =>
      have tok5 : Hid (w = w) := rfl
      go_wp2_with (go_at_call 12; clear tok5; refine (nbeneath_any s0 s2 (by omega) (by omega) _).mono ?_; rintro e w10 ⟨⟨x, rfl, hx⟩, hw10⟩; obtain rfl : x = true := hx.2 (HQ.out.1 rfl); clear hx)
      go_ret
      exact ⟨rfl, hw3.trans (hw4.trans (hw5.trans (hw6.trans (hw7.trans (hw8.trans (hw9.trans hw10))))))⟩
    | true =>
      have tok5 : Hid (w = w) := rfl
      go_wp2_with (go_at_call 12; clear tok5; refine (nbeneath_any s0 s2 (by omega) (by omega) _).mono ?_; rintro e w10 ⟨⟨x, rfl, hx⟩, hw10⟩; obtain rfl : x = true := hx.2 (HQ.out.1 rfl); clear hx)
      go_ret
      exact ⟨rfl, hw3.trans (hw4.trans (hw5.trans (hw6.trans (hw7.trans (hw8.trans (hw9.trans hw10))))))⟩
set_option maxRecDepth 100000 in
set_option maxHeartbeats 2000000 in
theorem ord_nn_e (s0 s1 s2 : ByteArray) (w : World) (w0 : s0.size ≤ 140737488351232) (w1 : s1.size ≤ 140737488351232) (w2 : s2.size ≤ 140737488351232) (y z : Int) (hy : Nm.cmp s1.toList s2.toList = y) (hz : Nm.cmp s0.toList s2.toList = z) (hx : Nm.cmp s0.toList s1.toList = (-1)) (hyc : y < 0) (hzc : z < 0) (c1 c2 : Int) (HC : Hid (Nm.check s1.toList = (c1, c2))) (HB : 0 ≤ c2) (HB2 : c2 ≤ 100) (he : s0.toList = []) :
    Calls Try.prog 4 #[.string s0, .string s1, .string s2] w fun e w' => e = .returned (.bool true) ∧ Bw w w' := by
  have HX : Hid (Nm.cmp s0.toList s1.toList = (-1)) := hx
  have HY : Hid (Nm.cmp s1.toList s2.toList = y) := hy
  have HZ : Hid (Nm.cmp s0.toList s2.toList = z) := hz
  have HX' : Hid (Nm.cmp s1.toList s0.toList = 1) := by show _ = _; rw [(Nm.cmp_facts s0.toList s1.toList []).2.1, hx]; rfl
  have e1 : (s0.toList == s1.toList) = false := by rw [beq_eq_false_iff_ne]; exact fun h => by have := (Nm.cmp_facts s0.toList s1.toList []).2.2.1.2 h; omega
  have tok1 : Hid (w = w) := rfl
  have tok2 : Hid (w = w) := rfl
  have tok3 : Hid (w = w) := rfl
  clear hx hy hz
  have y1 : y ≤ 0 := by omega
  have z1 : ¬ 0 < z := by omega
  have z2 : ¬ 0 ≤ z := by omega
  have e0 : (s0.toList == []) = true := by rw [beq_iff_eq]; exact he
  clear he
  go_enter Try.func4, Try.ntmps4
  go_wp2_with (first
    | (go_at_call 10; refine (awake8_any _).mono ?_; rintro e w3 ⟨rfl, hw3⟩)
    | (go_at_call 11; clear tok1; refine (ncompare_any s0 s1 (by omega) (by omega) _).mono ?_; rintro e w4 ⟨rfl, hw4⟩; rw [HX.out])
    | (go_at_call 11; clear tok2; refine (ncompare_any s1 s2 (by omega) (by omega) _).mono ?_; rintro e w5 ⟨rfl, hw5⟩; rw [HY.out])
    | (go_at_call 11; clear tok3; refine (ncompare_any s0 s2 (by omega) (by omega) _).mono ?_; rintro e w6 ⟨rfl, hw6⟩; rw [HZ.out]))
  go_wp2_with (go_at_call 11; refine (ncompare_any s1 s0 (by omega) (by omega) _).mono ?_; rintro e w7 ⟨rfl, hw7⟩; rw [HX'.out])
  go_wp2_with (go_at_call 13; refine (ncheck_any s1 (by omega) _).mono ?_; rintro e w9 ⟨rfl, hw9⟩; rw [HC.out])
  go_ret
  exact ⟨rfl, hw3.trans (hw4.trans (hw5.trans (hw6.trans (hw7.trans hw9))))⟩
set_option maxRecDepth 100000 in
set_option maxHeartbeats 2000000 in
theorem ord_nn_t (s0 s1 s2 : ByteArray) (w : World) (w0 : s0.size ≤ 140737488351232) (w1 : s1.size ≤ 140737488351232) (w2 : s2.size ≤ 140737488351232) (y z : Int) (hy : Nm.cmp s1.toList s2.toList = y) (hz : Nm.cmp s0.toList s2.toList = z) (hx : Nm.cmp s0.toList s1.toList = (-1)) (hyc : y < 0) (hzc : z < 0) (c1 c2 : Int) (HC : Hid (Nm.check s1.toList = (c1, c2))) (HB : 0 ≤ c2) (HB2 : c2 ≤ 100) (he : s0.toList ≠ []) (hab : Nm.Beneath s0.toList s1.toList) (q : Bool) (HQ : Hid (q = true ↔ Nm.Beneath s0.toList s2.toList)) (qx : Bool) (hqx : (c2 == 0) = qx) :
    Calls Try.prog 4 #[.string s0, .string s1, .string s2] w fun e w' => e = .returned (.bool true) ∧ Bw w w' := by
  have HX : Hid (Nm.cmp s0.toList s1.toList = (-1)) := hx
  have HY : Hid (Nm.cmp s1.toList s2.toList = y) := hy
  have HZ : Hid (Nm.cmp s0.toList s2.toList = z) := hz
  have HX' : Hid (Nm.cmp s1.toList s0.toList = 1) := by show _ = _; rw [(Nm.cmp_facts s0.toList s1.toList []).2.1, hx]; rfl
  have e1 : (s0.toList == s1.toList) = false := by rw [beq_eq_false_iff_ne]; exact fun h => by have := (Nm.cmp_facts s0.toList s1.toList []).2.2.1.2 h; omega
  have tok1 : Hid (w = w) := rfl
  have tok2 : Hid (w = w) := rfl
  have tok3 : Hid (w = w) := rfl
  clear hx hy hz
  have y1 : y ≤ 0 := by omega
  have z1 : ¬ 0 < z := by omega
  have z2 : ¬ 0 ≤ z := by omega
  have e0 : (s0.toList == []) = false := by rw [beq_eq_false_iff_ne]; exact he
  have HAB : Hid (Nm.Beneath s0.toList s1.toList) := hab
  have tok4 : Hid (w = w) := rfl
  clear he hab
  go_enter Try.func4, Try.ntmps4
  go_wp2_with (first
    | (go_at_call 10; refine (awake8_any _).mono ?_; rintro e w3 ⟨rfl, hw3⟩)
    | (go_at_call 11; clear tok1; refine (ncompare_any s0 s1 (by omega) (by omega) _).mono ?_; rintro e w4 ⟨rfl, hw4⟩; rw [HX.out])
    | (go_at_call 11; clear tok2; refine (ncompare_any s1 s2 (by omega) (by omega) _).mono ?_; rintro e w5 ⟨rfl, hw5⟩; rw [HY.out])
    | (go_at_call 11; clear tok3; refine (ncompare_any s0 s2 (by omega) (by omega) _).mono ?_; rintro e w6 ⟨rfl, hw6⟩; rw [HZ.out]))
  go_wp2_with (go_at_call 11; refine (ncompare_any s1 s0 (by omega) (by omega) _).mono ?_; rintro e w7 ⟨rfl, hw7⟩; rw [HX'.out])
  go_wp2_with (go_at_call 12; clear tok4; refine (nbeneath_any s0 s1 (by omega) (by omega) _).mono ?_; rintro e w8 ⟨⟨x, rfl, hx⟩, hw8⟩; obtain rfl := tells_t hx HAB.out; clear hx)
  go_wp2_with (go_at_call 13; refine (ncheck_any s1 (by omega) _).mono ?_; rintro e w9 ⟨rfl, hw9⟩; rw [HC.out])
  cases q with
  | false =>
    have tok5 : Hid (w = w) := rfl
    go_wp2_with (go_at_call 12; clear tok5; refine (nbeneath_any s0 s2 (by omega) (by omega) _).mono ?_; rintro e w10 ⟨⟨x, rfl, hx⟩, hw10⟩; obtain rfl : x = false := (by cases x with | false => rfl | true => exact absurd (HQ.out.2 (hx.1 rfl)) (by simp)); clear hx)
    go_ret
    exact ⟨rfl, hw3.trans (hw4.trans (hw5.trans (hw6.trans (hw7.trans (hw8.trans (hw9.trans hw10))))))⟩
  | true =>
    cases qx with
    | false =>
      have tok5 : Hid (w = w) := rfl
      go_wp2_with (go_at_call 12; clear tok5; refine (nbeneath_any s0 s2 (by omega) (by omega) _).mono ?_; rintro e w10 ⟨⟨x, rfl, hx⟩, hw10⟩; obtain rfl : x = true := hx.2 (HQ.out.1 rfl); clear hx)
      go_ret
      exact ⟨rfl, hw3.trans (hw4.trans (hw5.trans (hw6.trans (hw7.trans (hw8.trans (hw9.trans hw10))))))⟩
    | true =>
      have tok5 : Hid (w = w) := rfl
      go_wp2_with (go_at_call 12; clear tok5; refine (nbeneath_any s0 s2 (by omega) (by omega) _).mono ?_; rintro e w10 ⟨⟨x, rfl, hx⟩, hw10⟩; obtain rfl : x = true := hx.2 (HQ.out.1 rfl); clear hx)
      go_wp2_with (go_at_call 12; refine (nbeneath_any s0 s1 (by omega) (by omega) _).mono ?_; rintro e w11 ⟨⟨x, rfl, hx⟩, hw11⟩; obtain rfl := tells_t hx HAB.out; clear hx)
      go_ret
      exact ⟨rfl, hw3.trans (hw4.trans (hw5.trans (hw6.trans (hw7.trans (hw8.trans (hw9.trans (hw10.trans hw11)))))))⟩
set_option maxRecDepth 100000 in
set_option maxHeartbeats 2000000 in
theorem ord_nn_f (s0 s1 s2 : ByteArray) (w : World) (w0 : s0.size ≤ 140737488351232) (w1 : s1.size ≤ 140737488351232) (w2 : s2.size ≤ 140737488351232) (y z : Int) (hy : Nm.cmp s1.toList s2.toList = y) (hz : Nm.cmp s0.toList s2.toList = z) (hx : Nm.cmp s0.toList s1.toList = (-1)) (hyc : y < 0) (hzc : z < 0) (c1 c2 : Int) (HC : Hid (Nm.check s1.toList = (c1, c2))) (HB : 0 ≤ c2) (HB2 : c2 ≤ 100) (he : s0.toList ≠ []) (hab : ¬ Nm.Beneath s0.toList s1.toList) (q : Bool) (HQ : Hid (q = true ↔ Nm.Beneath s0.toList s2.toList)) (qx : Bool) (hqx : (c2 == 0) = qx) (hno : q = true → qx = true → False) :
    Calls Try.prog 4 #[.string s0, .string s1, .string s2] w fun e w' => e = .returned (.bool true) ∧ Bw w w' := by
  have HX : Hid (Nm.cmp s0.toList s1.toList = (-1)) := hx
  have HY : Hid (Nm.cmp s1.toList s2.toList = y) := hy
  have HZ : Hid (Nm.cmp s0.toList s2.toList = z) := hz
  have HX' : Hid (Nm.cmp s1.toList s0.toList = 1) := by show _ = _; rw [(Nm.cmp_facts s0.toList s1.toList []).2.1, hx]; rfl
  have e1 : (s0.toList == s1.toList) = false := by rw [beq_eq_false_iff_ne]; exact fun h => by have := (Nm.cmp_facts s0.toList s1.toList []).2.2.1.2 h; omega
  have tok1 : Hid (w = w) := rfl
  have tok2 : Hid (w = w) := rfl
  have tok3 : Hid (w = w) := rfl
  clear hx hy hz
  have y1 : y ≤ 0 := by omega
  have z1 : ¬ 0 < z := by omega
  have z2 : ¬ 0 ≤ z := by omega
  have e0 : (s0.toList == []) = false := by rw [beq_eq_false_iff_ne]; exact he
  have HAB : Hid (¬ Nm.Beneath s0.toList s1.toList) := hab
  have tok4 : Hid (w = w) := rfl
  clear he hab
  have HNO : Hid (q = true → qx = true → False) := hno
  clear hno
  go_enter Try.func4, Try.ntmps4
  go_wp2_with (first
    | (go_at_call 10; refine (awake8_any _).mono ?_; rintro e w3 ⟨rfl, hw3⟩)
    | (go_at_call 11; clear tok1; refine (ncompare_any s0 s1 (by omega) (by omega) _).mono ?_; rintro e w4 ⟨rfl, hw4⟩; rw [HX.out])
    | (go_at_call 11; clear tok2; refine (ncompare_any s1 s2 (by omega) (by omega) _).mono ?_; rintro e w5 ⟨rfl, hw5⟩; rw [HY.out])
    | (go_at_call 11; clear tok3; refine (ncompare_any s0 s2 (by omega) (by omega) _).mono ?_; rintro e w6 ⟨rfl, hw6⟩; rw [HZ.out]))
  go_wp2_with (go_at_call 11; refine (ncompare_any s1 s0 (by omega) (by omega) _).mono ?_; rintro e w7 ⟨rfl, hw7⟩; rw [HX'.out])
  go_wp2_with (go_at_call 12; clear tok4; refine (nbeneath_any s0 s1 (by omega) (by omega) _).mono ?_; rintro e w8 ⟨⟨x, rfl, hx⟩, hw8⟩; obtain rfl := tells_f hx HAB.out; clear hx)
  go_wp2_with (go_at_call 13; refine (ncheck_any s1 (by omega) _).mono ?_; rintro e w9 ⟨rfl, hw9⟩; rw [HC.out])
  cases q with
  | false =>
    have tok5 : Hid (w = w) := rfl
    go_wp2_with (go_at_call 12; clear tok5; refine (nbeneath_any s0 s2 (by omega) (by omega) _).mono ?_; rintro e w10 ⟨⟨x, rfl, hx⟩, hw10⟩; obtain rfl : x = false := (by cases x with | false => rfl | true => exact absurd (HQ.out.2 (hx.1 rfl)) (by simp)); clear hx)
    go_ret
    exact ⟨rfl, hw3.trans (hw4.trans (hw5.trans (hw6.trans (hw7.trans (hw8.trans (hw9.trans hw10))))))⟩
  | true =>
    cases qx with
    | false =>
      have tok5 : Hid (w = w) := rfl
      go_wp2_with (go_at_call 12; clear tok5; refine (nbeneath_any s0 s2 (by omega) (by omega) _).mono ?_; rintro e w10 ⟨⟨x, rfl, hx⟩, hw10⟩; obtain rfl : x = true := hx.2 (HQ.out.1 rfl); clear hx)
      go_ret
      exact ⟨rfl, hw3.trans (hw4.trans (hw5.trans (hw6.trans (hw7.trans (hw8.trans (hw9.trans hw10))))))⟩
    | true =>
      first | exact (HNO.out rfl rfl).elim | exact (HNO.out rfl).elim | exact HNO.out.elim
set_option maxRecDepth 100000 in
set_option maxHeartbeats 2000000 in
theorem ord_nz_e (s0 s1 s2 : ByteArray) (w : World) (w0 : s0.size ≤ 140737488351232) (w1 : s1.size ≤ 140737488351232) (w2 : s2.size ≤ 140737488351232) (y z : Int) (hy : Nm.cmp s1.toList s2.toList = y) (hz : Nm.cmp s0.toList s2.toList = z) (hx : Nm.cmp s0.toList s1.toList = (-1)) (hyc : y = 0) (hzc : z < 0) (c1 c2 : Int) (HC : Hid (Nm.check s1.toList = (c1, c2))) (HB : 0 ≤ c2) (HB2 : c2 ≤ 100) (he : s0.toList = []) :
    Calls Try.prog 4 #[.string s0, .string s1, .string s2] w fun e w' => e = .returned (.bool true) ∧ Bw w w' := by
  have HX : Hid (Nm.cmp s0.toList s1.toList = (-1)) := hx
  have HY : Hid (Nm.cmp s1.toList s2.toList = y) := hy
  have HZ : Hid (Nm.cmp s0.toList s2.toList = z) := hz
  have HX' : Hid (Nm.cmp s1.toList s0.toList = 1) := by show _ = _; rw [(Nm.cmp_facts s0.toList s1.toList []).2.1, hx]; rfl
  have e1 : (s0.toList == s1.toList) = false := by rw [beq_eq_false_iff_ne]; exact fun h => by have := (Nm.cmp_facts s0.toList s1.toList []).2.2.1.2 h; omega
  have tok1 : Hid (w = w) := rfl
  have tok2 : Hid (w = w) := rfl
  have tok3 : Hid (w = w) := rfl
  clear hx hy hz
  subst hyc
  have z1 : ¬ 0 < z := by omega
  have z2 : ¬ 0 ≤ z := by omega
  have e0 : (s0.toList == []) = true := by rw [beq_iff_eq]; exact he
  clear he
  go_enter Try.func4, Try.ntmps4
  go_wp2_with (first
    | (go_at_call 10; refine (awake8_any _).mono ?_; rintro e w3 ⟨rfl, hw3⟩)
    | (go_at_call 11; clear tok1; refine (ncompare_any s0 s1 (by omega) (by omega) _).mono ?_; rintro e w4 ⟨rfl, hw4⟩; rw [HX.out])
    | (go_at_call 11; clear tok2; refine (ncompare_any s1 s2 (by omega) (by omega) _).mono ?_; rintro e w5 ⟨rfl, hw5⟩; rw [HY.out])
    | (go_at_call 11; clear tok3; refine (ncompare_any s0 s2 (by omega) (by omega) _).mono ?_; rintro e w6 ⟨rfl, hw6⟩; rw [HZ.out]))
  go_wp2_with (go_at_call 11; refine (ncompare_any s1 s0 (by omega) (by omega) _).mono ?_; rintro e w7 ⟨rfl, hw7⟩; rw [HX'.out])
  go_wp2_with (go_at_call 13; refine (ncheck_any s1 (by omega) _).mono ?_; rintro e w9 ⟨rfl, hw9⟩; rw [HC.out])
  go_ret
  exact ⟨rfl, hw3.trans (hw4.trans (hw5.trans (hw6.trans (hw7.trans hw9))))⟩
set_option maxRecDepth 100000 in
set_option maxHeartbeats 2000000 in
theorem ord_nz_t (s0 s1 s2 : ByteArray) (w : World) (w0 : s0.size ≤ 140737488351232) (w1 : s1.size ≤ 140737488351232) (w2 : s2.size ≤ 140737488351232) (y z : Int) (hy : Nm.cmp s1.toList s2.toList = y) (hz : Nm.cmp s0.toList s2.toList = z) (hx : Nm.cmp s0.toList s1.toList = (-1)) (hyc : y = 0) (hzc : z < 0) (c1 c2 : Int) (HC : Hid (Nm.check s1.toList = (c1, c2))) (HB : 0 ≤ c2) (HB2 : c2 ≤ 100) (he : s0.toList ≠ []) (hab : Nm.Beneath s0.toList s1.toList) (q : Bool) (HQ : Hid (q = true ↔ Nm.Beneath s0.toList s2.toList)) (qx : Bool) (hqx : (c2 == 0) = qx) :
    Calls Try.prog 4 #[.string s0, .string s1, .string s2] w fun e w' => e = .returned (.bool true) ∧ Bw w w' := by
  have HX : Hid (Nm.cmp s0.toList s1.toList = (-1)) := hx
  have HY : Hid (Nm.cmp s1.toList s2.toList = y) := hy
  have HZ : Hid (Nm.cmp s0.toList s2.toList = z) := hz
  have HX' : Hid (Nm.cmp s1.toList s0.toList = 1) := by show _ = _; rw [(Nm.cmp_facts s0.toList s1.toList []).2.1, hx]; rfl
  have e1 : (s0.toList == s1.toList) = false := by rw [beq_eq_false_iff_ne]; exact fun h => by have := (Nm.cmp_facts s0.toList s1.toList []).2.2.1.2 h; omega
  have tok1 : Hid (w = w) := rfl
  have tok2 : Hid (w = w) := rfl
  have tok3 : Hid (w = w) := rfl
  clear hx hy hz
  subst hyc
  have z1 : ¬ 0 < z := by omega
  have z2 : ¬ 0 ≤ z := by omega
  have e0 : (s0.toList == []) = false := by rw [beq_eq_false_iff_ne]; exact he
  have HAB : Hid (Nm.Beneath s0.toList s1.toList) := hab
  have tok4 : Hid (w = w) := rfl
  clear he hab
  go_enter Try.func4, Try.ntmps4
  go_wp2_with (first
    | (go_at_call 10; refine (awake8_any _).mono ?_; rintro e w3 ⟨rfl, hw3⟩)
    | (go_at_call 11; clear tok1; refine (ncompare_any s0 s1 (by omega) (by omega) _).mono ?_; rintro e w4 ⟨rfl, hw4⟩; rw [HX.out])
    | (go_at_call 11; clear tok2; refine (ncompare_any s1 s2 (by omega) (by omega) _).mono ?_; rintro e w5 ⟨rfl, hw5⟩; rw [HY.out])
    | (go_at_call 11; clear tok3; refine (ncompare_any s0 s2 (by omega) (by omega) _).mono ?_; rintro e w6 ⟨rfl, hw6⟩; rw [HZ.out]))
  go_wp2_with (go_at_call 11; refine (ncompare_any s1 s0 (by omega) (by omega) _).mono ?_; rintro e w7 ⟨rfl, hw7⟩; rw [HX'.out])
  go_wp2_with (go_at_call 12; clear tok4; refine (nbeneath_any s0 s1 (by omega) (by omega) _).mono ?_; rintro e w8 ⟨⟨x, rfl, hx⟩, hw8⟩; obtain rfl := tells_t hx HAB.out; clear hx)
  go_wp2_with (go_at_call 13; refine (ncheck_any s1 (by omega) _).mono ?_; rintro e w9 ⟨rfl, hw9⟩; rw [HC.out])
  cases q with
  | false =>
    have tok5 : Hid (w = w) := rfl
    go_wp2_with (go_at_call 12; clear tok5; refine (nbeneath_any s0 s2 (by omega) (by omega) _).mono ?_; rintro e w10 ⟨⟨x, rfl, hx⟩, hw10⟩; obtain rfl : x = false := (by cases x with | false => rfl | true => exact absurd (HQ.out.2 (hx.1 rfl)) (by simp)); clear hx)
    go_ret
    exact ⟨rfl, hw3.trans (hw4.trans (hw5.trans (hw6.trans (hw7.trans (hw8.trans (hw9.trans hw10))))))⟩
  | true =>
    cases qx with
    | false =>
      have tok5 : Hid (w = w) := rfl
      go_wp2_with (go_at_call 12; clear tok5; refine (nbeneath_any s0 s2 (by omega) (by omega) _).mono ?_; rintro e w10 ⟨⟨x, rfl, hx⟩, hw10⟩; obtain rfl : x = true := hx.2 (HQ.out.1 rfl); clear hx)
      go_ret
      exact ⟨rfl, hw3.trans (hw4.trans (hw5.trans (hw6.trans (hw7.trans (hw8.trans (hw9.trans hw10))))))⟩
    | true =>
      have tok5 : Hid (w = w) := rfl
      go_wp2_with (go_at_call 12; clear tok5; refine (nbeneath_any s0 s2 (by omega) (by omega) _).mono ?_; rintro e w10 ⟨⟨x, rfl, hx⟩, hw10⟩; obtain rfl : x = true := hx.2 (HQ.out.1 rfl); clear hx)
      go_ret
      exact ⟨rfl, hw3.trans (hw4.trans (hw5.trans (hw6.trans (hw7.trans (hw8.trans (hw9.trans hw10))))))⟩
set_option maxRecDepth 100000 in
set_option maxHeartbeats 2000000 in
theorem ord_nz_f (s0 s1 s2 : ByteArray) (w : World) (w0 : s0.size ≤ 140737488351232) (w1 : s1.size ≤ 140737488351232) (w2 : s2.size ≤ 140737488351232) (y z : Int) (hy : Nm.cmp s1.toList s2.toList = y) (hz : Nm.cmp s0.toList s2.toList = z) (hx : Nm.cmp s0.toList s1.toList = (-1)) (hyc : y = 0) (hzc : z < 0) (c1 c2 : Int) (HC : Hid (Nm.check s1.toList = (c1, c2))) (HB : 0 ≤ c2) (HB2 : c2 ≤ 100) (he : s0.toList ≠ []) (hab : ¬ Nm.Beneath s0.toList s1.toList) (q : Bool) (HQ : Hid (q = true ↔ Nm.Beneath s0.toList s2.toList)) (qx : Bool) (hqx : (c2 == 0) = qx) :
    Calls Try.prog 4 #[.string s0, .string s1, .string s2] w fun e w' => e = .returned (.bool true) ∧ Bw w w' := by
  have HX : Hid (Nm.cmp s0.toList s1.toList = (-1)) := hx
  have HY : Hid (Nm.cmp s1.toList s2.toList = y) := hy
  have HZ : Hid (Nm.cmp s0.toList s2.toList = z) := hz
  have HX' : Hid (Nm.cmp s1.toList s0.toList = 1) := by show _ = _; rw [(Nm.cmp_facts s0.toList s1.toList []).2.1, hx]; rfl
  have e1 : (s0.toList == s1.toList) = false := by rw [beq_eq_false_iff_ne]; exact fun h => by have := (Nm.cmp_facts s0.toList s1.toList []).2.2.1.2 h; omega
  have tok1 : Hid (w = w) := rfl
  have tok2 : Hid (w = w) := rfl
  have tok3 : Hid (w = w) := rfl
  clear hx hy hz
  subst hyc
  have z1 : ¬ 0 < z := by omega
  have z2 : ¬ 0 ≤ z := by omega
  have e0 : (s0.toList == []) = false := by rw [beq_eq_false_iff_ne]; exact he
  have HAB : Hid (¬ Nm.Beneath s0.toList s1.toList) := hab
  have tok4 : Hid (w = w) := rfl
  clear he hab
  go_enter Try.func4, Try.ntmps4
  go_wp2_with (first
    | (go_at_call 10; refine (awake8_any _).mono ?_; rintro e w3 ⟨rfl, hw3⟩)
    | (go_at_call 11; clear tok1; refine (ncompare_any s0 s1 (by omega) (by omega) _).mono ?_; rintro e w4 ⟨rfl, hw4⟩; rw [HX.out])
    | (go_at_call 11; clear tok2; refine (ncompare_any s1 s2 (by omega) (by omega) _).mono ?_; rintro e w5 ⟨rfl, hw5⟩; rw [HY.out])
    | (go_at_call 11; clear tok3; refine (ncompare_any s0 s2 (by omega) (by omega) _).mono ?_; rintro e w6 ⟨rfl, hw6⟩; rw [HZ.out]))
  go_wp2_with (go_at_call 11; refine (ncompare_any s1 s0 (by omega) (by omega) _).mono ?_; rintro e w7 ⟨rfl, hw7⟩; rw [HX'.out])
  go_wp2_with (go_at_call 12; clear tok4; refine (nbeneath_any s0 s1 (by omega) (by omega) _).mono ?_; rintro e w8 ⟨⟨x, rfl, hx⟩, hw8⟩; obtain rfl := tells_f hx HAB.out; clear hx)
  go_wp2_with (go_at_call 13; refine (ncheck_any s1 (by omega) _).mono ?_; rintro e w9 ⟨rfl, hw9⟩; rw [HC.out])
  cases q with
  | false =>
    have tok5 : Hid (w = w) := rfl
    go_wp2_with (go_at_call 12; clear tok5; refine (nbeneath_any s0 s2 (by omega) (by omega) _).mono ?_; rintro e w10 ⟨⟨x, rfl, hx⟩, hw10⟩; obtain rfl : x = false := (by cases x with | false => rfl | true => exact absurd (HQ.out.2 (hx.1 rfl)) (by simp)); clear hx)
    go_ret
    exact ⟨rfl, hw3.trans (hw4.trans (hw5.trans (hw6.trans (hw7.trans (hw8.trans (hw9.trans hw10))))))⟩
  | true =>
    cases qx with
    | false =>
      have tok5 : Hid (w = w) := rfl
      go_wp2_with (go_at_call 12; clear tok5; refine (nbeneath_any s0 s2 (by omega) (by omega) _).mono ?_; rintro e w10 ⟨⟨x, rfl, hx⟩, hw10⟩; obtain rfl : x = true := hx.2 (HQ.out.1 rfl); clear hx)
      go_ret
      exact ⟨rfl, hw3.trans (hw4.trans (hw5.trans (hw6.trans (hw7.trans (hw8.trans (hw9.trans hw10))))))⟩
    | true =>
      have tok5 : Hid (w = w) := rfl
      go_wp2_with (go_at_call 12; clear tok5; refine (nbeneath_any s0 s2 (by omega) (by omega) _).mono ?_; rintro e w10 ⟨⟨x, rfl, hx⟩, hw10⟩; obtain rfl : x = true := hx.2 (HQ.out.1 rfl); clear hx)
      go_ret
      exact ⟨rfl, hw3.trans (hw4.trans (hw5.trans (hw6.trans (hw7.trans (hw8.trans (hw9.trans hw10))))))⟩
set_option maxRecDepth 100000 in
set_option maxHeartbeats 2000000 in
theorem ord_np_e (s0 s1 s2 : ByteArray) (w : World) (w0 : s0.size ≤ 140737488351232) (w1 : s1.size ≤ 140737488351232) (w2 : s2.size ≤ 140737488351232) (y z : Int) (hy : Nm.cmp s1.toList s2.toList = y) (hz : Nm.cmp s0.toList s2.toList = z) (hx : Nm.cmp s0.toList s1.toList = (-1)) (hyc : 0 < y) (c1 c2 : Int) (HC : Hid (Nm.check s1.toList = (c1, c2))) (HB : 0 ≤ c2) (HB2 : c2 ≤ 100) (he : s0.toList = []) :
    Calls Try.prog 4 #[.string s0, .string s1, .string s2] w fun e w' => e = .returned (.bool true) ∧ Bw w w' := by
  have HX : Hid (Nm.cmp s0.toList s1.toList = (-1)) := hx
  have HY : Hid (Nm.cmp s1.toList s2.toList = y) := hy
  have HZ : Hid (Nm.cmp s0.toList s2.toList = z) := hz
  have HX' : Hid (Nm.cmp s1.toList s0.toList = 1) := by show _ = _; rw [(Nm.cmp_facts s0.toList s1.toList []).2.1, hx]; rfl
  have e1 : (s0.toList == s1.toList) = false := by rw [beq_eq_false_iff_ne]; exact fun h => by have := (Nm.cmp_facts s0.toList s1.toList []).2.2.1.2 h; omega
  have tok1 : Hid (w = w) := rfl
  have tok2 : Hid (w = w) := rfl
  have tok3 : Hid (w = w) := rfl
  clear hx hy hz
  have y1 : ¬ y ≤ 0 := by omega
  have y2 : ¬ y < 0 := by omega
  have e0 : (s0.toList == []) = true := by rw [beq_iff_eq]; exact he
  clear he
  go_enter Try.func4, Try.ntmps4
  go_wp2_with (first
    | (go_at_call 10; refine (awake8_any _).mono ?_; rintro e w3 ⟨rfl, hw3⟩)
    | (go_at_call 11; clear tok1; refine (ncompare_any s0 s1 (by omega) (by omega) _).mono ?_; rintro e w4 ⟨rfl, hw4⟩; rw [HX.out])
    | (go_at_call 11; clear tok2; refine (ncompare_any s1 s2 (by omega) (by omega) _).mono ?_; rintro e w5 ⟨rfl, hw5⟩; rw [HY.out])
    | (go_at_call 11; clear tok3; refine (ncompare_any s0 s2 (by omega) (by omega) _).mono ?_; rintro e w6 ⟨rfl, hw6⟩; rw [HZ.out]))
  go_wp2_with (go_at_call 11; refine (ncompare_any s1 s0 (by omega) (by omega) _).mono ?_; rintro e w7 ⟨rfl, hw7⟩; rw [HX'.out])
  go_wp2_with (go_at_call 13; refine (ncheck_any s1 (by omega) _).mono ?_; rintro e w9 ⟨rfl, hw9⟩; rw [HC.out])
  go_ret
  exact ⟨rfl, hw3.trans (hw4.trans (hw5.trans (hw6.trans (hw7.trans hw9))))⟩
set_option maxRecDepth 100000 in
set_option maxHeartbeats 2000000 in
theorem ord_np_t (s0 s1 s2 : ByteArray) (w : World) (w0 : s0.size ≤ 140737488351232) (w1 : s1.size ≤ 140737488351232) (w2 : s2.size ≤ 140737488351232) (y z : Int) (hy : Nm.cmp s1.toList s2.toList = y) (hz : Nm.cmp s0.toList s2.toList = z) (hx : Nm.cmp s0.toList s1.toList = (-1)) (hyc : 0 < y) (c1 c2 : Int) (HC : Hid (Nm.check s1.toList = (c1, c2))) (HB : 0 ≤ c2) (HB2 : c2 ≤ 100) (he : s0.toList ≠ []) (hab : Nm.Beneath s0.toList s1.toList) (q : Bool) (HQ : Hid (q = true ↔ Nm.Beneath s0.toList s2.toList)) (qx : Bool) (hqx : (c2 == 0) = qx) :
    Calls Try.prog 4 #[.string s0, .string s1, .string s2] w fun e w' => e = .returned (.bool true) ∧ Bw w w' := by
  have HX : Hid (Nm.cmp s0.toList s1.toList = (-1)) := hx
  have HY : Hid (Nm.cmp s1.toList s2.toList = y) := hy
  have HZ : Hid (Nm.cmp s0.toList s2.toList = z) := hz
  have HX' : Hid (Nm.cmp s1.toList s0.toList = 1) := by show _ = _; rw [(Nm.cmp_facts s0.toList s1.toList []).2.1, hx]; rfl
  have e1 : (s0.toList == s1.toList) = false := by rw [beq_eq_false_iff_ne]; exact fun h => by have := (Nm.cmp_facts s0.toList s1.toList []).2.2.1.2 h; omega
  have tok1 : Hid (w = w) := rfl
  have tok2 : Hid (w = w) := rfl
  have tok3 : Hid (w = w) := rfl
  clear hx hy hz
  have y1 : ¬ y ≤ 0 := by omega
  have y2 : ¬ y < 0 := by omega
  have e0 : (s0.toList == []) = false := by rw [beq_eq_false_iff_ne]; exact he
  have HAB : Hid (Nm.Beneath s0.toList s1.toList) := hab
  have tok4 : Hid (w = w) := rfl
  clear he hab
  go_enter Try.func4, Try.ntmps4
  go_wp2_with (first
    | (go_at_call 10; refine (awake8_any _).mono ?_; rintro e w3 ⟨rfl, hw3⟩)
    | (go_at_call 11; clear tok1; refine (ncompare_any s0 s1 (by omega) (by omega) _).mono ?_; rintro e w4 ⟨rfl, hw4⟩; rw [HX.out])
    | (go_at_call 11; clear tok2; refine (ncompare_any s1 s2 (by omega) (by omega) _).mono ?_; rintro e w5 ⟨rfl, hw5⟩; rw [HY.out])
    | (go_at_call 11; clear tok3; refine (ncompare_any s0 s2 (by omega) (by omega) _).mono ?_; rintro e w6 ⟨rfl, hw6⟩; rw [HZ.out]))
  go_wp2_with (go_at_call 11; refine (ncompare_any s1 s0 (by omega) (by omega) _).mono ?_; rintro e w7 ⟨rfl, hw7⟩; rw [HX'.out])
  go_wp2_with (go_at_call 12; clear tok4; refine (nbeneath_any s0 s1 (by omega) (by omega) _).mono ?_; rintro e w8 ⟨⟨x, rfl, hx⟩, hw8⟩; obtain rfl := tells_t hx HAB.out; clear hx)
  go_wp2_with (go_at_call 13; refine (ncheck_any s1 (by omega) _).mono ?_; rintro e w9 ⟨rfl, hw9⟩; rw [HC.out])
  cases q with
  | false =>
    have tok5 : Hid (w = w) := rfl
    go_wp2_with (go_at_call 12; clear tok5; refine (nbeneath_any s0 s2 (by omega) (by omega) _).mono ?_; rintro e w10 ⟨⟨x, rfl, hx⟩, hw10⟩; obtain rfl : x = false := (by cases x with | false => rfl | true => exact absurd (HQ.out.2 (hx.1 rfl)) (by simp)); clear hx)
    go_ret
    exact ⟨rfl, hw3.trans (hw4.trans (hw5.trans (hw6.trans (hw7.trans (hw8.trans (hw9.trans hw10))))))⟩
  | true =>
    cases qx with
    | false =>
      have tok5 : Hid (w = w) := rfl
      go_wp2_with (go_at_call 12; clear tok5; refine (nbeneath_any s0 s2 (by omega) (by omega) _).mono ?_; rintro e w10 ⟨⟨x, rfl, hx⟩, hw10⟩; obtain rfl : x = true := hx.2 (HQ.out.1 rfl); clear hx)
      go_ret
      exact ⟨rfl, hw3.trans (hw4.trans (hw5.trans (hw6.trans (hw7.trans (hw8.trans (hw9.trans hw10))))))⟩
    | true =>
      have tok5 : Hid (w = w) := rfl
      go_wp2_with (go_at_call 12; clear tok5; refine (nbeneath_any s0 s2 (by omega) (by omega) _).mono ?_; rintro e w10 ⟨⟨x, rfl, hx⟩, hw10⟩; obtain rfl : x = true := hx.2 (HQ.out.1 rfl); clear hx)
      go_ret
      exact ⟨rfl, hw3.trans (hw4.trans (hw5.trans (hw6.trans (hw7.trans (hw8.trans (hw9.trans hw10))))))⟩
set_option maxRecDepth 100000 in
set_option maxHeartbeats 2000000 in
theorem ord_np_f (s0 s1 s2 : ByteArray) (w : World) (w0 : s0.size ≤ 140737488351232) (w1 : s1.size ≤ 140737488351232) (w2 : s2.size ≤ 140737488351232) (y z : Int) (hy : Nm.cmp s1.toList s2.toList = y) (hz : Nm.cmp s0.toList s2.toList = z) (hx : Nm.cmp s0.toList s1.toList = (-1)) (hyc : 0 < y) (c1 c2 : Int) (HC : Hid (Nm.check s1.toList = (c1, c2))) (HB : 0 ≤ c2) (HB2 : c2 ≤ 100) (he : s0.toList ≠ []) (hab : ¬ Nm.Beneath s0.toList s1.toList) (q : Bool) (HQ : Hid (q = true ↔ Nm.Beneath s0.toList s2.toList)) (qx : Bool) (hqx : (c2 == 0) = qx) :
    Calls Try.prog 4 #[.string s0, .string s1, .string s2] w fun e w' => e = .returned (.bool true) ∧ Bw w w' := by
  have HX : Hid (Nm.cmp s0.toList s1.toList = (-1)) := hx
  have HY : Hid (Nm.cmp s1.toList s2.toList = y) := hy
  have HZ : Hid (Nm.cmp s0.toList s2.toList = z) := hz
  have HX' : Hid (Nm.cmp s1.toList s0.toList = 1) := by show _ = _; rw [(Nm.cmp_facts s0.toList s1.toList []).2.1, hx]; rfl
  have e1 : (s0.toList == s1.toList) = false := by rw [beq_eq_false_iff_ne]; exact fun h => by have := (Nm.cmp_facts s0.toList s1.toList []).2.2.1.2 h; omega
  have tok1 : Hid (w = w) := rfl
  have tok2 : Hid (w = w) := rfl
  have tok3 : Hid (w = w) := rfl
  clear hx hy hz
  have y1 : ¬ y ≤ 0 := by omega
  have y2 : ¬ y < 0 := by omega
  have e0 : (s0.toList == []) = false := by rw [beq_eq_false_iff_ne]; exact he
  have HAB : Hid (¬ Nm.Beneath s0.toList s1.toList) := hab
  have tok4 : Hid (w = w) := rfl
  clear he hab
  go_enter Try.func4, Try.ntmps4
  go_wp2_with (first
    | (go_at_call 10; refine (awake8_any _).mono ?_; rintro e w3 ⟨rfl, hw3⟩)
    | (go_at_call 11; clear tok1; refine (ncompare_any s0 s1 (by omega) (by omega) _).mono ?_; rintro e w4 ⟨rfl, hw4⟩; rw [HX.out])
    | (go_at_call 11; clear tok2; refine (ncompare_any s1 s2 (by omega) (by omega) _).mono ?_; rintro e w5 ⟨rfl, hw5⟩; rw [HY.out])
    | (go_at_call 11; clear tok3; refine (ncompare_any s0 s2 (by omega) (by omega) _).mono ?_; rintro e w6 ⟨rfl, hw6⟩; rw [HZ.out]))
  go_wp2_with (go_at_call 11; refine (ncompare_any s1 s0 (by omega) (by omega) _).mono ?_; rintro e w7 ⟨rfl, hw7⟩; rw [HX'.out])
  go_wp2_with (go_at_call 12; clear tok4; refine (nbeneath_any s0 s1 (by omega) (by omega) _).mono ?_; rintro e w8 ⟨⟨x, rfl, hx⟩, hw8⟩; obtain rfl := tells_f hx HAB.out; clear hx)
  go_wp2_with (go_at_call 13; refine (ncheck_any s1 (by omega) _).mono ?_; rintro e w9 ⟨rfl, hw9⟩; rw [HC.out])
  cases q with
  | false =>
    have tok5 : Hid (w = w) := rfl
    go_wp2_with (go_at_call 12; clear tok5; refine (nbeneath_any s0 s2 (by omega) (by omega) _).mono ?_; rintro e w10 ⟨⟨x, rfl, hx⟩, hw10⟩; obtain rfl : x = false := (by cases x with | false => rfl | true => exact absurd (HQ.out.2 (hx.1 rfl)) (by simp)); clear hx)
    go_ret
    exact ⟨rfl, hw3.trans (hw4.trans (hw5.trans (hw6.trans (hw7.trans (hw8.trans (hw9.trans hw10))))))⟩
  | true =>
    cases qx with
    | false =>
      have tok5 : Hid (w = w) := rfl
      go_wp2_with (go_at_call 12; clear tok5; refine (nbeneath_any s0 s2 (by omega) (by omega) _).mono ?_; rintro e w10 ⟨⟨x, rfl, hx⟩, hw10⟩; obtain rfl : x = true := hx.2 (HQ.out.1 rfl); clear hx)
      go_ret
      exact ⟨rfl, hw3.trans (hw4.trans (hw5.trans (hw6.trans (hw7.trans (hw8.trans (hw9.trans hw10))))))⟩
    | true =>
      have tok5 : Hid (w = w) := rfl
      go_wp2_with (go_at_call 12; clear tok5; refine (nbeneath_any s0 s2 (by omega) (by omega) _).mono ?_; rintro e w10 ⟨⟨x, rfl, hx⟩, hw10⟩; obtain rfl : x = true := hx.2 (HQ.out.1 rfl); clear hx)
      go_ret
      exact ⟨rfl, hw3.trans (hw4.trans (hw5.trans (hw6.trans (hw7.trans (hw8.trans (hw9.trans hw10))))))⟩
theorem walk (s0 : ByteArray) (s1 : ByteArray) (s2 : ByteArray) (w : World) (w0 : s0.size ≤ 140737488351232) (w1 : s1.size ≤ 140737488351232) (w2 : s2.size ≤ 140737488351232) :
    Calls Try.prog 4 #[.string s0, .string s1, .string s2] w fun e w' => e = .returned (.bool true) ∧ Below w.heap.size w w' := by
  obtain ⟨y, hy⟩ : ∃ y, Nm.cmp s1.toList s2.toList = y := ⟨_, rfl⟩
  obtain ⟨z, hz⟩ : ∃ z, Nm.cmp s0.toList s2.toList = z := ⟨_, rfl⟩
  obtain ⟨c1, c2, HC⟩ : ∃ a b, Hid (Nm.check s1.toList = (a, b)) := ⟨(Nm.check s1.toList).1, (Nm.check s1.toList).2, show Nm.check s1.toList = _ from rfl⟩
  have hcb := Nm.check_bd s1.toList
  rw [HC.out] at hcb
  obtain ⟨-, -, HB, HB2⟩ := hcb
  dsimp only at HB HB2
  obtain ⟨r, f1, f2, f3, f4⟩ := Nm.cmp_facts s0.toList s1.toList s2.toList
  obtain ⟨ry, -, -, -, -⟩ := Nm.cmp_facts s1.toList s2.toList []
  rw [hy] at ry f3 f4
  rw [hz] at f3 f4
  have hq : ∃ q : Bool, Hid (q = true ↔ Nm.Beneath s0.toList s2.toList) := by
    by_cases h : Nm.Beneath s0.toList s2.toList
    · exact ⟨true, ⟨fun _ => h, fun _ => rfl⟩⟩
    · exact ⟨false, ⟨fun e => Bool.noConfusion e, fun e => absurd e h⟩⟩
  obtain ⟨q, HQ⟩ := hq
  by_cases he : s0.toList = []
  · rcases r with hx | hx | hx
    · rcases ry with h | h | h
      · exact ord_nn_e s0 s1 s2 w w0 w1 w2 y z hy hz hx (by omega) (f4 (by omega) (by omega)) c1 c2 HC HB HB2 he
      · exact ord_nz_e s0 s1 s2 w w0 w1 w2 y z hy hz hx h (f4 (by omega) (by omega)) c1 c2 HC HB HB2 he
      · exact ord_np_e s0 s1 s2 w w0 w1 w2 y z hy hz hx (by omega) c1 c2 HC HB HB2 he
    · rcases Int.lt_or_le 0 y with h | h
      · exact ord_zp_e s0 s1 s2 w w0 w1 w2 y z hy hz hx h c1 c2 HC HB HB2 he
      · exact ord_zl_e s0 s1 s2 w w0 w1 w2 y z hy hz hx h (f3 (by omega) (by omega)) c1 c2 HC HB HB2 he
    · exact ord_p_e s0 s1 s2 w w0 w1 w2 y z hy hz hx c1 c2 HC HB HB2 he
  · by_cases hab : Nm.Beneath s0.toList s1.toList
    · have hx := Nm.beneath_less he hab
      rcases ry with h | h | h
      · exact ord_nn_t s0 s1 s2 w w0 w1 w2 y z hy hz hx (by omega) (f4 (by omega) (by omega)) c1 c2 HC HB HB2 he hab q HQ _ rfl
      · exact ord_nz_t s0 s1 s2 w w0 w1 w2 y z hy hz hx h (f4 (by omega) (by omega)) c1 c2 HC HB HB2 he hab q HQ _ rfl
      · exact ord_np_t s0 s1 s2 w w0 w1 w2 y z hy hz hx (by omega) c1 c2 HC HB HB2 he hab q HQ _ rfl
    · rcases r with hx | hx | hx
      · rcases ry with h | h | h
        · exact ord_nn_f s0 s1 s2 w w0 w1 w2 y z hy hz hx (by omega) (f4 (by omega) (by omega)) c1 c2 HC HB HB2 he hab q HQ _ rfl (fun hq hc => hab (Nm.beneath_between he (HQ.out.1 hq) (by rw [HC.out]; exact beq_iff_eq.1 hc) (by omega) (by omega)))
        · exact ord_nz_f s0 s1 s2 w w0 w1 w2 y z hy hz hx h (f4 (by omega) (by omega)) c1 c2 HC HB HB2 he hab q HQ _ rfl
        · exact ord_np_f s0 s1 s2 w w0 w1 w2 y z hy hz hx (by omega) c1 c2 HC HB HB2 he hab q HQ _ rfl
      · rcases Int.lt_or_le 0 y with h | h
        · exact ord_zp_f s0 s1 s2 w w0 w1 w2 y z hy hz hx h c1 c2 HC HB HB2 he hab q HQ _ rfl
        · exact ord_zl_f s0 s1 s2 w w0 w1 w2 y z hy hz hx h (f3 (by omega) (by omega)) c1 c2 HC HB HB2 he hab q HQ _ rfl
      · exact ord_p_f s0 s1 s2 w w0 w1 w2 y z hy hz hx c1 c2 HC HB HB2 he hab q HQ _ rfl

set_option maxRecDepth 100000 in
theorem lifted (os : Os) (started : os.Started) (H : Type) (enc : TypeId × Value → H) :
    ReturnsInHanded {} Try.checked os 4 .any (Rows.nameOrderSpec.pre6 enc Try.prog Try.f4 Rows.nameOrderRow.domain false) (Rows.nameOrderSpec.post enc Try.prog Try.f4 false true false false) := by
  refine returnsInHanded_of_change_sized (C := Try.checked) own started (by kernel_rfl) Try.func4
    (ChangeSpec.witness6 (enc := enc) (C := Try.checked) false ⟨#[], #[.string .empty, .string .empty, .string .empty], []⟩ 8 (by kernel_rfl) (by kernel_rfl) (by kernel_rfl) (by kernel_rfl)) ?_
  intro W base args ds gs before hval0 hW hcnd hsz0 _
  have hval : ∀ (j : Nat) t v, Try.f4.params[j]? = some t → args[j]? = some v → Value.okWide Try.prog W .any base t v := hval0
  have hW' := hW
  obtain ⟨p, q, hA0, hV, rfl, hfz, hnd⟩ := hW
  have hA : DataW.TrodAll enc Try.prog W 0 (fun _ => true) true Try.f4.params.toList args.toList ds p := hA0
  have hsz : (DataW.weightsEach Try.prog (Try.f4.params.toList ++ Rows.nameOrderSpec.plain.varTypes Try.prog) (ds ++ gs)).all (· ≤ reachBytes) = true := hsz0
  rw [Try.params4] at hA hval hsz
  obtain ⟨v0, vs0, d0, ds0, p0, q0, hargs, rfl, rfl, h0, r0⟩ := trodAll_cons hA
  obtain ⟨v1, vs1, d1, ds1, p1, q1, rfl, rfl, rfl, h1, r1⟩ := trodAll_cons r0
  obtain ⟨v2, vs2, d2, ds2, p2, q2, rfl, rfl, rfl, h2, r2⟩ := trodAll_cons r1
  obtain ⟨rfl, rfl, rfl⟩ := trodAll_nil r2
  obtain rfl : args = #[v0, v1, v2] := by cases args; simp_all
  obtain ⟨rfl, rfl⟩ := trodVars_none hV
  have k0 := h0
  have lt0 : ∀ x ∈ p0, x.block < W.heap.size := by obtain ⟨m, hm⟩ := k0; exact DataW.trod_lt m _ _ _ hm
  obtain ⟨s0, rfl, rfl, w0⟩ := open_str (hval 0 9 v0 rfl rfl) h0 (fun x hx => by simpa using List.all_eq_true.1 hsz x (DataW.weights_mem_each (j := 0) (t := 9) rfl rfl x hx))
  have k1 := h1
  have lt1 : ∀ x ∈ p1, x.block < W.heap.size := by obtain ⟨m, hm⟩ := k1; exact DataW.trod_lt m _ _ _ hm
  obtain ⟨s1, rfl, rfl, w1⟩ := open_str (hval 1 9 v1 rfl rfl) h1 (fun x hx => by simpa using List.all_eq_true.1 hsz x (DataW.weights_mem_each (j := 1) (t := 9) rfl rfl x hx))
  have k2 := h2
  have lt2 : ∀ x ∈ p2, x.block < W.heap.size := by obtain ⟨m, hm⟩ := k2; exact DataW.trod_lt m _ _ _ hm
  obtain ⟨s2, rfl, rfl, w2⟩ := open_str (hval 2 9 v2 rfl rfl) h2 (fun x hx => by simpa using List.all_eq_true.1 hsz x (DataW.weights_mem_each (j := 2) (t := 9) rfl rfl x hx))
  clear hA0 hval0
  refine (walk s0 s1 s2 W w0 w1 w2).mono fun e W' ⟨he, bel⟩ => ?_
  subst he
  exact ⟨_, rfl, _, _, _, [], _, [], hW', trodAll_mk1 (shut_bool Try.underlying4 _), (trodAll_cons_mk (Below.trod laidOut (by kernel_rfl) (of_decide_eq_true (by kernel_rfl)) k0 bel lt0) (trodAll_cons_mk (Below.trod laidOut (by kernel_rfl) (of_decide_eq_true (by kernel_rfl)) k1 bel lt1) (trodAll_cons_mk (Below.trod laidOut (by kernel_rfl) (of_decide_eq_true (by kernel_rfl)) k2 bel lt2) trodAll_mk0))), rfl, bel.frame _, fun h => by cases h⟩

theorem over : Rows.nameOrderRow.holds Try.pinned (OpenSpec.ofChange Rows.nameOrderSpec) :=
  OpenClaim.holds_of_wide 4 Try.f4 rfl rfl rfl rfl rfl rfl rfl ⟨rfl, rfl, rfl, rfl, rfl⟩ rfl rfl rfl rfl rfl (by kernel_rfl) Try.func4 (by kernel_rfl)
    (of_decide_eq_true (by kernel_rfl)) (by unfold Func.isWrapper; first | (rw [if_pos (by decide +kernel)]; kernel_rfl) | (rw [if_neg (by decide +kernel)]; exact ⟨rfl, rfl⟩))
    (fun os started H enc _ => lifted os started H enc)

theorem proved : Rows.NameOrderSaid := over
#print axioms proved
end Go.Proofs.Ytpkdnockbbppiab.nameOrder
