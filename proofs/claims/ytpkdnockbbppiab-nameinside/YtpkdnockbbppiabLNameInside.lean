/- Proved: for any three texts the statement NameInside answers true (the document's P8.11: what Lead answers is empty or has right pieces alone, and is no deeper than both texts; a text that is a part leads beside the link), with no condition but the reach. -/
import Derived.Test.YtpkdnockbbppiabNB
import Derived.Test.YtpkdnockbbppiabFs
import Derived.ShutString
import Derived.ChangeOld
namespace Go.Proofs.Ytpkdnockbbppiab.nameInside
open Go.ChangeShapes Go.WideShapes Go.ChangeAt Go.RowKit
set_option linter.unusedVariables false

set_option linter.unusedSimpArgs false
attribute [local go_sem] List.getElem?_cons_zero Option.getD_some
set_option maxRecDepth 100000 in
set_option maxHeartbeats 2000000 in
theorem inside_err (s t p : ByteArray) (w : World) (w0 : s.size ≤ 140737488351232) (w1 : t.size ≤ 140737488351232) (w2 : p.size ≤ 140737488351232) (er : Int) (HL : Hid (Nm.lead s.toList t.toList = ([], er))) (he : er ≠ 0) :
    Calls Try.prog 6 #[.string s, .string t, .string p] w fun e w' => e = .returned (.bool true) ∧ Bw w w' := by
  have e1 : (er != 0) = true := by rw [bne_iff_ne]; exact he
  obtain ⟨A, HA⟩ : ∃ A, Hid (A = Nm.S []) := ⟨_, rfl⟩
  have ea : (A.toList == []) = true := by rw [HA.out, Nm.toList_S]; rfl
  clear he
  go_enter Try.func6, Try.ntmps6
  go_wp2_with (go_at_call 10; refine (awake8_any _).mono ?_; rintro e v1 ⟨rfl, hv1⟩)
  go_wp2_with (go_at_call 8; refine (nlead_any s t (by omega) (by omega) _).mono ?_; rintro e v2 ⟨rfl, hv2⟩; rw [HL.out, ← HA.out])
  go_ret
  exact ⟨rfl, hv1.trans hv2⟩
set_option maxRecDepth 100000 in
set_option maxHeartbeats 2000000 in
theorem inside_e_bad (s t p : ByteArray) (w : World) (w0 : s.size ≤ 140737488351232) (w1 : t.size ≤ 140737488351232) (w2 : p.size ≤ 140737488351232) (r : Nm.B) (HL : Hid (Nm.lead s.toList t.toList = (r, 0))) (hr : r = []) (d1 d2 : Int) (HD : Hid (Nm.check p.toList = (d1, d2))) (hd : d2 ≠ 0) :
    Calls Try.prog 6 #[.string s, .string t, .string p] w fun e w' => e = .returned (.bool true) ∧ Bw w w' := by
  obtain ⟨A, HA⟩ : ∃ A, Hid (A = Nm.S r) := ⟨_, rfl⟩
  have tok1 : Hid (w = w) := rfl
  have ea : (A.toList == []) = true := by rw [HA.out, hr, Nm.toList_S]; rfl
  clear hr
  have e3 : (d2 != 0) = true := by rw [bne_iff_ne]; exact hd
  clear hd
  go_enter Try.func6, Try.ntmps6
  go_wp2_with (go_at_call 10; refine (awake8_any _).mono ?_; rintro e v1 ⟨rfl, hv1⟩)
  go_wp2_with (go_at_call 8; clear tok1; refine (nlead_any s t (by omega) (by omega) _).mono ?_; rintro e v2 ⟨rfl, hv2⟩; rw [HL.out, ← HA.out])
  go_wp2_with (go_at_call 13; refine (ncheck_any p (by omega) _).mono ?_; rintro e v3 ⟨rfl, hv3⟩; rw [HD.out])
  go_ret
  exact ⟨rfl, (hv1.trans (hv2.trans hv3))⟩
set_option maxRecDepth 100000 in
set_option maxHeartbeats 2000000 in
theorem inside_e_deep (s t p : ByteArray) (w : World) (w0 : s.size ≤ 140737488351232) (w1 : t.size ≤ 140737488351232) (w2 : p.size ≤ 140737488351232) (r : Nm.B) (HL : Hid (Nm.lead s.toList t.toList = (r, 0))) (hr : r = []) (d1 : Int) (HD : Hid (Nm.check p.toList = (d1, 0))) (h47 : (47 : UInt8) ∈ p.toList) :
    Calls Try.prog 6 #[.string s, .string t, .string p] w fun e w' => e = .returned (.bool true) ∧ Bw w w' := by
  obtain ⟨A, HA⟩ : ∃ A, Hid (A = Nm.S r) := ⟨_, rfl⟩
  have tok1 : Hid (w = w) := rfl
  have ea : (A.toList == []) = true := by rw [HA.out, hr, Nm.toList_S]; rfl
  clear hr
  obtain ⟨n4, hn4⟩ : ∃ n, Hid (n = (Nm.pieces p.toList).length - 1) := ⟨_, rfl⟩
  have h4 : (0 : Int) < (n4 : Int) := by
    have h1 : (Nm.pieces p.toList).length ≠ 1 := fun e => (Nm.pieces_one _).1 e h47
    have h2 : 0 < (Nm.pieces p.toList).length := List.length_pos_iff.2 (Nm.pieces_ne _)
    have := hn4.out
    omega
  clear h47
  go_enter Try.func6, Try.ntmps6
  go_wp2_with (go_at_call 10; refine (awake8_any _).mono ?_; rintro e v1 ⟨rfl, hv1⟩)
  go_wp2_with (go_at_call 8; clear tok1; refine (nlead_any s t (by omega) (by omega) _).mono ?_; rintro e v2 ⟨rfl, hv2⟩; rw [HL.out, ← HA.out])
  go_wp2_with (go_at_call 13; refine (ncheck_any p (by omega) _).mono ?_; rintro e v3 ⟨rfl, hv3⟩; rw [HD.out])
  go_wp2_with (go_at_call 16; refine (strokes_any p (by omega) _).mono ?_; rintro e w' ⟨rfl, hw'⟩; subst w'; rw [← hn4.out])
  go_ret
  exact ⟨rfl, (hv1.trans (hv2.trans hv3))⟩
set_option maxRecDepth 100000 in
set_option maxHeartbeats 2000000 in
theorem inside_e_top (s t p : ByteArray) (w : World) (w0 : s.size ≤ 140737488351232) (w1 : t.size ≤ 140737488351232) (w2 : p.size ≤ 140737488351232) (r : Nm.B) (HL : Hid (Nm.lead s.toList t.toList = (r, 0))) (hr : r = []) (d1 : Int) (HD : Hid (Nm.check p.toList = (d1, 0))) (h47 : (47 : UInt8) ∉ p.toList) (hu : Nm.up s.toList = []) :
    Calls Try.prog 6 #[.string s, .string t, .string p] w fun e w' => e = .returned (.bool true) ∧ Bw w w' := by
  obtain ⟨A, HA⟩ : ∃ A, Hid (A = Nm.S r) := ⟨_, rfl⟩
  have tok1 : Hid (w = w) := rfl
  have ea : (A.toList == []) = true := by rw [HA.out, hr, Nm.toList_S]; rfl
  clear hr
  obtain ⟨n4, hn4⟩ : ∃ n, Hid (n = (Nm.pieces p.toList).length - 1) := ⟨_, rfl⟩
  have h4 : n4 = 0 := by
    have h1 : (Nm.pieces p.toList).length = 1 := (Nm.pieces_one _).2 h47
    have := hn4.out
    omega
  subst h4
  have hca : (Nm.check s.toList).2 = 0 := Nm.lead_from (b := t.toList) (by rw [HL.out])
  have hsl : s.size ≤ 400 := by have := (Nm.check_right hca).1; rwa [Nm.size_toList] at this
  have hpl : p.size ≤ 400 := by have := (Nm.check_right (l := p.toList) (by rw [HD.out])).1; rwa [Nm.size_toList] at this
  have hlp := Nm.lead_part hca (show (Nm.check p.toList).2 = 0 by rw [HD.out]) h47
  have hul : (Nm.up s.toList).length ≤ 400 := by
    have h1 : (Nm.up s.toList).length ≤ s.toList.length := Nm.up_len s.toList
    rw [Nm.size_toList] at h1
    omega
  obtain ⟨U, HU⟩ : ∃ U, Hid (U = Nm.S (Nm.up s.toList)) := ⟨_, rfl⟩
  have HUl : Hid (U.toList = Nm.up s.toList) := by show _ = _; rw [HU.out, Nm.toList_S]
  have hus : U.size ≤ 400 := by rw [HU.out, Nm.size_S]; exact hul
  rw [if_pos hu] at hlp
  have HP : Hid (Nm.lead s.toList p.toList = (p.toList, 0)) := hlp
  have eu : (U.toList == []) = true := by rw [HUl.out, hu]; rfl
  have r1 : ∀ u : World, (Op.stringOp .add U p).run Try.prog u = .ok (.string p) u := fun u => by
    rw [run_string_add_sum _ _ _ (by omega), HU.out, hu, ← Nm.S_toList p, Nm.append_S]; rfl
  clear hlp hca hul hu
  go_enter Try.func6, Try.ntmps6
  go_wp2_with (go_at_call 10; refine (awake8_any _).mono ?_; rintro e v1 ⟨rfl, hv1⟩)
  go_wp2_with (go_at_call 8; clear tok1; refine (nlead_any s t (by omega) (by omega) _).mono ?_; rintro e v2 ⟨rfl, hv2⟩; rw [HL.out, ← HA.out])
  go_wp2_with (go_at_call 13; refine (ncheck_any p (by omega) _).mono ?_; rintro e v3 ⟨rfl, hv3⟩; rw [HD.out])
  go_wp2_with (go_at_call 16; refine (strokes_any p (by omega) _).mono ?_; rintro e w' ⟨rfl, hw'⟩; subst w'; rw [← hn4.out])
  go_wp2_with (go_at_call 8; refine (nlead_any s p (by omega) (by omega) _).mono ?_; rintro e v4 ⟨rfl, hv4⟩; rw [HP.out, Nm.S_toList])
  go_wp2_with (go_at_call 17; refine (nup_any s (by omega) _).mono ?_; rintro e v5 ⟨rfl, hv5⟩; rw [← HU.out])
  go_ret
  exact ⟨rfl, (hv1.trans (hv2.trans (hv3.trans (hv4.trans hv5))))⟩
set_option maxRecDepth 100000 in
set_option maxHeartbeats 2000000 in
theorem inside_e_under (s t p : ByteArray) (w : World) (w0 : s.size ≤ 140737488351232) (w1 : t.size ≤ 140737488351232) (w2 : p.size ≤ 140737488351232) (r : Nm.B) (HL : Hid (Nm.lead s.toList t.toList = (r, 0))) (hr : r = []) (d1 : Int) (HD : Hid (Nm.check p.toList = (d1, 0))) (h47 : (47 : UInt8) ∉ p.toList) (hu : Nm.up s.toList ≠ []) :
    Calls Try.prog 6 #[.string s, .string t, .string p] w fun e w' => e = .returned (.bool true) ∧ Bw w w' := by
  obtain ⟨A, HA⟩ : ∃ A, Hid (A = Nm.S r) := ⟨_, rfl⟩
  have tok1 : Hid (w = w) := rfl
  have ea : (A.toList == []) = true := by rw [HA.out, hr, Nm.toList_S]; rfl
  clear hr
  obtain ⟨n4, hn4⟩ : ∃ n, Hid (n = (Nm.pieces p.toList).length - 1) := ⟨_, rfl⟩
  have h4 : n4 = 0 := by
    have h1 : (Nm.pieces p.toList).length = 1 := (Nm.pieces_one _).2 h47
    have := hn4.out
    omega
  subst h4
  have hca : (Nm.check s.toList).2 = 0 := Nm.lead_from (b := t.toList) (by rw [HL.out])
  have hsl : s.size ≤ 400 := by have := (Nm.check_right hca).1; rwa [Nm.size_toList] at this
  have hpl : p.size ≤ 400 := by have := (Nm.check_right (l := p.toList) (by rw [HD.out])).1; rwa [Nm.size_toList] at this
  have hlp := Nm.lead_part hca (show (Nm.check p.toList).2 = 0 by rw [HD.out]) h47
  have hul : (Nm.up s.toList).length ≤ 400 := by
    have h1 : (Nm.up s.toList).length ≤ s.toList.length := Nm.up_len s.toList
    rw [Nm.size_toList] at h1
    omega
  obtain ⟨U, HU⟩ : ∃ U, Hid (U = Nm.S (Nm.up s.toList)) := ⟨_, rfl⟩
  have HUl : Hid (U.toList = Nm.up s.toList) := by show _ = _; rw [HU.out, Nm.toList_S]
  have hus : U.size ≤ 400 := by rw [HU.out, Nm.size_S]; exact hul
  rw [if_neg hu] at hlp
  obtain ⟨Q, HQ⟩ : ∃ Q, Hid (Q = Nm.S (Nm.up s.toList ++ 47 :: p.toList)) := ⟨_, rfl⟩
  have HP : Hid (Nm.lead s.toList p.toList = (Nm.up s.toList ++ 47 :: p.toList, 0)) := hlp
  have eu : (U.toList == []) = false := by rw [beq_eq_false_iff_ne, HUl.out]; exact hu
  have r0 : ∀ u : World, (Op.stringOp .add U ⟨#[47]⟩).run Try.prog u = .ok (.string (U ++ ⟨#[47]⟩)) u := fun u => run_string_add_sum _ _ _ (by rw [show (⟨#[47]⟩ : ByteArray).size = 1 from rfl]; omega)
  have r1 : ∀ u : World, (Op.stringOp .add (U ++ ⟨#[47]⟩) p).run Try.prog u = .ok (.string Q) u := fun u => by
    rw [run_string_add_sum _ _ _ (by rw [ByteArray.size_append, show (⟨#[47]⟩ : ByteArray).size = 1 from rfl]; omega), HQ.out, HU.out, ← Nm.S_toList p, show (⟨#[47]⟩ : ByteArray) = Nm.S [47] from rfl, Nm.append_S, Nm.append_S, Nm.toList_S]
    simp
  clear hlp hca hul hu
  go_enter Try.func6, Try.ntmps6
  go_wp2_with (go_at_call 10; refine (awake8_any _).mono ?_; rintro e v1 ⟨rfl, hv1⟩)
  go_wp2_with (go_at_call 8; clear tok1; refine (nlead_any s t (by omega) (by omega) _).mono ?_; rintro e v2 ⟨rfl, hv2⟩; rw [HL.out, ← HA.out])
  go_wp2_with (go_at_call 13; refine (ncheck_any p (by omega) _).mono ?_; rintro e v3 ⟨rfl, hv3⟩; rw [HD.out])
  go_wp2_with (go_at_call 16; refine (strokes_any p (by omega) _).mono ?_; rintro e w' ⟨rfl, hw'⟩; subst w'; rw [← hn4.out])
  go_wp2_with (go_at_call 8; refine (nlead_any s p (by omega) (by omega) _).mono ?_; rintro e v4 ⟨rfl, hv4⟩; rw [HP.out, ← HQ.out])
  go_wp2_with (go_at_call 17; refine (nup_any s (by omega) _).mono ?_; rintro e v5 ⟨rfl, hv5⟩; rw [← HU.out])
  go_ret
  exact ⟨rfl, (hv1.trans (hv2.trans (hv3.trans (hv4.trans hv5))))⟩
set_option maxRecDepth 100000 in
set_option maxHeartbeats 2000000 in
theorem inside_f_bad (s t p : ByteArray) (w : World) (w0 : s.size ≤ 140737488351232) (w1 : t.size ≤ 140737488351232) (w2 : p.size ≤ 140737488351232) (r : Nm.B) (HL : Hid (Nm.lead s.toList t.toList = (r, 0))) (hr : r ≠ []) (HR : Hid (∀ q ∈ Nm.pieces r, Nm.Right q)) (HN : Hid ((Nm.pieces r).length ≤ (Nm.pieces s.toList).length + (Nm.pieces t.toList).length - 1)) (d1 d2 : Int) (HD : Hid (Nm.check p.toList = (d1, d2))) (hd : d2 ≠ 0) :
    Calls Try.prog 6 #[.string s, .string t, .string p] w fun e w' => e = .returned (.bool true) ∧ Bw w w' := by
  obtain ⟨A, HA⟩ : ∃ A, Hid (A = Nm.S r) := ⟨_, rfl⟩
  have tok1 : Hid (w = w) := rfl
  have ea : (A.toList == []) = false := by rw [beq_eq_false_iff_ne, HA.out, Nm.toList_S]; exact hr
  have hAs : A.size ≤ 4611686018427387904 := by
    have h1 := Nm.lead_len HL.out
    rw [Nm.size_toList, Nm.size_toList] at h1
    rw [HA.out, Nm.size_S]
    omega
  have HAl : Hid (A.toList = r) := by show _ = _; rw [HA.out, Nm.toList_S]
  obtain ⟨n1, hn1⟩ : ∃ n, Hid (n = (Nm.pieces r).length - 1) := ⟨_, rfl⟩
  obtain ⟨n2, hn2⟩ : ∃ n, Hid (n = (Nm.pieces s.toList).length - 1) := ⟨_, rfl⟩
  obtain ⟨n3, hn3⟩ : ∃ n, Hid (n = (Nm.pieces t.toList).length - 1) := ⟨_, rfl⟩
  have l2 : n2 ≤ 140737488351232 := by rw [hn2.out]; have := Nm.len_pieces s.toList; rw [Nm.size_toList] at this; omega
  have l3 : n3 ≤ 140737488351232 := by rw [hn3.out]; have := Nm.len_pieces t.toList; rw [Nm.size_toList] at this; omega
  have hle : ¬ (n2 : Int) + (n3 : Int) < (n1 : Int) := by
    have h0 := HN.out
    have h1 : 0 < (Nm.pieces s.toList).length := List.length_pos_iff.2 (Nm.pieces_ne _)
    have h2 : 0 < (Nm.pieces t.toList).length := List.length_pos_iff.2 (Nm.pieces_ne _)
    have e1 := hn1.out
    have e2 := hn2.out
    have e3 := hn3.out
    omega
  have tokA : Hid (w = w) := rfl
  have tokB : Hid (w = w) := rfl
  have tokC : Hid (w = w) := rfl
  clear hr
  have e3 : (d2 != 0) = true := by rw [bne_iff_ne]; exact hd
  clear hd
  go_enter Try.func6, Try.ntmps6
  go_wp2_with (go_at_call 10; refine (awake8_any _).mono ?_; rintro e v1 ⟨rfl, hv1⟩)
  go_wp2_with (go_at_call 8; clear tok1; refine (nlead_any s t (by omega) (by omega) _).mono ?_; rintro e v2 ⟨rfl, hv2⟩; rw [HL.out, ← HA.out])
  go_wp2_with (go_at_call 15; refine (clean_yes A hAs (by rw [HAl.out]; exact HR.out) _).mono ?_; rintro e w' ⟨rfl, hw'⟩; subst w')
  go_wp2_with (go_at_call 16; clear tokA; refine (strokes_any A hAs _).mono ?_; rintro e w' ⟨rfl, hw'⟩; subst w'; rw [HAl.out, ← hn1.out])
  go_wp2_with (go_at_call 16; clear tokB; refine (strokes_any s (by omega) _).mono ?_; rintro e w' ⟨rfl, hw'⟩; subst w'; rw [← hn2.out])
  go_wp2_with (go_at_call 16; clear tokC; refine (strokes_any t (by omega) _).mono ?_; rintro e w' ⟨rfl, hw'⟩; subst w'; rw [← hn3.out])
  go_wp2_with (go_at_call 13; refine (ncheck_any p (by omega) _).mono ?_; rintro e v3 ⟨rfl, hv3⟩; rw [HD.out])
  go_ret
  exact ⟨rfl, (hv1.trans (hv2.trans hv3))⟩
set_option maxRecDepth 100000 in
set_option maxHeartbeats 2000000 in
theorem inside_f_deep (s t p : ByteArray) (w : World) (w0 : s.size ≤ 140737488351232) (w1 : t.size ≤ 140737488351232) (w2 : p.size ≤ 140737488351232) (r : Nm.B) (HL : Hid (Nm.lead s.toList t.toList = (r, 0))) (hr : r ≠ []) (HR : Hid (∀ q ∈ Nm.pieces r, Nm.Right q)) (HN : Hid ((Nm.pieces r).length ≤ (Nm.pieces s.toList).length + (Nm.pieces t.toList).length - 1)) (d1 : Int) (HD : Hid (Nm.check p.toList = (d1, 0))) (h47 : (47 : UInt8) ∈ p.toList) :
    Calls Try.prog 6 #[.string s, .string t, .string p] w fun e w' => e = .returned (.bool true) ∧ Bw w w' := by
  obtain ⟨A, HA⟩ : ∃ A, Hid (A = Nm.S r) := ⟨_, rfl⟩
  have tok1 : Hid (w = w) := rfl
  have ea : (A.toList == []) = false := by rw [beq_eq_false_iff_ne, HA.out, Nm.toList_S]; exact hr
  have hAs : A.size ≤ 4611686018427387904 := by
    have h1 := Nm.lead_len HL.out
    rw [Nm.size_toList, Nm.size_toList] at h1
    rw [HA.out, Nm.size_S]
    omega
  have HAl : Hid (A.toList = r) := by show _ = _; rw [HA.out, Nm.toList_S]
  obtain ⟨n1, hn1⟩ : ∃ n, Hid (n = (Nm.pieces r).length - 1) := ⟨_, rfl⟩
  obtain ⟨n2, hn2⟩ : ∃ n, Hid (n = (Nm.pieces s.toList).length - 1) := ⟨_, rfl⟩
  obtain ⟨n3, hn3⟩ : ∃ n, Hid (n = (Nm.pieces t.toList).length - 1) := ⟨_, rfl⟩
  have l2 : n2 ≤ 140737488351232 := by rw [hn2.out]; have := Nm.len_pieces s.toList; rw [Nm.size_toList] at this; omega
  have l3 : n3 ≤ 140737488351232 := by rw [hn3.out]; have := Nm.len_pieces t.toList; rw [Nm.size_toList] at this; omega
  have hle : ¬ (n2 : Int) + (n3 : Int) < (n1 : Int) := by
    have h0 := HN.out
    have h1 : 0 < (Nm.pieces s.toList).length := List.length_pos_iff.2 (Nm.pieces_ne _)
    have h2 : 0 < (Nm.pieces t.toList).length := List.length_pos_iff.2 (Nm.pieces_ne _)
    have e1 := hn1.out
    have e2 := hn2.out
    have e3 := hn3.out
    omega
  have tokA : Hid (w = w) := rfl
  have tokB : Hid (w = w) := rfl
  have tokC : Hid (w = w) := rfl
  clear hr
  obtain ⟨n4, hn4⟩ : ∃ n, Hid (n = (Nm.pieces p.toList).length - 1) := ⟨_, rfl⟩
  have h4 : (0 : Int) < (n4 : Int) := by
    have h1 : (Nm.pieces p.toList).length ≠ 1 := fun e => (Nm.pieces_one _).1 e h47
    have h2 : 0 < (Nm.pieces p.toList).length := List.length_pos_iff.2 (Nm.pieces_ne _)
    have := hn4.out
    omega
  clear h47
  go_enter Try.func6, Try.ntmps6
  go_wp2_with (go_at_call 10; refine (awake8_any _).mono ?_; rintro e v1 ⟨rfl, hv1⟩)
  go_wp2_with (go_at_call 8; clear tok1; refine (nlead_any s t (by omega) (by omega) _).mono ?_; rintro e v2 ⟨rfl, hv2⟩; rw [HL.out, ← HA.out])
  go_wp2_with (go_at_call 15; refine (clean_yes A hAs (by rw [HAl.out]; exact HR.out) _).mono ?_; rintro e w' ⟨rfl, hw'⟩; subst w')
  go_wp2_with (go_at_call 16; clear tokA; refine (strokes_any A hAs _).mono ?_; rintro e w' ⟨rfl, hw'⟩; subst w'; rw [HAl.out, ← hn1.out])
  go_wp2_with (go_at_call 16; clear tokB; refine (strokes_any s (by omega) _).mono ?_; rintro e w' ⟨rfl, hw'⟩; subst w'; rw [← hn2.out])
  go_wp2_with (go_at_call 16; clear tokC; refine (strokes_any t (by omega) _).mono ?_; rintro e w' ⟨rfl, hw'⟩; subst w'; rw [← hn3.out])
  go_wp2_with (go_at_call 13; refine (ncheck_any p (by omega) _).mono ?_; rintro e v3 ⟨rfl, hv3⟩; rw [HD.out])
  go_wp2_with (go_at_call 16; refine (strokes_any p (by omega) _).mono ?_; rintro e w' ⟨rfl, hw'⟩; subst w'; rw [← hn4.out])
  go_ret
  exact ⟨rfl, (hv1.trans (hv2.trans hv3))⟩
set_option maxRecDepth 100000 in
set_option maxHeartbeats 2000000 in
theorem inside_f_top (s t p : ByteArray) (w : World) (w0 : s.size ≤ 140737488351232) (w1 : t.size ≤ 140737488351232) (w2 : p.size ≤ 140737488351232) (r : Nm.B) (HL : Hid (Nm.lead s.toList t.toList = (r, 0))) (hr : r ≠ []) (HR : Hid (∀ q ∈ Nm.pieces r, Nm.Right q)) (HN : Hid ((Nm.pieces r).length ≤ (Nm.pieces s.toList).length + (Nm.pieces t.toList).length - 1)) (d1 : Int) (HD : Hid (Nm.check p.toList = (d1, 0))) (h47 : (47 : UInt8) ∉ p.toList) (hu : Nm.up s.toList = []) :
    Calls Try.prog 6 #[.string s, .string t, .string p] w fun e w' => e = .returned (.bool true) ∧ Bw w w' := by
  obtain ⟨A, HA⟩ : ∃ A, Hid (A = Nm.S r) := ⟨_, rfl⟩
  have tok1 : Hid (w = w) := rfl
  have ea : (A.toList == []) = false := by rw [beq_eq_false_iff_ne, HA.out, Nm.toList_S]; exact hr
  have hAs : A.size ≤ 4611686018427387904 := by
    have h1 := Nm.lead_len HL.out
    rw [Nm.size_toList, Nm.size_toList] at h1
    rw [HA.out, Nm.size_S]
    omega
  have HAl : Hid (A.toList = r) := by show _ = _; rw [HA.out, Nm.toList_S]
  obtain ⟨n1, hn1⟩ : ∃ n, Hid (n = (Nm.pieces r).length - 1) := ⟨_, rfl⟩
  obtain ⟨n2, hn2⟩ : ∃ n, Hid (n = (Nm.pieces s.toList).length - 1) := ⟨_, rfl⟩
  obtain ⟨n3, hn3⟩ : ∃ n, Hid (n = (Nm.pieces t.toList).length - 1) := ⟨_, rfl⟩
  have l2 : n2 ≤ 140737488351232 := by rw [hn2.out]; have := Nm.len_pieces s.toList; rw [Nm.size_toList] at this; omega
  have l3 : n3 ≤ 140737488351232 := by rw [hn3.out]; have := Nm.len_pieces t.toList; rw [Nm.size_toList] at this; omega
  have hle : ¬ (n2 : Int) + (n3 : Int) < (n1 : Int) := by
    have h0 := HN.out
    have h1 : 0 < (Nm.pieces s.toList).length := List.length_pos_iff.2 (Nm.pieces_ne _)
    have h2 : 0 < (Nm.pieces t.toList).length := List.length_pos_iff.2 (Nm.pieces_ne _)
    have e1 := hn1.out
    have e2 := hn2.out
    have e3 := hn3.out
    omega
  have tokA : Hid (w = w) := rfl
  have tokB : Hid (w = w) := rfl
  have tokC : Hid (w = w) := rfl
  clear hr
  obtain ⟨n4, hn4⟩ : ∃ n, Hid (n = (Nm.pieces p.toList).length - 1) := ⟨_, rfl⟩
  have h4 : n4 = 0 := by
    have h1 : (Nm.pieces p.toList).length = 1 := (Nm.pieces_one _).2 h47
    have := hn4.out
    omega
  subst h4
  have hca : (Nm.check s.toList).2 = 0 := Nm.lead_from (b := t.toList) (by rw [HL.out])
  have hsl : s.size ≤ 400 := by have := (Nm.check_right hca).1; rwa [Nm.size_toList] at this
  have hpl : p.size ≤ 400 := by have := (Nm.check_right (l := p.toList) (by rw [HD.out])).1; rwa [Nm.size_toList] at this
  have hlp := Nm.lead_part hca (show (Nm.check p.toList).2 = 0 by rw [HD.out]) h47
  have hul : (Nm.up s.toList).length ≤ 400 := by
    have h1 : (Nm.up s.toList).length ≤ s.toList.length := Nm.up_len s.toList
    rw [Nm.size_toList] at h1
    omega
  obtain ⟨U, HU⟩ : ∃ U, Hid (U = Nm.S (Nm.up s.toList)) := ⟨_, rfl⟩
  have HUl : Hid (U.toList = Nm.up s.toList) := by show _ = _; rw [HU.out, Nm.toList_S]
  have hus : U.size ≤ 400 := by rw [HU.out, Nm.size_S]; exact hul
  rw [if_pos hu] at hlp
  have HP : Hid (Nm.lead s.toList p.toList = (p.toList, 0)) := hlp
  have eu : (U.toList == []) = true := by rw [HUl.out, hu]; rfl
  have r1 : ∀ u : World, (Op.stringOp .add U p).run Try.prog u = .ok (.string p) u := fun u => by
    rw [run_string_add_sum _ _ _ (by omega), HU.out, hu, ← Nm.S_toList p, Nm.append_S]; rfl
  clear hlp hca hul hu
  go_enter Try.func6, Try.ntmps6
  go_wp2_with (go_at_call 10; refine (awake8_any _).mono ?_; rintro e v1 ⟨rfl, hv1⟩)
  go_wp2_with (go_at_call 8; clear tok1; refine (nlead_any s t (by omega) (by omega) _).mono ?_; rintro e v2 ⟨rfl, hv2⟩; rw [HL.out, ← HA.out])
  go_wp2_with (go_at_call 15; refine (clean_yes A hAs (by rw [HAl.out]; exact HR.out) _).mono ?_; rintro e w' ⟨rfl, hw'⟩; subst w')
  go_wp2_with (go_at_call 16; clear tokA; refine (strokes_any A hAs _).mono ?_; rintro e w' ⟨rfl, hw'⟩; subst w'; rw [HAl.out, ← hn1.out])
  go_wp2_with (go_at_call 16; clear tokB; refine (strokes_any s (by omega) _).mono ?_; rintro e w' ⟨rfl, hw'⟩; subst w'; rw [← hn2.out])
  go_wp2_with (go_at_call 16; clear tokC; refine (strokes_any t (by omega) _).mono ?_; rintro e w' ⟨rfl, hw'⟩; subst w'; rw [← hn3.out])
  go_wp2_with (go_at_call 13; refine (ncheck_any p (by omega) _).mono ?_; rintro e v3 ⟨rfl, hv3⟩; rw [HD.out])
  go_wp2_with (go_at_call 16; refine (strokes_any p (by omega) _).mono ?_; rintro e w' ⟨rfl, hw'⟩; subst w'; rw [← hn4.out])
  go_wp2_with (go_at_call 8; refine (nlead_any s p (by omega) (by omega) _).mono ?_; rintro e v4 ⟨rfl, hv4⟩; rw [HP.out, Nm.S_toList])
  go_wp2_with (go_at_call 17; refine (nup_any s (by omega) _).mono ?_; rintro e v5 ⟨rfl, hv5⟩; rw [← HU.out])
  go_ret
  exact ⟨rfl, (hv1.trans (hv2.trans (hv3.trans (hv4.trans hv5))))⟩
set_option maxRecDepth 100000 in
set_option maxHeartbeats 2000000 in
theorem inside_f_under (s t p : ByteArray) (w : World) (w0 : s.size ≤ 140737488351232) (w1 : t.size ≤ 140737488351232) (w2 : p.size ≤ 140737488351232) (r : Nm.B) (HL : Hid (Nm.lead s.toList t.toList = (r, 0))) (hr : r ≠ []) (HR : Hid (∀ q ∈ Nm.pieces r, Nm.Right q)) (HN : Hid ((Nm.pieces r).length ≤ (Nm.pieces s.toList).length + (Nm.pieces t.toList).length - 1)) (d1 : Int) (HD : Hid (Nm.check p.toList = (d1, 0))) (h47 : (47 : UInt8) ∉ p.toList) (hu : Nm.up s.toList ≠ []) :
    Calls Try.prog 6 #[.string s, .string t, .string p] w fun e w' => e = .returned (.bool true) ∧ Bw w w' := by
  obtain ⟨A, HA⟩ : ∃ A, Hid (A = Nm.S r) := ⟨_, rfl⟩
  have tok1 : Hid (w = w) := rfl
  have ea : (A.toList == []) = false := by rw [beq_eq_false_iff_ne, HA.out, Nm.toList_S]; exact hr
  have hAs : A.size ≤ 4611686018427387904 := by
    have h1 := Nm.lead_len HL.out
    rw [Nm.size_toList, Nm.size_toList] at h1
    rw [HA.out, Nm.size_S]
    omega
  have HAl : Hid (A.toList = r) := by show _ = _; rw [HA.out, Nm.toList_S]
  obtain ⟨n1, hn1⟩ : ∃ n, Hid (n = (Nm.pieces r).length - 1) := ⟨_, rfl⟩
  obtain ⟨n2, hn2⟩ : ∃ n, Hid (n = (Nm.pieces s.toList).length - 1) := ⟨_, rfl⟩
  obtain ⟨n3, hn3⟩ : ∃ n, Hid (n = (Nm.pieces t.toList).length - 1) := ⟨_, rfl⟩
  have l2 : n2 ≤ 140737488351232 := by rw [hn2.out]; have := Nm.len_pieces s.toList; rw [Nm.size_toList] at this; omega
  have l3 : n3 ≤ 140737488351232 := by rw [hn3.out]; have := Nm.len_pieces t.toList; rw [Nm.size_toList] at this; omega
  have hle : ¬ (n2 : Int) + (n3 : Int) < (n1 : Int) := by
    have h0 := HN.out
    have h1 : 0 < (Nm.pieces s.toList).length := List.length_pos_iff.2 (Nm.pieces_ne _)
    have h2 : 0 < (Nm.pieces t.toList).length := List.length_pos_iff.2 (Nm.pieces_ne _)
    have e1 := hn1.out
    have e2 := hn2.out
    have e3 := hn3.out
    omega
  have tokA : Hid (w = w) := rfl
  have tokB : Hid (w = w) := rfl
  have tokC : Hid (w = w) := rfl
  clear hr
  obtain ⟨n4, hn4⟩ : ∃ n, Hid (n = (Nm.pieces p.toList).length - 1) := ⟨_, rfl⟩
  have h4 : n4 = 0 := by
    have h1 : (Nm.pieces p.toList).length = 1 := (Nm.pieces_one _).2 h47
    have := hn4.out
    omega
  subst h4
  have hca : (Nm.check s.toList).2 = 0 := Nm.lead_from (b := t.toList) (by rw [HL.out])
  have hsl : s.size ≤ 400 := by have := (Nm.check_right hca).1; rwa [Nm.size_toList] at this
  have hpl : p.size ≤ 400 := by have := (Nm.check_right (l := p.toList) (by rw [HD.out])).1; rwa [Nm.size_toList] at this
  have hlp := Nm.lead_part hca (show (Nm.check p.toList).2 = 0 by rw [HD.out]) h47
  have hul : (Nm.up s.toList).length ≤ 400 := by
    have h1 : (Nm.up s.toList).length ≤ s.toList.length := Nm.up_len s.toList
    rw [Nm.size_toList] at h1
    omega
  obtain ⟨U, HU⟩ : ∃ U, Hid (U = Nm.S (Nm.up s.toList)) := ⟨_, rfl⟩
  have HUl : Hid (U.toList = Nm.up s.toList) := by show _ = _; rw [HU.out, Nm.toList_S]
  have hus : U.size ≤ 400 := by rw [HU.out, Nm.size_S]; exact hul
  rw [if_neg hu] at hlp
  obtain ⟨Q, HQ⟩ : ∃ Q, Hid (Q = Nm.S (Nm.up s.toList ++ 47 :: p.toList)) := ⟨_, rfl⟩
  have HP : Hid (Nm.lead s.toList p.toList = (Nm.up s.toList ++ 47 :: p.toList, 0)) := hlp
  have eu : (U.toList == []) = false := by rw [beq_eq_false_iff_ne, HUl.out]; exact hu
  have r0 : ∀ u : World, (Op.stringOp .add U ⟨#[47]⟩).run Try.prog u = .ok (.string (U ++ ⟨#[47]⟩)) u := fun u => run_string_add_sum _ _ _ (by rw [show (⟨#[47]⟩ : ByteArray).size = 1 from rfl]; omega)
  have r1 : ∀ u : World, (Op.stringOp .add (U ++ ⟨#[47]⟩) p).run Try.prog u = .ok (.string Q) u := fun u => by
    rw [run_string_add_sum _ _ _ (by rw [ByteArray.size_append, show (⟨#[47]⟩ : ByteArray).size = 1 from rfl]; omega), HQ.out, HU.out, ← Nm.S_toList p, show (⟨#[47]⟩ : ByteArray) = Nm.S [47] from rfl, Nm.append_S, Nm.append_S, Nm.toList_S]
    simp
  clear hlp hca hul hu
  go_enter Try.func6, Try.ntmps6
  go_wp2_with (go_at_call 10; refine (awake8_any _).mono ?_; rintro e v1 ⟨rfl, hv1⟩)
  go_wp2_with (go_at_call 8; clear tok1; refine (nlead_any s t (by omega) (by omega) _).mono ?_; rintro e v2 ⟨rfl, hv2⟩; rw [HL.out, ← HA.out])
  go_wp2_with (go_at_call 15; refine (clean_yes A hAs (by rw [HAl.out]; exact HR.out) _).mono ?_; rintro e w' ⟨rfl, hw'⟩; subst w')
  go_wp2_with (go_at_call 16; clear tokA; refine (strokes_any A hAs _).mono ?_; rintro e w' ⟨rfl, hw'⟩; subst w'; rw [HAl.out, ← hn1.out])
  go_wp2_with (go_at_call 16; clear tokB; refine (strokes_any s (by omega) _).mono ?_; rintro e w' ⟨rfl, hw'⟩; subst w'; rw [← hn2.out])
  go_wp2_with (go_at_call 16; clear tokC; refine (strokes_any t (by omega) _).mono ?_; rintro e w' ⟨rfl, hw'⟩; subst w'; rw [← hn3.out])
  go_wp2_with (go_at_call 13; refine (ncheck_any p (by omega) _).mono ?_; rintro e v3 ⟨rfl, hv3⟩; rw [HD.out])
  go_wp2_with (go_at_call 16; refine (strokes_any p (by omega) _).mono ?_; rintro e w' ⟨rfl, hw'⟩; subst w'; rw [← hn4.out])
  go_wp2_with (go_at_call 8; refine (nlead_any s p (by omega) (by omega) _).mono ?_; rintro e v4 ⟨rfl, hv4⟩; rw [HP.out, ← HQ.out])
  go_wp2_with (go_at_call 17; refine (nup_any s (by omega) _).mono ?_; rintro e v5 ⟨rfl, hv5⟩; rw [← HU.out])
  go_ret
  exact ⟨rfl, (hv1.trans (hv2.trans (hv3.trans (hv4.trans hv5))))⟩
theorem walk (s0 : ByteArray) (s1 : ByteArray) (s2 : ByteArray) (w : World) (w0 : s0.size ≤ 140737488351232) (w1 : s1.size ≤ 140737488351232) (w2 : s2.size ≤ 140737488351232) :
    Calls Try.prog 6 #[.string s0, .string s1, .string s2] w fun e w' => e = .returned (.bool true) ∧ Below w.heap.size w w' := by
  obtain ⟨r, er, HL⟩ : ∃ a b, Hid (Nm.lead s0.toList s1.toList = (a, b)) := ⟨(Nm.lead s0.toList s1.toList).1, (Nm.lead s0.toList s1.toList).2, show Nm.lead s0.toList s1.toList = _ from rfl⟩
  obtain ⟨d1, d2, HD⟩ : ∃ a b, Hid (Nm.check s2.toList = (a, b)) := ⟨(Nm.check s2.toList).1, (Nm.check s2.toList).2, show Nm.check s2.toList = _ from rfl⟩
  by_cases he : er = 0
  · subst he
    have hin := Nm.lead_inside (a := s0.toList) (b := s1.toList) (by rw [HL.out])
    rw [HL.out] at hin
    dsimp only at hin
    by_cases hr : r = []
    · by_cases hd : d2 = 0
      · subst hd
        by_cases h47 : (47 : UInt8) ∈ s2.toList
        · exact inside_e_deep s0 s1 s2 w w0 w1 w2 r HL hr d1 HD h47
        · by_cases hu : Nm.up s0.toList = []
          · exact inside_e_top s0 s1 s2 w w0 w1 w2 r HL hr d1 HD h47 hu
          · exact inside_e_under s0 s1 s2 w w0 w1 w2 r HL hr d1 HD h47 hu
      · exact inside_e_bad s0 s1 s2 w w0 w1 w2 r HL hr d1 d2 HD hd
    · obtain ⟨hR, hN⟩ := hin.resolve_left hr
      by_cases hd : d2 = 0
      · subst hd
        by_cases h47 : (47 : UInt8) ∈ s2.toList
        · exact inside_f_deep s0 s1 s2 w w0 w1 w2 r HL hr hR hN d1 HD h47
        · by_cases hu : Nm.up s0.toList = []
          · exact inside_f_top s0 s1 s2 w w0 w1 w2 r HL hr hR hN d1 HD h47 hu
          · exact inside_f_under s0 s1 s2 w w0 w1 w2 r HL hr hR hN d1 HD h47 hu
      · exact inside_f_bad s0 s1 s2 w w0 w1 w2 r HL hr hR hN d1 d2 HD hd
  · have hr : r = [] := by have := Nm.lead_err (a := s0.toList) (b := s1.toList) (by rw [HL.out]; exact he); rwa [HL.out] at this
    subst hr
    exact inside_err s0 s1 s2 w w0 w1 w2 er HL he

set_option maxRecDepth 100000 in
theorem lifted (os : Os) (started : os.Started) (H : Type) (enc : TypeId × Value → H) :
    ReturnsInHanded {} Try.checked os 6 .any (Rows.nameInsideSpec.pre6 enc Try.prog Try.f6 Rows.nameInsideRow.domain false) (Rows.nameInsideSpec.post enc Try.prog Try.f6 false true false false) := by
  refine returnsInHanded_of_change_sized (C := Try.checked) own started (by kernel_rfl) Try.func6
    (ChangeSpec.witness6 (enc := enc) (C := Try.checked) false ⟨#[], #[.string .empty, .string .empty, .string .empty], []⟩ 8 (by kernel_rfl) (by kernel_rfl) (by kernel_rfl) (by kernel_rfl)) ?_
  intro W base args ds gs before hval0 hW hcnd hsz0 _
  have hval : ∀ (j : Nat) t v, Try.f6.params[j]? = some t → args[j]? = some v → Value.okWide Try.prog W .any base t v := hval0
  have hW' := hW
  obtain ⟨p, q, hA0, hV, rfl, hfz, hnd⟩ := hW
  have hA : DataW.TrodAll enc Try.prog W 0 (fun _ => true) true Try.f6.params.toList args.toList ds p := hA0
  have hsz : (DataW.weightsEach Try.prog (Try.f6.params.toList ++ Rows.nameInsideSpec.plain.varTypes Try.prog) (ds ++ gs)).all (· ≤ reachBytes) = true := hsz0
  rw [Try.params6] at hA hval hsz
  obtain ⟨v0, vs0, d0, ds0, p0, q0, hargs, rfl, rfl, h0, r0⟩ := trodAll_cons hA
  obtain ⟨v1, vs1, d1, ds1, p1, q1, rfl, rfl, rfl, h1, r1⟩ := trodAll_cons r0
  obtain ⟨v2, vs2, d2, ds2, p2, q2, rfl, rfl, rfl, h2, r2⟩ := trodAll_cons r1
  obtain ⟨rfl, rfl, rfl⟩ := trodAll_nil r2
  obtain rfl : args = #[v0, v1, v2] := by cases args; simp_all
  obtain ⟨rfl, rfl⟩ := trodVars_none hV
  have k0 := h0
  have lt0 : ∀ x ∈ p0, x.block < W.heap.size := by obtain ⟨m, hm⟩ := k0; exact DataW.trod_lt m _ _ _ hm
  obtain ⟨s0, rfl, rfl, w0⟩ := open_str (hval 0 9 v0 rfl rfl) h0 (fun x hx => by simpa using List.all_eq_true.1 hsz x (DataW.weights_mem_each (j := 0) (t := 9) rfl rfl x hx))
  have k1 := h1
  have lt1 : ∀ x ∈ p1, x.block < W.heap.size := by obtain ⟨m, hm⟩ := k1; exact DataW.trod_lt m _ _ _ hm
  obtain ⟨s1, rfl, rfl, w1⟩ := open_str (hval 1 9 v1 rfl rfl) h1 (fun x hx => by simpa using List.all_eq_true.1 hsz x (DataW.weights_mem_each (j := 1) (t := 9) rfl rfl x hx))
  have k2 := h2
  have lt2 : ∀ x ∈ p2, x.block < W.heap.size := by obtain ⟨m, hm⟩ := k2; exact DataW.trod_lt m _ _ _ hm
  obtain ⟨s2, rfl, rfl, w2⟩ := open_str (hval 2 9 v2 rfl rfl) h2 (fun x hx => by simpa using List.all_eq_true.1 hsz x (DataW.weights_mem_each (j := 2) (t := 9) rfl rfl x hx))
  clear hA0 hval0
  refine (walk s0 s1 s2 W w0 w1 w2).mono fun e W' ⟨he, bel⟩ => ?_
  subst he
  exact ⟨_, rfl, _, _, _, [], _, [], hW', trodAll_mk1 (shut_bool Try.underlying4 _), (trodAll_cons_mk (Below.trod laidOut (by kernel_rfl) (of_decide_eq_true (by kernel_rfl)) k0 bel lt0) (trodAll_cons_mk (Below.trod laidOut (by kernel_rfl) (of_decide_eq_true (by kernel_rfl)) k1 bel lt1) (trodAll_cons_mk (Below.trod laidOut (by kernel_rfl) (of_decide_eq_true (by kernel_rfl)) k2 bel lt2) trodAll_mk0))), rfl, bel.frame _, fun h => by cases h⟩

theorem over : Rows.nameInsideRow.holds Try.pinned (OpenSpec.ofChange Rows.nameInsideSpec) :=
  OpenClaim.holds_of_wide 6 Try.f6 rfl rfl rfl rfl rfl rfl rfl ⟨rfl, rfl, rfl, rfl, rfl⟩ rfl rfl rfl rfl rfl (by kernel_rfl) Try.func6 (by kernel_rfl)
    (of_decide_eq_true (by kernel_rfl)) (by unfold Func.isWrapper; first | (rw [if_pos (by decide +kernel)]; kernel_rfl) | (rw [if_neg (by decide +kernel)]; exact ⟨rfl, rfl⟩))
    (fun os started H enc _ => lifted os started H enc)

theorem proved : Rows.NameInsideSaid := over
#print axioms proved
end Go.Proofs.Ytpkdnockbbppiab.nameInside
