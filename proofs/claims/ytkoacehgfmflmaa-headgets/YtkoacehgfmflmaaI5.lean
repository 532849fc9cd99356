/- The document's own first and Get, of layer 10 (written by mkrget10.py). -/
import Derived.Test.YtkoacehgfmflmaaX2
import Derived.Deep.CutRange
namespace Go.Proofs.Ytkoacehgfmflmaa
open Go.RowKit Go.Deep
set_option linter.unusedVariables false
set_option linter.unusedSimpArgs false

theorem Hd.first_at {l : Hd.B} {k : Nat} (h1 : k ≤ l.length) (h2 : ∀ j, j < k → Hd.rowF l j ≠ 0) (h3 : k < l.length → Hd.rowF l k = 0) : Hd.first l = l.take k := by
  have h4 : ∀ c ∈ l.take k, (c != 0) = true := fun c hc => by
    obtain ⟨j, hj⟩ := List.getElem?_of_mem hc
    have hj' := (List.getElem?_eq_some_iff.1 hj).1
    rw [List.length_take] at hj'
    rw [List.getElem?_take, if_pos (by omega)] at hj
    rw [bne_iff_ne]
    intro e
    rw [e] at hj
    exact h2 j (by omega) (by rw [Hd.rowF_at hj]; rfl)
  have := List.takeWhile_append_of_pos (p := fun c : UInt8 => c != 0) (l₂ := l.drop k) h4
  rw [List.take_append_drop] at this
  have h5 : (l.drop k).takeWhile (fun c : UInt8 => c != 0) = [] := by
    rcases Nat.lt_or_ge k l.length with h | h
    · have h6 : l[k] = 0 := by
        have := h3 h
        rw [Hd.rowF_at (List.getElem?_eq_getElem h)] at this
        exact UInt8.toNat_inj.1 (by show l[k].toNat = 0; omega)
      rw [List.drop_eq_getElem_cons h, h6, List.takeWhile_cons_of_neg (by decide)]
    · rw [List.drop_eq_nil_of_le h]; rfl
  rw [h5, List.append_nil] at this
  exact this
set_option maxHeartbeats 1000000 in
theorem rfirst_any (b o n cap : Nat) (l : Hd.B) (hl : l.length = n) (hn : n ≤ 512) (hcap : n ≤ cap) (w : World) (hr : RowAt w (some ⟨b, o, none⟩) n (Hd.rowF l)) :
    Calls Try.prog 34 #[.slice (some ⟨b, o, none⟩) n cap] w fun e w' => e = .returned (.string (Hd.S (Hd.first l))) ∧ w' = w := by
  have HL : Hid (l.length = n) := hl
  have HC : Hid (∀ i, i < n → w.cell? ⟨b, o + i, none⟩ = some (.int .u8 (Hd.rowF l i))) := fun i hi => by
    obtain ⟨b', o', e, hc⟩ := hr.at hi
    cases e
    exact hc i hi
  obtain ⟨F, hF⟩ : ∃ F, Hid (F = Hd.S (Hd.first l)) := ⟨_, rfl⟩
  rw [← hF.out]
  clear hl
  go_enter Try.func34, Try.ntmps34
  go_wp2
  go_loop [3] (fun i => ∃ k : Nat, k ≤ n ∧ i = .int .i64 (k : Int) ∧ Hid (∀ j, j < k → Hd.rowF l j ≠ 0)) (fun i => n - (intOf i).toNat)
  case atStart => exact ⟨0, Nat.zero_le _, rfl, fun j hj => by omega⟩
  case round =>
    obtain ⟨k, hk, rfl, hall⟩ := hrel
    have k0 : (0 : Int) ≤ (k : Int) := Int.natCast_nonneg _
    have kc : (k : Int) ≤ (cap : Int) := by omega
    have cv := conv_row (C := cap) (row_less7 hr (m := k) hk)
    by_cases hlt : k < n
    · have t1 : (k : Int) < (n : Int) := by omega
      have c1 := HC.out k hlt
      by_cases hz : Hd.rowF l k = 0
      · have HF : Hid (str (Hd.rowF l) k = F) := by show _ = _; rw [hF.out, Hd.first_at (k := k) (by rw [HL.out]; exact hk) hall.out (fun _ => hz), Hd.str_take (by rw [HL.out]; exact hk)]
        rw [hz] at c1
        rw [HF.out] at cv
        clear hz
        go_wp2
        go_ret
        exact ⟨rfl, rfl⟩
      · have e1 : (Hd.rowF l k != 0) = true := by rw [bne_iff_ne]; exact hz
        have HZ : Hid (Hd.rowF l k ≠ 0) := hz
        clear hz cv
        go_wp2
        go_round
        case rel => exact ⟨k + 1, by omega, by go_num, fun j hj => by rcases Nat.lt_or_ge j k with h1 | h1; exact hall.out j h1; rw [show j = k by omega]; exact HZ.out⟩
        case measure => simp [intOf]; omega
    · have ek : k = n := by omega
      have HF : Hid (str (Hd.rowF l) k = F) := by show _ = _; rw [hF.out, Hd.first_at (k := k) (by rw [HL.out]; exact hk) hall.out (fun h => by rw [HL.out] at h; omega), Hd.str_take (by rw [HL.out]; exact hk)]
      have t1 : ¬ (k : Int) < (n : Int) := by omega
      rw [HF.out] at cv
      clear ek
      go_wp2
      go_ret
      exact ⟨rfl, rfl⟩
/-- what Exact tells of a field -/
structure Hd.Exa (l : Hd.B) (z : Int) (er : Int) : Prop where
  yes : er = 0 → 0 ≤ z ∧ Hd.Fits z.toNat l.length ∧ Hd.numB z.toNat l.length = l
  no : er ≠ 0 → ∀ m : Nat, Hd.Fits m l.length → Hd.numB m l.length ≠ l
theorem rexact_ex (l : Hd.B) (n : Nat) (hl : l.length = n) (h2 : 2 ≤ n) (h12 : n ≤ 12) : ∃ z er, Hd.Exa l z er ∧ ∀ (A : Option Addr) (ca : Nat) (w : World), n ≤ ca → RowAt w A n (Hd.rowF l) → Calls Try.prog 35 #[.slice A n ca] w fun e w' => e = .returned (.tuple #[.int .i64 z, .int .i64 er]) ∧ Bw w w' := by
  by_cases hex : ∃ m, Hd.Fits m n ∧ Hd.numB m n = l
  · obtain ⟨m, hf, hm⟩ := hex
    refine ⟨(m : Int), 0, ⟨fun _ => ⟨Int.natCast_nonneg _, by rw [hl, Int.toNat_natCast]; exact hf, by rw [hl, Int.toNat_natCast]; exact hm⟩, fun h => absurd rfl h⟩, fun A ca w hca hr => ?_⟩
    have hs := Oct.form_says (n := m) (W := n) h2 h12 hf.2 hf.1
    have hr2 : RowAt w A n (Oct.formF m n) := row_congr10 hr (Oct.formF_bd m n) (fun i hi => by rw [← hm, Hd.rowF_num hi])
    refine (rexact_any A n ca (Oct.formF m n) hca w hr2 _ _ _ hs).mono ?_
    rintro e w1 ⟨hx, hw1⟩
    exact ⟨hx.yes rfl (by rw [Int.toNat_natCast]; exact ⟨hf.2, fun _ _ => rfl⟩), hw1⟩
  · obtain ⟨z, a, er, hs⟩ := says_ex n (Hd.rowF l)
    have hno : ∀ m : Nat, Hd.Fits m l.length → Hd.numB m l.length ≠ l := fun m hf hm => hex ⟨m, by rw [← hl]; exact hf, by rw [← hl]; exact hm⟩
    by_cases h0 : er = 0
    · have hnf : ¬ IsForm n (Hd.rowF l) z.toNat := fun h => by
        obtain ⟨h3, h4, h5, h6⟩ := says_ok (Hd.rowF_bd l) hs h0
        refine hex ⟨z.toNat, ⟨by omega, h.1⟩, Hd.rowF_ext (by rw [Hd.numB_len, hl]) (fun i hi => ?_)⟩
        rw [Hd.numB_len] at hi
        rw [Hd.rowF_num hi, h.2 i hi]
      refine ⟨0, 71, ⟨fun h => absurd h (by decide), fun _ => hno⟩, fun A ca w hca hr => ?_⟩
      refine (rexact_any A n ca (Hd.rowF l) hca w hr _ _ _ hs).mono ?_
      rintro e w1 ⟨hx, hw1⟩
      exact ⟨hx.no h0 hnf, hw1⟩
    · refine ⟨0, er, ⟨fun h => absurd h h0, fun _ => hno⟩, fun A ca w hca hr => ?_⟩
      refine (rexact_any A n ca (Hd.rowF l) hca w hr _ _ _ hs).mono ?_
      rintro e w1 ⟨hx, hw1⟩
      exact ⟨hx.bad h0, hw1⟩
end Go.Proofs.Ytkoacehgfmflmaa
