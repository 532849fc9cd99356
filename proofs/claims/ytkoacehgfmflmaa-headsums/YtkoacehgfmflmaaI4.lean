/- The document's own Put, Full, Blank and first, of layer 10. -/
import Derived.Test.YtkoacehgfmflmaaI3
import Derived.Test.YtkoacehgfmflmaaJ9
namespace Go.Proofs.Ytkoacehgfmflmaa
open Go.RowKit Go.Deep
set_option linter.unusedVariables false
set_option linter.unusedSimpArgs false

/-- texts of a head that are not too long for any machine -/
structure Hd.Small (h : Hd.Hdr) : Prop where
  name : h.name.length ≤ 4611686018427387904
  link : h.link.length ≤ 4611686018427387904
  pre : h.pre.length ≤ 4611686018427387904
set_option maxRecDepth 100000 in
theorem rPut_any (h : Hd.Hdr) (hsm : Hd.Small h) (w : World) : Calls Try.prog 10 #[.agg (Hd.hv h)] w fun e w' =>
    (Hd.may h ≠ 0 → e = .returned (.tuple #[.slice none 0 0, .int .i64 ((Hd.may h : Nat) : Int)])) ∧ (Hd.may h = 0 → ∃ v, e = .returned (.tuple #[v, .int .i64 0]) ∧ GB w' w.heap.size v (Hd.layB h)) ∧ Bw w w' := by
  have hih := info_head h
  obtain ⟨W1, hW1⟩ : ∃ V, V = w.alloc (.cells (Hd.hv h) 23) := ⟨_, rfl⟩
  have hH1 : HeadAt W1 w.heap.size h := by rw [hW1]; exact heap_alloc_new _ _
  have hb1 : Bw w W1 := by rw [hW1]; exact bw_alloc7 (Bw.refl _) _
  obtain ⟨M, hM⟩ : ∃ M, Hid (M = Hd.may h) := ⟨_, rfl⟩
  rw [← hM.out]
  by_cases hm : M = 0
  · have HG : Hid (Hd.Good h) := Hd.may_good (h := h) (by rw [← hM.out]; exact hm)
    subst hm
    go_enter Try.func10, Try.ntmps10
    go_wp2_with (first
      | (rw [← hW1]; clear hW1; refine wpList_load_row rfl 23 _ rfl w.heap.size rfl 23 (Hd.hv h) (0, 0) _ hH1 Try.underlying23 rfl hih ?_)
      | (go_at_call 29; refine (rMay_any h hsm.name hsm.link hsm.pre _).mono ?_; rintro e w1 ⟨rfl, hw1⟩; rw [← hM.out]; have hH2 := hH1.keep hw1)
      | (refine wpList_load_row rfl 23 _ rfl w.heap.size rfl 23 (Hd.hv h) (0, 0) _ hH2 Try.underlying23 rfl hih ?_)
      | (go_at_call 30; refine (rlay_any h HG.out _).mono ?_; rintro e w2 ⟨v2, rfl, g2, hw2⟩))
    go_ret2
    have hb2 := hb1.trans hw1
    exact ⟨fun h => absurd rfl h, fun _ => ⟨v2, rfl, g2.lower hb2.size⟩, hb2.trans hw2⟩
  · have HM : Hid (M ≠ 0) := hm
    have e1 : ((M : Int) != 0) = true := by rw [bne_iff_ne]; omega
    clear hm
    go_enter Try.func10, Try.ntmps10
    go_wp2_with (first
      | (rw [← hW1]; clear hW1; refine wpList_load_row rfl 23 _ rfl w.heap.size rfl 23 (Hd.hv h) (0, 0) _ hH1 Try.underlying23 rfl hih ?_)
      | (go_at_call 29; refine (rMay_any h hsm.name hsm.link hsm.pre _).mono ?_; rintro e w1 ⟨rfl, hw1⟩; rw [← hM.out]))
    go_ret2
    exact ⟨fun _ => rfl, fun h => absurd h HM.out, hb1.trans hw1⟩
set_option maxRecDepth 100000 in
theorem rFull_any (n p k : ByteArray) (mode size time c : Int) (hs : p.size + 1 + n.size ≤ 9223372036854775807) (w : World) :
    Calls Try.prog 13 #[.agg #[.string n, .string p, .int .i64 mode, .int .i64 size, .int .i64 time, .int .u8 c, .string k]] w fun e w' => e = .returned (.string (Hd.full n p)) ∧ Bw w w' := by
  unfold Hd.full
  have s1 : ¬ 9223372036854775807 < p.size + 1 := by omega
  have s2 : ¬ 9223372036854775807 < p.size + 1 + n.size := by omega
  cases hp : p.toList == [] with
  | true =>
    go_enter Try.func13, Try.ntmps13
    go_wp2
    go_ret
    exact ⟨rfl, bw_alloc7 (Bw.refl _) _⟩
  | false =>
    go_enter Try.func13, Try.ntmps13
    go_wp2
    go_ret
    exact ⟨rfl, bw_alloc7 (Bw.refl _) _⟩
theorem Hd.zeros_at {l : Hd.B} (hl : l.length = 512) (h : ∀ i, i < 512 → Hd.rowF l i = 0) : l = Hd.zeros := by
  apply Hd.rowF_ext
  · rw [hl, zeros_len]
  · intro i hi
    rw [h i (by omega)]
    unfold Hd.rowF Hd.zeros
    rw [List.getD_eq_getElem?_getD, List.getElem?_replicate]
    split <;> rfl
theorem Hd.zeros_row (i : Nat) : Hd.rowF Hd.zeros i = 0 := by
  unfold Hd.rowF Hd.zeros
  rw [List.getD_eq_getElem?_getD, List.getElem?_replicate]
  split <;> rfl
set_option maxHeartbeats 1000000 in
theorem rBlank_any (A : Option Addr) (n ca : Nat) (l : Hd.B) (hl : l.length = n) (hn : n ≤ 4611686018427387904) (w : World) (hr : RowAt w A n (Hd.rowF l)) :
    Calls Try.prog 22 #[.slice A n ca] w fun e w' => e = .returned (.bool (l == Hd.zeros)) ∧ w' = w := by
  obtain ⟨R, hR⟩ : ∃ R, Hid (R = (l == Hd.zeros)) := ⟨_, rfl⟩
  rw [← hR.out]
  have HL : Hid (l.length = n) := hl
  clear hl
  go_enter Try.func22, Try.ntmps22
  go_wp2
  go_loop [2, 3] (fun r i => ∃ k : Nat, k ≤ n ∧ r = .bool false ∧ i = .int .i64 (k : Int) ∧ Hid (∀ j, j < k → Hd.rowF l j = 0)) (fun _ i => n - (intOf i).toNat)
  case atStart => exact ⟨0, Nat.zero_le _, rfl, rfl, fun j hj => by omega⟩
  case round =>
    obtain ⟨k, hk, rfl, rfl, hall⟩ := hrel
    have k0 : (0 : Int) ≤ (k : Int) := Int.natCast_nonneg _
    by_cases hlt : k < n
    · obtain ⟨b, o, rfl, hc⟩ := hr.at hlt
      have c1 := hc k hlt
      have t1 : (k : Int) < (n : Int) := by omega
      clear hc
      by_cases hz : Hd.rowF l k = 0
      · have HZ : Hid (Hd.rowF l k = 0) := hz
        rw [hz] at c1
        clear hz
        go_wp2
        go_round
        case rel => exact ⟨k + 1, by omega, rfl, by go_num, fun j hj => by rcases Nat.lt_or_ge j k with h1 | h1; exact hall.out j h1; rw [show j = k by omega]; exact HZ.out⟩
        case measure => simp [intOf]; omega
      · have e1 : (Hd.rowF l k != 0) = true := by rw [bne_iff_ne]; exact hz
        have HR : Hid (R = false) := by
          show _ = _
          rw [hR.out, beq_eq_false_iff_ne]
          intro e
          rw [e, Hd.zeros_row] at hz
          exact hz rfl
        clear hz
        go_wp2
        go_ret
        exact ⟨by rw [HR.out]; rfl, rfl⟩
    · have ek : k = n := by omega
      subst ek
      have t1 : ¬ (k : Int) < (k : Int) := by omega
      by_cases h5 : k = 512
      · have e5 : ((k : Int) == 512) = true := by rw [beq_iff_eq]; omega
        have HR : Hid (R = true) := by
          show _ = _
          rw [hR.out, beq_iff_eq]
          exact Hd.zeros_at (by rw [HL.out]; exact h5) (fun i hi => hall.out i (by omega))
        clear h5
        go_wp2
        go_ret
        exact ⟨by rw [HR.out]; first | rfl | exact ret_bool e5, rfl⟩
      · have e5 : ((k : Int) == 512) = false := by rw [beq_eq_false_iff_ne]; omega
        have HR : Hid (R = false) := by
          show _ = _
          rw [hR.out, beq_eq_false_iff_ne]
          intro e
          have := HL.out
          rw [e, zeros_len] at this
          exact h5 this.symm
        clear h5
        go_wp2
        go_ret
        exact ⟨by rw [HR.out]; first | rfl | exact ret_bool e5, rfl⟩
end Go.Proofs.Ytkoacehgfmflmaa
