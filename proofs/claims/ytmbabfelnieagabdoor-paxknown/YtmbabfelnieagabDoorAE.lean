/- The statements' helpers of layer 9: the same bytes, the same pairs. -/
import Derived.Test.YtmbabfelnieagabDoorAD
import Derived.Laws.StructEq
namespace Go.Proofs.YtmbabfelnieagabDoor
open Go.RowKit Go.Deep
set_option linter.unusedVariables false
set_option linter.unusedSimpArgs false

theorem drewN_add9 (w : World) (q : Nat) : ∀ n, (w.drewN q).drewN n = w.drewN (q + n)
  | 0 => rfl
  | n + 1 => by show ((w.drewN q).drewN n).drew = (w.drewN (q + n)).drew; rw [drewN_add9 w q n]
theorem list_ext9 {α : Type} {a b : List α} (hl : a.length = b.length) (h : ∀ (i : Nat) (x y : α), i < a.length → a[i]? = some x → b[i]? = some y → x = y) : a = b := by
  refine List.ext_getElem hl fun i h1 h2 => ?_
  exact h i _ _ h1 (List.getElem?_eq_getElem h1) (List.getElem?_eq_getElem h2)
/-- '==' of two pairs -/
theorem equalIn_pair (W : World) (a b c e : ByteArray) : (Op.equalIn 10000 23 (.agg #[.string a, .string b]) (.agg #[.string c, .string e])).run Tryd.prog W = .ok (a.toList == c.toList && b.toList == e.toList) W := by
  rw [run_equalIn_struct W 9999 23 _ _ (by kernel_rfl) (by kernel_rfl)]
  cases h1 : (a.toList == c.toList) <;> cases h2 : (b.toList == e.toList) <;> simp [go_sem, Op.eqFields, h1, h2]
theorem neq_pair (W : World) (x y : Px.Pr) : (binOp .neq 23 (.agg #[.string (Nm.S x.1), .string (Nm.S x.2)]) (.agg #[.string (Nm.S y.1), .string (Nm.S y.2)])).run Tryd.prog W = .ok (.bool (decide (x ≠ y))) W := by
  rw [run_neq_struct, equalIn_pair, Px.S_eql, Px.S_eql]
  show Result.ok (Value.bool _) W = _
  congr 2
  obtain ⟨x1, x2⟩ := x
  obtain ⟨y1, y2⟩ := y
  by_cases h1 : x1 = y1 <;> by_cases h2 : x2 = y2 <;> simp [h1, h2]
theorem eql_pair (W : World) (x y : Px.Pr) : (binOp .eql 23 (.agg #[.string (Nm.S x.1), .string (Nm.S x.2)]) (.agg #[.string (Nm.S y.1), .string (Nm.S y.2)])).run Tryd.prog W = .ok (.bool (decide (x = y))) W := by
  rw [run_eql_struct, equalIn_pair, Px.S_eql, Px.S_eql]
  show Result.ok (Value.bool _) W = _
  congr 2
  obtain ⟨x1, x2⟩ := x
  obtain ⟨y1, y2⟩ := y
  by_cases h1 : x1 = y1 <;> by_cases h2 : x2 = y2 <;> simp [h1, h2]
set_option maxHeartbeats 1000000 in
theorem pairs9_any (A B : Option Addr) (ca cb : Nat) (a b : List Px.Pr) (hn : a.length ≤ 4611686018427387904) (hm : b.length ≤ 4611686018427387904) (w : World) (ha : PrsAt w A a) (hb : PrsAt w B b) :
    Calls Tryd.prog 13 #[.slice A a.length ca, .slice B b.length cb] w fun e w' => e = .returned (.bool (decide (a = b))) ∧ ∃ q, w' = w.drewN q := by
  have HA : Hid (PrsAt w A a) := ha
  have HB : Hid (PrsAt w B b) := hb
  clear ha hb
  obtain ⟨n, hnn⟩ : ∃ n, Hid (a.length = n) := ⟨_, rfl⟩
  obtain ⟨m, hmm⟩ : ∃ m, Hid (b.length = m) := ⟨_, rfl⟩
  rw [hnn.out] at hn
  rw [hmm.out] at hm
  rw [hnn.out, hmm.out]
  obtain ⟨R, hR⟩ : ∃ R, Hid (decide (a = b) = R) := ⟨_, rfl⟩
  rw [hR.out]
  by_cases hnm : n = m
  · subst hnm
    have e1 : ((n : Int) != (n : Int)) = false := by rw [bne_eq_false_iff_eq]
    go_enter Tryd.func13, Tryd.ntmps13
    go_wp2
    go_loopw [4, 5] (fun r i wr => ∃ (k q : Nat), k ≤ n ∧ r = .bool false ∧ i = .int .i64 (k : Int) ∧ Hid (∀ (i : Nat) (x y : Px.Pr), i < k → a[i]? = some x → b[i]? = some y → x = y) ∧ Hid (wr = w.drewN q)) (fun _ i _ => n - (intOf i).toNat)
    case atStart => exact ⟨0, 0, Nat.zero_le _, rfl, rfl, fun i x y hi => by omega, rfl⟩
    case round =>
      obtain ⟨k, q, hk, rfl, rfl, hall, hq⟩ := hrel
      have k0 : (0 : Int) ≤ (k : Int) := Int.natCast_nonneg _
      have hbw : Bw w wr := by rw [hq.out]; exact Bw.drewN w q
      by_cases hlt : k < n
      · obtain ⟨b1, o1, rfl, hc1⟩ := (HA.out.keep hbw).at (by rw [hnn.out]; omega)
        obtain ⟨b2, o2, rfl, hc2⟩ := (HB.out.keep hbw).at (by rw [hmm.out]; omega)
        obtain ⟨x, hx⟩ : ∃ x, Hid (a[k]? = some x) := ⟨_, List.getElem?_eq_getElem (by rw [hnn.out]; exact hlt)⟩
        obtain ⟨y, hy⟩ : ∃ x, Hid (b[k]? = some x) := ⟨_, List.getElem?_eq_getElem (by rw [hmm.out]; exact hlt)⟩
        obtain ⟨c1, c1'⟩ := hc1 k x hx.out
        obtain ⟨c2, c2'⟩ := hc2 k y hy.out
        have hneq := fun W => neq_pair W x y
        have t1 : (k : Int) < (n : Int) := by omega
        have hq2 : Hid (∀ nq, wr.drewN nq = w.drewN (q + nq)) := fun nq => by rw [hq.out]; exact drewN_add9 w q nq
        clear hc1 hc2
        by_cases hfg : x = y
        · rw [show decide (x ≠ y) = false from decide_eq_false (fun h => h hfg)] at hneq
          have hH : Hid (∀ (i : Nat) (x y : Px.Pr), i < k + 1 → a[i]? = some x → b[i]? = some y → x = y) := fun i x' y' hi h1 h2 => by
            rcases Nat.lt_or_ge i k with h | h
            · exact hall.out i x' y' h h1 h2
            · rw [show i = k by omega] at h1 h2
              rw [hx.out, Option.some.injEq] at h1
              rw [hy.out, Option.some.injEq] at h2
              rw [← h1, ← h2]
              exact hfg
          clear hfg
          go_wp2
          go_quiet (fail)
          go_wp2
          go_roundw
          case rel => exact ⟨k + 1, _, by omega, rfl, by go_num, hH, hq2.out _⟩
          case measure => simp [intOf]; omega
        · rw [show decide (x ≠ y) = true from decide_eq_true hfg] at hneq
          have hans : Hid (R = false) := by
            show _ = _
            rw [← hR.out]
            refine decide_eq_false fun h => hfg ?_
            have h1 := hx.out
            rw [h, hy.out, Option.some.injEq] at h1
            exact h1.symm
          clear hfg
          go_wp2
          go_quiet (fail)
          go_wp2
          go_ret
          exact ⟨ret_bool hans.out.symm, _, hq2.out _⟩
      · have ek : k = n := by omega
        subst ek
        have t1 : ¬ (k : Int) < (k : Int) := by omega
        have hans : Hid (R = true) := by
          show _ = _
          rw [← hR.out]
          exact decide_eq_true (list_ext9 (by rw [hnn.out, hmm.out]) (fun i x y hi => hall.out i x y (by rw [hnn.out] at hi; exact hi)))
        go_wp2
        go_ret
        exact ⟨ret_bool hans.out.symm, q, hq.out⟩
  · have e1 : ((n : Int) != (m : Int)) = true := by rw [bne_iff_ne]; omega
    have hans : Hid (R = false) := by
      show _ = _
      rw [← hR.out]
      exact decide_eq_false fun h => hnm (by rw [← hnn.out, ← hmm.out, h])
    go_enter Tryd.func13, Tryd.ntmps13
    go_wp2
    go_ret
    exact ⟨ret_bool hans.out.symm, 0, rfl⟩
end Go.Proofs.YtmbabfelnieagabDoor
