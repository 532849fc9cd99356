/- The document's own May, of layer 10 (written by mkmay10.py). -/
import Derived.Test.YtkoacehgfmflmaaI1
import Derived.Test.YtkoacehgfmflmaaJ3
import Derived.Deep.CutRange
namespace Go.Proofs.Ytkoacehgfmflmaa
open Go.RowKit Go.Deep
set_option linter.unusedVariables false
set_option linter.unusedSimpArgs false

attribute [local go_sem] List.getElem?_cons_zero Option.getD_some
set_option maxRecDepth 100000 in
set_option maxHeartbeats 8000000 in
theorem rMay_x (n p k : ByteArray) (mode size time : Int) (c : Nat) (HNS : Hid (n.size ≤ 4611686018427387904)) (HKS : Hid (k.size ≤ 4611686018427387904)) (HPS : Hid (p.size ≤ 4611686018427387904)) (T LG NU AR : Bool)
    (hT : (T = true ∧ ¬ Hd.isT c) ∨ (T = false ∧ Hd.isT c)) (hLG : LG = true ↔ (n.size > 100 ∨ k.size > 100 ∨ p.size > 155)) (hNU : NU = true ↔ (Hd.nul n.toList = true ∨ Hd.nul k.toList = true ∨ Hd.nul p.toList = true))
    (hAR : AR = true ↔ (mode < 0 ∨ mode > 4095 ∨ size < 0 ∨ size > 8589934591 ∨ time < 0 ∨ time > 1099511627776)) (w : World) :
    Calls Try.prog 29 #[.agg #[.string n, .string p, .int .i64 mode, .int .i64 size, .int .i64 time, .int .u8 (c : Int), .string k]] w fun e w' => e = .returned (.int .i64 (if T then 102 else if LG then 2 else if NU then 82 else if AR then 1 else 0)) ∧ Bw w w' := by
  obtain ⟨W, hW⟩ : ∃ W, W = w.alloc (.cells #[.string n, .string p, .int .i64 mode, .int .i64 size, .int .i64 time, .int .u8 (c : Int), .string k] 23) := ⟨_, rfl⟩
  have hbw : Bw w W := by rw [hW]; exact bw_alloc7 (Bw.refl _) _
  have hc : ∀ i, W.cell? ⟨w.heap.size, i, none⟩ = (#[.string n, .string p, .int .i64 mode, .int .i64 size, .int .i64 time, .int .u8 (c : Int), .string k] : Array Value)[i]? := fun i => by rw [hW]; exact cell_of_row _ _ i _ _ _ (heap_alloc_new _ _)
  have c0 : W.cell? ⟨w.heap.size, 0, none⟩ = some (.string n) := hc 0
  have c1 : W.cell? ⟨w.heap.size, 1, none⟩ = some (.string p) := hc 1
  have c2 : W.cell? ⟨w.heap.size, 2, none⟩ = some (.int .i64 mode) := hc 2
  have c3 : W.cell? ⟨w.heap.size, 3, none⟩ = some (.int .i64 size) := hc 3
  have c4 : W.cell? ⟨w.heap.size, 4, none⟩ = some (.int .i64 time) := hc 4
  have c5 : W.cell? ⟨w.heap.size, 5, none⟩ = some (.int .u8 (c : Int)) := hc 5
  have c6 : W.cell? ⟨w.heap.size, 6, none⟩ = some (.string k) := hc 6
  have HT : Hid ((T = true ∧ ¬ Hd.isT c) ∨ (T = false ∧ Hd.isT c)) := hT
  have HLG : Hid (LG = true ↔ (n.size > 100 ∨ k.size > 100 ∨ p.size > 155)) := hLG
  have HNU : Hid (NU = true ↔ (Hd.nul n.toList = true ∨ Hd.nul k.toList = true ∨ Hd.nul p.toList = true)) := hNU
  have HAR : Hid (AR = true ↔ (mode < 0 ∨ mode > 4095 ∨ size < 0 ∨ size > 8589934591 ∨ time < 0 ∨ time > 1099511627776)) := hAR
  clear hc hT hLG hNU hAR
  go_enter Try.func29, Try.ntmps29
  go_upto_region 1 with fail
  rw [← hW]
  clear hW
  go_cut [25] from 3 to 25 (fun v wc => v = .bool T ∧ wc = W)
  case first =>
    rcases HT.out with ⟨rfl, h⟩ | ⟨rfl, h⟩
    · unfold Hd.isT at h
      have q1 : ((c : Int) != 48) = true := by rw [bne_iff_ne]; omega
      have q2 : ((c : Int) != 49) = true := by rw [bne_iff_ne]; omega
      have q3 : ((c : Int) != 50) = true := by rw [bne_iff_ne]; omega
      have q4 : ((c : Int) != 53) = true := by rw [bne_iff_ne]; omega
      have q5 : ((c : Int) != 120) = true := by rw [bne_iff_ne]; omega
      clear h
      go_wp2_with fail
      go_meet
      case rel => exact ⟨rfl, rfl⟩
    · rcases h with rfl | rfl | rfl | rfl | rfl
      all_goals
        go_wp2_with fail
        go_meet
        case rel => exact ⟨rfl, rfl⟩
  case rest =>
    obtain ⟨rfl, rfl⟩ := hcut
    clear HT
    cases T with
    | true =>
      go_wp2
      go_ret
      exact ⟨rfl, hbw⟩
    | false =>
    go_upto_region 3 with fail
    go_cut [41] from 26 to 41 (fun v wx => v = .bool LG ∧ wx = wc)
    case first =>
      by_cases a1 : 100 < (n.size : Int)
      · obtain rfl : LG = true := HLG.out.2 (by omega)
        go_wp2_with fail
        go_meet
        case rel => exact ⟨rfl, rfl⟩
      by_cases a2 : 100 < (k.size : Int)
      · obtain rfl : LG = true := HLG.out.2 (by omega)
        go_wp2_with fail
        go_meet
        case rel => exact ⟨rfl, rfl⟩
      by_cases a3 : 155 < (p.size : Int)
      · obtain rfl : LG = true := HLG.out.2 (by omega)
        go_wp2_with fail
        go_meet
        case rel => exact ⟨rfl, rfl⟩
      · obtain rfl : LG = false := by
          cases LG with
          | false => rfl
          | true => have := HLG.out.1 rfl; omega
        go_wp2_with fail
        go_meet
        case rel => exact ⟨by first | rfl | rw [decide_eq_false (by omega)], rfl⟩
    case rest =>
      obtain ⟨rfl, rfl⟩ := hcut
      clear HLG
      cases LG with
      | true =>
        go_wp2
        go_ret
        exact ⟨rfl, hbw⟩
      | false =>
      go_upto_region 5 with fail
      go_cut [54] from 42 to 54 (fun v wx => v = .bool NU ∧ wx = wc)
      case first =>
        cases b1 : Hd.nul n.toList with
        | true =>
          obtain rfl : NU = true := HNU.out.2 (.inl b1)
          go_wp2_with (first | (go_at_call_of 43 n; refine (rnul_any _ HNS.out _).mono ?_; rintro e w' ⟨rfl, hw'⟩; subst w') | (go_at_call_of 43 k; refine (rnul_any _ HKS.out _).mono ?_; rintro e w' ⟨rfl, hw'⟩; subst w') | (go_at_call_of 43 p; refine (rnul_any _ HPS.out _).mono ?_; rintro e w' ⟨rfl, hw'⟩; subst w'))
          go_meet
          case rel => exact ⟨rfl, rfl⟩
        | false =>
        cases b2 : Hd.nul k.toList with
        | true =>
          obtain rfl : NU = true := HNU.out.2 (.inr (.inl b2))
          go_wp2_with (first | (go_at_call_of 43 n; refine (rnul_any _ HNS.out _).mono ?_; rintro e w' ⟨rfl, hw'⟩; subst w') | (go_at_call_of 43 k; refine (rnul_any _ HKS.out _).mono ?_; rintro e w' ⟨rfl, hw'⟩; subst w') | (go_at_call_of 43 p; refine (rnul_any _ HPS.out _).mono ?_; rintro e w' ⟨rfl, hw'⟩; subst w'))
          go_meet
          case rel => exact ⟨rfl, rfl⟩
        | false =>
        cases b3 : Hd.nul p.toList with
        | true =>
          obtain rfl : NU = true := HNU.out.2 (.inr (.inr b3))
          go_wp2_with (first | (go_at_call_of 43 n; refine (rnul_any _ HNS.out _).mono ?_; rintro e w' ⟨rfl, hw'⟩; subst w') | (go_at_call_of 43 k; refine (rnul_any _ HKS.out _).mono ?_; rintro e w' ⟨rfl, hw'⟩; subst w') | (go_at_call_of 43 p; refine (rnul_any _ HPS.out _).mono ?_; rintro e w' ⟨rfl, hw'⟩; subst w'))
          go_meet
          case rel => exact ⟨rfl, rfl⟩
        | false =>
          obtain rfl : NU = false := by
            cases NU with
            | false => rfl
            | true => have := HNU.out.1 rfl; rw [b1, b2, b3] at this; simp at this
          go_wp2_with (first | (go_at_call_of 43 n; refine (rnul_any _ HNS.out _).mono ?_; rintro e w' ⟨rfl, hw'⟩; subst w') | (go_at_call_of 43 k; refine (rnul_any _ HKS.out _).mono ?_; rintro e w' ⟨rfl, hw'⟩; subst w') | (go_at_call_of 43 p; refine (rnul_any _ HPS.out _).mono ?_; rintro e w' ⟨rfl, hw'⟩; subst w'))
          go_meet
          case rel => exact ⟨rfl, rfl⟩
      case rest =>
        obtain ⟨rfl, rfl⟩ := hcut
        clear HNU
        cases NU with
        | true =>
          go_wp2
          go_ret
          exact ⟨rfl, hbw⟩
        | false =>
        go_upto_region 7 with fail
        go_cut [82] from 55 to 82 (fun v wx => v = .bool AR ∧ wx = wc)
        case first =>
          by_cases m0 : mode < 0
          · obtain rfl : AR = true := HAR.out.2 (by omega)
            go_wp2_with fail
            go_meet
            case rel => exact ⟨rfl, rfl⟩
          by_cases m1 : 4095 < mode
          · obtain rfl : AR = true := HAR.out.2 (by omega)
            go_wp2_with fail
            go_meet
            case rel => exact ⟨rfl, rfl⟩
          by_cases s0 : size < 0
          · obtain rfl : AR = true := HAR.out.2 (by omega)
            go_wp2_with fail
            go_meet
            case rel => exact ⟨rfl, rfl⟩
          by_cases s1 : 8589934591 < size
          · obtain rfl : AR = true := HAR.out.2 (by omega)
            go_wp2_with fail
            go_meet
            case rel => exact ⟨rfl, rfl⟩
          by_cases t0 : time < 0
          · obtain rfl : AR = true := HAR.out.2 (by omega)
            go_wp2_with fail
            go_meet
            case rel => exact ⟨rfl, rfl⟩
          by_cases t1 : 1099511627776 < time
          · obtain rfl : AR = true := HAR.out.2 (by omega)
            go_wp2_with fail
            go_meet
            case rel => exact ⟨rfl, rfl⟩
          · obtain rfl : AR = false := by
              cases AR with
              | false => rfl
              | true => have := HAR.out.1 rfl; omega
            go_wp2_with fail
            go_meet
            case rel => exact ⟨by first | rfl | rw [decide_eq_false (by omega)], rfl⟩
        case rest =>
          obtain ⟨rfl, rfl⟩ := hcut
          cases AR with
          | true =>
            go_wp2
            go_ret
            exact ⟨rfl, hbw⟩
          | false =>
            go_wp2
            go_ret
            exact ⟨rfl, hbw⟩
theorem rMay_any (h : Hd.Hdr) (hn : h.name.length ≤ 4611686018427387904) (hk : h.link.length ≤ 4611686018427387904) (hp : h.pre.length ≤ 4611686018427387904) (w : World) : Calls Try.prog 29 #[.agg (Hd.hv h)] w fun e w' => e = .returned (.int .i64 ((Hd.may h : Nat) : Int)) ∧ Bw w w' := by
  have hT := Hd.typ_isT h.typ
  have key : ∀ P : Prop, ∃ b : Bool, (b = true ↔ P) := fun P => by
    by_cases h : P
    · exact ⟨true, ⟨fun _ => h, fun _ => rfl⟩⟩
    · exact ⟨false, ⟨fun e => Bool.noConfusion e, fun e => absurd e h⟩⟩
  obtain ⟨T, hTe⟩ := key (¬ Hd.isT h.typ.toNat)
  obtain ⟨LG, hLG⟩ := key (h.name.length > 100 ∨ h.link.length > 100 ∨ h.pre.length > 155)
  obtain ⟨NU, hNU⟩ := key (Hd.nul h.name = true ∨ Hd.nul h.link = true ∨ Hd.nul h.pre = true)
  obtain ⟨AR, hAR⟩ := key (h.mode < 0 ∨ h.mode > 4095 ∨ h.size < 0 ∨ h.size > 8589934591 ∨ h.time < 0 ∨ h.time > 1099511627776)
  have hm : ((Hd.may h : Nat) : Int) = (if T then 102 else if LG then 2 else if NU then 82 else if AR then 1 else 0) := by
    unfold Hd.may
    have e1 : (h.typ ≠ 48 ∧ h.typ ≠ 49 ∧ h.typ ≠ 50 ∧ h.typ ≠ 53 ∧ h.typ ≠ 120) ↔ T = true := by
      rw [hTe, ← hT]
      constructor
      · rintro ⟨a1, a2, a3, a4, a5⟩ (e | e | e | e | e)
        · exact a1 e
        · exact a2 e
        · exact a3 e
        · exact a4 e
        · exact a5 e
      · intro a
        exact ⟨fun e => a (.inl e), fun e => a (.inr (.inl e)), fun e => a (.inr (.inr (.inl e))), fun e => a (.inr (.inr (.inr (.inl e)))), fun e => a (.inr (.inr (.inr (.inr e))))⟩
    simp only [e1, ← hLG, ← hNU, ← hAR]
    cases T <;> cases LG <;> cases NU <;> cases AR <;> rfl
  rw [hm]
  have e : Hd.hv h = #[.string (Hd.S h.name), .string (Hd.S h.pre), .int .i64 h.mode, .int .i64 h.size, .int .i64 h.time, .int .u8 ((h.typ.toNat : Nat) : Int), .string (Hd.S h.link)] := rfl
  rw [e]
  refine rMay_x (Hd.S h.name) (Hd.S h.pre) (Hd.S h.link) h.mode h.size h.time h.typ.toNat (by rw [Hd.size_S]; exact hn) (by rw [Hd.size_S]; exact hk) (by rw [Hd.size_S]; exact hp) T LG NU AR ?_ (by rw [Hd.size_S, Hd.size_S, Hd.size_S]; exact hLG) (by rw [Hd.toList_S, Hd.toList_S, Hd.toList_S]; exact hNU) hAR w
  cases T with
  | true => exact .inl ⟨rfl, hTe.1 rfl⟩
  | false => exact .inr ⟨rfl, Classical.not_not.1 (fun h => Bool.noConfusion (hTe.2 h))⟩
end Go.Proofs.Ytkoacehgfmflmaa
