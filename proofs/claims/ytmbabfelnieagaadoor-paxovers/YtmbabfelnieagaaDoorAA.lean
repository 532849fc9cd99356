/- The document's own long (of tabularyref09): the number that bytes begin with. -/
import Derived.Test.YtmbabfelnieagaaDoorA9
namespace Go.Proofs.YtmbabfelnieagaaDoor
open Go.RowKit Go.Deep
set_option linter.unusedVariables false
set_option linter.unusedSimpArgs false

namespace Px
theorem val_lt : ∀ (n : Nat) (s : B), s.length = n → (∀ c ∈ s, isD c = true) → val s < 10 ^ n := by
  intro n
  induction n with
  | zero =>
    intro s h _
    rw [List.eq_nil_of_length_eq_zero h]
    decide
  | succ n ih =>
    intro s h hd
    obtain ⟨r, c, rfl⟩ : ∃ r c, s = r ++ [c] := ⟨_, _, (List.dropLast_concat_getLast (by intro e; rw [e] at h; simp at h)).symm⟩
    rw [List.length_append, List.length_singleton] at h
    have h1 := ih r (by omega) (fun x hx => hd x (List.mem_append_left _ hx))
    have h2 := hd c (by simp)
    unfold isD at h2
    rw [decide_eq_true_iff] at h2
    rw [val_snoc, Nat.pow_succ]
    omega
theorem tw_end {b : B} {d : Nat} (hd : ∀ c ∈ b.take d, isD c = true) (hl : d ≤ b.length) (he : ∀ c, b[d]? = some c → isD c = false) : b.takeWhile isD = b.take d := by
  rcases Nat.lt_or_ge d b.length with h | h
  · conv => lhs; rw [← List.take_append_drop d b, List.drop_eq_getElem_cons h]
    exact takeWhile_stop isD _ _ _ hd (he _ (List.getElem?_eq_getElem h))
  · have e : b.take d = b := List.take_of_length_le h
    rw [e] at hd ⊢
    exact takeWhile_whole isD b hd
theorem tw_more {b : B} : ∀ (d : Nat), (∀ c ∈ b.take d, isD c = true) → d ≤ b.length → d ≤ (b.takeWhile isD).length := by
  induction b with
  | nil => intro d _ h; simpa using h
  | cons a b ih =>
    intro d hd h
    cases d with
    | zero => exact Nat.zero_le _
    | succ d =>
      have ha : isD a = true := hd a (by simp)
      rw [List.takeWhile_cons, if_pos ha, List.length_cons]
      have := ih d (fun c hc => hd c (by rw [List.take_succ_cons]; exact List.mem_cons_of_mem _ hc)) (by simpa using h)
      omega
theorem tw_head {b : B} {d : Nat} (h : b.takeWhile isD = b.take d) (hd : 0 < d) : (b.takeWhile isD).head? = b.head? := by
  rw [h]
  cases b with
  | nil => simp
  | cons a b =>
    cases d with
    | zero => omega
    | succ d => rfl
theorem take_snoc {b : B} {d : Nat} {c : UInt8} (h : b[d]? = some c) : b.take (d + 1) = b.take d ++ [c] := by rw [List.take_add_one, h]; rfl
theorem rowF_at {b : B} {i : Nat} {c : UInt8} (h : b[i]? = some c) : rowF b i = (c.toNat : Int) := by
  unfold rowF
  rw [List.getD_eq_getElem?_getD, h]; rfl
end Px
set_option maxRecDepth 100000 in
set_option maxHeartbeats 1000000 in
theorem rlong_any (A : Option Addr) (cap : Nat) (b : Px.B) (hn : b.length ≤ 4611686018427387904) (w : World) (ha : RowAt w A b.length (Px.rowF b)) :
    Calls Tryd.prog 45 #[.slice A b.length cap] w fun e w' => e = .returned (.tuple #[.int .i64 ((Px.longF b).1 : Int), .int .i64 ((Px.longF b).2 : Int)]) ∧ w' = w := by
  obtain ⟨rA, rE, hR⟩ : ∃ a b', Hid (Px.longF b = (a, b')) := ⟨_, _, show Px.longF b = _ from rfl⟩
  rw [hR.out]
  dsimp only
  obtain ⟨n, hnn⟩ : ∃ n, Hid (b.length = n) := ⟨_, rfl⟩
  rw [hnn.out] at hn ha ⊢
  have HA : Hid (RowAt w A n (Px.rowF b)) := ha
  clear ha
  go_enter Tryd.func45, Tryd.ntmps45
  go_wp2
  go_loop [4, 5] (fun m i => ∃ d v : Nat, d ≤ n ∧ d ≤ 4 ∧ v ≤ 9999 ∧ m = .int .i64 (v : Int) ∧ i = .int .i64 (d : Int) ∧ Hid (Px.val (b.take d) = v) ∧ Hid (∀ c ∈ b.take d, Px.isD c = true) ∧ Hid (0 < d → b.head? ≠ some 48)) (fun _ i => n - (intOf i).toNat)
  case atStart => exact ⟨0, 0, Nat.zero_le _, by omega, by omega, rfl, rfl, by show _ = _; rfl, fun c hc => by simp at hc, fun h => absurd h (Nat.lt_irrefl 0)⟩
  case round =>
    obtain ⟨d, v, hd, hd4, hv, rfl, rfl, hval, hdig, hhead⟩ := hrel
    have d0 : (0 : Int) ≤ (d : Int) := Int.natCast_nonneg _
    have v0 : (0 : Int) ≤ (v : Int) := Int.natCast_nonneg _
    have hdl : d ≤ b.length := by rw [hnn.out]; exact hd
    by_cases hlt : d < n
    · have d1 : (d : Int) < (n : Int) := by omega
      obtain ⟨c, hc⟩ : ∃ c, Hid (b[d]? = some c) := ⟨_, List.getElem?_eq_getElem (by rw [hnn.out]; exact hlt)⟩
      obtain ⟨B, off, rfl, hcell⟩ := HA.out.at hlt
      have q1 := hcell d hlt
      rw [Px.rowF_at hc.out] at q1
      obtain ⟨z, hz⟩ : ∃ z, Hid (c.toNat = z) := ⟨_, rfl⟩
      rw [hz.out] at q1
      have hzb : z < 256 := by rw [← hz.out]; exact c.toNat_lt
      by_cases hdg : 48 ≤ z ∧ z ≤ 57
      · have t1 : (48 : Int) ≤ (z : Int) := by omega
        have t2 : (z : Int) ≤ 57 := by omega
        have hisd : Hid (Px.isD c = true) := by show _ = _; unfold Px.isD; rw [hz.out]; exact decide_eq_true hdg
        have hdig2 : Hid (∀ x ∈ b.take (d + 1), Px.isD x = true) := fun x hx => by
          rw [Px.take_snoc hc.out] at hx
          rcases List.mem_append.1 hx with hx | hx
          · exact hdig.out x hx
          · rw [List.mem_singleton.1 hx]; exact hisd.out
        have hval2 : Hid (Px.val (b.take (d + 1)) = 10 * v + (z - 48)) := by show _ = _; rw [Px.take_snoc hc.out, Px.val_snoc, hval.out, hz.out]
        by_cases h4 : d = 4
        · have hr := hR.out
          unfold Px.longF at hr
          have h5 := Px.tw_more 5 (by rw [h4] at hdig2; exact hdig2.out) (by rw [hnn.out]; omega)
          rw [if_pos (.inr (.inl (by omega))), Prod.mk.injEq] at hr
          obtain ⟨rfl, rfl⟩ := hr
          have e4 : ((d : Int) == 4) = true := by rw [beq_iff_eq]; omega
          clear h4 h5 hcell
          go_wp2
          go_ret2
          exact ⟨rfl, rfl⟩
        · have e4 : ((d : Int) == 4) = false := by rw [beq_eq_false_iff_ne]; omega
          have h100 : v < 1000 := by
            have := Px.val_lt d (b.take d) (by rw [List.length_take]; omega) hdig.out
            rw [hval.out] at this
            have h3 : 10 ^ d ≤ 10 ^ 3 := Nat.pow_le_pow_right (by decide) (by omega)
            omega
          rcases Nat.eq_zero_or_pos d with hd0 | hd0
          · subst hd0
            have q2 := hcell 0 hlt
            rw [Px.rowF_at hc.out, hz.out, Nat.add_zero] at q2
            clear q1
            by_cases h48 : z = 48
            · have hr := hR.out
              unfold Px.longF at hr
              have hb : b.head? = some 48 := by rw [List.head?_eq_getElem?, hc.out]; congr 1; exact UInt8.toNat_inj.1 (by rw [hz.out, h48]; rfl)
              have h5 := Px.tw_more 1 hdig2.out (by rw [hnn.out]; omega)
              have h6 : (b.takeWhile Px.isD).head? = some 48 := by
                cases b with
                | nil => simp at hb
                | cons x t =>
                  have hx : Px.isD x = true := hdig2.out x (by simp)
                  rw [List.takeWhile_cons, if_pos hx]
                  simpa using hb
              rw [if_pos (.inr (.inr (.inl h6))), Prod.mk.injEq] at hr
              obtain ⟨rfl, rfl⟩ := hr
              subst h48
              clear hcell hb h5 h6
              go_wp2
              go_ret2
              exact ⟨rfl, rfl⟩
            · have e48 : ((z : Int) == 48) = false := by rw [beq_eq_false_iff_ne]; omega
              have hh2 : Hid (0 < 0 + 1 → b.head? ≠ some 48) := fun _ hb => by
                rw [List.head?_eq_getElem?, hc.out, Option.some.injEq] at hb
                exact h48 (by rw [← hz.out, hb]; rfl)
              clear hcell h48
              go_wp2
              go_round
              case rel => exact ⟨0 + 1, 10 * v + (z - 48), by omega, by omega, by omega, by go_num, by go_num, hval2, hdig2, hh2⟩
              case measure => simp [intOf]; omega
          · have e0 : ((d : Int) == 0) = false := by rw [beq_eq_false_iff_ne]; omega
            have hh2 : Hid (0 < d + 1 → b.head? ≠ some 48) := fun _ => hhead.out hd0
            clear hcell
            go_wp2
            go_round
            case rel => exact ⟨d + 1, 10 * v + (z - 48), by omega, by omega, by omega, by go_num, by go_num, hval2, hdig2, hh2⟩
            case measure => simp [intOf]; omega
      · have hnd : Hid (Px.isD c = false) := by show _ = _; unfold Px.isD; rw [hz.out]; exact decide_eq_false hdg
        have htw : b.takeWhile Px.isD = b.take d := Px.tw_end hdig.out hdl (fun x hx => by rw [hc.out, Option.some.injEq] at hx; rw [← hx]; exact hnd.out)
        have hlen : (b.takeWhile Px.isD).length = d := by rw [htw, List.length_take]; omega
        have hr := hR.out
        unfold Px.longF at hr
        by_cases hd0 : d = 0
        · rw [if_pos (.inl (by omega)), Prod.mk.injEq] at hr
          obtain ⟨rfl, rfl⟩ := hr
          have e0 : ((d : Int) == 0) = true := by rw [beq_iff_eq]; omega
          clear hcell htw hlen
          by_cases ha : 48 ≤ z
          · have t1 : (48 : Int) ≤ (z : Int) := by omega
            have t2 : (57 : Int) < (z : Int) := by omega
            clear hdg hd0
            go_wp2
            go_ret2
            exact ⟨rfl, rfl⟩
          · have t1 : (z : Int) < 48 := by omega
            clear hdg hd0 ha
            go_wp2
            go_ret2
            exact ⟨rfl, rfl⟩
        · have e0 : ((d : Int) == 0) = false := by rw [beq_eq_false_iff_ne]; omega
          have en : ((d : Int) == (n : Int)) = false := by rw [beq_eq_false_iff_ne]; omega
          have hhd : (b.takeWhile Px.isD).head? ≠ some 48 := by rw [Px.tw_head htw (by omega)]; exact hhead.out (by omega)
          by_cases h32 : z = 32
          · have hb : b[d]? = some 32 := by rw [hc.out]; congr 1; exact UInt8.toNat_inj.1 (by rw [hz.out, h32]; rfl)
            rw [if_neg (by
              rintro (h | h | h | h)
              · omega
              · omega
              · exact hhd h
              · rw [hlen] at h; exact h hb), htw, hval.out, List.length_take, hnn.out, Nat.min_eq_left hd, Prod.mk.injEq] at hr
            obtain ⟨rfl, rfl⟩ := hr
            subst h32
            clear hcell htw hlen hhd hb hdg
            go_wp2
            go_ret2
            exact ⟨rfl, rfl⟩
          · have hb : b[(b.takeWhile Px.isD).length]? ≠ some 32 := by
              rw [hlen, hc.out]
              intro h
              rw [Option.some.injEq] at h
              exact h32 (by rw [← hz.out, h]; rfl)
            rw [if_pos (.inr (.inr (.inr hb))), Prod.mk.injEq] at hr
            obtain ⟨rfl, rfl⟩ := hr
            have e32 : ((z : Int) != 32) = true := by rw [bne_iff_ne]; omega
            clear htw hlen hhd hb hcell
            by_cases ha : 48 ≤ z
            · have t1 : (48 : Int) ≤ (z : Int) := by omega
              have t2 : (57 : Int) < (z : Int) := by omega
              clear hdg hd0 h32
              go_wp2
              go_ret2
              exact ⟨rfl, rfl⟩
            · have t1 : (z : Int) < 48 := by omega
              clear hdg hd0 ha h32
              go_wp2
              go_ret2
              exact ⟨rfl, rfl⟩
    · have ed : d = n := by omega
      have htw : b.takeWhile Px.isD = b.take d := Px.tw_end hdig.out hdl (fun x hx => by have := (List.getElem?_eq_some_iff.1 hx).1; rw [hnn.out] at this; omega)
      have hlen : (b.takeWhile Px.isD).length = d := by rw [htw, List.length_take]; omega
      have hr := hR.out
      unfold Px.longF at hr
      rw [if_pos (.inr (.inr (.inr (by rw [hlen, List.getElem?_eq_none (by rw [hnn.out]; omega)]; simp)))), Prod.mk.injEq] at hr
      obtain ⟨rfl, rfl⟩ := hr
      clear htw hlen
      subst ed
      by_cases hd0 : d = 0
      · have e0 : ((d : Int) == 0) = true := by rw [beq_iff_eq]; omega
        clear hd0
        go_wp2
        go_ret2
        exact ⟨rfl, rfl⟩
      · have e0 : ((d : Int) == 0) = false := by rw [beq_eq_false_iff_ne]; omega
        clear hd0
        go_wp2
        go_ret2
        exact ⟨rfl, rfl⟩
end Go.Proofs.YtmbabfelnieagaaDoor
