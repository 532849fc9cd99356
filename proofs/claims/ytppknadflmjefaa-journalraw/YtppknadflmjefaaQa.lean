/- Layer 15: the document's own journal: a head's bytes. -/
import Derived.Test.YtppknadflmjefaaWO
import Derived.Test.YtppknadflmjefaaCI
namespace Go.Proofs.Ytppknadflmjefaa
open Go.RowKit Go.Deep Go.Maps
set_option linter.unusedVariables false
set_option linter.unusedSimpArgs false

theorem results_tmp4 {fn : Func} {t u v x : Tmp} (h : fn.results = #[.tmp t, .tmp u, .tmp v, .tmp x]) (tmps : Array Value) (P : Program) (w : World) :
    (results fn tmps).run P w = .ok (.tuple #[tmps.getD t undef, tmps.getD u undef, tmps.getD v undef, tmps.getD x undef]) w := by
  simp [results, h]
/-- what head tells -/
def headT (h : Jl.Hed) : Value := if h.n = 0 then .tuple #[.int .u64 0, .int .i64 0, .int .i64 0, .bool false] else .tuple #[.int .u64 (h.n : Int), .int .i64 (h.area : Int), .int .i64 (h.len : Int), .bool true]
set_option maxRecDepth 100000 in
set_option maxHeartbeats 4000000 in
theorem rhead_any (b1 o1 m i room : Nat) (b : Nat → Int) (hi : i ≤ 1) (hm : 64 ≤ m) (hr : room ≤ 4294967295) (w : World) (h : RowAt w (some ⟨b1, o1, none⟩) 64 b) :
    Calls Try.prog 56 #[.slice (some ⟨b1, o1, none⟩) 64 m, .int .u64 (i : Int), .int .i64 (room : Int)] w fun e w' => e = .returned (headT (Jl.hed b i room)) ∧ Bw w w' := by
  obtain ⟨b1', o1', e, hc1⟩ := h.at (k := 0) (by omega)
  cases e
  have c8 : w.cell? ⟨b1, o1 + 8, none⟩ = some (.int .u8 (b 8)) := hc1 8 (by omega)
  have hrow : ∀ o n, o + n ≤ 64 → RowAt w (some ⟨b1, o1 + o, none⟩) n (fun i => b (o + i)) := fun o n hn => ⟨Or.inr ⟨b1, o1 + o, rfl, fun i hi => by
    have := hc1 (o + i) (by omega)
    rw [Nat.add_assoc]
    exact this⟩, fun i => h.2 _⟩
  obtain ⟨a, ha⟩ : ∃ a, Hid (Jl.num b 8 = a) := ⟨_, rfl⟩
  obtain ⟨c, hc⟩ : ∃ c, Hid (Jl.num (fun i => b (56 + i)) 8 = c) := ⟨_, rfl⟩
  obtain ⟨l, hl⟩ : ∃ l, Hid (Jl.num (fun i => b (9 + i)) 4 = l) := ⟨_, rfl⟩
  have H8 : Hid (∀ u, Bw w u → Calls Try.prog 76 #[.slice (some ⟨b1, o1, none⟩) 8 m] u fun e w' => e = .returned (.int .u64 (a : Int)) ∧ w' = u) := fun u ku => by
    rw [← ha.out]
    have := hrow 0 8 (by omega)
    simp only [Nat.add_zero, Nat.zero_add] at this
    exact rjnumber_any _ 8 m _ (by omega) _ (this.keep ku)
  have H4 : Hid (∀ u, Bw w u → ∀ q, Calls Try.prog 76 #[.slice (some ⟨b1, o1 + 9, none⟩) 4 q] u fun e w' => e = .returned (.int .u64 (l : Int)) ∧ w' = u) := fun u ku q => by
    rw [← hl.out]
    exact rjnumber_any _ 4 q _ (by omega) _ ((hrow 9 4 (by omega)).keep ku)
  have HL : Hid (∀ u, Bw w u → ∀ q, Calls Try.prog 76 #[.slice (some ⟨b1, o1 + 56, none⟩) 8 q] u fun e w' => e = .returned (.int .u64 (c : Int)) ∧ w' = u) := fun u ku q => by
    rw [← hc.out]
    exact rjnumber_any _ 8 q _ (by omega) _ ((hrow 56 8 (by omega)).keep ku)
  have b8 := h.2 8
  have b80 := b8.1
  have b81 := b8.2
  have ab : a < 18446744073709551616 := by rw [← ha.out]; exact num_lt15 h.2 (by omega)
  have cb : c < 18446744073709551616 := by rw [← hc.out]; exact num_lt15 (fun i => h.2 _) (by omega)
  have lb : l < 18446744073709551616 := by rw [← hl.out]; exact num_lt15 (fun i => h.2 _) (by omega)
  clear hrow b8
  obtain ⟨y, hy⟩ : ∃ y, Hid (b 8 = y) := ⟨_, rfl⟩
  rw [hy.out] at c8 b80 b81
  have HE : Hid (Jl.hed b i room = if a = c ∧ a % 2 = i ∧ y ≤ 1 ∧ l ≤ room then ⟨a, y.toNat, l⟩ else Jl.no) := by
    show _ = _
    unfold Jl.hed
    rw [ha.out, hc.out, hl.out, hy.out]
  have Hzero : Hid ((Jl.hed b i room).n = 0 → headT (Jl.hed b i room) = .tuple #[.int .u64 0, .int .i64 0, .int .i64 0, .bool false]) := fun h => by unfold headT; rw [if_pos h]
  have m1 : (8 : Int) ≤ (m : Int) := by omega
  have m2 : (13 : Int) ≤ (m : Int) := by omega
  have m3 : (64 : Int) ≤ (m : Int) := by omega
  have m4 : ¬ m = 9 := by omega
  have m5 : ¬ m = 56 := by omega
  have yn : (y.toNat : Int) = y := by omega
  clear hc1 h hm
  by_cases h0 : a = 0
  · have hz : (Jl.hed b i room).n = 0 := by
      rw [HE.out]; split
      · exact h0
      · rfl
    have d0 : ((a : Int) == 0) = true := by rw [beq_iff_eq]; omega
    rw [Hzero.out hz]
    clear hz h0 HE
    have tok1 : Hid (w = w) := rfl
    have tok2 : Hid (w = w) := rfl
    go_enter Try.func56, Try.ntmps56
    go_wp2_with (first
      | (go_at_call 76; clear tok1; refine (H8.out _ (Bw.refl _)).mono ?_; rintro e w3 ⟨rfl, hw⟩; obtain rfl := hw.symm)
      | (go_at_call 76; clear tok2; refine (H4.out _ (Bw.refl _) _).mono ?_; rintro e w3 ⟨rfl, hw⟩; obtain rfl := hw.symm)
      | (go_at_call 76; refine (HL.out _ (Bw.refl _) _).mono ?_; rintro e w3 ⟨rfl, hw⟩; obtain rfl := hw.symm))
    refine bodyPost_ret (results_tmp4 rfl _ _ _) rfl ?_
    exact ⟨rfl, Bw.refl _⟩
  · have d0 : ((a : Int) == 0) = false := by rw [beq_eq_false_iff_ne]; omega
    by_cases hac : a = c
    · obtain rfl := hac
      have d1 : ((a : Int) != (a : Int)) = false := by simp
      by_cases h2 : a % 2 = i
      · have h2' : (a : Int) % 2 = (i : Int) := by omega
        by_cases h3 : y ≤ 1
        · have h3' : ¬ (2 : Int) ≤ y := by omega
          by_cases h4 : l ≤ room
          · have hz : headT (Jl.hed b i room) = .tuple #[.int .u64 (a : Int), .int .i64 y, .int .i64 (l : Int), .bool true] := by
              rw [HE.out, if_pos ⟨rfl, h2, h3, h4⟩]
              unfold headT
              rw [if_neg h0]
              show Value.tuple #[.int .u64 (a : Int), .int .i64 ((y.toNat : Nat) : Int), .int .i64 (l : Int), .bool true] = _
              rw [yn]
            rw [hz]
            have h4' : ¬ (room : Int) < (l : Int) := by omega
            clear hz HE
            have tok1 : Hid (w = w) := rfl
            have tok2 : Hid (w = w) := rfl
            go_enter Try.func56, Try.ntmps56
            go_upto_region 5 with (first
              | (go_at_call 76; clear tok1; refine (H8.out _ (Bw.refl _)).mono ?_; rintro e w3 ⟨rfl, hw⟩; obtain rfl := hw.symm)
              | (go_at_call 76; clear tok2; refine (H4.out _ (Bw.refl _) _).mono ?_; rintro e w3 ⟨rfl, hw⟩; obtain rfl := hw.symm)
              | (go_at_call 76; refine (HL.out _ (Bw.refl _) _).mono ?_; rintro e w3 ⟨rfl, hw⟩; obtain rfl := hw.symm))
            have l5 : l ≤ 4294967295 := by omega
            have l6 : IntKind.i64.wrap (l : Int) = (l : Int) := by rw [IntKind.wrap_i64]; omega
            have l7 : IntKind.i64.wrap y = y := by rw [IntKind.wrap_i64]; omega
            go_quiet (fail)
            go_wp2
            refine bodyPost_ret (results_tmp4 rfl _ _ _) rfl ?_
            exact ⟨rfl, Bw.drewN _ _⟩
          · have h4' : (room : Int) < (l : Int) := by omega
            have hz : (Jl.hed b i room).n = 0 := by rw [HE.out, if_neg (fun c => h4 c.2.2.2)]; rfl
            rw [Hzero.out hz]
            clear hz HE
            have tok1 : Hid (w = w) := rfl
            have tok2 : Hid (w = w) := rfl
            go_enter Try.func56, Try.ntmps56
            go_wp2_with (first
              | (go_at_call 76; clear tok1; refine (H8.out _ (Bw.refl _)).mono ?_; rintro e w3 ⟨rfl, hw⟩; obtain rfl := hw.symm)
              | (go_at_call 76; clear tok2; refine (H4.out _ (Bw.refl _) _).mono ?_; rintro e w3 ⟨rfl, hw⟩; obtain rfl := hw.symm)
              | (go_at_call 76; refine (HL.out _ (Bw.refl _) _).mono ?_; rintro e w3 ⟨rfl, hw⟩; obtain rfl := hw.symm))
            refine bodyPost_ret (results_tmp4 rfl _ _ _) rfl ?_
            exact ⟨rfl, Bw.refl _⟩
        · have h3' : (2 : Int) ≤ y := by omega
          have hz : (Jl.hed b i room).n = 0 := by rw [HE.out, if_neg (fun c => h3 c.2.2.1)]; rfl
          rw [Hzero.out hz]
          clear hz HE
          have tok1 : Hid (w = w) := rfl
          have tok2 : Hid (w = w) := rfl
          go_enter Try.func56, Try.ntmps56
          go_wp2_with (first
            | (go_at_call 76; clear tok1; refine (H8.out _ (Bw.refl _)).mono ?_; rintro e w3 ⟨rfl, hw⟩; obtain rfl := hw.symm)
            | (go_at_call 76; clear tok2; refine (H4.out _ (Bw.refl _) _).mono ?_; rintro e w3 ⟨rfl, hw⟩; obtain rfl := hw.symm)
            | (go_at_call 76; refine (HL.out _ (Bw.refl _) _).mono ?_; rintro e w3 ⟨rfl, hw⟩; obtain rfl := hw.symm))
          refine bodyPost_ret (results_tmp4 rfl _ _ _) rfl ?_
          exact ⟨rfl, Bw.refl _⟩
      · have h2' : ¬ (a : Int) % 2 = (i : Int) := by omega
        have hz : (Jl.hed b i room).n = 0 := by rw [HE.out, if_neg (fun c => h2 c.2.1)]; rfl
        rw [Hzero.out hz]
        clear hz HE
        have tok1 : Hid (w = w) := rfl
        have tok2 : Hid (w = w) := rfl
        go_enter Try.func56, Try.ntmps56
        go_wp2_with (first
          | (go_at_call 76; clear tok1; refine (H8.out _ (Bw.refl _)).mono ?_; rintro e w3 ⟨rfl, hw⟩; obtain rfl := hw.symm)
          | (go_at_call 76; clear tok2; refine (H4.out _ (Bw.refl _) _).mono ?_; rintro e w3 ⟨rfl, hw⟩; obtain rfl := hw.symm)
          | (go_at_call 76; refine (HL.out _ (Bw.refl _) _).mono ?_; rintro e w3 ⟨rfl, hw⟩; obtain rfl := hw.symm))
        refine bodyPost_ret (results_tmp4 rfl _ _ _) rfl ?_
        exact ⟨rfl, Bw.refl _⟩
    · have d1 : ((a : Int) != (c : Int)) = true := by simp; omega
      have hz : (Jl.hed b i room).n = 0 := by rw [HE.out, if_neg (fun c => hac c.1)]; rfl
      rw [Hzero.out hz]
      clear hz HE
      have tok1 : Hid (w = w) := rfl
      have tok2 : Hid (w = w) := rfl
      go_enter Try.func56, Try.ntmps56
      go_wp2_with (first
        | (go_at_call 76; clear tok1; refine (H8.out _ (Bw.refl _)).mono ?_; rintro e w3 ⟨rfl, hw⟩; obtain rfl := hw.symm)
        | (go_at_call 76; clear tok2; refine (H4.out _ (Bw.refl _) _).mono ?_; rintro e w3 ⟨rfl, hw⟩; obtain rfl := hw.symm)
        | (go_at_call 76; refine (HL.out _ (Bw.refl _) _).mono ?_; rintro e w3 ⟨rfl, hw⟩; obtain rfl := hw.symm))
      refine bodyPost_ret (results_tmp4 rfl _ _ _) rfl ?_
      exact ⟨rfl, Bw.refl _⟩
end Go.Proofs.Ytppknadflmjefaa
