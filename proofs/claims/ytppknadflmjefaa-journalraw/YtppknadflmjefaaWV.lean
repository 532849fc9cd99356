/- Layer 15: great. -/
import Derived.Test.YtppknadflmjefaaWU
namespace Go.Proofs.Ytppknadflmjefaa
open Go.RowKit Go.Deep Go.Maps
set_option linter.unusedVariables false
set_option linter.unusedSimpArgs false

theorem InActs15.cell {w : World} {A : Option Addr} {n cap : Nat} {X : Nat → Ac15} (h : InActs15 w A n cap X) {i : Nat} (hi : i < n) : ∃ b off, A = some ⟨b, off, none⟩ ∧ ∀ k v, (X i).vals[k]? = some v → w.cell? ⟨b, off + i * 6 + k, none⟩ = some v := by
  rcases h.at_ with h0 | ⟨b, off, e, hc⟩
  · omega
  · exact ⟨b, off, e, fun k v hv => hc i hi k v hv⟩
/-- what great answers -/
def GreatV (n : Nat) (X : Nat → Ac15) (w : World) (e : Ending) (w' : World) : Prop := ∃ B : Bool, e = .returned (.bool B) ∧ (B = false → Small15 n X) ∧ Bw w w'
set_option maxRecDepth 100000 in
set_option maxHeartbeats 4000000 in
theorem great15_any {w : World} {A : Option Addr} {n cap : Nat} {X : Nat → Ac15} (h : InActs15 w A n cap X) :
    Calls Try.prog 8 #[.slice A n cap] w fun e w' => GreatV n X w e w' := by
  have hn : n ≤ 140737488351232 := Nat.le_trans h.le h.room
  have H : Hid (InActs15 w A n cap X) := h
  clear h
  go_enter Try.func8, Try.ntmps8
  go_wp2
  go_loopw [3, 4] (fun s i wr => ∃ k z : Nat, k ≤ n ∧ k ≤ 61 ∧ i = .int .i64 (k : Int) ∧ s = .int .i64 (z : Int) ∧ Hid (z ≤ k * 1125899906842624) ∧ Hid (32768 < z ∨ z = sumN (fun j => (X j).tot) k) ∧ Bw w wr) (fun _ i _ => n - (intOf i).toNat)
  case atStart => exact ⟨0, 0, Nat.zero_le _, Nat.zero_le _, rfl, rfl, Nat.zero_le _, .inr rfl, Bw.refl _⟩
  case round =>
    obtain ⟨k, z, hk, hk61, rfl, rfl, hzb, hzs, hbw⟩ := hrel
    have k0 : (0 : Int) ≤ (k : Int) := Int.natCast_nonneg _
    have zb : z ≤ 68679894317400064 := by have := hzb.out; omega
    by_cases hlt : k < n
    · have k1 : (k : Int) < (n : Int) := by omega
      by_cases h60 : k ≤ 60
      · have k2 : (k : Int) ≤ 60 := by omega
        have p4 : IntKind.i64.wrap ((k : Int) + 1) = (k : Int) + 1 := by rw [IntKind.wrap_i64]; omega
        obtain ⟨b, off, rfl, hcw⟩ := (H.out.keep hbw).cell hlt
        have Hx := (H.out.keep hbw).acts k hlt
        obtain ⟨x, hxe⟩ : ∃ x, Hid (X k = x) := ⟨_, rfl⟩
        rw [hxe.out] at hcw Hx
        have c3 := hcw 3 _ rfl
        have c5 := hcw 5 _ rfl
        have xn : x.n ≤ 140737488351232 := by have := Hx.mat.le; have := Hx.mat.room; omega
        have xr : x.Lr ≤ 140737488351232 := Nat.le_trans Hx.row.le Hx.row.room
        obtain ⟨z1, hz1⟩ : ∃ z1, Hid (z + x.n + x.Lr = z1) := ⟨_, rfl⟩
        have e1 : (z : Int) + (x.n : Int) + (x.Lr : Int) = (z1 : Int) := by have := hz1.out; omega
        have e2 : IntKind.i64.wrap (IntKind.i64.wrap ((z : Int) + (x.n : Int)) + (x.Lr : Int)) = (z1 : Int) := by
          have h1 : IntKind.i64.wrap ((z : Int) + (x.n : Int)) = (z : Int) + (x.n : Int) := by rw [IntKind.wrap_i64]; omega
          rw [h1, IntKind.wrap_i64]
          have := hz1.out
          omega
        rename World => wo
        clear hcw
        go_wp2
        go_quiet (fail)
        have hbq : Bw wo (wo.drewN nq) := Bw.drewN _ _
        have hbwq : Bw w (wo.drewN nq) := hbw.trans hbq
        have d3 : (wo.drewN nq).cell? ⟨b, off + k * 6 + 3, none⟩ = some (.slice x.A x.n x.ca) := (hbq.cell (p := ⟨b, off + k * 6 + 3, none⟩) (block_lt_of_cell c3)).trans c3
        have hMq := (Hx.keep hbq).mat
        generalize wo.drewN nq = w1 at hbwq d3 hMq ⊢
        have z1b : z1 ≤ 70000000000000000 := by have := hz1.out; omega
        have hrows : Hid (∀ r, r < x.n → ∃ b' o', x.A = some ⟨b', o', none⟩ ∧ w1.cell? ⟨b', o' + r, none⟩ = some (.slice (x.R r) (x.Lm r) (x.Cm r)) ∧ x.Lm r ≤ 140737488351232) := fun r hr => by
          rcases hMq.mat.1 with h0 | ⟨b', o', e', hc'⟩
          · omega
          · exact ⟨b', o', e', hc' r hr, Nat.le_trans (hMq.rows r hr).1 (hMq.rows r hr).2.1⟩
        have hfin : Hid (∀ z2 : Nat, z1 ≤ z2 → z2 ≤ z1 + 140737488388096 → (32768 < z2 ∨ z2 = z1 + sumN x.Lm x.n) → ∀ wf, Bw w wf → (∃ k' z : Nat, k' ≤ n ∧ k' ≤ 61 ∧ Value.int .i64 ((k : Int) + 1) = .int .i64 (k' : Int) ∧ Value.int .i64 (z2 : Int) = .int .i64 (z : Int) ∧ Hid (z ≤ k' * 1125899906842624) ∧ Hid (32768 < z ∨ z = sumN (fun j => (X j).tot) k') ∧ Bw w wf) ∧ n - (intOf (.int .i64 ((k : Int) + 1))).toNat < n - (intOf (.int .i64 (k : Int))).toNat) := fun z2 h1 h2 h3 wf hwf => by
          refine ⟨⟨k + 1, z2, hlt, by omega, rfl, rfl, ?_, ?_, hwf⟩, by simp only [intOf]; omega⟩
          · show z2 ≤ _
            have := hzb.out; have := hz1.out
            omega
          · show 32768 < z2 ∨ _
            rcases h3 with h3 | h3
            · exact .inl h3
            · rcases hzs.out with h4 | h4
              · exact .inl (by have := hz1.out; omega)
              · right
                rw [sumN, ← h4, hxe.out, h3]
                unfold Ac15.tot
                have := hz1.out
                omega
        clear hMq Hx c3 c5 hbq hzb hzs
        go_wp2
        go_loopw [3, 5] (fun s i wr => ∃ q z2 : Nat, q ≤ x.n ∧ i = .int .i64 (q : Int) ∧ s = .int .i64 (z2 : Int) ∧ Hid (z1 ≤ z2) ∧ Hid (z2 ≤ z1 + 140737488388096) ∧ Hid (32768 < z2 ∨ z2 = z1 + sumN x.Lm q) ∧ wr = w1) (fun _ i _ => x.n - (intOf i).toNat)
        case atStart => exact ⟨0, z1, Nat.zero_le _, rfl, rfl, Nat.le_refl _, Nat.le_add_right _ _, .inr rfl, rfl⟩
        case round =>
          obtain ⟨q, z2, hq, rfl, rfl, g1, g2, g3, hw⟩ := hrel
          obtain rfl := hw.symm
          have q0 : (0 : Int) ≤ (q : Int) := Int.natCast_nonneg _
          have z2b : z2 ≤ 80000000000000000 := by have := g2.out; omega
          by_cases hqn : q < x.n
          · have q1 : (q : Int) < (x.n : Int) := by omega
            by_cases hz32 : z2 ≤ 32768
            · have q2 : (z2 : Int) ≤ 32768 := by omega
              obtain ⟨b', o', eA, hc', hlm⟩ := hrows.out q hqn
              obtain ⟨lm, hlme⟩ : ∃ lm, Hid (x.Lm q = lm) := ⟨_, rfl⟩
              rw [hlme.out] at hc' hlm
              rw [eA] at d3
              have hf2 : Hid (z1 ≤ z2 + lm ∧ z2 + lm ≤ z1 + 140737488388096 ∧ (32768 < z2 + lm ∨ z2 + lm = z1 + sumN x.Lm (q + 1))) := by
                have := g1.out
                refine ⟨by omega, by omega, ?_⟩
                rcases g3.out with h5 | h5
                · omega
                · right; rw [sumN, hlme.out]; omega
              go_wp2
              go_roundw
              case rel => exact ⟨q + 1, z2 + lm, by omega, by go_num, by go_num, hf2.out.1, hf2.out.2.1, hf2.out.2.2, (by first | trivial | rfl)⟩
              case measure => simp only [intOf]; omega
            · have q2 : ¬ (z2 : Int) ≤ 32768 := by omega
              have hf := hfin.out z2 g1.out g2.out (.inl (by omega)) _ hbwq
              replace hf := (show Hid _ from hf)
              go_wp2
              exact hf.out
          · obtain rfl : q = x.n := by omega
            have q1 : ¬ (x.n : Int) < (x.n : Int) := by omega
            have hf := hfin.out z2 g1.out g2.out g3.out _ hbwq
            replace hf := (show Hid _ from hf)
            go_wp2
            exact hf.out
      · have k2 : ¬ (k : Int) ≤ 60 := by omega
        have hB : Hid (∀ B : Bool, B = true → GreatV n X w (.returned (.bool B)) wr) := fun B hB => ⟨B, rfl, (fun e => by rw [hB] at e; cases e), hbw⟩
        have k3 : (60 : Int) < (n : Int) := by omega
        go_wp2
        go_ret
        exact hB.out _ rfl
    · obtain rfl : k = n := by omega
      have k1 : ¬ (k : Int) < (k : Int) := by omega
      have hB : Hid (∀ B : Bool, (B = false → k ≤ 60 ∧ z ≤ 32768) → GreatV k X w (.returned (.bool B)) wr) := fun B hB => ⟨B, rfl, fun e => by
        obtain ⟨h1, h2⟩ := hB e
        refine ⟨h1, fun i hi => ?_⟩
        rcases hzs.out with h3 | h3
        · omega
        · have := sumN_le (fun j => (X j).tot) hi
          have h4 : (X i).tot ≤ sumN (fun j => (X j).tot) k := this
          omega, hbw⟩
      by_cases h60 : 60 < k
      · have k3 : (60 : Int) < (k : Int) := by omega
        go_wp2
        go_ret
        exact hB.out _ (fun e => by cases e)
      · have k3 : ¬ (60 : Int) < (k : Int) := by omega
        by_cases hz32 : 32768 < z
        · have k4 : (32768 : Int) < (z : Int) := by omega
          go_wp2
          go_ret
          exact hB.out _ (fun e => by cases e)
        · have k4 : ¬ (32768 : Int) < (z : Int) := by omega
          go_wp2
          go_ret
          exact hB.out _ (fun e => ⟨by omega, by omega⟩)
end Go.Proofs.Ytppknadflmjefaa
