/- Contract of the program's reduce: rows brought to steps. -/
import Derived.Test.YtpgjkhlffcomgaaP4
namespace Go.Proofs.Ytpgjkhlffcomgaa
open Go.RowKit

theorem Bx.new {S T : Nat → Prop} {a b c : World} (h : Bx S a b) (k : Bx T b c) (hT : ∀ x, x < a.heap.size → T x → S x) : Bx S a c :=
  ⟨k.os.trans h.os, k.tape.trans h.tape, k.output.trans h.output, Nat.le_trans h.size k.size, fun x hx hs => (k.block x (Nat.lt_of_lt_of_le hx h.size) (fun e => hs (hT x hx e))).trans (h.block x hx hs)⟩

set_option maxRecDepth 100000 in
set_option maxHeartbeats 2000000 in
theorem reduce_any (g h n m cols : Nat) (P0 : Nat → Nat) (Z0 : Nat → Nat → Int) (w : World) (d : Grid w g h n m P0 Z0) (hc : cols ≤ m) (hn : n ≤ 131072) (hm : m ≤ 1048576) :
    Calls Try.prog 38 #[.slice (some ⟨h, 0, none⟩) n n, .int .i64 (cols : Int)] w fun e w' => ∃ (r : Nat) (p P : Nat → Nat) (Z : Nat → Nat → Int), e = .returned (.int .i64 (r : Int)) ∧ Grid w' g h n m P Z ∧ StepInv n m cols r Z0 Z p ∧ r ≤ n ∧ Bx (fun b => b = g ∨ b = h) w w' := by
  have hgl := d.glt
  have hhl := d.hlt
  have hs0 : StepInv n m 0 0 Z0 Z0 (fun _ => 0) := ⟨La.RowEq.refl _ _ _, ⟨Nat.zero_le _, fun i hi => by omega, fun i k _ hk => by omega, fun k i _ hi => by omega, fun k j _ _ hj => by omega⟩⟩
  have hbw : Bw w ((w.alloc (.cells #[.slice (some ⟨h, 0, none⟩) n n] 30)).alloc (.cells #[.int .i64 0] 3)) := ((Below.refl _ _).alloc (Nat.le_refl _) _).alloc (by rw [size_alloc]; omega) _
  go_enter Try.func38, Try.ntmps38
  go_wp2
  go_loopw [7, 8] (fun c _ wr => ∃ (j r : Nat) (p P : Nat → Nat) (Z : Nat → Nat → Int), j ≤ cols ∧ c = .int .i64 j ∧ r ≤ n ∧ Grid wr g h n m P Z ∧ StepInv n m j r Z0 Z p ∧ wr.heap[w.heap.size]? = some (.cells #[.slice (some ⟨h, 0, none⟩) n n] 30 (0, 0)) ∧ wr.heap[w.heap.size + 1]? = some (.cells #[.int .i64 (r : Int)] 3 (0, 0)) ∧ Bx (fun b => b = g ∨ b = h) w wr) (fun c _ _ => cols - (intOf c).toNat)
  case atStart => exact ⟨0, 0, _, _, _, Nat.zero_le _, rfl, Nat.zero_le _, d.keep hbw, hs0, heap_alloc2_old _ _ _, heap_alloc2_new _ _ _, Bx.of_bw hbw⟩
  case round =>
    rename World => wo
    obtain ⟨j, r, p, P, Z, hj, rfl, hrn, dk, hst, hw, hr, hx⟩ := hrel
    have cw := cell_of_one hw
    have cr := cell_of_one hr
    by_cases hlt : r < n
    · have r1 : (r : Int) < (n : Int) := by omega
      go_wp2
      go_step3
      go_wp2
      go_step3
      go_wp2
      go_loopw [7, 8] (fun c _ wr => ∃ l : Nat, j ≤ l ∧ l ≤ cols ∧ c = .int .i64 l ∧ StepInv n m l r Z0 Z p ∧ wr = wo) (fun c _ _ => cols - (intOf c).toNat)
      case atStart => exact ⟨j, Nat.le_refl _, hj, rfl, hst, rfl⟩
      case round =>
        rename World => wp
        obtain ⟨l, hjl, hl, rfl, hsl, e⟩ := hrel
        subst e
        by_cases hlc : l < cols
        · have l0 : (0 : Int) ≤ (l : Int) := Int.natCast_nonneg _
          have l1 : (l : Int) < (cols : Int) := by omega
          have l2 : (l : Int) < (m : Int) := by omega
          go_wp2
          go_loopw [8] (fun c wr => ∃ t : Nat, r ≤ t ∧ t ≤ n ∧ c = .int .i64 t ∧ (∀ k, r ≤ k → k < t → Z k l = 0) ∧ wr = wp) (fun c _ => n - (intOf c).toNat)
          case atStart => exact ⟨r, Nat.le_refl _, hrn, rfl, fun k _ _ => by omega, rfl⟩
          case round =>
            rename World => wq
            obtain ⟨t, hrt, htn, rfl, hz, e⟩ := hrel
            subst e
            by_cases htl : t < n
            · obtain ⟨c1, -⟩ := dk.head htl
              obtain ⟨c2, -⟩ := dk.cell htl (c := l) (by omega)
              have t0 : (0 : Int) ≤ (t : Int) := Int.natCast_nonneg _
              have t1 : (t : Int) < (n : Int) := by omega
              by_cases hzt : Z t l = 0
              · have e1 : (Z t l != 0) = false := by simp [hzt]
                go_wp2
                go_roundw
                case rel => exact ⟨t + 1, by omega, by omega, by go_num, fun k h1 h2 => by (by_cases e : k = t); · { subst e; exact hzt }; · { exact hz k h1 (by omega) }, by first | rfl | trivial⟩
                case measure => simp [intOf]; omega
              · have e1 : (Z t l != 0) = true := by simp [hzt]
                have e2 : ((l : Int) == (cols : Int)) = false := by simp; omega
                go_wp2_with (go_at_call 42; refine (settle_any g h n m r t l _ _ P Z _ dk hw hr (by omega) (by omega) (by omega) (by omega) (by omega) hlt htl (by omega) hn hm).mono ?_; rintro e w3 ⟨rfl, ⟨P3, d3⟩, hr3, hx3⟩)
                try simp only [Exit.noGoto_normal]
                go_wp2
                have lq := (Array.getElem?_eq_some_iff.1 hw).1
                go_roundw
                case rel => exact ⟨l + 1, r + 1, _, P3, _, by omega, by go_num, hlt, d3, inv_next hsl (fun i _ l => dk.bd i l) hlt hrt htl hzt (by omega), (hx3.block _ lq (by omega)).trans hw, by rw [hr3]; rfl, hx.new hx3 (fun b hb e => by omega)⟩
                case measure => simp [intOf]; omega
            · have ek : n = t := by omega
              subst ek
              go_wp2
              go_roundw
              case rel => exact ⟨l + 1, by omega, by omega, by go_num, inv_skip hsl (fun k h1 h2 => hz k h1 h2), by first | rfl | trivial⟩
              case measure => simp [intOf]; omega
        · have ek : cols = l := by omega
          subst ek
          have e2 : ((cols : Int) == (cols : Int)) = true := by simp
          go_wp2
          simp only [Exit.noGoto_exit]
          go_wp2
          go_ret
          exact ⟨r, p, P, Z, rfl, dk, hsl, hrn, hx⟩
    · have ek : n = r := by omega
      subst ek
      go_wp2
      go_ret
      exact ⟨n, p, P, Z, rfl, dk, ⟨hst.1, stepped_full hst.2 hj⟩, Nat.le_refl _, hx⟩

end Go.Proofs.Ytpgjkhlffcomgaa
