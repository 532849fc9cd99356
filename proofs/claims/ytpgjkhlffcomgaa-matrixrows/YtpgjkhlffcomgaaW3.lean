/- Contracts of gf's Exp, Log, Inverse, Div and Pow: what each answers, and that of what was in memory nothing turns. -/
import Derived.Test.YtpgjkhlffcomgaaW2
import Derived.RowKit3
namespace Go.Proofs.Ytpgjkhlffcomgaa
open Go.RowKit

/-- new blocks alone -/
def Gw (w w' : World) : Prop := Below w.heap.size w w' ∧ Grown w w'

theorem Gw.refl (w : World) : Gw w w := ⟨Below.refl _ _, Grown.refl _⟩
theorem Gw.alloc {w w' : World} (h : Gw w w') (c : Array Value) (t : TypeId) : Gw w (w'.alloc (.cells c t)) := ⟨h.1.alloc h.1.size _, h.2.alloc c t⟩
theorem Gw.trans {a b c : World} (h : Gw a b) (k : Gw b c) : Gw a c :=
  ⟨h.1.trans (k.1.mono h.1.size), World.keptBut_trans h.2.1 k.2.1, fun x => (k.2.2.1 x).trans (h.2.2.1 x), Nat.le_trans h.2.2.2 k.2.2.2⟩

theorem zeros_size : zeros.size = 511 := tab_size 0

def tablesSaid (T : Array Value) : Prop := ∀ W : World, Calls Try.prog 51 #[] W fun e w' => e = .returned (.agg T) ∧ Gw W w'

theorem tables_said : tablesSaid (tab 255) := fun W =>
  (tables_any W).mono fun e w' ⟨he, hw⟩ => ⟨he, by subst hw; exact (((Gw.refl W).alloc _ _).alloc _ _).alloc _ _⟩

set_option maxRecDepth 100000 in
theorem exp_gen (T Z : Array Value) (hC : tablesSaid T) (hz : ∀ w, (zeroValue 65).run Try.prog w = .ok (.agg Z) w) (hZ : Z.size = T.size) (hi : (Try.prog.info? 65).map (·.size) = some T.size) (ha : Hid (T.all (·.oneCell') = true))
    (n : Int) (hT : T[(n % 255).toNat]? = some (.int .u8 (expI n))) (w : World) :
    Calls Try.prog 50 #[.int .i64 n] w fun e w' => e = .returned (.int .u8 (expI n)) ∧ Gw w w' := by
  have h0 : 0 ≤ n % 255 := Int.emod_nonneg n (by decide)
  have h1 : n % 255 < 255 := Int.emod_lt_of_pos n (by decide)
  go_enter Try.func50, Try.ntmps50
  go_wp2_with (first | (go_at_call 51; refine (hC _).mono ?_; rintro e w1 ⟨rfl, hg⟩) | (go_at_call 52; refine (turn_any _ _).mono ?_; rintro e w' ⟨rfl, rfl⟩) | (refine wpList_store_row rfl 65 _ _ rfl _ T rfl rfl 65 Z (heap_alloc_new _ _) hi hZ ha ?_; rw [setRow_alloc_new]))
  go_ret
  exact ⟨rfl, hg.alloc _ _⟩

theorem exp_any (n : Int) (w : World) : Calls Try.prog 50 #[.int .i64 n] w fun e w' => e = .returned (.int .u8 (expI n)) ∧ Gw w w' :=
  exp_gen (tab 255) zeros tables_said zero42 (by rw [tab_size, zeros_size]) (by rw [tab_size]; kernel_rfl) (tab_all 255) n
    (by have h0 : 0 ≤ n % 255 := Int.emod_nonneg n (by decide)
        have h1 : n % 255 < 255 := Int.emod_lt_of_pos n (by decide)
        exact tab_exp _ (by omega)) w

set_option maxRecDepth 100000 in
theorem log_gen (T Z : Array Value) (hC : tablesSaid T) (hz : ∀ w, (zeroValue 65).run Try.prog w = .ok (.agg Z) w) (hZ : Z.size = T.size) (hi : (Try.prog.info? 65).map (·.size) = some T.size) (ha : Hid (T.all (·.oneCell') = true))
    (a : Int) (a0 : 0 < a) (a1 : a < 256) (hT : T[255 + a.toNat]? = some (.int .u8 (lgI a))) (hl : 0 ≤ lgI a ∧ lgI a < 255) (w : World) :
    Calls Try.prog 49 #[.int .u8 a] w fun e w' => e = .returned (.tuple #[.int .i64 (lgI a), .int .i64 0]) ∧ Gw w w' := by
  go_enter Try.func49, Try.ntmps49
  go_wp2_with (first | (go_at_call 51; refine (hC _).mono ?_; rintro e w1 ⟨rfl, hg⟩) | (refine wpList_store_row rfl 65 _ _ rfl _ T rfl rfl 65 Z (heap_alloc_new _ _) hi hZ ha ?_; rw [setRow_alloc_new]))
  go_ret2
  exact ⟨rfl, hg.alloc _ _⟩

theorem log_zero (w : World) : Calls Try.prog 49 #[.int .u8 0] w fun e w' => e = .returned (.tuple #[.int .i64 0, .int .i64 1]) ∧ w' = w := by
  go_enter Try.func49, Try.ntmps49
  go_wp2
  go_ret2
  exact ⟨rfl, rfl⟩

theorem lgI_bd (a : Int) (a0 : 0 < a) (a1 : a < 256) : 0 ≤ lgI a ∧ lgI a < 255 := by
  have := (Gf.lg_facts a.toNat (by omega) (by omega)).1
  unfold lgI; omega

theorem log_any (a : Int) (a0 : 0 < a) (a1 : a < 256) (w : World) : Calls Try.prog 49 #[.int .u8 a] w fun e w' => e = .returned (.tuple #[.int .i64 (lgI a), .int .i64 0]) ∧ Gw w w' :=
  log_gen (tab 255) zeros tables_said zero42 (by rw [tab_size, zeros_size]) (by rw [tab_size]; kernel_rfl) (tab_all 255) a a0 a1 (tab_lg _ (by omega)) (lgI_bd a a0 a1) w

def invI (a : Int) : Int := expI (-lgI a)

theorem inv_zero (w : World) : Calls Try.prog 48 #[.int .u8 0] w fun e w' => e = .returned (.tuple #[.int .u8 0, .int .i64 1]) ∧ w' = w := by
  go_enter Try.func48, Try.ntmps48
  go_wp2_with (go_at_call 49; refine (log_zero _).mono ?_; rintro e w' ⟨rfl, rfl⟩)
  go_ret2
  exact ⟨rfl, rfl⟩

theorem inv_any (a : Int) (a0 : 0 < a) (a1 : a < 256) (w : World) : Calls Try.prog 48 #[.int .u8 a] w fun e w' => e = .returned (.tuple #[.int .u8 (invI a), .int .i64 0]) ∧ Gw w w' := by
  have hl := lgI_bd a a0 a1
  go_enter Try.func48, Try.ntmps48
  go_wp2_with (first | (go_at_call 49; refine (log_any a a0 a1 _).mono ?_; rintro e w1 ⟨rfl, hg⟩) | (go_at_call 50; refine (exp_any _ _).mono ?_; rintro e w2 ⟨rfl, hg2⟩))
  go_ret2
  exact ⟨rfl, hg.trans hg2⟩

theorem invI_bd (a : Int) : 0 ≤ invI a ∧ invI a < 256 := expI_bd _

def powI (a n : Int) : Int := if n = 0 then 1 else if a = 0 then 0 else expI (lgI a * (n % 255))

/-! the same for every byte, 0 among them -/
def erR (a : Int) : Int := if a = 0 then 1 else 0
def lgR (a : Int) : Int := if a = 0 then 0 else lgI a
def invR (a : Int) : Int := if a = 0 then 0 else invI a
def divR (a b : Int) : Int := if b = 0 then 0 else mulI a (invI b)

theorem lgR_bd (a : Int) (a0 : 0 ≤ a) (a1 : a < 256) : 0 ≤ lgR a ∧ lgR a < 255 := by
  unfold lgR; split
  · decide
  · exact lgI_bd a (by omega) a1
theorem invR_bd (a : Int) : 0 ≤ invR a ∧ invR a < 256 := by
  unfold invR; split
  · decide
  · exact invI_bd a
theorem divR_bd (a b : Int) (a1 : a < 256) : 0 ≤ divR a b ∧ divR a b < 256 := by
  unfold divR; split
  · decide
  · exact mulI_bd _ _ a1
theorem powI_bd (a n : Int) : 0 ≤ powI a n ∧ powI a n < 256 := by
  unfold powI; split
  · decide
  · split
    · decide
    · exact expI_bd _

theorem log_all (a : Int) (a0 : 0 ≤ a) (a1 : a < 256) (w : World) : Calls Try.prog 49 #[.int .u8 a] w fun e w' => e = .returned (.tuple #[.int .i64 (lgR a), .int .i64 (erR a)]) ∧ Gw w w' := by
  by_cases h : a = 0
  · subst h; exact (log_zero w).mono fun e w' ⟨he, hw⟩ => ⟨he, hw ▸ Gw.refl _⟩
  · unfold lgR erR; rw [if_neg h, if_neg h]; exact log_any a (by omega) a1 w
theorem inv_all (a : Int) (a0 : 0 ≤ a) (a1 : a < 256) (w : World) : Calls Try.prog 48 #[.int .u8 a] w fun e w' => e = .returned (.tuple #[.int .u8 (invR a), .int .i64 (erR a)]) ∧ Gw w w' := by
  by_cases h : a = 0
  · subst h; exact (inv_zero w).mono fun e w' ⟨he, hw⟩ => ⟨he, hw ▸ Gw.refl _⟩
  · unfold invR erR; rw [if_neg h, if_neg h]; exact inv_any a (by omega) a1 w
end Go.Proofs.Ytpgjkhlffcomgaa
