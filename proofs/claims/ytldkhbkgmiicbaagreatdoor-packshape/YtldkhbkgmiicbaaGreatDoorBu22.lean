/- Texts of mine, put together. -/
import Derived.Test.YtldkhbkgmiicbaaGreatDoorBu20
import Derived.BigRegion
import Derived.Laws.BitsAllLaws
import Derived.WalkMore

/- The contract of the document's own Exact; of the statements' own same, of layer 7. -/
namespace Go.Proofs.YtldkhbkgmiicbaaGreatDoor
open Go.RowKit Go.Deep
set_option linter.unusedVariables false
set_option linter.unusedSimpArgs false

/-- a call answers whether something holds -/
def TellsO (e : Ending) (P : Prop) : Prop := ∃ x : Bool, e = .returned (.bool x) ∧ (x = true ↔ P)
theorem TellsO.no {P : Prop} (h : ¬ P) : TellsO (.returned (.bool false)) P := ⟨false, rfl, ⟨fun e => Bool.noConfusion e, fun e => absurd e h⟩⟩
theorem TellsO.yes {P : Prop} (h : P) : TellsO (.returned (.bool true)) P := ⟨true, rfl, ⟨fun _ => h, fun _ => rfl⟩⟩

theorem drewN_add7 (w : World) (q : Nat) : ∀ n, (w.drewN q).drewN n = w.drewN (q + n)
  | 0 => rfl
  | n + 1 => by show ((w.drewN q).drewN n).drew = (w.drewN (q + n)).drew; rw [drewN_add7 w q n]
/-- the bytes are the form of n in as many bytes -/
def IsForm (L : Nat) (f : Nat → Int) (n : Nat) : Prop := (n < 8 ^ (L - 1) ∨ n < 256 ^ (L - 1)) ∧ ∀ i, i < L → Oct.formF n L i = f i
/-- what Exact answers, where Get answers n, a, er -/
structure ExactSays (L : Nat) (f : Nat → Int) (n er : Int) (e : Ending) : Prop where
  bad : er ≠ 0 → e = .returned (.tuple #[.int .i64 0, .int .i64 er])
  no : er = 0 → ¬ IsForm L f n.toNat → e = .returned (.tuple #[.int .i64 0, .int .i64 71])
  yes : er = 0 → IsForm L f n.toNat → e = .returned (.tuple #[.int .i64 n, .int .i64 0])
theorem says_ok {L : Nat} {f : Nat → Int} (hf : ∀ i, 0 ≤ f i ∧ f i < 256) {n a er : Int} (h : Oct.Says L f n a er) (h0 : er = 0) : 2 ≤ L ∧ L ≤ 12 ∧ 0 ≤ n ∧ n ≤ 9223372036854775807 := by
  by_cases h1 : 2 ≤ L ∧ L ≤ 12
  · refine ⟨h1.1, h1.2, ?_⟩
    by_cases h2 : f 0 = 128
    · by_cases h3 : Oct.num (fun i => f (1 + i)) (L - 1) ≤ 9223372036854775807
      · obtain ⟨rfl, -, -⟩ := h.wide h1.1 h1.2 h2 h3
        exact ⟨Oct.num_nonneg (fun i => hf _) _, h3⟩
      · have := (h.long h1.1 h1.2 h2 h3).2.2; omega
    · obtain ⟨p, hp⟩ := Oct.run_ex Oct.Blank f L 0 (Nat.zero_le _)
      obtain ⟨q, hq⟩ := Oct.run_ex Oct.Digit f L p hp.top
      obtain ⟨r, hr⟩ := Oct.run_ex Oct.Tail f L q hq.top
      have a1 := h.loose h1.1 h1.2 h2 p q r hp hq hr
      rcases Nat.lt_or_ge r L with h3 | h3
      · have := (a1.2 h3).2.2; omega
      · obtain ⟨rfl, -, -⟩ := a1.1 (by have := hr.top; omega)
        have hqt := hq.top
        have := oct_small (f := f) (p := p) (k := q - p) (by omega) (fun i hi => hq.all (p + i) (by omega) (by omega))
        omega
  · have := (h.arg h1).2.2; omega

end Go.Proofs.YtldkhbkgmiicbaaGreatDoor

/- Contracts of the statements' own lent and kept, of layer 7. -/
namespace Go.Proofs.YtldkhbkgmiicbaaGreatDoor
open Go.RowKit Go.Deep
set_option linter.unusedVariables false
set_option linter.unusedSimpArgs false

/-- bytes, and two marks behind them -/
def lentF (f : Nat → Int) (L i : Nat) : Int := if i < L then f i else if i = L then 201 else 202
theorem lentF_bd {f : Nat → Int} (hf : ∀ i, 0 ≤ f i ∧ f i < 256) (L i : Nat) : 0 ≤ lentF f L i ∧ lentF f L i < 256 := by
  unfold lentF; split
  · exact hf i
  · split <;> decide
theorem row_less7 {w : World} {A : Option Addr} {L m : Nat} {f : Nat → Int} (h : RowAt w A L f) (hm : m ≤ L) : RowAt w A m f := by
  refine ⟨?_, h.2⟩
  rcases h.1 with h0 | ⟨b, off, hA, hc⟩
  · exact Or.inl (by omega)
  · exact Or.inr ⟨b, off, hA, fun i hi => hc i (by omega)⟩
theorem says_err {L : Nat} {f : Nat → Int} {n a er : Int} (h : Oct.Says L f n a er) : 0 ≤ er ∧ er ≤ 100 := by
  by_cases h1 : 2 ≤ L ∧ L ≤ 12
  · by_cases h2 : f 0 = 128
    · by_cases h3 : Oct.num (fun i => f (1 + i)) (L - 1) ≤ 9223372036854775807
      · have := (h.wide h1.1 h1.2 h2 h3).2.2; omega
      · have := (h.long h1.1 h1.2 h2 h3).2.2; omega
    · obtain ⟨p, hp⟩ := Oct.run_ex Oct.Blank f L 0 (Nat.zero_le _)
      obtain ⟨q, hq⟩ := Oct.run_ex Oct.Digit f L p hp.top
      obtain ⟨r, hr⟩ := Oct.run_ex Oct.Tail f L q hq.top
      have a1 := h.loose h1.1 h1.2 h2 p q r hp hq hr
      rcases Nat.lt_or_ge r L with h3 | h3
      · have := (a1.2 h3).2.2; omega
      · have := (a1.1 (by have := hr.top; omega)).2.2; omega
  · have := (h.arg h1).2.2; omega
/-- the document's Says has an answer -/
theorem says_ex (L : Nat) (f : Nat → Int) : ∃ n a er, Oct.Says L f n a er := by
  by_cases h1 : 2 ≤ L ∧ L ≤ 12
  · by_cases h2 : f 0 = 128
    · by_cases h3 : Oct.num (fun i => f (1 + i)) (L - 1) ≤ 9223372036854775807
      · exact ⟨_, 0, 0, fun h => absurd h1 h, fun _ _ _ _ => ⟨rfl, rfl, rfl⟩, fun _ _ _ h => absurd h3 h, fun _ _ h => absurd h2 h⟩
      · exact ⟨0, 0, 2, fun h => absurd h1 h, fun _ _ _ h => absurd h h3, fun _ _ _ _ => ⟨rfl, rfl, rfl⟩, fun _ _ h => absurd h2 h⟩
    · obtain ⟨p, hp⟩ := Oct.run_ex Oct.Blank f L 0 (Nat.zero_le _)
      obtain ⟨q, hq⟩ := Oct.run_ex Oct.Digit f L p hp.top
      obtain ⟨r, hr⟩ := Oct.run_ex Oct.Tail f L q hq.top
      rcases Nat.lt_or_ge r L with h3 | h3
      · refine ⟨0, r, 70, fun h => absurd h1 h, fun _ _ h => absurd h h2, fun _ _ h => absurd h h2, fun _ _ _ p' q' r' hp' hq' hr' => ?_⟩
        obtain rfl := Oct.run_unique hp' hp
        obtain rfl := Oct.run_unique hq' hq
        obtain rfl := Oct.run_unique hr' hr
        exact ⟨fun h => by omega, fun _ => ⟨rfl, rfl, rfl⟩⟩
      · refine ⟨Oct.oct f p (q - p), 0, 0, fun h => absurd h1 h, fun _ _ h => absurd h h2, fun _ _ h => absurd h h2, fun _ _ _ p' q' r' hp' hq' hr' => ?_⟩
        obtain rfl := Oct.run_unique hp' hp
        obtain rfl := Oct.run_unique hq' hq
        obtain rfl := Oct.run_unique hr' hr
        exact ⟨fun _ => ⟨rfl, rfl, rfl⟩, fun h => by omega⟩
  · exact ⟨0, 0, 1, fun _ => ⟨rfl, rfl, rfl⟩, fun h1' h2' => absurd ⟨h1', h2'⟩ h1, fun h1' h2' => absurd ⟨h1', h2'⟩ h1, fun h1' h2' => absurd ⟨h1', h2'⟩ h1⟩
end Go.Proofs.YtldkhbkgmiicbaaGreatDoor

/- Contracts of the program's isWidth, Most, number and of bytes.Equal, of layer 7. -/
namespace Go.Proofs.YtldkhbkgmiicbaaGreatDoor
open Go.RowKit Go.Deep
set_option linter.unusedVariables false
set_option linter.unusedSimpArgs false

theorem isw_no (z : Int) (h : ¬ (2 ≤ z ∧ z ≤ 12)) (w : World) : Calls Tryz.prog 116 #[.int .i64 z] w fun e w' => e = .returned (.bool false) ∧ w' = w := by
  by_cases h1 : 2 ≤ z
  · have h2 : ¬ z ≤ 12 := fun h2 => h ⟨h1, h2⟩
    go_enter Tryz.func116, Tryz.ntmps116
    go_wp2
    go_ret
    exact ⟨rfl, rfl⟩
  · go_enter Tryz.func116, Tryz.ntmps116
    go_wp2
    go_ret
    exact ⟨rfl, rfl⟩
theorem isw_yes (z : Int) (h1 : 2 ≤ z) (h2 : z ≤ 12) (w : World) : Calls Tryz.prog 116 #[.int .i64 z] w fun e w' => e = .returned (.bool true) ∧ w' = w := by
  go_enter Tryz.func116, Tryz.ntmps116
  go_wp2
  go_ret
  exact ⟨rfl, rfl⟩
theorem most_no (z : Int) (h : ¬ (2 ≤ z ∧ z ≤ 12)) (w : World) : Calls Tryz.prog 117 #[.int .i64 z] w fun e w' => e = .returned (.int .i64 (-1)) ∧ w' = w := by
  go_enter Tryz.func117, Tryz.ntmps117
  go_wp2_with (go_at_call 116; refine (isw_no z h _).mono ?_; rintro e w' ⟨rfl, hw'⟩; subst w')
  go_ret
  exact ⟨rfl, rfl⟩
theorem most_yes (W : Nat) (h1 : 2 ≤ W) (h2 : W ≤ 12) (w : World) : Calls Tryz.prog 117 #[.int .i64 (W : Int)] w fun e w' => e = .returned (.int .i64 ((8 : Int) ^ (W - 1) - 1)) ∧ w' = w := by
  have h11 : W = 2 ∨ W = 3 ∨ W = 4 ∨ W = 5 ∨ W = 6 ∨ W = 7 ∨ W = 8 ∨ W = 9 ∨ W = 10 ∨ W = 11 ∨ W = 12 := by omega
  rcases h11 with rfl | rfl | rfl | rfl | rfl | rfl | rfl | rfl | rfl | rfl | rfl
  all_goals
    go_enter Tryz.func117, Tryz.ntmps117
    go_wp2_with (go_at_call 116; refine (isw_yes _ (by decide) (by decide) _).mono ?_; rintro e w' ⟨rfl, hw'⟩; subst w')
    go_ret
    exact ⟨rfl, rfl⟩
theorem equal7_any (A B : Option Addr) (n m ca cb : Nat) (f g : Nat → Int) (w : World) (ha : RowAt w A n f) (hb : RowAt w B m g) :
    Calls Tryz.prog 121 #[.slice A n ca, .slice B m cb] w fun e w' => ∃ x, e = .returned (.bool x) ∧ (x = true ↔ n = m ∧ ∀ i, i < n → f i = g i) ∧ w' = w := by
  have c1 := conv_row (C := ca) ha
  have c2 := conv_row (C := cb) hb
  have c3 := str_inj (L := n) (M := m) ha.2 hb.2
  go_enter Tryz.func121, Tryz.ntmps121
  go_wp2
  go_ret
  exact ⟨_, rfl, by rw [beq_iff_eq]; exact c3, rfl⟩
theorem i64_ofInt (a : Nat) (ha : a < 9223372036854775808) : (BitVec.ofInt 64 (a : Int)).toNat = a := by
  rw [BitVec.toNat_ofInt]; omega
theorem i64_or_nat (a b : Nat) (ha : a < 9223372036854775808) (hb : b < 9223372036854775808) : bits .or .i64 (a : Int) (b : Int) = ((a ||| b : Nat) : Int) := by
  have hlt : a ||| b < 2 ^ 63 := Nat.or_lt_two_pow (by omega) (by omega)
  unfold bits
  show IntKind.i64.wrap ((BitVec.ofInt 64 (a : Int) ||| BitVec.ofInt 64 (b : Int)).toNat : Int) = _
  rw [BitVec.toNat_or, i64_ofInt a ha, i64_ofInt b hb, IntKind.wrap_i64]
  omega
theorem i64_and_nat (a b : Nat) (ha : a < 9223372036854775808) (hb : b < 9223372036854775808) : bits .and .i64 (a : Int) (b : Int) = ((a &&& b : Nat) : Int) := by
  have hlt : a &&& b < 2 ^ 63 := Nat.and_lt_two_pow _ (by omega)
  unfold bits
  show IntKind.i64.wrap ((BitVec.ofInt 64 (a : Int) &&& BitVec.ofInt 64 (b : Int)).toNat : Int) = _
  rw [BitVec.toNat_and, i64_ofInt a ha, i64_ofInt b hb, IntKind.wrap_i64]
  omega
theorem or_digit (k : Nat) (a b : Int) (h0 : 0 ≤ a) (h1 : a * 2 ^ k < 9223372036854775808) (b0 : 0 ≤ b) (hb : b < 2 ^ k) (hk : k ≤ 62) : bits .or .i64 (a * 2 ^ k) b = a * 2 ^ k + b := by
  obtain ⟨x, rfl⟩ := Int.eq_ofNat_of_zero_le h0
  obtain ⟨y, rfl⟩ := Int.eq_ofNat_of_zero_le b0
  have e : (2 : Int) ^ k = ((2 ^ k : Nat) : Int) := by rw [Int.natCast_pow]; rfl
  rw [e] at h1 hb ⊢
  have hk2 : 2 ^ k ≤ 2 ^ 62 := Nat.pow_le_pow_right (by decide) hk
  have h1' : x * 2 ^ k < 9223372036854775808 := by rw [← Int.natCast_mul] at h1; omega
  have hb' : y < 2 ^ k := by omega
  rw [← Int.natCast_mul, i64_or_nat _ _ h1' (by omega), nat_join k _ _ (Nat.mul_mod_left _ _) hb', Int.natCast_add]
theorem or8 (a b : Int) (h0 : 0 ≤ a) (h1 : a * 256 < 9223372036854775808) (b0 : 0 ≤ b) (hb : b < 256) : bits .or .i64 (a * 256) b = a * 256 + b := or_digit 8 a b h0 h1 b0 hb (by decide)
theorem or3 (a b : Int) (h0 : 0 ≤ a) (h1 : a * 8 < 9223372036854775808) (b0 : 0 ≤ b) (hb : b < 8) : bits .or .i64 (a * 8) b = a * 8 + b := or_digit 3 a b h0 h1 b0 hb (by decide)

theorem number_any (A : Option Addr) (L ca : Nat) (f : Nat → Int) (hL : L ≤ 4611686018427387904) (w : World) (hrow : RowAt w A L f) :
    Calls Tryz.prog 145 #[.slice A L ca] w fun e w' => OwnSays L f e ∧ w' = w := by
  go_enter Tryz.func145, Tryz.ntmps145
  go_wp2
  go_loop [2, 3, 4, 9] (fun r x n i => ∃ (k : Nat) (u : Int), k ≤ L ∧ r = .int .i64 0 ∧ x = .bool false ∧ i = .int .i64 (k : Int) ∧ n = .int .i64 u ∧ Hid (u = Oct.num f k) ∧ u ≤ 9223372036854775807) (fun _ _ _ i => L - (intOf i).toNat)
  case atStart => exact ⟨0, 0, Nat.zero_le _, rfl, rfl, rfl, rfl, rfl, by decide⟩
  case round =>
    obtain ⟨k, u, hk, rfl, rfl, rfl, rfl, hu, hum⟩ := hrel
    have u0 : 0 ≤ u := by rw [hu.out]; exact Oct.num_nonneg hrow.2 k
    have k0 : (0 : Int) ≤ (k : Int) := Int.natCast_nonneg _
    by_cases hlt : k < L
    · obtain ⟨b1, o1, rfl, hc1⟩ := hrow.at hlt
      have h1 := hc1 k hlt
      have hb0 := (hrow.2 k).1
      have hb1 := (hrow.2 k).2
      have t1 : (k : Int) < (L : Int) := by omega
      clear hc1
      by_cases hle : u ≤ 36028797018963967
      · have t2 : ¬ 36028797018963967 < u := by omega
        have m2 : u * 256 + f k ≤ 9223372036854775807 := by omega
        have ho : bits .or .i64 (u * 256) (f k) = u * 256 + f k := or8 u (f k) u0 (by omega) hb0 hb1
        go_wp2
        go_round
        case rel => exact ⟨k + 1, u * 256 + f k, by omega, rfl, rfl, by go_num, by go_num, by show _ = _; unfold Oct.num; rw [← hu.out], m2⟩
        case measure => simp [intOf]; omega
      · have t2 : 36028797018963967 < u := by omega
        have hbig : ¬ Oct.num f L ≤ 9223372036854775807 := fun h => by
          have h2 := Oct.num_mono hrow.2 (k + 1) L (by omega)
          have h3 : Oct.num f (k + 1) = Oct.num f k * 256 + f k := rfl
          rw [← hu.out] at h3
          omega
        go_wp2
        go_ret2
        exact ⟨⟨0, false, rfl, fun h => absurd h (by first | exact hbig | exact Int.not_le.2 hbig), fun _ => ⟨rfl, rfl⟩⟩, rfl⟩
    · have ek : k = L := by omega
      subst ek
      go_wp2
      go_ret2
      exact ⟨⟨u, true, rfl, fun _ => ⟨hu.out, rfl⟩, fun h => absurd (hu.out ▸ hum) h⟩, rfl⟩
end Go.Proofs.YtldkhbkgmiicbaaGreatDoor

/- Contract of the program's lay: a number's digits laid into a row of the call's own. -/
namespace Go.Proofs.YtldkhbkgmiicbaaGreatDoor
open Go.RowKit Go.Deep
set_option linter.unusedVariables false
set_option linter.unusedSimpArgs false

/-- a block with the digits of n in units of B laid over it at o, the highest first -/
def layF (F : Nat → Int) (o m n B : Nat) (z : Int) (c : Nat) : Int := if o ≤ c ∧ c < o + m then z + ((n / B ^ (o + m - 1 - c) % B : Nat) : Int) else F c
/-- the same when the last t digits are laid -/
def layP (F : Nat → Int) (o m n B : Nat) (z : Int) (t c : Nat) : Int := if o + (m - t) ≤ c ∧ c < o + m then z + ((n / B ^ (o + m - 1 - c) % B : Nat) : Int) else F c
theorem layP_all (F : Nat → Int) (o m n B : Nat) (z : Int) : layP F o m n B z m = layF F o m n B z := by
  funext c; unfold layP layF; rw [Nat.sub_self, Nat.add_zero]
theorem layP_none (F : Nat → Int) (o m n B : Nat) (z : Int) : layP F o m n B z 0 = F := by
  funext c; unfold layP; rw [Nat.sub_zero, if_neg (by omega)]

set_option maxHeartbeats 1000000 in
theorem lay3_any (g o m ca N n : Nat) (F : Nat → Int) (hm : m ≤ 12) (hN : o + m ≤ N) (ho : o ≤ 12) (hn : n ≤ 9223372036854775807) (w : World) (hown : BlockIs w g N F) :
    Calls Tryz.prog 118 #[.slice (some ⟨g, o, none⟩) m ca, .int .i64 (n : Int), .int .i64 3, .int .u8 48] w fun e w' => e = .returned (.tuple #[]) ∧ BlockIs w' g N (layF F o m n 8 48) ∧ Bx (· = g) w w' := by
  go_enter Tryz.func118, Tryz.ntmps118
  go_wp2
  go_loopw [1, 8] (fun x i wr => ∃ y t E : Nat, y + t = m ∧ i = .int .i64 ((y : Int) - 1) ∧ x = .int .i64 (E : Int) ∧ Hid (E = n / 8 ^ t) ∧ BlockIs wr g N (layP F o m n 8 48 t) ∧ Bx (· = g) w wr) (fun _ i _ => (intOf i + 1).toNat)
  case atStart => exact ⟨m, 0, n, rfl, by go_num, rfl, by show _ = _; rw [Nat.pow_zero, Nat.div_one], by rw [layP_none]; exact hown, Bx.refl _ _⟩
  case round =>
    obtain ⟨y, t, E, hyt, rfl, rfl, hE, ho1, hx⟩ := hrel
    rcases y with _ | y
    · have et : t = m := by omega
      subst et
      go_wp2
      refine bodyPost_end (results_none rfl _ _ _) rfl ?_
      exact ⟨rfl, by rw [← layP_all]; exact ho1, hx⟩
    · have ey : ((y + 1 : Nat) : Int) - 1 = (y : Int) := by omega
      rw [ey]
      clear ey
      have y0 : (0 : Int) ≤ (y : Int) := Int.natCast_nonneg _
      have y1 : (y : Int) < (m : Int) := by omega
      have hEn : E ≤ n := by rw [hE.out]; exact Nat.div_le_self _ _
      have e0 : (0 : Int) ≤ (E : Int) := Int.natCast_nonneg _
      obtain ⟨V, hV⟩ : ∃ V : Nat, Hid (V = E % 8) := ⟨E % 8, rfl⟩
      have hV8 : V < 8 := by rw [hV.out]; exact Nat.mod_lt _ (by decide)
      have ha : bits .and .i64 (E : Int) 7 = (V : Int) := by
        rw [show (7 : Int) = ((7 : Nat) : Int) from rfl, i64_and_nat E 7 (by omega) (by decide), nat_mask3, hV.out]
      obtain ⟨Q, hQ⟩ : ∃ Q : Nat, Hid (Q = E / 8) := ⟨E / 8, rfl⟩
      have hq : (E : Int) / 8 = (Q : Int) := by rw [hQ.out]; omega
      obtain ⟨c1, c2⟩ := ho1.cell (c := o + y) (by omega)
      have hQe : Hid (Q = n / 8 ^ (t + 1)) := by show _ = _; rw [hQ.out, hE.out, Nat.pow_succ, Nat.div_div_eq_div_mul]
      have hset : Hid (∀ W, BlockIs W g N (layP F o m n 8 48 t) → BlockIs (W.setCell ⟨g, o + y, none⟩ (.int .u8 (48 + (V : Int)))) g N (layP F o m n 8 48 (t + 1))) := fun W hW => hW.set (by omega) (by
        unfold layP
        rw [if_pos (by omega), show o + m - 1 - (o + y) = t by omega, ← hE.out, ← hV.out]) (fun c hc hne => by
        unfold layP
        by_cases h : o + (m - t) ≤ c ∧ c < o + m
        · rw [if_pos h, if_pos (by omega)]
        · rw [if_neg h, if_neg (by omega)])
      go_wp2
      go_roundw
      case rel => exact ⟨y, t + 1, Q, by omega, by go_num, by go_num, hQe, hset.out _ ho1, hx.put rfl⟩
      case measure => simp [intOf]
set_option maxHeartbeats 1000000 in
theorem lay8_any (g o m ca N n : Nat) (F : Nat → Int) (hm : m ≤ 12) (hN : o + m ≤ N) (ho : o ≤ 12) (hn : n ≤ 9223372036854775807) (w : World) (hown : BlockIs w g N F) :
    Calls Tryz.prog 118 #[.slice (some ⟨g, o, none⟩) m ca, .int .i64 (n : Int), .int .i64 8, .int .u8 0] w fun e w' => e = .returned (.tuple #[]) ∧ BlockIs w' g N (layF F o m n 256 0) ∧ Bx (· = g) w w' := by
  go_enter Tryz.func118, Tryz.ntmps118
  go_wp2
  go_loopw [1, 8] (fun x i wr => ∃ y t E : Nat, y + t = m ∧ i = .int .i64 ((y : Int) - 1) ∧ x = .int .i64 (E : Int) ∧ Hid (E = n / 256 ^ t) ∧ BlockIs wr g N (layP F o m n 256 0 t) ∧ Bx (· = g) w wr) (fun _ i _ => (intOf i + 1).toNat)
  case atStart => exact ⟨m, 0, n, rfl, by go_num, rfl, by show _ = _; rw [Nat.pow_zero, Nat.div_one], by rw [layP_none]; exact hown, Bx.refl _ _⟩
  case round =>
    obtain ⟨y, t, E, hyt, rfl, rfl, hE, ho1, hx⟩ := hrel
    rcases y with _ | y
    · have et : t = m := by omega
      subst et
      go_wp2
      refine bodyPost_end (results_none rfl _ _ _) rfl ?_
      exact ⟨rfl, by rw [← layP_all]; exact ho1, hx⟩
    · have ey : ((y + 1 : Nat) : Int) - 1 = (y : Int) := by omega
      rw [ey]
      clear ey
      have y0 : (0 : Int) ≤ (y : Int) := Int.natCast_nonneg _
      have y1 : (y : Int) < (m : Int) := by omega
      have hEn : E ≤ n := by rw [hE.out]; exact Nat.div_le_self _ _
      have e0 : (0 : Int) ≤ (E : Int) := Int.natCast_nonneg _
      obtain ⟨V, hV⟩ : ∃ V : Nat, Hid (V = E % 256) := ⟨E % 256, rfl⟩
      have hV8 : V < 256 := by rw [hV.out]; exact Nat.mod_lt _ (by decide)
      have ha : bits .and .i64 (E : Int) 255 = (V : Int) := by
        rw [show (255 : Int) = ((255 : Nat) : Int) from rfl, i64_and_nat E 255 (by omega) (by decide), nat_mask8, hV.out]
      obtain ⟨Q, hQ⟩ : ∃ Q : Nat, Hid (Q = E / 256) := ⟨E / 256, rfl⟩
      have hq : (E : Int) / 256 = (Q : Int) := by rw [hQ.out]; omega
      obtain ⟨c1, c2⟩ := ho1.cell (c := o + y) (by omega)
      have hQe : Hid (Q = n / 256 ^ (t + 1)) := by show _ = _; rw [hQ.out, hE.out, Nat.pow_succ, Nat.div_div_eq_div_mul]
      have hset : Hid (∀ W, BlockIs W g N (layP F o m n 256 0 t) → BlockIs (W.setCell ⟨g, o + y, none⟩ (.int .u8 (V : Int))) g N (layP F o m n 256 0 (t + 1))) := fun W hW => hW.set (by omega) (by
        unfold layP
        rw [if_pos (by omega), show o + m - 1 - (o + y) = t by omega, ← hE.out, ← hV.out, Int.zero_add]) (fun c hc hne => by
        unfold layP
        by_cases h : o + (m - t) ≤ c ∧ c < o + m
        · rw [if_pos h, if_pos (by omega)]
        · rw [if_neg h, if_neg (by omega)])
      go_wp2
      go_roundw
      case rel => exact ⟨y, t + 1, Q, by omega, by go_num, by go_num, hQe, hset.out _ ho1, hx.put rfl⟩
      case measure => simp [intOf]
end Go.Proofs.YtldkhbkgmiicbaaGreatDoor

/- Contract of the program's spelled: the rows of a loose field of digits. -/
namespace Go.Proofs.YtldkhbkgmiicbaaGreatDoor
open Go.RowKit Go.Deep
set_option linter.unusedVariables false
set_option linter.unusedSimpArgs false

/-- what spelled has seen when it stands at k: the row r, the number u -/
def SpellAt (f : Nat → Int) (L k : Nat) (r u : Int) : Prop :=
  (r = 0 ∧ u = 0 ∧ ∀ i, i < k → Oct.Blank (f i))
  ∨ (r = 1 ∧ ∃ p, p < k ∧ Oct.Run Oct.Blank f L 0 p ∧ (∀ i, p ≤ i → i < k → Oct.Digit (f i)) ∧ u = Oct.oct f p (k - p))
  ∨ (r = 2 ∧ ∃ p q, q < k ∧ Oct.Run Oct.Blank f L 0 p ∧ Oct.Run Oct.Digit f L p q ∧ (∀ i, q ≤ i → i < k → Oct.Tail (f i)) ∧ u = Oct.oct f p (q - p))
/-- what spelled answers -/
def SpellSays (f : Nat → Int) (L : Nat) (u a : Int) : Prop := ∃ p q r, Oct.Run Oct.Blank f L 0 p ∧ Oct.Run Oct.Digit f L p q ∧ Oct.Run Oct.Tail f L q r ∧ u = Oct.oct f p (q - p) ∧ a = (r : Int)

theorem spell_blank {f : Nat → Int} {L k : Nat} {u : Int} (h : SpellAt f L k 0 u) (hb : f k = 32) : SpellAt f L (k + 1) 0 u := by
  rcases h with ⟨_, hu, ha⟩ | ⟨h, _⟩ | ⟨h, _⟩
  · refine Or.inl ⟨rfl, hu, fun i hi => ?_⟩
    rcases Nat.lt_or_ge i k with h | h
    · exact ha i h
    · rw [show i = k by omega]; exact hb
  · exact absurd h (by decide)
  · exact absurd h (by decide)
theorem spell_digit {f : Nat → Int} {L k : Nat} {r u : Int} (hk : k < L) (h : SpellAt f L k r u) (hr : r ≠ 2) (h1 : 48 ≤ f k) (h2 : f k ≤ 55) : SpellAt f L (k + 1) 1 (u * 8 + (f k - 48)) := by
  rcases h with ⟨_, hu, ha⟩ | ⟨_, p, hp, hb, hd, hu⟩ | ⟨h, _⟩
  · refine Or.inr (Or.inl ⟨rfl, k, by omega, ⟨Nat.zero_le _, by omega, fun i _ hi => ha i hi, fun _ hb => by unfold Oct.Blank at hb; omega⟩, fun i h3 h4 => ?_, ?_⟩)
    · rw [show i = k by omega]; exact ⟨h1, h2⟩
    · rw [hu, show k + 1 - k = 1 by omega]; show _ = 8 * 0 + (f (k + 0) - 48); rw [Nat.add_zero]; omega
  · refine Or.inr (Or.inl ⟨rfl, p, by omega, hb, fun i h3 h4 => ?_, ?_⟩)
    · rcases Nat.lt_or_ge i k with h | h
      · exact hd i h3 h
      · rw [show i = k by omega]; exact ⟨h1, h2⟩
    · rw [show k + 1 - p = (k - p) + 1 by omega, hu]; show _ = 8 * Oct.oct f p (k - p) + (f (p + (k - p)) - 48); rw [show p + (k - p) = k by omega]; omega
  · exact absurd h hr
theorem spell_tail {f : Nat → Int} {L k : Nat} {r u : Int} (hk : k < L) (h : SpellAt f L k r u) (hn : ¬ (f k = 32 ∧ r = 0)) (hb : Oct.Tail (f k)) : SpellAt f L (k + 1) 2 u := by
  rcases h with ⟨h0, hu, ha⟩ | ⟨_, p, hp, hb', hd, hu⟩ | ⟨_, p, q, hq, hb', hd, ht, hu⟩
  · have hz : f k = 0 := hb.elim id (fun h => absurd ⟨h, h0⟩ hn)
    refine Or.inr (Or.inr ⟨rfl, k, k, by omega, ⟨Nat.zero_le _, by omega, fun i _ hi => ha i hi, fun _ h => by unfold Oct.Blank at h; omega⟩, ⟨Nat.le_refl _, by omega, fun i h1 h2 => by omega, fun _ h => by unfold Oct.Digit at h; omega⟩, fun i h1 h2 => ?_, ?_⟩)
    · rw [show i = k by omega]; exact hb
    · rw [Nat.sub_self]; exact hu
  · refine Or.inr (Or.inr ⟨rfl, p, k, by omega, hb', ⟨by omega, by omega, hd, fun _ h => by unfold Oct.Digit at h; unfold Oct.Tail at hb; omega⟩, fun i h1 h2 => ?_, hu⟩)
    rw [show i = k by omega]; exact hb
  · refine Or.inr (Or.inr ⟨rfl, p, q, by omega, hb', hd, fun i h1 h2 => ?_, hu⟩)
    rcases Nat.lt_or_ge i k with h | h
    · exact ht i h1 h
    · rw [show i = k by omega]; exact hb
/-- where it stops -/
theorem spell_stop {f : Nat → Int} {L k : Nat} {r u : Int} (hk : k ≤ L) (h : SpellAt f L k r u) (hs : k < L → ¬ Oct.Tail (f k) ∧ (Oct.Digit (f k) → r = 2)) : SpellSays f L u (k : Int) := by
  rcases h with ⟨h0, hu, ha⟩ | ⟨h0, p, hp, hb', hd, hu⟩ | ⟨_, p, q, hq, hb', hd, ht, hu⟩
  · refine ⟨k, k, k, ⟨Nat.zero_le _, hk, fun i _ hi => ha i hi, fun h h2 => (hs h).1 (Or.inr h2)⟩, ⟨Nat.le_refl _, hk, fun i h1 h2 => by omega, fun h h2 => by have := (hs h).2 h2; omega⟩, ⟨Nat.le_refl _, hk, fun i h1 h2 => by omega, fun h => (hs h).1⟩, by rw [Nat.sub_self]; exact hu, rfl⟩
  · exact ⟨p, k, k, hb', ⟨by omega, hk, hd, fun h h2 => by have := (hs h).2 h2; omega⟩, ⟨Nat.le_refl _, hk, fun i h1 h2 => by omega, fun h => (hs h).1⟩, hu, rfl⟩
  · exact ⟨p, q, k, hb', hd, ⟨by omega, hk, ht, fun h => (hs h).1⟩, hu, rfl⟩
theorem spell_row {f : Nat → Int} {L k : Nat} {r u : Int} (h : SpellAt f L k r u) : r = 0 ∨ r = 1 ∨ r = 2 := by
  rcases h with ⟨h, _⟩ | ⟨h, _⟩ | ⟨h, _⟩ <;> omega
theorem oct_small7 {f : Nat → Int} {p k : Nat} (hk : k ≤ 12) (h : ∀ i, i < k → Oct.Digit (f (p + i))) : 0 ≤ Oct.oct f p k ∧ Oct.oct f p k < 68719476736 := by
  have h1 := Oct.oct_bound k h
  have h2 : (8 : Int) ^ k ≤ 8 ^ 12 := by
    have h13 : k = 0 ∨ k = 1 ∨ k = 2 ∨ k = 3 ∨ k = 4 ∨ k = 5 ∨ k = 6 ∨ k = 7 ∨ k = 8 ∨ k = 9 ∨ k = 10 ∨ k = 11 ∨ k = 12 := by omega
    rcases h13 with rfl | rfl | rfl | rfl | rfl | rfl | rfl | rfl | rfl | rfl | rfl | rfl | rfl <;> decide
  have h3 : (8 : Int) ^ 12 = 68719476736 := by decide
  omega
theorem spell_bound {f : Nat → Int} {L k : Nat} {r u : Int} (hk : k ≤ L) (hL : L ≤ 12) (h : SpellAt f L k r u) : 0 ≤ u ∧ u < 68719476736 := by
  rcases h with ⟨_, rfl, _⟩ | ⟨_, p, hp, _, hd, rfl⟩ | ⟨_, p, q, hq, _, hd, _, rfl⟩
  · decide
  · exact oct_small7 (by omega) (fun i hi => hd _ (by omega) (by omega))
  · exact oct_small7 (by have := hd.top; omega) (fun i hi => hd.all _ (by omega) (by omega))

set_option maxRecDepth 100000 in
set_option maxHeartbeats 2000000 in
theorem spelled_any (b o L ca : Nat) (f : Nat → Int) (hL : L ≤ 12) (w : World) (hrow : RowAt w (some ⟨b, o, none⟩) L f) :
    Calls Tryz.prog 146 #[.slice (some ⟨b, o, none⟩) L ca] w fun e w' => (∃ u a, e = .returned (.tuple #[.int .i64 u, .int .i64 a]) ∧ Hid (SpellSays f L u a)) ∧ w' = w := by
  have HC : Hid (∀ k, k < L → w.cell? ⟨b, o + k, none⟩ = some (.int .u8 (f k))) := fun k hk => by
    obtain ⟨b', o', e, hc⟩ := hrow.at hk
    cases e
    exact hc k hk
  have HB : Hid (∀ i, 0 ≤ f i ∧ f i < 256) := hrow.2
  clear hrow
  go_enter Tryz.func146, Tryz.ntmps146
  go_wp2
  go_step3
  go_wp2
  go_step3
  go_wp2
  go_loop [4, 5, 6] (fun n i r => ∃ (k : Nat) (R u : Int), k ≤ L ∧ i = .int .i64 (k : Int) ∧ r = .int .i64 R ∧ n = .int .i64 u ∧ Hid (SpellAt f L k R u)) (fun _ i _ => L - (intOf i).toNat)
  case atStart => exact ⟨0, 0, 0, Nat.zero_le _, rfl, rfl, rfl, Or.inl ⟨rfl, rfl, fun i hi => by omega⟩⟩
  case round =>
    obtain ⟨k, R, u, hk, rfl, rfl, rfl, hs⟩ := hrel
    have k0 : (0 : Int) ≤ (k : Int) := Int.natCast_nonneg _
    by_cases hlt : k < L
    · have t1 : (k : Int) < (L : Int) := by omega
      have c1 := HC.out k hlt
      obtain ⟨b0, b1⟩ := HB.out k
      obtain ⟨x, hx⟩ : ∃ x, Hid (x = f k) := ⟨_, rfl⟩
      rw [← hx.out] at c1 b0 b1
      obtain ⟨u0, u1⟩ := spell_bound hk hL hs.out
      by_cases hbl : x = 32 ∧ R = 0
      · obtain ⟨hx32, rfl⟩ := hbl
        subst hx32
        go_wp2
        go_round
        case rel => exact ⟨k + 1, 0, u, by omega, by go_num, rfl, rfl, spell_blank hs.out hx.out.symm⟩
        case measure => simp [intOf]; omega
      · by_cases hdg : (48 ≤ x ∧ x ≤ 55) ∧ R ≠ 2
        · obtain ⟨⟨d1, d2⟩, hR⟩ := hdg
          have e1 : (x == 32) = false := by rw [beq_eq_false_iff_ne]; omega
          have e2 : (R != 2) = true := by rw [bne_iff_ne]; exact hR
          have ho : bits .or .i64 (u * 8) (x - 48) = u * 8 + (x - 48) := or3 u (x - 48) u0 (by omega) (by omega) (by omega)
          have hnx : Hid (SpellAt f L (k + 1) 1 (u * 8 + (x - 48))) := by have := spell_digit hlt hs.out hR (by rw [← hx.out]; exact d1) (by rw [← hx.out]; exact d2); rw [← hx.out] at this; exact this
          go_wp2
          go_round
          case rel => exact ⟨k + 1, 1, u * 8 + (x - 48), by omega, by go_num, rfl, by go_num, hnx⟩
          case measure => simp [intOf]; omega
        · by_cases h32 : x = 32
          · have hR : R ≠ 0 := fun h => hbl ⟨h32, h⟩
            have e2 : (R == 0) = false := by rw [beq_eq_false_iff_ne]; exact hR
            have hnx : Hid (SpellAt f L (k + 1) 2 u) := spell_tail hlt hs.out (fun h => hR h.2) (Or.inr (by rw [← hx.out]; exact h32))
            subst h32
            go_wp2
            go_round
            case rel => exact ⟨k + 1, 2, u, by omega, by go_num, rfl, rfl, hnx⟩
            case measure => simp [intOf]; omega
          · by_cases h0 : x = 0
            · have hnx : Hid (SpellAt f L (k + 1) 2 u) := spell_tail hlt hs.out (fun h => h32 (by rw [hx.out]; exact h.1)) (Or.inl (by rw [← hx.out]; exact h0))
              subst h0
              go_wp2
              go_round
              case rel => exact ⟨k + 1, 2, u, by omega, by go_num, rfl, rfl, hnx⟩
              case measure => simp [intOf]; omega
            · have e1 : (x == 32) = false := by rw [beq_eq_false_iff_ne]; exact h32
              have e3 : (x == 0) = false := by rw [beq_eq_false_iff_ne]; exact h0
              have hse : Hid (SpellSays f L u (k : Int)) := spell_stop hk hs.out (fun _ => ⟨fun h => by rw [← hx.out] at h; exact h.elim h0 h32, fun h => by
                rw [← hx.out] at h
                rcases spell_row hs.out with hr | hr | hr
                · exact absurd ⟨h, by omega⟩ hdg
                · exact absurd ⟨h, by omega⟩ hdg
                · exact hr⟩)
              by_cases h48 : 48 ≤ x
              · by_cases h55 : x ≤ 55
                · have hR : R = 2 := by
                    rcases spell_row hs.out with hr | hr | hr
                    · exact absurd ⟨⟨h48, h55⟩, by omega⟩ hdg
                    · exact absurd ⟨⟨h48, h55⟩, by omega⟩ hdg
                    · exact hr
                  subst hR
                  go_wp2
                  try simp only [Exit.noGoto_exit]
                  try go_wp2
                  go_ret2
                  exact ⟨⟨u, k, rfl, hse⟩, rfl⟩
                · go_wp2
                  try simp only [Exit.noGoto_exit]
                  try go_wp2
                  go_ret2
                  exact ⟨⟨u, k, rfl, hse⟩, rfl⟩
              · go_wp2
                try simp only [Exit.noGoto_exit]
                try go_wp2
                go_ret2
                exact ⟨⟨u, k, rfl, hse⟩, rfl⟩
    · have ek : k = L := by omega
      subst ek
      have hse : Hid (SpellSays f k u (k : Int)) := spell_stop (Nat.le_refl _) hs.out (fun h => absurd h hlt)
      go_wp2
      go_ret2
      exact ⟨⟨u, k, rfl, hse⟩, rfl⟩
end Go.Proofs.YtldkhbkgmiicbaaGreatDoor
