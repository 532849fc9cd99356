/- Proved: for every row of bytes the statement CrcSeals answers true (the document's P4.3: any bytes are sealed and opened as the document says, in new memory), with no condition but the reach. -/
import Derived.Test.YtndammedmnkpbaaK9
import Derived.BigRegion
import Derived.Test.YtndammedmnkpbaaK0
import Derived.ShutString
import Derived.ChangeOld
namespace Go.Proofs.Ytndammedmnkpbaa.crcSeals
open Go.ChangeShapes Go.WideShapes Go.ChangeAt Go.RowKit
set_option linter.unusedVariables false

theorem seals_great (A : Option Addr) (L ca : Nat) (w : World) (h : 65536 < L) :
    Calls Try.prog 4 #[.slice A L ca] w fun e w' => e = .returned (.bool true) ∧ Bw w w' := by
  go_enter Try.func4, Try.ntmps4
  go_wp2_with (go_at_call 9; refine (wakes_any _).mono ?_; rintro e w1 ⟨rfl, hw1⟩)
  go_ret
  exact ⟨rfl, hw1⟩

theorem says_unique {L n m : Nat} {f : Nat → Int} {x y : Bool} (h : OpenSays L f x n) (k : OpenSays L f y m) : x = y ∧ n = m := by
  have e : x = y := by
    have := h.1.trans k.1.symm
    cases x <;> cases y <;> simp_all
  subst e
  exact ⟨rfl, h.2.trans k.2.symm⟩

/-- a copy that is the call's own -/
structure Mine (w : World) (base : Nat) (A : Option Addr) (L cap : Nat) (f : Nat → Int) : Prop where
  row : RowAt w A L f
  le : L ≤ cap
  own : 0 < L → ∃ g, A = some ⟨g, 0, none⟩ ∧ base ≤ g ∧ g < w.heap.size ∧ Own w g L f

theorem mine_of {w : World} {base L : Nat} {v : Value} {f : Nat → Int} (hf : ∀ i, 0 ≤ f i ∧ f i < 256) (h : w.ownsRow base 5 1 v L (cellsU f L)) : ∃ A cap, v = .slice A L cap ∧ cap ≤ maxLen ∧ Mine w base A L cap f := by
  obtain ⟨A, cap, rfl, h1, h2, h3, h4⟩ := row_of_own hf h
  refine ⟨A, cap, rfl, h2, h3, h1, fun h0 => ?_⟩
  obtain ⟨g, c, e, hb, _, _, ho⟩ := Own.of h h0
  cases e
  exact ⟨g, rfl, hb, ho.lt, ho⟩

theorem own_keepx {S : Nat → Prop} {w w' : World} {g n : Nat} {f : Nat → Int} (h : Own w g n f) (k : Bx S w w') (hg : ¬ S g) : Own w' g n f := by
  obtain ⟨cur, h1, h2⟩ := h
  exact ⟨cur, (k.block g (Array.getElem?_eq_some_iff.1 h1).1 hg).trans h1, h2⟩

set_option linter.unusedSimpArgs false in
set_option maxHeartbeats 4000000 in
theorem seals_ok (A : Option Addr) (L ca : Nat) (f : Nat → Int) (w : World) (h : L ≤ 65536) (ha : RowAt w A L f) (hca : L ≤ ca) (hnil : A = none → ca = 0) :
    Calls Try.prog 4 #[.slice A L ca] w fun e w' => e = .returned (.bool true) ∧ Bw w w' := by
  obtain ⟨i0, hi0, hz0, hz1, hz2⟩ := info_parts info_u8
  have hmx : 0 + L ≤ maxLen := by unfold maxLen; omega
  go_enter Try.func4, Try.ntmps4
  go_wp2_with (first
    | (at_builtin; refine wpList_append_rowat _ (by rfl) (.tmp 14) (.tmp 15) _ (by rfl) w.heap.size 5 i0 _ 1 Try.underlying23 hi0 hz0 hz1 hz2 rfl _ _ _ (by rfl) (own_empty w w.heap.size _ (Nat.le_refl _)) A L ca f (by rfl) (ha.keep ((Below.refl _ _).alloc (Nat.le_refl _) _)) hnil hmx (by omega) (by simp) ?_; intro v1 w1 hown1 hgrow1; simp only [Nat.zero_add, List.nil_append] at hown1; have bw1 := bw_fresh hgrow1; obtain ⟨A1, c1, rfl, hc1, hmine⟩ := mine_of ha.2 hown1; clear hown1 hgrow1)
    | (go_at_call 14; refine (seal_any A1 L c1 f (by omega) _ hmine.row).mono ?_; rintro e w2 ⟨gx, capx, rfl, hownx, hgx, hcapx, hcmx, hw2⟩)
    | (go_at_call 15; refine (open_any A1 L c1 f (by omega) _ (hmine.row.keep hw2) hmine.le).mono ?_; rintro e w3 ⟨A3, n3, cap3, x3, rfl, hx3, hrow3, hw3⟩; have cv1 := conv_row (C := c1) ((hmine.row.keep hw2).keep hw3); have cv2 := conv_row (C := ca) (((ha.keep bw1).keep hw2).keep hw3)))
  have hbw3 : Bw w w3 := bw1.trans (hw2.trans hw3)
  have hown3 : Hid (0 < L → ∃ g F, A1 = some ⟨g, 0, none⟩ ∧ w.heap.size ≤ g ∧ Own w3 g L F) := fun h0 => by
    obtain ⟨g, e, h1, h2, h3⟩ := hmine.own h0
    exact ⟨g, f, e, h1, (h3.keep hw2).keep hw3⟩
  have hS : ∀ b, (0 < L ∧ A1 = some ⟨b, 0, none⟩) → w.heap.size ≤ b ∧ b < w1.heap.size := fun b hb => by
    obtain ⟨g, e, h1, h2, h3⟩ := hmine.own hb.1
    rw [hb.2] at e
    cases e
    exact ⟨h1, h2⟩
  have sz2 := hw2.size
  have sz3 := hw3.size
  have hownx3 := hownx.keep hw3
  clear cv1 cv2 hw2 hw3 bw1 hownx hmx hi0 hz0 hz1 hz2 hmine
  go_loopw [7] (fun i wr => ∃ k : Nat, k ≤ L ∧ i = .int .i64 k ∧ Hid (0 < L → ∃ g F, A1 = some ⟨g, 0, none⟩ ∧ w.heap.size ≤ g ∧ Own wr g L F) ∧ Bx (fun b => 0 < L ∧ A1 = some ⟨b, 0, none⟩) w3 wr) (fun i _ => L - (intOf i).toNat)
  case atStart => exact ⟨0, Nat.zero_le _, rfl, hown3, Bx.refl _ _⟩
  case round =>
    obtain ⟨k, hk, rfl, hown, hx⟩ := hrel
    by_cases hlt : k < L
    · obtain ⟨g, F, e1, hg, ho⟩ := hown.out (by omega)
      obtain ⟨d1, d2⟩ := ho.cell hlt
      clear hown3 hown
      subst e1
      go_wp2
      generalize bits BinOp.xor IntKind.u8 (if IntKind.u8.signed = true then -1 else IntKind.u8.max) (F k) = z
      go_roundw
      case rel =>
        refine ⟨k + 1, by omega, by go_num, fun _ => ⟨g, fun c => if c = k then z else F c, rfl, hg, ho.set hlt (by rw [if_pos rfl]) (fun c _ hc => by rw [if_neg hc])⟩, hx.put ⟨by omega, rfl⟩⟩
      case measure => simp [intOf]; omega
    · have ek : L = k := by omega
      subst ek
      have hbw : Bw w wr := Below.trans hbw3 (hx.below hbw3.size (fun b hb => (hS b hb).1))
      have hrx := (own_keepx hownx3 hx (fun hb => by have := (hS gx hb).2; omega)).row (sealF_bd ha.2 L)
      have hry := hrow3.row.keepx hx (fun b o e h0 hb => by
        rcases hrow3.new with h1 | ⟨g3, o3, e3, h1, h2⟩
        · omega
        · rw [e] at e3
          cases e3
          have := (hS b hb).2
          omega)
      have hrb := ha.keep hbw
      clear hown3 hown hownx3 hrow3
      go_wp2_with (go_at_call 16; refine (ropen_any A L ca f (by omega) _ hrb hca).mono ?_; rintro e w4 ⟨A4, n4, cap4, x4, rfl, hx4, hrow4, hw4⟩; obtain ⟨rfl, rfl⟩ := says_unique hx3 hx4)
      have rx := hrx.keep hw4
      have ry := hry.keep hw4
      have rb := hrb.keep hw4
      clear hx hx3 hx4 hrx hry hrb hS
      have HS : ∀ w', Bw w4 w' → (fun w' => Bw w4 w' ∧ (convert 23 9 (.slice (some ⟨gx, 0, none⟩) (L + 4) capx)).run Try.prog w' = .ok (.string (str (sealF f L) (L + 4))) w' ∧ (convert 23 9 (.slice A3 n3 cap3)).run Try.prog w' = .ok (.string (str f n3)) w' ∧ (convert 23 9 (.slice A4 n3 cap4)).run Try.prog w' = .ok (.string (str f n3)) w') w' := fun w' hw' => ⟨hw', conv_row (rx.keep hw'), conv_row (ry.keep hw'), conv_row (hrow4.keep hw')⟩
      have hdrew : Bw w4 w4.drew := (Bw.refl _).drew
      have HS' : Hid (∀ w', Bw w4 w' → (fun w' => Bw w4 w' ∧ (convert 23 9 (.slice (some ⟨gx, 0, none⟩) (L + 4) capx)).run Try.prog w' = .ok (.string (str (sealF f L) (L + 4))) w' ∧ (convert 23 9 (.slice A3 n3 cap3)).run Try.prog w' = .ok (.string (str f n3)) w' ∧ (convert 23 9 (.slice A4 n3 cap4)).run Try.prog w' = .ok (.string (str f n3)) w') w') := HS
      clear HS
      refine wp_region_held_drew (S := (fun w' => Bw w4 w' ∧ (convert 23 9 (.slice (some ⟨gx, 0, none⟩) (L + 4) capx)).run Try.prog w' = .ok (.string (str (sealF f L) (L + 4))) w' ∧ (convert 23 9 (.slice A3 n3 cap3)).run Try.prog w' = .ok (.string (str f n3)) w' ∧ (convert 23 9 (.slice A4 n3 cap4)).run Try.prog w' = .ok (.string (str f n3)) w')) (by kernel_rfl) (HS'.out _ hdrew) (fun hHeld => ?_)
      refine wpAnyH_take (i := 0) (oi := { dst := some 48, op := Op.move (Operand.tmp 4), type := 23, pos := "law.go:39", after := #[], guard := none }) (v := ?_) rfl (by kernel_rfl) (by kernel_rfl) (by kernel_rfl) (fun _ _ _ h => h) (Or.inl ⟨by rfl, ?_⟩) (by assumption) ?_
      rotate_left
      · intro w hSw; (try dsimp only at hSw); go_simp; all_goals (with_reducible rfl)
      try simp only [Act.put, List.setIfInBounds_toArray, List.set_cons_zero, List.set_cons_succ]
      refine wpAnyH_take (i := 1) (oi := { dst := some 49, op := Op.convert 23 9 (Operand.tmp 48), type := 9, pos := "law.go:39", after := #[{ on := 0, ground := Ground.data }], guard := none }) (v := ?_) rfl (by kernel_rfl) (by kernel_rfl) (by kernel_rfl) (fun _ _ _ h => h) (Or.inl ⟨by rfl, ?_⟩) (by assumption) ?_
      rotate_left
      · intro w hSw; (try dsimp only at hSw); go_simp; all_goals (with_reducible rfl)
      try simp only [Act.put, List.setIfInBounds_toArray, List.set_cons_zero, List.set_cons_succ]
      refine wpAnyH_take (i := 2) (oi := { dst := some 50, op := Op.move (Operand.tmp 0), type := 23, pos := "law.go:39", after := #[], guard := none }) (v := ?_) rfl (by kernel_rfl) (by kernel_rfl) (by kernel_rfl) (fun _ _ _ h => h) (Or.inl ⟨by rfl, ?_⟩) (by assumption) ?_
      rotate_left
      · intro w hSw; (try dsimp only at hSw); go_simp; all_goals (with_reducible rfl)
      try simp only [Act.put, List.setIfInBounds_toArray, List.set_cons_zero, List.set_cons_succ]
      refine wpAnyH_ready (rs := [3]) (by kernel_rfl) (by simp) ?_
      refine AllReadyH.cons (o := { dst := some 51, op := Op.call { callee := Callee.value (Operand.func 17), args := #[Operand.tmp 50], argTypes := #[23] }, type := 23, pos := "law.go:39", after := #[{ on := 2, ground := Ground.data }], guard := none }) rfl (fun K hK => ?_) AllReadyH.nil
      go_simp
      refine (rseal_any A L ca f (by omega) _ (rb.keep hdrew) hnil).mono ?_
      rintro e w5 ⟨A5, cap5, rfl, hrow5, hw5⟩
      have hb5 := Bw.trans hdrew hw5
      have cv5 := conv_row (C := cap5) hrow5
      have hS5 := HS'.out _ hb5
      refine hK.out _ _ hS5 (fun hHeld => ?_)
      clear hK K
      try simp only [Act.put, List.setIfInBounds_toArray, List.set_cons_zero, List.set_cons_succ]
      refine wpAnyH_ready (rs := [4]) (by kernel_rfl) (by simp) ?_
      refine AllReadyH.cons (o := { dst := some 52, op := Op.convert 23 9 (Operand.tmp 51), type := 9, pos := "law.go:39", after := #[{ on := 3, ground := Ground.data }], guard := none }) rfl (fun K hK => ?_) AllReadyH.nil
      go_simp
      refine hK.out _ _ hS5 (fun hHeld => ?_)
      clear hK K
      try simp only [Act.put, List.setIfInBounds_toArray, List.set_cons_zero, List.set_cons_succ]
      clear cv5
      refine wpAnyH_take (i := 5) (oi := { dst := some 53, op := Op.binOp BinOp.eql 9 (Operand.tmp 49) (Operand.tmp 52) 9, type := 4, pos := "law.go:39", after := #[{ on := 1, ground := Ground.data }, { on := 4, ground := Ground.data }], guard := none }) (v := ?_) rfl (by kernel_rfl) (by kernel_rfl) (by kernel_rfl) (fun _ _ _ h => h) (Or.inl ⟨by rfl, ?_⟩) (by assumption) ?_
      rotate_left
      · intro w hSw; (try dsimp only at hSw); go_simp; all_goals (with_reducible rfl)
      try simp only [Act.put, List.setIfInBounds_toArray, List.set_cons_zero, List.set_cons_succ]
      refine wpAnyH_take (i := 6) (oi := { dst := some 54, op := Op.move (Operand.tmp 53), type := 4, pos := "law.go:39", after := #[{ on := 5, ground := Ground.data }, { on := 3, ground := Ground.chain }], guard := none }) (v := ?_) rfl (by kernel_rfl) (by kernel_rfl) (by kernel_rfl) (fun _ _ _ h => h) (Or.inl ⟨by rfl, ?_⟩) (by assumption) ?_
      rotate_left
      · intro w hSw; (try dsimp only at hSw); go_simp; all_goals (with_reducible rfl)
      try simp only [Act.put, List.setIfInBounds_toArray, List.set_cons_zero, List.set_cons_succ]
      refine wpAnyH_take (i := 7) (oi := { dst := some 55, op := Op.move (Operand.tmp 6), type := 4, pos := "law.go:39", after := #[{ on := 6, ground := Ground.guard }], guard := some (6, true) }) (v := ?_) rfl (by kernel_rfl) (by kernel_rfl) (by kernel_rfl) (fun _ _ _ h => h) (Or.inl ⟨by rfl, ?_⟩) (by assumption) ?_
      rotate_left
      · intro w hSw; (try dsimp only at hSw); go_simp; all_goals (with_reducible rfl)
      try simp only [Act.put, List.setIfInBounds_toArray, List.set_cons_zero, List.set_cons_succ]
      refine wpAnyH_take (i := 8) (oi := { dst := some 56, op := Op.move (Operand.tmp 9), type := 4, pos := "law.go:39", after := #[{ on := 6, ground := Ground.guard }], guard := some (6, true) }) (v := ?_) rfl (by kernel_rfl) (by kernel_rfl) (by kernel_rfl) (fun _ _ _ h => h) (Or.inl ⟨by rfl, ?_⟩) (by assumption) ?_
      rotate_left
      · intro w hSw; (try dsimp only at hSw); go_simp; all_goals (with_reducible rfl)
      try simp only [Act.put, List.setIfInBounds_toArray, List.set_cons_zero, List.set_cons_succ]
      refine wpAnyH_take (i := 9) (oi := { dst := some 57, op := Op.binOp BinOp.eql 4 (Operand.tmp 55) (Operand.tmp 56) 4, type := 4, pos := "law.go:39", after := #[{ on := 7, ground := Ground.data }, { on := 8, ground := Ground.data }, { on := 6, ground := Ground.guard }], guard := some (6, true) }) (v := ?_) rfl (by kernel_rfl) (by kernel_rfl) (by kernel_rfl) (fun _ _ _ h => h) (Or.inl ⟨by rfl, ?_⟩) (by assumption) ?_
      rotate_left
      · intro w hSw; (try dsimp only at hSw); go_simp; all_goals (with_reducible rfl)
      try simp only [Act.put, List.setIfInBounds_toArray, List.set_cons_zero, List.set_cons_succ]
      refine wpAnyH_take (i := 10) (oi := { dst := some 58, op := Op.pick (Operand.tmp 54) (Operand.tmp 57) (Operand.const (Value.bool false)), type := 4, pos := "law.go:39", after := #[{ on := 6, ground := Ground.data }, { on := 9, ground := Ground.data }], guard := none }) (v := ?_) rfl (by kernel_rfl) (by kernel_rfl) (by kernel_rfl) (fun _ _ _ h => h) (Or.inl ⟨by rfl, ?_⟩) (by assumption) ?_
      rotate_left
      · intro w hSw; (try dsimp only at hSw); go_simp; all_goals (with_reducible rfl)
      try simp only [Act.put, List.setIfInBounds_toArray, List.set_cons_zero, List.set_cons_succ]
      refine wpAnyH_take (i := 11) (oi := { dst := some 59, op := Op.move (Operand.tmp 58), type := 4, pos := "law.go:39", after := #[{ on := 10, ground := Ground.data }, { on := 6, ground := Ground.chain }], guard := none }) (v := ?_) rfl (by kernel_rfl) (by kernel_rfl) (by kernel_rfl) (fun _ _ _ h => h) (Or.inl ⟨by rfl, ?_⟩) (by assumption) ?_
      rotate_left
      · intro w hSw; (try dsimp only at hSw); go_simp; all_goals (with_reducible rfl)
      try simp only [Act.put, List.setIfInBounds_toArray, List.set_cons_zero, List.set_cons_succ]
      refine wpAnyH_take (i := 12) (oi := { dst := some 60, op := Op.move (Operand.tmp 5), type := 23, pos := "law.go:39", after := #[{ on := 11, ground := Ground.guard }], guard := some (11, true) }) (v := ?_) rfl (by kernel_rfl) (by kernel_rfl) (by kernel_rfl) (fun _ _ _ h => h) (Or.inl ⟨by rfl, ?_⟩) (by assumption) ?_
      rotate_left
      · intro w hSw; (try dsimp only at hSw); go_simp; all_goals (with_reducible rfl)
      try simp only [Act.put, List.setIfInBounds_toArray, List.set_cons_zero, List.set_cons_succ]
      refine wpAnyH_take (i := 13) (oi := { dst := some 61, op := Op.convert 23 9 (Operand.tmp 60), type := 9, pos := "law.go:39", after := #[{ on := 12, ground := Ground.data }, { on := 11, ground := Ground.guard }], guard := some (11, true) }) (v := ?_) rfl (by kernel_rfl) (by kernel_rfl) (by kernel_rfl) (fun _ _ _ h => h) (Or.inl ⟨by rfl, ?_⟩) (by assumption) ?_
      rotate_left
      · intro w hSw; (try dsimp only at hSw); go_simp; all_goals (with_reducible rfl)
      try simp only [Act.put, List.setIfInBounds_toArray, List.set_cons_zero, List.set_cons_succ]
      refine wpAnyH_take (i := 14) (oi := { dst := some 62, op := Op.move (Operand.tmp 8), type := 23, pos := "law.go:39", after := #[{ on := 11, ground := Ground.guard }], guard := some (11, true) }) (v := ?_) rfl (by kernel_rfl) (by kernel_rfl) (by kernel_rfl) (fun _ _ _ h => h) (Or.inl ⟨by rfl, ?_⟩) (by assumption) ?_
      rotate_left
      · intro w hSw; (try dsimp only at hSw); go_simp; all_goals (with_reducible rfl)
      try simp only [Act.put, List.setIfInBounds_toArray, List.set_cons_zero, List.set_cons_succ]
      refine wpAnyH_take (i := 15) (oi := { dst := some 63, op := Op.convert 23 9 (Operand.tmp 62), type := 9, pos := "law.go:39", after := #[{ on := 14, ground := Ground.data }, { on := 11, ground := Ground.guard }], guard := some (11, true) }) (v := ?_) rfl (by kernel_rfl) (by kernel_rfl) (by kernel_rfl) (fun _ _ _ h => h) (Or.inl ⟨by rfl, ?_⟩) (by assumption) ?_
      rotate_left
      · intro w hSw; (try dsimp only at hSw); go_simp; all_goals (with_reducible rfl)
      try simp only [Act.put, List.setIfInBounds_toArray, List.set_cons_zero, List.set_cons_succ]
      refine wpAnyH_take (i := 16) (oi := { dst := some 64, op := Op.binOp BinOp.eql 9 (Operand.tmp 61) (Operand.tmp 63) 9, type := 4, pos := "law.go:39", after := #[{ on := 13, ground := Ground.data }, { on := 15, ground := Ground.data }, { on := 11, ground := Ground.guard }], guard := some (11, true) }) (v := ?_) rfl (by kernel_rfl) (by kernel_rfl) (by kernel_rfl) (fun _ _ _ h => h) (Or.inl ⟨by rfl, ?_⟩) (by assumption) ?_
      rotate_left
      · intro w hSw; (try dsimp only at hSw); go_simp; all_goals (with_reducible rfl)
      try simp only [Act.put, List.setIfInBounds_toArray, List.set_cons_zero, List.set_cons_succ]
      refine wpAnyH_take (i := 17) (oi := { dst := some 65, op := Op.pick (Operand.tmp 59) (Operand.tmp 64) (Operand.const (Value.bool false)), type := 4, pos := "law.go:39", after := #[{ on := 11, ground := Ground.data }, { on := 16, ground := Ground.data }], guard := none }) (v := ?_) rfl (by kernel_rfl) (by kernel_rfl) (by kernel_rfl) (fun _ _ _ h => h) (Or.inl ⟨by rfl, ?_⟩) (by assumption) ?_
      rotate_left
      · intro w hSw; (try dsimp only at hSw); go_simp; all_goals (with_reducible rfl)
      try simp only [Act.put, List.setIfInBounds_toArray, List.set_cons_zero, List.set_cons_succ]
      refine wpAnyH_take (i := 18) (oi := { dst := some 66, op := Op.move (Operand.tmp 65), type := 4, pos := "law.go:39", after := #[{ on := 17, ground := Ground.data }, { on := 11, ground := Ground.chain }], guard := none }) (v := ?_) rfl (by kernel_rfl) (by kernel_rfl) (by kernel_rfl) (fun _ _ _ h => h) (Or.inl ⟨by rfl, ?_⟩) (by assumption) ?_
      rotate_left
      · intro w hSw; (try dsimp only at hSw); go_simp; all_goals (with_reducible rfl)
      try simp only [Act.put, List.setIfInBounds_toArray, List.set_cons_zero, List.set_cons_succ]
      refine wpAnyH_ready (rs := [19]) (by kernel_rfl) (by simp) ?_
      refine AllReadyH.cons (o := { dst := some 67, op := Op.call { callee := Callee.value (Operand.func 9), args := #[], argTypes := #[] }, type := 4, pos := "law.go:39", after := #[{ on := 18, ground := Ground.chain }, { on := 18, ground := Ground.guard }], guard := some (18, true) }) rfl (fun K hK => ?_) AllReadyH.nil
      go_simp
      refine (wakes_any _).mono ?_
      rintro e w6 ⟨rfl, hw6⟩
      have hb6 := Bw.trans hb5 hw6
      refine hK.out _ _ (HS'.out _ hb6) (fun hHeld => ?_)
      clear hK K
      try simp only [Act.put, List.setIfInBounds_toArray, List.set_cons_zero, List.set_cons_succ]
      refine wpAnyH_take (i := 20) (oi := { dst := some 68, op := Op.pick (Operand.tmp 66) (Operand.tmp 67) (Operand.const (Value.bool false)), type := 4, pos := "law.go:39", after := #[{ on := 18, ground := Ground.data }, { on := 19, ground := Ground.data }], guard := none }) (v := ?_) rfl (by kernel_rfl) (by kernel_rfl) (by kernel_rfl) (fun _ _ _ h => h) (Or.inl ⟨by rfl, ?_⟩) (by assumption) ?_
      rotate_left
      · intro w hSw; (try dsimp only at hSw); go_simp; all_goals (with_reducible rfl)
      try simp only [Act.put, List.setIfInBounds_toArray, List.set_cons_zero, List.set_cons_succ]
      refine wpAnyH_take (i := 21) (oi := { dst := some 2, op := Op.assign (Operand.tmp 68), type := 4, pos := "law.go:39", after := #[{ on := 20, ground := Ground.data }, { on := 19, ground := Ground.chain }, { on := 0, ground := Ground.phase }, { on := 1, ground := Ground.phase }, { on := 2, ground := Ground.phase }, { on := 3, ground := Ground.phase }, { on := 4, ground := Ground.phase }, { on := 5, ground := Ground.phase }, { on := 6, ground := Ground.phase }, { on := 7, ground := Ground.phase }, { on := 8, ground := Ground.phase }, { on := 9, ground := Ground.phase }, { on := 10, ground := Ground.phase }, { on := 11, ground := Ground.phase }, { on := 12, ground := Ground.phase }, { on := 13, ground := Ground.phase }, { on := 14, ground := Ground.phase }, { on := 15, ground := Ground.phase }, { on := 16, ground := Ground.phase }, { on := 17, ground := Ground.phase }, { on := 18, ground := Ground.phase }, { on := 19, ground := Ground.phase }, { on := 20, ground := Ground.phase }], guard := none }) (v := ?_) rfl (by kernel_rfl) (by kernel_rfl) (by kernel_rfl) (fun _ _ _ h => h) (Or.inl ⟨by rfl, ?_⟩) (by assumption) ?_
      rotate_left
      · intro w hSw; (try dsimp only at hSw); go_simp; all_goals (with_reducible rfl)
      try simp only [Act.put, List.setIfInBounds_toArray, List.set_cons_zero, List.set_cons_succ]
      refine wpAnyH_done (by kernel_rfl) ?_ _
      go_wp2
      go_ret
      exact ⟨rfl, hbw.trans (hw4.trans hb6)⟩

theorem walk (a0 : Option Addr) (len0 cap0 : Nat) (f0 : Nat → Int) (w : World) (w0 : InRow w a0 len0 cap0 f0) :
    Calls Try.prog 4 #[.slice a0 len0 cap0] w fun e w' => e = .returned (.bool true) ∧ Below w.heap.size w w' := by
  by_cases h1 : 65536 < len0
  · exact seals_great _ _ _ w h1
  · exact seals_ok _ _ _ _ w (by omega) w0.row w0.le w0.nil

set_option maxRecDepth 100000 in
theorem lifted (os : Os) (started : os.Started) (H : Type) (enc : TypeId × Value → H) :
    ReturnsInHanded {} Try.checked os 4 .any (Rows.crcSealsSpec.pre6 enc Try.prog Try.f4 Rows.crcSealsRow.domain false) (Rows.crcSealsSpec.post enc Try.prog Try.f4 false true false false) := by
  refine returnsInHanded_of_change_sized (C := Try.checked) own started (by kernel_rfl) Try.func4
    (ChangeSpec.witness6 (enc := enc) (C := Try.checked) false ⟨#[], #[.slice none 0 0], []⟩ 8 (by kernel_rfl) (by kernel_rfl) (by kernel_rfl) (by kernel_rfl)) ?_
  intro W base args ds gs before hval0 hW hcnd hsz0 _
  have hval : ∀ (j : Nat) t v, Try.f4.params[j]? = some t → args[j]? = some v → Value.okWide Try.prog W .any base t v := hval0
  have hW' := hW
  obtain ⟨p, q, hA0, hV, rfl, hfz, hnd⟩ := hW
  have hA : DataW.TrodAll enc Try.prog W 0 (fun _ => true) true Try.f4.params.toList args.toList ds p := hA0
  have hsz : (DataW.weightsEach Try.prog (Try.f4.params.toList ++ Rows.crcSealsSpec.plain.varTypes Try.prog) (ds ++ gs)).all (· ≤ reachBytes) = true := hsz0
  rw [Try.params4] at hA hval hsz
  obtain ⟨v0, vs0, d0, ds0, p0, q0, hargs, rfl, rfl, h0, r0⟩ := trodAll_cons hA
  obtain ⟨rfl, rfl, rfl⟩ := trodAll_nil r0
  obtain rfl : args = #[v0] := by cases args; simp_all
  obtain ⟨rfl, rfl⟩ := trodVars_none hV
  obtain ⟨a0, len0, cap0, rfl⟩ := okWide_slice Try.underlying23 (hval 0 23 v0 rfl rfl)
  have k0 := h0
  have lt0 : ∀ x ∈ p0, x.block < W.heap.size := by obtain ⟨m, hm⟩ := k0; exact DataW.trod_lt m _ _ _ hm
  obtain ⟨f0, w0⟩ := open_bytes h0 (fun x hx => by simpa using List.all_eq_true.1 hsz x (DataW.weights_mem_each (j := 0) (t := 23) rfl rfl x hx))
  clear hA0 hval0
  refine (walk a0 len0 cap0 f0 W w0).mono fun e W' ⟨he, bel⟩ => ?_
  subst he
  exact ⟨_, rfl, _, _, _, [], _, [], hW', trodAll_mk1 (shut_bool Try.underlying4 _), (trodAll_cons_mk (Below.trod laidOut (by kernel_rfl) (of_decide_eq_true (by kernel_rfl)) k0 bel lt0) trodAll_mk0), rfl, bel.frame _, fun h => by cases h⟩

theorem over : Rows.crcSealsRow.holds Try.pinned (OpenSpec.ofChange Rows.crcSealsSpec) :=
  OpenClaim.holds_of_wide 4 Try.f4 rfl rfl rfl rfl rfl rfl rfl ⟨rfl, rfl, rfl, rfl, rfl⟩ rfl rfl rfl rfl rfl (by kernel_rfl) Try.func4 (by kernel_rfl)
    (of_decide_eq_true (by kernel_rfl)) (by unfold Func.isWrapper; first | (rw [if_pos (by decide +kernel)]; kernel_rfl) | (rw [if_neg (by decide +kernel)]; exact ⟨rfl, rfl⟩))
    (fun os started H enc _ => lifted os started H enc)

theorem proved : Rows.CrcSealsSaid := over
#print axioms proved
end Go.Proofs.Ytndammedmnkpbaa.crcSeals
