/- Texts of mine, put together. -/
import Derived.Test.YtldkhbkgmiicbabGreatDoorBu17
import Derived.Test.YtldkhbkgmiicbabGreatDoorBu16
import Derived.Great.BuildSlice

/- Contract of the program's Put. -/
namespace Go.Proofs.YtldkhbkgmiicbabGreatDoor
open Go.RowKit Go.Deep
set_option linter.unusedVariables false
set_option linter.unusedSimpArgs false

theorem oput_arg (n z : Int) (h : ¬ (2 ≤ z ∧ z ≤ 12) ∨ n < 0) (w : World) :
    Calls Tryz.prog 92 #[.int .i64 n, .int .i64 z] w fun e w' => e = .returned (.tuple #[.slice none 0 0, .int .i64 1]) ∧ w' = w := by
  by_cases hz : 2 ≤ z ∧ z ≤ 12
  · have hn : n < 0 := h.resolve_left (fun h => h hz)
    go_enter Tryz.func92, Tryz.ntmps92
    go_wp2_with (go_at_call 102; refine (isw_yes z hz.1 hz.2 _).mono ?_; rintro e w' ⟨rfl, hw'⟩; subst w')
    go_ret2
    exact ⟨rfl, rfl⟩
  · go_enter Tryz.func92, Tryz.ntmps92
    go_wp2_with (go_at_call 102; refine (isw_no z hz _).mono ?_; rintro e w' ⟨rfl, hw'⟩; subst w')
    go_ret2
    exact ⟨rfl, rfl⟩
theorem block_made (w : World) (M : Array Value) (n : Nat) (h1 : M.size = n) (h2 : ∀ i, i < n → M[i]? = some (.int .u8 0)) : BlockIs (w.alloc (.cells M 5)) w.heap.size n (fun _ => 0) :=
  ⟨M, heap_alloc_new _ _, h1, h2⟩
theorem plain_form {n m c : Nat} (hn : n < 8 ^ m) (hc : c < m) : Oct.formF n (m + 1) c = layF (fun _ => 0) 0 m n 8 48 c := by
  unfold Oct.formF Oct.plainF layF
  rw [if_pos (by rw [Nat.add_sub_cancel]; exact hn), if_pos (by omega), if_pos (by omega), show m + 1 - 2 - c = 0 + m - 1 - c by omega]
  omega
set_option maxHeartbeats 1000000 in
theorem oput_plain (n m : Nat) (h1 : 1 ≤ m) (h2 : m ≤ 11) (hn : n < 8 ^ m) (w : World) :
    Calls Tryz.prog 92 #[.int .i64 (n : Int), .int .i64 ((m : Int) + 1)] w fun e w' => ∃ g, e = .returned (.tuple #[.slice (some ⟨g, 0, none⟩) (m + 1) (m + 1), .int .i64 0]) ∧ BlockIs w' g (m + 1) (Oct.formF n (m + 1)) ∧ w.heap.size ≤ g ∧ Bw w w' := by
  obtain ⟨M, hM1, hM2, hM3⟩ := made_bytes (m + 1) (by omega)
  have hMB : Hid (∀ w : World, BlockIs (w.alloc (.cells M 5)) w.heap.size (m + 1) (fun _ => 0)) := fun w => block_made w M _ hM1 hM2
  have hMr : ∀ w, (Instr.makeSlice 24 (.int .i64 ((m : Int) + 1)) (.int .i64 ((m : Int) + 1))).run Tryz.prog w = .ok (.slice (some ⟨w.heap.size, 0, none⟩) (m + 1) (m + 1)) (w.alloc (.cells M 5)) := hM3
  have hn63 : n ≤ 9223372036854775807 := by have := nat_pow8_le h2; omega
  have hPb : (8 : Int) ^ m ≤ 8589934592 := pow8_le (by omega)
  obtain ⟨P, hPe⟩ : ∃ P : Int, Hid (P = (8 : Int) ^ m - 1) := ⟨_, rfl⟩
  have hP : (n : Int) ≤ P := by rw [hPe.out, pow8_cast]; omega
  have HN : Hid (n < 8 ^ m) := hn
  have n0 : (0 : Int) ≤ (n : Int) := Int.natCast_nonneg _
  have m0 : (0 : Int) ≤ (m : Int) := Int.natCast_nonneg _
  have m1 : (m : Int) ≤ 11 := by omega
  clear hM1 hM2 hM3 hn hPb
  go_enter Tryz.func92, Tryz.ntmps92
  go_wp2_with (first
    | (go_at_call 102; refine (isw_yes _ (by omega) (by omega) _).mono ?_; rintro e w' ⟨rfl, hw'⟩; subst w')
    | (go_at_call 103; refine (most_yes (m + 1) (by omega) (by omega) _).mono ?_; rintro e w' ⟨rfl, hw'⟩; subst w'; rw [Nat.add_sub_cancel, ← hPe.out])
    | (go_at_call 104; refine (lay3_any w.heap.size 0 m _ (m + 1) n (fun _ => 0) (by omega) (by omega) (by omega) hn63 _ (hMB.out w)).mono ?_; rintro e w1 ⟨rfl, ho1, hx1⟩; obtain ⟨c1, c2⟩ := ho1.cell (c := m) (by omega)))
  go_ret2
  have hw1 : Bw w w1 := ⟨hx1.os, hx1.tape, hx1.output, by have := hx1.size; rw [size_alloc] at this; omega, fun b hb => (hx1.block b (by rw [size_alloc]; omega) (by omega)).trans (heap_alloc_old w _ hb)⟩
  refine ⟨w.heap.size, rfl, ho1.set (by omega) ?_ (fun c hc hne => plain_form HN.out (by omega)), Nat.le_refl _, hw1.put (Nat.le_refl _) _ _⟩
  unfold Oct.formF Oct.plainF
  rw [if_pos (by rw [Nat.add_sub_cancel]; exact HN.out), if_neg (by omega)]; rfl
theorem wide_form {n m c : Nat} (hn : ¬ n < 8 ^ m) (h0 : 0 < c) (hc : c < m + 1) (F : Nat → Int) : Oct.formF n (m + 1) c = layF F 1 m n 256 0 c := by
  unfold Oct.formF Oct.wideF layF
  rw [if_neg (by rw [Nat.add_sub_cancel]; exact hn), if_neg (by omega), if_pos (by omega), show m + 1 - 1 - c = 1 + m - 1 - c by omega]
  omega
theorem shr_wide (n m : Nat) (hn : n ≤ 9223372036854775807) : Op.shift .shr .i64 (n : Int) .i64 (8 * (m : Int)) = pure (.int .i64 ((n / 256 ^ m : Nat) : Int)) := by
  rw [shift_shr_any _ _ _ _ (by omega)]
  congr 2
  have e8 : (8 * (m : Int)).toNat = 8 * m := by omega
  rw [e8, show IntKind.i64.bits = 64 from rfl]
  have ep : (256 : Nat) ^ m = 2 ^ (8 * m) := by rw [show (256 : Nat) = 2 ^ 8 from rfl, ← Nat.pow_mul]
  rw [ep]
  have ec : ∀ k : Nat, (n : Int) / 2 ^ k = ((n / 2 ^ k : Nat) : Int) := fun k => by rw [Int.natCast_ediv, Int.natCast_pow]; rfl
  rw [ec]
  rcases Nat.lt_or_ge (8 * m) 64 with h | h
  · rw [Nat.min_eq_left (by omega)]
  · rw [Nat.min_eq_right (by omega), Nat.div_eq_of_lt (by omega), Nat.div_eq_of_lt]
    have : 2 ^ 64 ≤ 2 ^ (8 * m) := Nat.pow_le_pow_right (by decide) h
    omega
set_option maxHeartbeats 1000000 in
theorem oput_wide (n m : Nat) (h1 : 1 ≤ m) (h2 : m ≤ 11) (hn : ¬ n < 8 ^ m) (hn63 : n ≤ 9223372036854775807) (w : World) :
    Calls Tryz.prog 92 #[.int .i64 (n : Int), .int .i64 ((m : Int) + 1)] w fun e w' => (256 ^ m ≤ n → e = .returned (.tuple #[.slice none 0 0, .int .i64 2])) ∧ (n < 256 ^ m → ∃ g, e = .returned (.tuple #[.slice (some ⟨g, 0, none⟩) (m + 1) (m + 1), .int .i64 0]) ∧ BlockIs w' g (m + 1) (Oct.formF n (m + 1)) ∧ w.heap.size ≤ g) ∧ Bw w w' := by
  obtain ⟨M, hM1, hM2, hM3⟩ := made_bytes (m + 1) (by omega)
  have hMB : Hid (∀ w : World, BlockIs (w.alloc (.cells M 5)) w.heap.size (m + 1) (fun _ => 0)) := fun w => block_made w M _ hM1 hM2
  have hMr : ∀ w, (Instr.makeSlice 24 (.int .i64 ((m : Int) + 1)) (.int .i64 ((m : Int) + 1))).run Tryz.prog w = .ok (.slice (some ⟨w.heap.size, 0, none⟩) (m + 1) (m + 1)) (w.alloc (.cells M 5)) := hM3
  obtain ⟨P, hPe⟩ : ∃ P : Int, Hid (P = (8 : Int) ^ m - 1) := ⟨_, rfl⟩
  have hP : ¬ (n : Int) ≤ P := by rw [hPe.out, pow8_cast]; omega
  have HN : Hid (¬ n < 8 ^ m) := hn
  have n0 : (0 : Int) ≤ (n : Int) := Int.natCast_nonneg _
  have m0 : (0 : Int) ≤ (m : Int) := Int.natCast_nonneg _
  have m1 : (m : Int) ≤ 11 := by omega
  have HM1 : Hid (M.size = m + 1) := hM1
  have HM2 : Hid (∀ i, i < m + 1 → M[i]? = some (.int .u8 0)) := hM2
  clear hM1 hM2 hM3 hn
  obtain ⟨D, hD⟩ : ∃ D : Nat, Hid (D = n / 256 ^ m) := ⟨_, rfl⟩
  have hsh : Op.shift .shr .i64 (n : Int) .i64 (8 * (m : Int)) = pure (.int .i64 (D : Int)) := by rw [hD.out]; exact shr_wide n m hn63
  by_cases hlong : 256 ^ m ≤ n
  · have hlong' : Hid (256 ^ m ≤ n) := hlong
    have hpos : 0 < D := by rw [hD.out]; exact Nat.div_pos hlong (Nat.pow_pos (by decide))
    have hne : ((D : Int) != 0) = true := by rw [bne_iff_ne]; omega
    clear hlong
    go_enter Tryz.func92, Tryz.ntmps92
    go_wp2_with (first
      | (go_at_call 102; refine (isw_yes _ (by omega) (by omega) _).mono ?_; rintro e w' ⟨rfl, hw'⟩; subst w')
      | (go_at_call 103; refine (most_yes (m + 1) (by omega) (by omega) _).mono ?_; rintro e w' ⟨rfl, hw'⟩; subst w'; rw [Nat.add_sub_cancel, ← hPe.out]))
    go_ret2
    exact ⟨fun _ => rfl, fun h => absurd h (Nat.not_lt.2 hlong'.out), Below.alloc (Bw.refl _) (Nat.le_refl _) _⟩
  · have hlong' : Hid (n < 256 ^ m) := Nat.lt_of_not_le hlong
    have h0 : D = 0 := by rw [hD.out]; exact Nat.div_eq_of_lt hlong'.out
    subst h0
    clear hlong
    have hB0 := hMB.out w
    obtain ⟨c1, c2⟩ := hB0.cell (c := 0) (by omega)
    have hB1 : BlockIs (w.alloc (.cells (M.setIfInBounds 0 (.int .u8 128)) 5)) w.heap.size (m + 1) (fun c => if c = 0 then 128 else 0) := ⟨_, heap_alloc_new _ _, by rw [Array.size_setIfInBounds]; exact HM1.out, fun c hc => by
      by_cases h : c = 0
      · subst h; rw [Array.getElem?_setIfInBounds_self_of_lt (by have := HM1.out; omega)]; rfl
      · rw [Array.getElem?_setIfInBounds_ne (Ne.symm h), HM2.out c hc]; dsimp only; rw [if_neg h]⟩
    have d1 : ¬ m = 0 := by omega
    go_enter Tryz.func92, Tryz.ntmps92
    go_wp2_with (first
      | (go_at_call 102; refine (isw_yes _ (by omega) (by omega) _).mono ?_; rintro e w' ⟨rfl, hw'⟩; subst w')
      | (go_at_call 103; refine (most_yes (m + 1) (by omega) (by omega) _).mono ?_; rintro e w' ⟨rfl, hw'⟩; subst w'; rw [Nat.add_sub_cancel, ← hPe.out])
      | (go_at_call 104; refine (lay8_any w.heap.size 1 m _ (m + 1) n _ (by omega) (by omega) (by omega) hn63 _ hB1).mono ?_; rintro e w1 ⟨rfl, ho1, hx1⟩))
    go_ret2
    have hx0 : Bw w (w.alloc (.cells (M.setIfInBounds 0 (.int .u8 128)) 5)) := Below.alloc (Bw.refl _) (Nat.le_refl _) _
    have hw1 : Bw w w1 := ⟨hx1.os.trans hx0.os, hx1.tape.trans hx0.tape, hx1.output.trans hx0.output, Nat.le_trans hx0.size hx1.size, fun b hb => (hx1.block b (Nat.lt_of_lt_of_le hb hx0.size) (by omega)).trans (hx0.block b hb)⟩
    refine ⟨fun h => absurd h (Nat.not_le.2 hlong'.out), fun _ => ⟨w.heap.size, rfl, ho1.congr (fun c hc => ?_), Nat.le_refl _⟩, hw1⟩
    by_cases h0 : c = 0
    · subst h0
      unfold Oct.formF Oct.wideF layF
      rw [if_neg (by rw [Nat.add_sub_cancel]; exact HN.out), if_pos rfl, if_neg (by omega)]; rfl
    · exact wide_form HN.out (by omega) hc _
/-- what Put answers -/
structure OPutSays (n z : Int) (w : World) (e : Ending) (w' : World) : Prop where
  arg : ¬ (2 ≤ z ∧ z ≤ 12) ∨ n < 0 → e = .returned (.tuple #[.slice none 0 0, .int .i64 1])
  long : 2 ≤ z → z ≤ 12 → 0 ≤ n → ¬ (n.toNat < 8 ^ (z.toNat - 1) ∨ n.toNat < 256 ^ (z.toNat - 1)) → e = .returned (.tuple #[.slice none 0 0, .int .i64 2])
  form : 2 ≤ z → z ≤ 12 → 0 ≤ n → (n.toNat < 8 ^ (z.toNat - 1) ∨ n.toNat < 256 ^ (z.toNat - 1)) → ∃ g, e = .returned (.tuple #[.slice (some ⟨g, 0, none⟩) z.toNat z.toNat, .int .i64 0]) ∧ BlockIs w' g z.toNat (Oct.formF n.toNat z.toNat) ∧ w.heap.size ≤ g
  keeps : Bw w w'
theorem oput_any (n z : Int) (hn : n ≤ 9223372036854775807) (w : World) : Calls Tryz.prog 92 #[.int .i64 n, .int .i64 z] w fun e w' => OPutSays n z w e w' := by
  by_cases h : ¬ (2 ≤ z ∧ z ≤ 12) ∨ n < 0
  · refine (oput_arg n z h w).mono ?_
    rintro e w' ⟨rfl, hw'⟩
    subst w'
    exact ⟨fun _ => rfl, fun h1 h2 h3 => absurd h (by omega), fun h1 h2 h3 => absurd h (by omega), Bw.refl _⟩
  · obtain ⟨m, rfl⟩ : ∃ m : Nat, z = (m : Int) + 1 := ⟨(z - 1).toNat, by omega⟩
    obtain ⟨k, rfl⟩ := Int.eq_ofNat_of_zero_le (show 0 ≤ n by omega)
    have ez : ((m : Int) + 1).toNat = m + 1 := by omega
    by_cases hp : k < 8 ^ m
    · refine (oput_plain k m (by omega) (by omega) hp w).mono ?_
      rintro e w' ⟨g, he, ho, hg, hw⟩
      refine ⟨fun h' => absurd h' h, fun _ _ _ h' => absurd (Or.inl ?_) h', fun _ _ _ _ => ⟨g, ?_, ?_, hg⟩, hw⟩
      · rw [ez]; exact hp
      · rw [ez]; exact he
      · rw [ez]; exact ho
    · refine (oput_wide k m (by omega) (by omega) hp (by omega) w).mono ?_
      rintro e w' ⟨ha, hb, hw⟩
      refine ⟨fun h' => absurd h' h, fun _ _ _ h' => ha ?_, fun _ _ _ h' => ?_, hw⟩
      · rcases Nat.lt_or_ge k (256 ^ m) with h3 | h3
        · exact absurd (Or.inr (by rw [ez]; exact h3)) h'
        · exact h3
      · rw [ez, Nat.add_sub_cancel] at h'
        obtain ⟨g, he, ho, hg⟩ := hb (h'.resolve_left hp)
        rw [ez]
        exact ⟨g, he, ho, hg⟩
end Go.Proofs.YtldkhbkgmiicbabGreatDoor

/- Contracts of the program's Get and Exact. -/
namespace Go.Proofs.YtldkhbkgmiicbabGreatDoor
open Go.RowKit Go.Deep
set_option linter.unusedVariables false
set_option linter.unusedSimpArgs false

end Go.Proofs.YtldkhbkgmiicbabGreatDoor

/- Written rows of bytes; the contract of the statements' own awake; Put with and without a form. -/
namespace Go.Proofs.YtldkhbkgmiicbabGreatDoor
open Go.RowKit Go.Deep
set_option linter.unusedVariables false
set_option linter.unusedSimpArgs false

namespace Oct
/-- a written row of bytes -/
def lit (l : List Nat) (i : Nat) : Int := ((l.getD i 0 : Nat) : Int)
/-- there is a form -/
def Has (n z : Int) : Prop := 2 ≤ z ∧ z ≤ 12 ∧ 0 ≤ n ∧ (n.toNat < 8 ^ (z.toNat - 1) ∨ n.toNat < 256 ^ (z.toNat - 1))
/-- Put's error where there is none -/
def errP (n z : Int) : Int := if (2 ≤ z ∧ z ≤ 12) ∧ 0 ≤ n then 2 else 1
end Oct

theorem oput_yes (n : Int) (W : Nat) (hn : n ≤ 9223372036854775807) (h : Oct.Has n (W : Int)) (w : World) : Calls Tryz.prog 92 #[.int .i64 n, .int .i64 (W : Int)] w fun e w' =>
    ∃ g, e = .returned (.tuple #[.slice (some ⟨g, 0, none⟩) W W, .int .i64 0]) ∧ BlockIs w' g W (Oct.formF n.toNat W) ∧ w.heap.size ≤ g ∧ Bw w w' := by
  refine (oput_any n (W : Int) hn w).mono ?_
  rintro e w' hp
  obtain ⟨g, he, ho, hg⟩ := hp.form h.1 h.2.1 h.2.2.1 h.2.2.2
  rw [Int.toNat_natCast] at he ho
  exact ⟨g, he, ho, hg, hp.keeps⟩
theorem bw_alloc7 {w w' : World} (h : Bw w w') (o : Obj) : Bw w (w'.alloc o) := Below.alloc h h.size o

end Go.Proofs.YtldkhbkgmiicbabGreatDoor

/- Arrays of 512 bytes in memory; the program's own sum and form, as landed at e169a841. -/
namespace Go.Proofs.YtldkhbkgmiicbabGreatDoor
open Go.RowKit Go.Deep
set_option linter.unusedVariables false
set_option linter.unusedSimpArgs false

theorem info_raw {l : Hd.B} (h : l.length = 512) : (Tryz.prog.info? 112).map (·.size) = some (Hd.arr l).size := by
  rw [Hd.arr_size, h]; kernel_rfl
theorem zero_raw (w : World) : (zeroValue 112).run Tryz.prog w = .ok (.agg (Hd.arr Hd.zeros)) w := by kernel_rfl
/-- an array of these bytes in a block -/
def ArrAt (w : World) (g : Nat) (l : Hd.B) : Prop := w.heap[g]? = some (.cells (Hd.arr l) 112 (0, 0))
theorem ArrAt.lt {w : World} {g : Nat} {l : Hd.B} (h : ArrAt w g l) : g < w.heap.size := (Array.getElem?_eq_some_iff.1 h).1
theorem ArrAt.keep {w w' : World} {g : Nat} {l : Hd.B} (h : ArrAt w g l) (b : Bw w w') : ArrAt w' g l := (b.block g h.lt).trans h
theorem ArrAt.keepx {S : Nat → Prop} {w w' : World} {g : Nat} {l : Hd.B} (h : ArrAt w g l) (b : Bx S w w') (hg : ¬ S g) : ArrAt w' g l := (b.block g h.lt hg).trans h
theorem ArrAt.cell {w : World} {g : Nat} {l : Hd.B} (h : ArrAt w g l) {c : Nat} (hc : c < l.length) : w.cell? ⟨g, c, none⟩ = some (.int .u8 (Hd.rowF l c)) ∧ w.frozen? ⟨g, c, none⟩ = false :=
  ⟨(cell_of_row w g c _ _ _ h).trans (Hd.arr_row hc), frozen_of_row w g c _ _ h⟩
/-- a piece of an array as a row -/
theorem ArrAt.row {w : World} {g : Nat} {l : Hd.B} (h : ArrAt w g l) (o n : Nat) (hn : o + n ≤ l.length) : RowAt w (some ⟨g, o, none⟩) n (Hd.rowF ((l.drop o).take n)) := by
  refine ⟨.inr ⟨g, o, rfl, fun i hi => ?_⟩, Hd.rowF_bd _⟩
  rw [(h.cell (c := o + i) (by omega)).1]
  have e : ((l.drop o).take n)[i]? = some l[o + i] := by rw [List.getElem?_take, if_pos hi, List.getElem?_drop, List.getElem?_eq_getElem (by omega)]
  rw [Hd.rowF_at e, Hd.rowF_at (List.getElem?_eq_getElem (show o + i < l.length by omega))]
theorem arr_new (w : World) (l : Hd.B) : ArrAt (w.alloc (.cells (Hd.arr l) 112)) w.heap.size l := heap_alloc_new _ _
theorem index_raw (w : World) {l : Hd.B} {k : Nat} (hl : l.length = 512) (hk : k < 512) : (Instr.index 112 (.agg (Hd.arr l)) (.int .i64 (k : Int))).run Tryz.prog w = .ok (.int .u8 (Hd.rowF l k)) w := by
  simp [Instr.index, run_underlying Tryz.underlying112, asIntOf, hk, go_sem]
  rw [Hd.arr_row (by omega)]; rfl
/-- a row laid over an array -/
theorem run_copy_arr {w : World} {g o n : Nat} {l s : Hd.B} (m cap cb : Nat) (ty : TypeId) {A : Option Addr} (hg : ArrAt w g l) (hn : s.length = n) (ho : o + n ≤ l.length) (hm : n ≤ m) (h0 : 0 < n) (hB : RowAt w A n (Hd.rowF s)) :
    (Builtin.copy_ #[24, 24] ty #[.slice (some ⟨g, o, none⟩) m cap, .slice A n cb]).run Tryz.prog w = .ok (goInt n) (w.setRow g (Hd.arr (Hd.ovl l o s))) := by
  subst hn
  obtain ⟨b, off, rfl, hc⟩ := hB.at (k := 0) h0
  have hl : (Lib.byteCells s).length = s.length := Lib.byteCells_length s
  have hrun := run_copy_row Tryz.prog w 24 24 ty 5 g o m cap ⟨b, off, none⟩ s.length cb (Hd.arr l) 112 (Lib.byteCells s) Tryz.underlying24 u8_one hg (by rw [hl]; exact (Nat.min_eq_left hm).symm) (by rw [← Hd.cells_row]; exact rowat_news hB) (by rw [hl, Hd.arr_size]; omega) (Lib.byteCells_one s)
  rw [hl, Hd.arr_ovl] at hrun
  exact hrun
theorem run_copy_txt {w : World} {g o : Nat} {l : Hd.B} (m cap : Nat) (ty : TypeId) (s : ByteArray) (hg : ArrAt w g l) (ho : o + s.size ≤ l.length) (hm : s.size ≤ m) :
    (Builtin.copy_ #[24, 9] ty #[.slice (some ⟨g, o, none⟩) m cap, .string s]).run Tryz.prog w = .ok (goInt s.size) (w.setRow g (Hd.arr (Hd.ovl l o s.toList))) := by
  have hrun := Lib.run_copy_row_string (P := Tryz.prog) w 24 9 ty 5 g o m cap s (Hd.arr l) 112 Tryz.underlying24 u8_one hg hm (by rw [Hd.arr_size]; omega)
  have e := Hd.arr_ovl l o s.toList
  rw [Hd.size_toList, ByteArray.toList_eq] at e
  rw [e] at hrun
  rw [ByteArray.toList_eq]
  exact hrun
theorem arr_set {w : World} {g : Nat} {l : Hd.B} (h : ArrAt w g l) (m : Hd.B) : ArrAt (w.setRow g (Hd.arr m)) g m := setRow_heap w g _ _ _ _ h
theorem bx_set {S : Nat → Prop} (w : World) (g : Nat) (a : Array Value) (h : S g) : Bx S w (w.setRow g a) :=
  ⟨rfl, rfl, rfl, by simp [World.setRow], fun k _ hk => setRow_other w g k _ (fun e => hk (by rw [e]; exact h))⟩

set_option maxRecDepth 100000 in
theorem hsum_any (l : Hd.B) (hl : l.length = 512) (w : World) :
    Calls Tryz.prog 93 #[.agg (Hd.arr l)] w fun e w' => e = .returned (.int .i64 ((Hd.sumB l : Nat) : Int)) ∧ Bw w w' := by
  have hi := info_raw hl
  have hix : Hid (∀ (w : World) (k : Nat), k < 512 → (Instr.index 112 (.agg (Hd.arr l)) (.int .i64 (k : Int))).run Tryz.prog w = .ok (.int .u8 (Hd.rowF l k)) w) := fun w k hk => index_raw w hl hk
  have hend := Hd.sumTo_all hl
  have HE : Hid (Hd.sumTo l 512 = Hd.sumB l) := hend
  obtain ⟨A, hA⟩ : ∃ A, Hid (A = Hd.arr l) := ⟨_, rfl⟩
  rw [← hA.out] at hi hix ⊢
  clear hend
  go_enter Tryz.func93, Tryz.ntmps93
  go_wp2_with (refine wpList_load_row rfl 112 _ rfl w.heap.size rfl 112 A (0, 0) _ (heap_alloc_new _ _) Tryz.underlying112 rfl hi ?_)
  obtain ⟨W, hW⟩ : ∃ W, W = w.alloc (.cells A 112) := ⟨_, rfl⟩
  have hbw : Bw w W := by rw [hW]; exact (Below.refl _ _).alloc (Nat.le_refl _) _
  rw [← hW]
  clear hW
  go_loop [3, 7] (fun t i => ∃ (k u : Nat), k ≤ 512 ∧ i = .int .i64 (k : Int) ∧ t = .int .i64 (u : Int) ∧ Hid (u = Hd.sumTo l k) ∧ u ≤ 130560) (fun _ i => 512 - (intOf i).toNat)
  case atStart => exact ⟨0, 0, Nat.zero_le _, rfl, rfl, rfl, Nat.zero_le _⟩
  case round =>
    obtain ⟨k, u, hk, rfl, rfl, hu, hub⟩ := hrel
    have k0 : (0 : Int) ≤ (k : Int) := Int.natCast_nonneg _
    by_cases hlt : k < 512
    · have h1 := hix.out W k hlt
      obtain ⟨b0, b1⟩ := Hd.rowF_bd l k
      have t1 : (k : Int) < 512 := by omega
      by_cases hm : 148 ≤ k ∧ k < 156
      · have m1 : (148 : Int) ≤ (k : Int) := by omega
        have m2 : (k : Int) < 156 := by omega
        have hs : Hid (u + 32 = Hd.sumTo l (k + 1)) := by show _ = _; rw [hu.out]; unfold Hd.sumTo; rw [if_pos hm]; cases k <;> rfl
        have hs2 := Hd.sumTo_bd l (k + 1)
        rw [← hs.out] at hs2
        go_wp2
        go_round
        case rel => exact ⟨k + 1, u + 32, by omega, by go_num, by go_num, hs.out, by omega⟩
        case measure => simp [intOf]; omega
      · obtain ⟨z, hz⟩ : ∃ z : Nat, Hid (Hd.rowF l k = (z : Int)) := ⟨(Hd.rowF l k).toNat, by show _ = _; omega⟩
        have hs : Hid (u + z = Hd.sumTo l (k + 1)) := by
          show _ = _
          have e : (l.getD k 0).toNat = z := by have := hz.out; unfold Hd.rowF at this; omega
          rw [hu.out]; unfold Hd.sumTo; rw [if_neg hm, e]; cases k <;> rfl
        have hs2 := Hd.sumTo_bd l (k + 1)
        rw [← hs.out] at hs2
        rw [hz.out] at h1 b0 b1
        rcases Nat.lt_or_ge k 148 with hlo | hlo
        · have m1 : ¬ (148 : Int) ≤ (k : Int) := by omega
          go_wp2
          go_round
          case rel => exact ⟨k + 1, u + z, by omega, by go_num, by go_num, hs.out, by omega⟩
          case measure => simp [intOf]; omega
        · have m1 : (148 : Int) ≤ (k : Int) := by omega
          have m2 : ¬ (k : Int) < 156 := by omega
          go_wp2
          go_round
          case rel => exact ⟨k + 1, u + z, by omega, by go_num, by go_num, hs.out, by omega⟩
          case measure => simp [intOf]; omega
    · have ek : k = 512 := by omega
      subst ek
      go_wp2
      go_ret
      exact ⟨ret_int (by rw [hu.out, HE.out]), hbw⟩
theorem hform_any (n : Int) (W : Nat) (hn : n ≤ 9223372036854775807) (h : Oct.Has n (W : Int)) (w : World) : Calls Tryz.prog 82 #[.int .i64 n, .int .i64 (W : Int)] w fun e w' =>
    ∃ g, e = .returned (.slice (some ⟨g, 0, none⟩) W W) ∧ RowAt w' (some ⟨g, 0, none⟩) W (Hd.rowF (Hd.numB n.toNat W)) ∧ Bw w w' := by
  go_enter Tryz.func82, Tryz.ntmps82
  go_wp2_with (go_at_call 92; refine (oput_yes n W hn h _).mono ?_; rintro e w1 ⟨g, rfl, ho, hg, hw1⟩)
  go_ret
  have hr := ho.row (Oct.formF_bd _ _)
  refine ⟨g, rfl, ⟨?_, Hd.rowF_bd _⟩, hw1⟩
  rcases hr.1 with h0 | ⟨b, off, hA, hc⟩
  · exact Or.inl h0
  · exact Or.inr ⟨b, off, hA, fun i hi => by rw [hc i hi, Hd.rowF_num hi]⟩
end Go.Proofs.YtldkhbkgmiicbabGreatDoor
