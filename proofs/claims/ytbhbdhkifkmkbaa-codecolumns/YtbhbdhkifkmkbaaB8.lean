/- Texts of mine, put together. -/
import Derived.Test.YtbhbdhkifkmkbaaB7
import Derived.Shelf.GgSortFunc.Whole
import Derived.Shelf.GgSortFunc.Tiny
import Derived.Lib.RowBridge

set_option linter.unusedVariables false

/- The program's Table, Encode and shard: what they answer. -/
namespace Go.Proofs.Ytbhbdhkifkmkbaa
open Go.RowKit

theorem MatRes.vals {w : World} {base n : Nat} {v : Value} {L : Nat → Nat} {Z Z' : Nat → Nat → Int} (h : MatRes w base v n L Z) (hb : ∀ r, r < n → ∀ c, 0 ≤ Z' r c ∧ Z' r c < 256) (e : ∀ r, r < n → ∀ c, c < L r → Z' r c = Z r c) : MatRes w base v n L Z' := by
  obtain ⟨A, cap, R, C, hv, hm⟩ := h
  refine ⟨A, cap, R, C, hv, ⟨hm.mat.1, fun r hr => ⟨?_, hb r hr⟩⟩, hm.head, hm.rows⟩
  rcases (hm.mat.2 r hr).1 with h0 | ⟨b, off, hA, hc⟩
  · exact Or.inl h0
  · exact Or.inr ⟨b, off, hA, fun i hi => by rw [hc i hi, e r hr i hi]⟩
theorem MatRes.val3 {w : World} {base n : Nat} {v : Value} {L : Nat → Nat} {Z : Nat → Nat → Int} (h : MatRes w base v n L Z) : MatVal3 w v n L Z := by
  obtain ⟨A, cap, R, C, hv, hm⟩ := h
  exact ⟨A, cap, R, C, hv, hm.mat⟩
theorem MatRes.bd {w : World} {base n : Nat} {v : Value} {L : Nat → Nat} {Z : Nat → Nat → Int} (h : MatRes w base v n L Z) : ∀ r, r < n → ∀ c, 0 ≤ Z r c ∧ Z r c < 256 := by
  obtain ⟨A, cap, R, C, hv, hm⟩ := h
  exact fun r hr => (hm.mat.2 r hr).2
theorem MatRes.below {w : World} {base lo n : Nat} {v : Value} {L : Nat → Nat} {Z : Nat → Nat → Int} (h : MatRes w base v n L Z) (hlo : lo ≤ base) : MatRes w lo v n L Z := by
  obtain ⟨A, cap, R, C, hv, hm⟩ := h
  refine ⟨A, cap, R, C, hv, hm.mat, ?_, fun r hr => ?_⟩
  · rcases hm.head with h0 | ⟨g, o, e, h1, h2⟩
    · exact Or.inl h0
    · exact Or.inr ⟨g, o, e, by omega, h2⟩
  · rcases hm.rows r hr with h0 | ⟨g, o, e, h1, h2⟩
    · exact Or.inl h0
    · exact Or.inr ⟨g, o, e, by omega, h2⟩
theorem MatRes.keep {w w' : World} {base n : Nat} {v : Value} {L : Nat → Nat} {Z : Nat → Nat → Int} (h : MatRes w base v n L Z) (k : Bw w w') : MatRes w' base v n L Z := by
  obtain ⟨A, cap, R, C, hv, hm⟩ := h
  exact ⟨A, cap, R, C, hv, hm.keep k⟩

theorem mat_take {w : World} {A : Option Addr} {n k : Nat} {R : Nat → Option Addr} {L C : Nat → Nat} {Z : Nat → Nat → Int} (h : MatAt w A n R L C Z) (hk : k ≤ n) : MatAt w A k R L C Z := by
  refine ⟨?_, fun r hr => h.2 r (by omega)⟩
  rcases h.1 with h0 | ⟨b, o, e, hc⟩
  · exact Or.inl (by omega)
  · exact Or.inr ⟨b, o, e, fun r hr => hc r (by omega)⟩

theorem cols_const {n c : Nat} {L : Nat → Nat} (h : 0 < n) (hL : L 0 = c) : colsI n L = (c : Int) := by unfold colsI; rw [if_neg (by omega), hL]

set_option maxRecDepth 100000 in
theorem tab_ok (k n : Nat) (hkn : KnWrong (k : Int) (n : Int) 0) (w : World) :
    Calls Try.prog 11 #[.int .i64 (k : Int), .int .i64 (n : Int)] w fun e w' => ∃ v, e = .returned (.tuple #[v, .int .i64 0]) ∧ MatRes w' w.heap.size v n (fun _ => k) (tabI k) ∧ Bw w w' := by
  obtain ⟨n1, n2, n3⟩ := kn_ok hkn
  have kn : (k : Int) ≤ (n : Int) := n2
  have wk : Hid (Wrong k (fun _ => k) 0) := wrong_lit (c := k) (by omega) (by omega) (fun _ => rfl)
  have wn : Hid (Wrong n (fun _ => k) 0) := wrong_lit (c := k) (by omega) (by omega) (fun _ => rfl)
  go_enter Try.func11, Try.ntmps11
  go_wp2_with (first
    | (go_at_call 25; refine (kn_any _ _ _).mono ?_; rintro e w' ⟨y, rfl, hy, hw'⟩; subst w'; obtain rfl := hy.unique hkn)
    | (go_at_call 26; refine (powers_any k n (by omega) (by omega) _).mono ?_; rintro e w1 ⟨g, R1, rfl, hm1, hw1⟩; have hmk := mat_take hm1 (show k ≤ n by omega))
    | (go_at_call 27; refine (iv_ok _ k _ R1 (fun _ => k) (fun _ => k) _ _ hmk wk.out (cols_const (by omega) rfl)).mono ?_; rintro e w2 ⟨v2, x2, kk, Y, rfl, hr2, hi2, hw2⟩; obtain ⟨e0, e1, ht⟩ := table_math (k := k) (n := n) (V := fun r c => wayP (r : Int) k c) (by omega) (by omega) (by omega) (fun i _ j hj => by show wayP (i : Int) k j = _; unfold wayP; rw [if_pos hj]) (fun i _ j => wayP_bd _ _ _) hi2 hr2.bd; subst e0; subst e1; have HT : Hid (∀ i, i < n → ∀ j, j < kk → prodZ kk (fun r c => wayP (r : Int) kk c) Y i j = tabI kk i j) := ht; clear ht hi2; obtain ⟨A2, cap2, R2, C2, rfl, hm2⟩ := hr2; have hmn := hm1.keep hw2)
    | (go_at_call 28; refine (mul_ok _ A2 n _ _ _ _ R1 R2 _ _ _ _ _ Y _ hmn hm2.mat wn.out wk.out (cols_const (by omega) rfl) (cols_const (by omega) rfl)).mono ?_; rintro e w3 ⟨v3, rfl, hr3, hw3⟩))
  go_ret2
  have hs := (hw1.trans hw2).size
  exact ⟨_, rfl, (hr3.below hs).vals (fun r _ c => tabI_bd _ _ _) (fun r hr c hc => (HT.out r hr c hc).symm), hw1.trans (hw2.trans hw3)⟩

theorem tab_bad (k n x : Int) (w : World) (hx : KnWrong k n x) (h0 : x ≠ 0) :
    Calls Try.prog 11 #[.int .i64 k, .int .i64 n] w fun e w' => e = .returned (.tuple #[.slice none 0 0, .int .i64 x]) ∧ w' = w := by
  have e2 : (x != 0) = true := by simpa using h0
  go_enter Try.func11, Try.ntmps11
  go_wp2_with (go_at_call 25; refine (kn_any _ _ _).mono ?_; rintro e w' ⟨y, rfl, hy, hw'⟩; subst w'; obtain rfl := hy.unique hx)
  go_ret2
  exact ⟨rfl, rfl⟩

/-- what Table says -/
def TabSays (k n x : Int) (kk : Nat) : Prop := (KnWrong k n x ∧ x ≠ 0 ∧ kk = 0) ∨ (KnWrong k n 0 ∧ x = 0 ∧ (kk : Int) = n)
theorem tabsays_unique {k n x x' : Int} {kk kk' : Nat} (h : TabSays k n x kk) (h' : TabSays k n x' kk') : x = x' ∧ kk = kk' := by
  rcases h with ⟨a, b, c⟩ | ⟨a, b, c⟩ <;> rcases h' with ⟨a', b', c'⟩ | ⟨a', b', c'⟩
  · exact ⟨a.unique a', by omega⟩
  · exact absurd (a.unique a') b
  · exact absurd (a'.unique a) b'
  · exact ⟨by omega, by omega⟩

theorem table_all (k n : Int) (w : World) :
    Calls Try.prog 11 #[.int .i64 k, .int .i64 n] w fun e w' => ∃ v x kk, e = .returned (.tuple #[v, .int .i64 x]) ∧ MatRes w' w.heap.size v kk (fun _ => k.toNat) (tabI k.toNat) ∧ TabSays k n x kk ∧ Bw w w' := by
  obtain ⟨x, hx⟩ := kn_some k n
  by_cases h0 : x = 0
  · subst h0
    have hk := kn_ok hx
    obtain ⟨k', rfl⟩ := Int.eq_ofNat_of_zero_le (show 0 ≤ k by omega)
    obtain ⟨n', rfl⟩ := Int.eq_ofNat_of_zero_le (show 0 ≤ n by omega)
    refine (tab_ok k' n' hx w).mono ?_
    rintro e w' ⟨v, he, hm, hw⟩
    exact ⟨v, 0, n', he, hm, Or.inr ⟨hx, rfl, rfl⟩, hw⟩
  · refine (tab_bad k n x w hx h0).mono ?_
    rintro e w' ⟨he, rfl⟩
    exact ⟨_, x, 0, he, res_none _ _ _ _, Or.inl ⟨hx, h0, rfl⟩, Bw.refl _⟩

set_option maxRecDepth 100000 in
theorem enc_ok (A : Option Addr) (k n cap : Nat) (R : Nat → Option Addr) (L C : Nat → Nat) (Z : Nat → Nat → Int) (w : World) (h : MatAt w A k R L C Z) (hkn : KnWrong (k : Int) (n : Int) 0) (hrw : RowsWrong k L 0) :
    Calls Try.prog 14 #[.slice A k cap, .int .i64 (n : Int)] w fun e w' => ∃ v, e = .returned (.tuple #[v, .int .i64 0]) ∧ MatRes w' w.heap.size v n (fun _ => L 0) (wordI k Z) ∧ Bw w w' := by
  obtain ⟨n1, n2, n3⟩ := kn_ok hkn
  obtain ⟨l1, l2⟩ := rows_ok hrw
  have wn : Hid (Wrong n (fun _ => k) 0) := wrong_lit (c := k) (by omega) (by omega) (fun _ => rfl)
  have wk : Hid (Wrong k L 0) := show Wrong k L 0 from Or.inr (Or.inr ⟨rfl, by omega, l1, l2⟩)
  clear l1 l2
  go_enter Try.func14, Try.ntmps14
  go_wp2_with (first
    | (go_at_call 11; refine (tab_ok k n hkn _).mono ?_; rintro e w1 ⟨v1, rfl, hr1, hw1⟩; obtain ⟨A1, cap1, R1, C1, rfl, hm1⟩ := hr1; have h1 := h.keep hw1)
    | (go_at_call 32; refine (rows_any A k cap R L C Z (by omega) _ h1).mono ?_; rintro e w' ⟨y, rfl, hy, hw'⟩; subst w'; obtain rfl := hy.unique hrw)
    | (go_at_call 28; refine (mul_ok A1 A n k (L 0) _ _ R1 R _ _ _ _ _ Z _ hm1.mat h1 wn.out wk.out (cols_const (by omega) rfl) (cols_const (by omega) rfl)).mono ?_; rintro e w3 ⟨v3, rfl, hr3, hw3⟩))
  go_ret2
  have hs := hw1.size
  exact ⟨_, rfl, (hr3.below hs).vals (fun r _ c => wordI_bd _ _ _ _) (fun r hr c hc => (word_math (fun j _ => rfl) (fun j => tabI_bd _ _ _) (fun j hj => (h.2 j hj).2 c)).symm), hw1.trans hw3⟩

theorem enc_bad (A : Option Addr) (k cap : Nat) (N x : Int) (w : World) (hx : KnWrong (k : Int) N x) (h0 : x ≠ 0) :
    Calls Try.prog 14 #[.slice A k cap, .int .i64 N] w fun e w' => e = .returned (.tuple #[.slice none 0 0, .int .i64 x]) ∧ w' = w := by
  have e2 : (x != 0) = true := by simpa using h0
  go_enter Try.func14, Try.ntmps14
  go_wp2_with (go_at_call 11; refine (tab_bad _ _ x _ hx h0).mono ?_; rintro e w' ⟨rfl, hw'⟩; subst w')
  go_ret2
  exact ⟨rfl, rfl⟩

theorem enc_rows (A : Option Addr) (k cap n : Nat) (R : Nat → Option Addr) (L C : Nat → Nat) (Z : Nat → Nat → Int) (x : Int) (w : World) (h : MatAt w A k R L C Z) (hkn : KnWrong (k : Int) (n : Int) 0) (hx : RowsWrong k L x) (h0 : x ≠ 0) :
    Calls Try.prog 14 #[.slice A k cap, .int .i64 (n : Int)] w fun e w' => e = .returned (.tuple #[.slice none 0 0, .int .i64 x]) ∧ Bw w w' := by
  have e2 : (x != 0) = true := by simpa using h0
  have hk := kn_ok hkn
  go_enter Try.func14, Try.ntmps14
  go_wp2_with (first
    | (go_at_call 11; refine (tab_ok k n hkn _).mono ?_; rintro e w1 ⟨v1, rfl, hr1, hw1⟩; have h1 := h.keep hw1)
    | (go_at_call 32; refine (rows_any A k cap R L C Z (by omega) _ h1).mono ?_; rintro e w' ⟨y, rfl, hy, hw'⟩; subst w'; obtain rfl := hy.unique hx))
  go_ret2
  exact ⟨rfl, hw1⟩

theorem enc_res (A : Option Addr) (k cap : Nat) (R : Nat → Option Addr) (L C : Nat → Nat) (Z : Nat → Nat → Int) (N : Int) (w : World) (h : MatAt w A k R L C Z) :
    Calls Try.prog 14 #[.slice A k cap, .int .i64 N] w fun e w' => ∃ v x kk, e = .returned (.tuple #[v, .int .i64 x]) ∧ MatRes w' w.heap.size v kk (fun _ => L 0) (wordI k Z) ∧ EncSays k L N x kk ∧ Bw w w' := by
  obtain ⟨x, hx⟩ := kn_some (k : Int) N
  by_cases h0 : x = 0
  · subst h0
    obtain ⟨n, rfl⟩ := Int.eq_ofNat_of_zero_le (show 0 ≤ N by have := kn_ok hx; omega)
    obtain ⟨y, hy⟩ := rows_some k L
    by_cases h1 : y = 0
    · subst h1
      refine (enc_ok A k n cap R L C Z w h hx hy).mono ?_
      rintro e w' ⟨v, he, hm, hw⟩
      exact ⟨v, 0, n, he, hm, Or.inr (Or.inr ⟨hx, hy, rfl, rfl⟩), hw⟩
    · refine (enc_rows A k cap n R L C Z y w h hx hy h1).mono ?_
      rintro e w' ⟨he, hw⟩
      exact ⟨_, y, 0, he, res_none _ _ _ _, Or.inr (Or.inl ⟨hx, hy, h1, rfl⟩), hw⟩
  · refine (enc_bad A k cap N x w hx h0).mono ?_
    rintro e w' ⟨he, rfl⟩
    exact ⟨_, x, 0, he, res_none _ _ _ _, Or.inl ⟨hx, h0, rfl⟩, Bw.refl _⟩

theorem enc_spec : EncSpec := by
  intro A k cap R L C Z N w h _
  refine (enc_res A k cap R L C Z N w h).mono ?_
  rintro e w' ⟨v, x, kk, he, hm, hs, hw⟩
  exact ⟨v, x, kk, he, hm.val3, hs, hw⟩

theorem ints_one (W : World) (x : Int) : IntsAt (W.alloc (.cells #[.int .i64 x] 3)) (some ⟨W.heap.size, 0, none⟩) 1 (fun _ => x) :=
  Or.inr ⟨_, _, rfl, fun i hi => by
    have e : i = 0 := by omega
    subst e
    rw [Nat.zero_add, cell_of_row _ _ 0 _ _ _ (heap_alloc_new W _)]; rfl⟩

set_option maxRecDepth 100000 in
theorem shard_ok (A B : Option Addr) (k n q ca cb num : Nat) (R S : Nat → Option Addr) (C M E : Nat → Nat) (D : Nat → Nat → Int) (w : World) (ha : MatAt w A n R (fun _ => k) C (tabI k)) (hb : MatAt w B k S M E D) (hk0 : 0 < k) (hk : k ≤ 32) (hq : q ≤ 131072) (hM : Hid (∀ r, r < k → M r = q)) (hnum : num < n) :
    Calls Try.prog 36 #[.slice A n ca, .slice B k cb, .int .i64 (num : Int)] w fun e w' => ∃ A' cap', e = .returned (.tuple #[.slice A' q cap', .int .i64 0]) ∧ NewRow w' w.heap.size A' q (wordI k D num) ∧ Bw w w' := by
  have h1 := ints_one w (num : Int)
  have hw0 : Bw w (w.alloc (.cells #[.int .i64 (num : Int)] 3)) := (Below.refl _ _).alloc (Nat.le_refl _) _
  have w1 : Hid (Wrong 1 (fun _ => k) 0) := wrong_lit (c := k) (by omega) (by omega) (fun _ => rfl)
  have wk : Hid (Wrong k M 0) := show Wrong k M 0 from Or.inr (Or.inr ⟨rfl, by omega, fun r hr => by rw [hM.out r hr]; omega, fun r hr => by rw [hM.out r hr, hM.out 0 hk0]⟩)
  go_enter Try.func36, Try.ntmps36
  go_wp2_with (first
    | (go_at_call 48; refine (pick_any A _ n 1 ca _ R _ C _ (fun _ => (num : Int)) _ (ha.keep hw0) h1 (by omega) (fun _ _ => by omega)).mono ?_; rintro e w2 ⟨g, rfl, hm2, hw2⟩; have hb2 := hb.keep (hw0.trans hw2))
    | (go_at_call 28; refine (mul_ok _ B 1 k q _ _ _ S _ _ _ _ _ D _ hm2 hb2 w1.out wk.out (cols_const (by omega) rfl) (cols_const hk0 (hM.out 0 hk0))).mono ?_; rintro e w3 ⟨v3, rfl, hr3, hw3⟩; obtain ⟨A3, cap3, R3, C3, rfl, hm3⟩ := hr3; obtain ⟨b3, o3, rfl, hc3⟩ := hm3.mat.at (k := 0) (by omega); have c3 := hc3 0 (by omega); rw [Nat.add_zero] at c3; clear hc3))
  go_ret2
  have hs := (hw0.trans hw2).size
  refine ⟨_, _, rfl, ⟨⟨?_, fun c => wordI_bd _ _ _ _⟩, ?_⟩, hw0.trans (hw2.trans hw3)⟩
  · rcases (hm3.mat.2 0 (by omega)).1 with h0 | ⟨b, off, hA, hc⟩
    · exact Or.inl h0
    · refine Or.inr ⟨b, off, hA, fun i hi => ?_⟩
      rw [hc i hi, word_math (k := k) (i := num) (r := 0) (c := i) (T := fun _ => tabI k (num : Int).toNat) (D := D) (fun j _ => by rw [Int.toNat_natCast]) (fun j => tabI_bd _ _ _) (fun j hj => (hb.2 j hj).2 i)]
  · rcases hm3.rows 0 (by omega) with h0 | ⟨g, o, e, h1, h2⟩
    · exact Or.inl h0
    · exact Or.inr ⟨g, o, e, by omega, h2⟩

end Go.Proofs.Ytbhbdhkifkmkbaa

/- The library's own contract of sort.Slice, laid over this program. -/
namespace Go.Proofs.Ytbhbdhkifkmkbaa
open Go.Shelf

def sl6_ren : Go.Shelf.Ren := ⟨fun | 6 => 56 | 10 => 61 | 11 => 62 | 12 => 63 | 13 => 64 | 14 => 65 | 24 => 77 | 25 => 78 | 26 => 79 | 27 => 80 | 28 => 81 | 29 => 82 | 30 => 83 | 31 => 84 | 32 => 85 | 33 => 86 | 34 => 89 | 35 => 90 | 36 => 91 | 37 => 92 | 38 => 93 | 39 => 95 | n => n, fun | 20 => 20 | 26 => 74 | 35 => 83 | 0 => 0 | 37 => 70 | 3 => 3 | 41 => 76 | 44 => 90 | 49 => 98 | 51 => 100 | 4 => 4 | 54 => 103 | 53 => 102 | 58 => 107 | 5 => 5 | 9 => 9 | 60 => 114 | 64 => 118 | 66 => 121 | 67 => 122 | 17 => 17 | 32 => 80 | 33 => 81 | 82 => 137 | 12 => 12 | 75 => 130 | 76 => 131 | 77 => 132 | 78 => 133 | 79 => 134 | 80 => 135 | n => n, fun  | n => n⟩

theorem sl6 : LaysGg.n6 Try.prog sl6_ren := {
  mixed := by kernel_rfl,
  f6 := Try.func56.trans (congrArg some (by kernel_rfl)),
  f10 := Try.func61.trans (congrArg some (by kernel_rfl)),
  f11 := Try.func62.trans (congrArg some (by kernel_rfl)),
  f12 := Try.func63.trans (congrArg some (by kernel_rfl)),
  f13 := Try.func64.trans (congrArg some (by kernel_rfl)),
  f14 := Try.func65.trans (congrArg some (by kernel_rfl)),
  f24 := Try.func77.trans (congrArg some (by kernel_rfl)),
  f25 := Try.func78.trans (congrArg some (by kernel_rfl)),
  f26 := Try.func79.trans (congrArg some (by kernel_rfl)),
  f27 := Try.func80.trans (congrArg some (by kernel_rfl)),
  f28 := Try.func81.trans (congrArg some (by kernel_rfl)),
  f29 := Try.func82.trans (congrArg some (by kernel_rfl)),
  f30 := Try.func83.trans (congrArg some (by kernel_rfl)),
  f31 := Try.func84.trans (congrArg some (by kernel_rfl)),
  f32 := Try.func85.trans (congrArg some (by kernel_rfl)),
  f33 := Try.func86.trans (congrArg some (by kernel_rfl)),
  f34 := Try.func89.trans (congrArg some (by kernel_rfl)),
  f35 := Try.func90.trans (congrArg some (by kernel_rfl)),
  f36 := Try.func91.trans (congrArg some (by kernel_rfl)),
  f37 := Try.func92.trans (congrArg some (by kernel_rfl)),
  f38 := Try.func93.trans (congrArg some (by kernel_rfl)),
  f39 := Try.func95.trans (congrArg some (by kernel_rfl)),
  t0 := Try.underlying0,
  a0 := Try.isAgg0,
  z0 := Try.sizeOf0,
  v0 := Try.zeroValue0,
  i0 := by kernel_rfl,
  t3 := Try.underlying3,
  a3 := Try.isAgg3,
  z3 := Try.sizeOf3,
  v3 := Try.zeroValue3,
  i3 := by kernel_rfl,
  t4 := Try.underlying4,
  a4 := Try.isAgg4,
  z4 := Try.sizeOf4,
  v4 := Try.zeroValue4,
  i4 := by kernel_rfl,
  t5 := Try.underlying5,
  a5 := Try.isAgg5,
  z5 := Try.sizeOf5,
  v5 := Try.zeroValue5,
  i5 := by kernel_rfl,
  t9 := Try.underlying9,
  a9 := Try.isAgg9,
  z9 := Try.sizeOf9,
  v9 := Try.zeroValue9,
  i9 := by kernel_rfl,
  t12 := Try.underlying12,
  a12 := Try.isAgg12,
  z12 := Try.sizeOf12,
  v12 := Try.zeroValue12,
  i12 := by kernel_rfl,
  t17 := Try.underlying17,
  a17 := Try.isAgg17,
  z17 := Try.sizeOf17,
  v17 := Try.zeroValue17,
  i17 := by kernel_rfl,
  t20 := Try.underlying20,
  a20 := Try.isAgg20,
  z20 := Try.sizeOf20,
  v20 := Try.zeroValue20,
  i20 := by kernel_rfl,
  t26 := Try.underlying74,
  a26 := Try.isAgg74,
  z26 := Try.sizeOf74,
  v26 := Try.zeroValue74,
  i26 := by kernel_rfl,
  t32 := Try.underlying80,
  a32 := Try.isAgg80,
  z32 := Try.sizeOf80,
  v32 := Try.zeroValue80,
  i32 := by kernel_rfl,
  t33 := Try.underlying81,
  a33 := Try.isAgg81,
  z33 := Try.sizeOf81,
  v33 := Try.zeroValue81,
  i33 := by kernel_rfl,
  t35 := Try.underlying83,
  a35 := Try.isAgg83,
  z35 := Try.sizeOf83,
  v35 := Try.zeroValue83,
  i35 := by kernel_rfl,
  t37 := Try.underlying70,
  a37 := Try.isAgg70,
  z37 := Try.sizeOf70,
  v37 := Try.zeroValue70,
  i37 := by kernel_rfl,
  t41 := Try.underlying76,
  a41 := Try.isAgg76,
  z41 := Try.sizeOf76,
  v41 := Try.zeroValue76,
  i41 := by kernel_rfl,
  t44 := Try.underlying90,
  a44 := Try.isAgg90,
  z44 := Try.sizeOf90,
  v44 := Try.zeroValue90,
  i44 := by kernel_rfl,
  t49 := Try.underlying98,
  a49 := Try.isAgg98,
  z49 := Try.sizeOf98,
  v49 := Try.zeroValue98,
  i49 := by kernel_rfl,
  t51 := Try.underlying100,
  a51 := Try.isAgg100,
  z51 := Try.sizeOf100,
  v51 := Try.zeroValue100,
  i51 := by kernel_rfl,
  t53 := Try.underlying102,
  a53 := Try.isAgg102,
  z53 := Try.sizeOf102,
  v53 := Try.zeroValue102,
  i53 := by kernel_rfl,
  t54 := Try.underlying103,
  a54 := Try.isAgg103,
  z54 := Try.sizeOf103,
  v54 := Try.zeroValue103,
  i54 := by kernel_rfl,
  t58 := Try.underlying107,
  a58 := Try.isAgg107,
  z58 := Try.sizeOf107,
  v58 := Try.zeroValue107,
  i58 := by kernel_rfl,
  t60 := Try.underlying114,
  a60 := Try.isAgg114,
  z60 := Try.sizeOf114,
  v60 := Try.zeroValue114,
  i60 := by kernel_rfl,
  t64 := Try.underlying118,
  a64 := Try.isAgg118,
  z64 := Try.sizeOf118,
  v64 := Try.zeroValue118,
  i64 := by kernel_rfl,
  t66 := Try.underlying121,
  a66 := Try.isAgg121,
  z66 := Try.sizeOf121,
  v66 := Try.zeroValue121,
  i66 := by kernel_rfl,
  t67 := Try.underlying122,
  a67 := Try.isAgg122,
  z67 := Try.sizeOf122,
  v67 := Try.zeroValue122,
  i67 := by kernel_rfl,
  t75 := Try.underlying130,
  a75 := Try.isAgg130,
  z75 := Try.sizeOf130,
  v75 := Try.zeroValue130,
  i75 := by kernel_rfl,
  t76 := Try.underlying131,
  a76 := Try.isAgg131,
  z76 := Try.sizeOf131,
  v76 := Try.zeroValue131,
  i76 := by kernel_rfl,
  t77 := Try.underlying132,
  a77 := Try.isAgg132,
  z77 := Try.sizeOf132,
  v77 := Try.zeroValue132,
  i77 := by kernel_rfl,
  t78 := Try.underlying133,
  a78 := Try.isAgg133,
  z78 := Try.sizeOf133,
  v78 := Try.zeroValue133,
  i78 := by kernel_rfl,
  t79 := Try.underlying134,
  a79 := Try.isAgg134,
  z79 := Try.sizeOf134,
  v79 := Try.zeroValue134,
  i79 := by kernel_rfl,
  t80 := Try.underlying135,
  a80 := Try.isAgg135,
  z80 := Try.sizeOf135,
  v80 := Try.zeroValue135,
  i80 := by kernel_rfl,
  t82 := Try.underlying137,
  a82 := Try.isAgg137,
  z82 := Try.sizeOf137,
  v82 := Try.zeroValue137,
  i82 := by kernel_rfl
}

end Go.Proofs.Ytbhbdhkifkmkbaa

/- The program's order of shards: some order of all of them. -/
namespace Go.Proofs.Ytbhbdhkifkmkbaa
open Go.RowKit

theorem made_ints (n : Nat) (h : n ≤ 1048576) : ∃ M : Array Value, M.size = n ∧ (∀ i, i < n → M[i]? = some (.int .i64 0)) ∧
    ∀ w, (Instr.makeSlice 33 (.int .i64 (n : Int)) (.int .i64 (n : Int))).run Try.prog w = .ok (.slice (some ⟨w.heap.size, 0, none⟩) n n) (w.alloc (.cells M 3)) := by
  refine ⟨madeCells #[.int .i64 0] n, ?_, ?_, fun w => run_make_row' 33 3 (.int .i64 0) 8 Try.underlying33 info_int rfl .i64 .i64 n (by omega) (by omega) w⟩
  · simp [madeCells]
  · intro i hi
    simp [madeCells, hi, Nat.mod_one]

/-- an order of l things -/
def IsPerm (l : Nat) (s : Nat → Nat) : Prop := (∀ i, i < l → s i < l) ∧ ∀ i j, i < l → j < l → s i = s j → i = j

/-- the closure that says which is less -/
theorem less_any (ab ao b0 b2 ob l ca : Nat) (f : Nat → Int) (G : Nat → Nat) (W : World) (h0 : W.cell? ⟨b0, 0, none⟩ = some (.slice (some ⟨ab, ao, none⟩) l ca)) (h2 : W.cell? ⟨b2, 0, none⟩ = some (.slice (some ⟨ob, 0, none⟩) l l))
    (hG : ∀ t, t < l → W.cell? ⟨ob, 0 + t, none⟩ = some (.int .i64 (G t : Int))) (hlt : ∀ t, t < l → G t < l) (hf : ∀ t, t < l → W.cell? ⟨ab, ao + t, none⟩ = some (.int .i64 (f t))) (i j : Nat) (hi : i < l) (hj : j < l) :
    Calls Try.prog 57 #[.int .i64 i, .int .i64 j, .pointer (some ⟨b0, 0, none⟩), .pointer (some ⟨b2, 0, none⟩)] W fun e w' => e = .returned (.bool (decide (f (G i) < f (G j)))) ∧ ∃ q, w' = W.drewN q := by
  have ci := hG i hi
  have cj := hG j hj
  rw [Nat.zero_add] at ci cj
  have li := hlt i hi
  have lj := hlt j hj
  have fi' := hf (G i) li
  have fj := hf (G j) lj
  have i0 : (0 : Int) ≤ (i : Int) := Int.natCast_nonneg _
  have i1 : (i : Int) < (l : Int) := by omega
  have j0 : (0 : Int) ≤ (j : Int) := Int.natCast_nonneg _
  have j1 : (j : Int) < (l : Int) := by omega
  clear hG hlt hf
  generalize G i = x at *
  generalize G j = y at *
  have x0 : (0 : Int) ≤ (x : Int) := Int.natCast_nonneg _
  have x1 : (x : Int) < (l : Int) := by omega
  have y0 : (0 : Int) ≤ (y : Int) := Int.natCast_nonneg _
  have y1 : (y : Int) < (l : Int) := by omega
  go_enter Try.func57, Try.ntmps57
  go_wp2
  go_quiet (fail)
  go_wp2
  go_ret
  exact ⟨rfl, nq, rfl⟩

theorem slice_info : ∃ i, Try.prog.info? 33 = some i ∧ i.desc = .slice 3 := by
  have h : (Try.prog.info? 33).map (fun i => i.desc) = some (.slice 3) := by kernel_rfl
  cases hi : Try.prog.info? 33 with
  | none => rw [hi] at h; cases h
  | some i => rw [hi] at h; exact ⟨i, rfl, Option.some.inj h⟩
theorem int_info : ∃ i, Try.prog.info? 3 = some i ∧ i.size = 1 ∧ i.hasPointers = false ∧ i.bytes = 8 := by
  have h : (Try.prog.info? 3).map (fun i => (i.size, i.hasPointers, i.bytes)) = some (1, false, 8) := by kernel_rfl
  cases hi : Try.prog.info? 3 with
  | none => rw [hi] at h; cases h
  | some i =>
    rw [hi] at h
    have h' := Option.some.inj h
    simp only [Prod.mk.injEq] at h'
    exact ⟨i, rfl, h'.1, h'.2.1, h'.2.2⟩

theorem perm_inj {n : Nat} {d' : Array (Fin n)} (hs : d'.size = n) (hp : d'.toList.Perm (List.finRange n)) (D : Fin n → Nat → Fin n) (hD : ∀ (z : Fin n) i (h : i < d'.size), D z i = d'[i]) (z : Fin n) : IsPerm n (fun i => (D z i).val) := by
  refine ⟨fun i hi => (D z i).isLt, fun i j hi hj e => ?_⟩
  have hnd : d'.toList.Pairwise (· ≠ ·) := hp.symm.pairwise (List.nodup_finRange n) (fun h => Ne.symm h)
  have e' : d'[i]'(by omega) = d'[j]'(by omega) := by rw [← hD z i (by omega), ← hD z j (by omega)]; exact Fin.ext e
  rcases Nat.lt_trichotomy i j with h | h | h
  · exact absurd (by rw [Array.getElem_toList, Array.getElem_toList]; exact e') (List.pairwise_iff_getElem.1 hnd i j _ _ h)
  · exact h
  · exact absurd (by rw [Array.getElem_toList, Array.getElem_toList]; exact e'.symm) (List.pairwise_iff_getElem.1 hnd j i _ _ h)

open Go.Shelf Go.Lib Go.Sort

/-- what the sort leaves of a world -/
theorem sorted_bx {α : Type} [Inhabited α] (enc : α → Value) (W : World) (n blk off : Nat) (d : Array α) (os : Array Obj) : Bx (· = blk) W (grow (putRow enc (Sort.ahead W n) blk off d) os) := by
  refine ⟨rfl, rfl, rfl, by rw [size_grow, Sort.size_putRow]; exact Nat.le_add_right _ _, fun b hb hne => ?_⟩
  rw [heap_grow_old _ _ (by rw [Sort.size_putRow]; exact hb)]
  show ((Sort.ahead W n).heap.modify blk _)[b]? = _
  rw [Array.getElem?_modify, if_neg (Ne.symm hne)]
  rfl

set_option maxHeartbeats 2000000 in
theorem sort_two (m b0 ob b2 ca ab ao : Nat) (f : Nat → Int) (W : World) (h0 : W.cell? ⟨b0, 0, none⟩ = some (.slice (some ⟨ab, ao, none⟩) (m + 2) ca)) (h2 : W.cell? ⟨b2, 0, none⟩ = some (.slice (some ⟨ob, 0, none⟩) (m + 2) (m + 2)))
    (hG : ∀ t, t < m + 2 → W.cell? ⟨ob, 0 + t, none⟩ = some (.int .i64 (t : Int)) ∧ W.frozen? ⟨ob, 0 + t, none⟩ = false) (hf : ∀ t, t < m + 2 → W.cell? ⟨ab, ao + t, none⟩ = some (.int .i64 (f t))) (n0 : b0 ≠ ob) (n2 : b2 ≠ ob) (na : ab ≠ ob) (hl : m + 2 ≤ 32) :
    Calls Try.prog 56 #[.iface 33 (.slice (some ⟨ob, 0, none⟩) (m + 2) (m + 2)), .func (.func 57) #[] #[.pointer (some ⟨b0, 0, none⟩), .pointer (some ⟨b2, 0, none⟩)]] W fun e w' =>
      e = .returned (.tuple #[]) ∧ ∃ s, IsPerm (m + 2) s ∧ IntsAt w' (some ⟨ob, 0, none⟩) (m + 2) (fun i => (s i : Int)) ∧ Bx (· = ob) W w' := by
  obtain ⟨siT, hi, hd⟩ := slice_info
  obtain ⟨siE, hie, e1, e2, e3⟩ := int_info
  have hob : ob < W.heap.size := block_lt_of_cell (hG 0 (by omega)).1
  have hb0 : b0 < W.heap.size := block_lt_of_cell h0
  have hb2 : b2 < W.heap.size := block_lt_of_cell h2
  have hab : ab < W.heap.size := block_lt_of_cell (hf 0 (by omega))
  obtain ⟨d, hd0⟩ : ∃ d : Array (Fin (m + 2)), d = (List.finRange (m + 2)).toArray := ⟨_, rfl⟩
  have hsz : d.size = m + 2 := by rw [hd0]; simp
  have hdj : ∀ j (h : j < m + 2), d[j]! = ⟨j, h⟩ := fun j h => by
    rw [getElem!_pos d j (by omega)]
    subst hd0
    simp
  have hH : Holds (fun x : Fin (m + 2) => Value.int .i64 (x.val : Int)) W ob 0 d := fun j hj => by
    rw [hsz] at hj
    rw [hdj j hj]
    exact hG j hj
  have hless : LessReads Try.prog 57 #[.pointer (some ⟨b0, 0, none⟩), .pointer (some ⟨b2, 0, none⟩)] (fun x : Fin (m + 2) => Value.int .i64 (x.val : Int)) (fun x y => decide (f x.val < f y.val)) ob 0 d.size W := by
    intro q os dk hs i j hi' hj'
    rw [hsz] at hi' hj'
    have e : sortWorld (fun x : Fin (m + 2) => Value.int .i64 (x.val : Int)) W ob 0 q dk os = putRow (fun x : Fin (m + 2) => Value.int .i64 (x.val : Int)) (grow (Sort.ahead W q) os) ob 0 dk := by
      unfold sortWorld; rw [putRow_grow _ (Sort.ahead W q) _ ob 0 _ hob]
    have hHg : Holds (fun x : Fin (m + 2) => Value.int .i64 (x.val : Int)) (grow (Sort.ahead W q) os) ob 0 d := holds_grow _ _ _ ob 0 d hob (holds_ahead _ _ _ _ _ _ hH)
    refine less_any ab ao b0 b2 ob (m + 2) ca f (fun t => (dk[t]!).val) _ ?_ ?_ (fun t ht => ?_) (fun t _ => (dk[t]!).isLt) (fun t ht => ?_) i j hi' hj'
    · rw [e, cell?_putRow_other _ _ ob 0 dk _ (Or.inl n0), cell?_grow _ _ _ (by exact hb0)]; exact h0
    · rw [e, cell?_putRow_other _ _ ob 0 dk _ (Or.inl n2), cell?_grow _ _ _ (by exact hb2)]; exact h2
    · rw [e]; exact cell?_putRow _ _ ob 0 d dk hHg hs t (by omega)
    · rw [e, cell?_putRow_other _ _ ob 0 dk _ (Or.inl na), cell?_grow _ _ _ (by exact hab)]; exact hf t ht
  have hswo : SWO (fun x y : Fin (m + 2) => decide (f x.val < f y.val)) := ⟨fun x => by simp, fun x y z h1 h2 => by simp only [decide_eq_true_eq] at *; omega, fun x y z h1 h2 => by simp only [decide_eq_false_iff_not] at *; omega⟩
  have hK : swapperK d.size siE 2 = 5 := by
    have c1 : (d.size == 0) = false := beq_eq_false_iff_ne.2 (by omega)
    have c2 : (d.size == 1) = false := beq_eq_false_iff_ne.2 (by omega)
    simp [swapperK, e2, e3, c1, c2]
  have hS := Any.sort_Slice_sorted sl6 33 3 siT siE hi hd (by kernel_rfl) hie 2 (fun _ => by kernel_rfl) e1 (fun _ => by kernel_rfl) (fun x : Fin (m + 2) => Value.int .i64 (x.val : Int)) (fun _ => rfl) (fun x y => decide (f x.val < f y.val)) hswo 57 _
    (enters_of Try.func57 (by kernel_rfl) rfl) ob 0 (m + 2) d (by omega) (by omega) 72 (by rw [hK]; kernel_rfl) true
    (fun args W => run_callFunc_extern Try.func72 (by kernel_rfl) (by kernel_rfl) (by kernel_rfl) (e := Extern.ReflectliteSwapper.swap true) (by kernel_rfl) args W) W hless hH hob
  rw [hsz] at hS
  refine Calls.mono hS ?_
  rintro e w' ⟨rfl, d', n, os, hp, -, rfl⟩
  obtain ⟨p1, -, p3⟩ := hp
  have hs' : d'.size = m + 2 := by rw [p1, hsz]
  refine ⟨rfl, fun i => (d'[i]!).val, ?_, Or.inr ⟨ob, 0, rfl, fun i hi => ?_⟩, sorted_bx _ _ _ _ _ _ _⟩
  · have p4 : d'.toList.Perm (List.finRange (m + 2)) := by
      have q1 : d'.extract 0 (m + 2) = d' := by have h := @Array.extract_size _ d'; rwa [hs'] at h
      have q2 : d.extract 0 (m + 2) = d := by have h := @Array.extract_size _ d; rwa [hsz] at h
      rw [q1, q2, hd0] at p3
      simpa using p3
    exact perm_inj hs' p4 (fun _ i => d'[i]!) (fun _ i h => getElem!_pos d' i h) ⟨0, by omega⟩
  · have hHa : Holds (fun x : Fin (m + 2) => Value.int .i64 (x.val : Int)) (Sort.ahead W n) ob 0 d := holds_ahead _ _ _ _ _ _ hH
    rw [cell?_grow _ _ _ (by rw [Sort.size_putRow]; exact hob)]
    exact cell?_putRow _ _ ob 0 d d' hHa (by omega) i (by omega)

theorem sort_one (n : Nat) (p : Option Addr) (c : Nat) (lb : Array Value) (hn : n ≤ 1) (W : World) :
    Calls Try.prog 56 #[.iface 33 (.slice p n c), .func (.func 57) #[] lb] W fun e w' => e = .returned (.tuple #[]) ∧ ∃ os, w' = grow W os := by
  obtain ⟨siT, hi, hd⟩ := slice_info
  obtain ⟨siE, hie, e1, e2, e3⟩ := int_info
  have hK : swapperK n siE 2 = n + 1 := by
    rcases Nat.eq_zero_or_pos n with h | h
    · subst h; simp [swapperK]
    · obtain rfl : n = 1 := by omega
      simp [swapperK]
  exact Any.sort_Slice_tiny sl6 33 3 siT siE hi hd (by kernel_rfl) hie 2 (fun _ => by kernel_rfl) p n c hn (68 + n) (by
    rw [hK]
    rcases Nat.eq_zero_or_pos n with h | h
    · subst h; kernel_rfl
    · obtain rfl : n = 1 := by omega
      kernel_rfl) (.func 57) #[] lb W

end Go.Proofs.Ytbhbdhkifkmkbaa

/- The program's order of shards, whole. -/
namespace Go.Proofs.Ytbhbdhkifkmkbaa
open Go.RowKit

/-- two rows of the call's own whose numbers are of unlike types lie apart -/
theorem own_apart {W : World} {b b' : Nat} {e e' : TypeId} {s s' n n' : Nat} {v v' : Value} {xs xs' : List Value} (h : W.ownsRow b e s v n xs) (h' : W.ownsRow b' e' s' v' n' xs') (hne : e ≠ e') : v.ownBlock = none ∨ v.ownBlock ≠ v'.ownBlock := by
  rcases h.2 with ⟨rfl, _⟩ | ⟨g, cap, cur, rfl, _, hg, _⟩
  · exact Or.inl rfl
  · rcases h'.2 with ⟨rfl, _⟩ | ⟨g', cap', cur', rfl, _, hg', _⟩
    · exact Or.inr (fun e => by cases e)
    · refine Or.inr fun e => ?_
      simp only [Value.ownBlock, Option.some.injEq] at e
      subst e
      rw [hg] at hg'
      cases hg'
      exact hne rfl

theorem own_cap {W : World} {base n : Nat} {e : TypeId} {v : Value} {xs : List Value} (h : W.ownsRow base e 1 v n xs) (hn : 0 < n) : ∃ A cap, v = .slice A n cap ∧ n ≤ cap := by
  rcases h.2 with ⟨rfl, rfl⟩ | ⟨g, cap, cur, rfl, _, _, hc, _⟩
  · omega
  · exact ⟨_, cap, rfl, hc⟩

/-- the world while an order is made -/
structure OrdW (W : World) (base l ca : Nat) (A : Option Addr) (G : Nat → Int) : Prop where
  box : W.heap[base]? = some (.cells #[.slice A l ca] 33 (0, 0))
  ord : ∃ cur, W.heap[base + 1]? = some (.cells cur 3 (0, 0)) ∧ cur.size = l ∧ ∀ i, i < l → cur[i]? = some (.int .i64 (G i))
  obox : W.heap[base + 1 + 1]? = some (.cells #[.slice (some ⟨base + 1, 0, none⟩) l l] 33 (0, 0))

theorem OrdW.set {W : World} {base l ca : Nat} {A : Option Addr} {G G' : Nat → Int} (h : OrdW W base l ca A G) {j : Nat} {x : Int} (hj : j < l) (e : G' j = x) (hG : ∀ c, c < l → c ≠ j → G' c = G c) : OrdW (W.setCell ⟨base + 1, j, none⟩ (.int .i64 x)) base l ca A G' := by
  obtain ⟨cur, h1, h2, h3⟩ := h.ord
  refine ⟨(heap_setCell_other W _ _ _ (by simp only; omega)).trans h.box, ⟨_, heap_setCell_same W _ j cur _ _ h1, by simpa using h2, fun c hc => ?_⟩, (heap_setCell_other W _ _ _ (by simp only; omega)).trans h.obox⟩
  by_cases hcj : c = j
  · subst hcj; rw [Array.getElem?_setIfInBounds_self_of_lt (by omega), e]
  · rw [Array.getElem?_setIfInBounds_ne (Ne.symm hcj), h3 c hc, hG c hc hcj]

theorem bx_grow (W : World) (S : Nat → Prop) (os : Array Obj) : Bx S W (Sort.grow W os) := by
  refine ⟨rfl, rfl, rfl, by rw [Sort.size_grow]; exact Nat.le_add_right _ _, fun b hb _ => Sort.heap_grow_old _ _ hb⟩

set_option maxRecDepth 100000 in
theorem order_sort (l base ca : Nat) (A : Option Addr) (f : Nat → Int) (W w : World) (hb : base = w.heap.size) (hO : OrdW W base l ca A (fun i => (i : Int))) (ha : IntsAt w A l f) (hw : Bw w W) (hl : l ≤ 32) :
    Calls Try.prog 56 #[.iface 33 (.slice (some ⟨base + 1, 0, none⟩) l l), .func (.func 57) #[] #[.pointer (some ⟨base, 0, none⟩), .pointer (some ⟨base + 1 + 1, 0, none⟩)]] W fun e w' =>
      e = .returned (.tuple #[]) ∧ ∃ s, IsPerm l s ∧ IntsAt w' (some ⟨base + 1, 0, none⟩) l (fun i => (s i : Int)) ∧ w'.cell? ⟨base, 0, none⟩ = some (.slice A l ca) ∧ w'.cell? ⟨base + 1 + 1, 0, none⟩ = some (.slice (some ⟨base + 1, 0, none⟩) l l) ∧ Bx (· = base + 1) W w' := by
  obtain ⟨cur, o1, o2, o3⟩ := hO.ord
  have c0 : W.cell? ⟨base, 0, none⟩ = some (.slice A l ca) := cell_of_row W base 0 _ _ _ hO.box
  have c2 : W.cell? ⟨base + 1 + 1, 0, none⟩ = some (.slice (some ⟨base + 1, 0, none⟩) l l) := cell_of_row W (base + 1 + 1) 0 _ _ _ hO.obox
  have l0 := block_lt_of_cell c0
  have l2 := block_lt_of_cell c2
  have fin : ∀ w', Bx (· = base + 1) W w' → w'.cell? ⟨base, 0, none⟩ = some (.slice A l ca) ∧ w'.cell? ⟨base + 1 + 1, 0, none⟩ = some (.slice (some ⟨base + 1, 0, none⟩) l l) := fun w' hx =>
    ⟨(World.cell?_of_block (w := W) (a := ⟨base, 0, none⟩) (hx.block base l0 (fun h => by have h' : base = base + 1 := h; omega))).trans c0, (World.cell?_of_block (w := W) (a := ⟨base + 1 + 1, 0, none⟩) (hx.block (base + 1 + 1) l2 (fun h => by have h' : base + 1 + 1 = base + 1 := h; omega))).trans c2⟩
  have hcell : ∀ t, t < l → W.cell? ⟨base + 1, 0 + t, none⟩ = some (.int .i64 (t : Int)) ∧ W.frozen? ⟨base + 1, 0 + t, none⟩ = false := fun t ht => by
    rw [Nat.zero_add]
    exact ⟨(cell_of_row W (base + 1) t cur _ _ o1).trans (o3 t ht), frozen_of_row W (base + 1) t cur _ o1⟩
  by_cases h1 : l ≤ 1
  · refine (sort_one l _ _ _ h1 W).mono ?_
    rintro e w' ⟨rfl, os, rfl⟩
    have hx := bx_grow W (· = base + 1) os
    obtain ⟨f1, f2⟩ := fin _ hx
    refine ⟨rfl, fun i => i, ⟨fun i hi => hi, fun i j _ _ e => e⟩, ?_, f1, f2, hx⟩
    refine Or.inr ⟨_, _, rfl, fun i hi => ?_⟩
    rw [Sort.cell?_grow _ _ _ (block_lt_of_cell (hcell i hi).1)]
    exact (hcell i hi).1
  · obtain ⟨m, rfl⟩ : ∃ m, l = m + 2 := ⟨l - 2, by omega⟩
    obtain ⟨ab, ao, rfl, hf⟩ := ha.resolve_left (by omega)
    have hab := block_lt_of_cell (hf 0 (by omega))
    simp only at hab
    refine (sort_two m base (base + 1) (base + 1 + 1) ca ab ao f W c0 c2 hcell (fun t ht => ?_) (by omega) (by omega) (by omega) hl).mono ?_
    · rw [hw.cell (p := ⟨ab, ao + t, none⟩) (block_lt_of_cell (hf t ht))]; exact hf t ht
    · rintro e w' ⟨rfl, s, hs, hi, hx⟩
      obtain ⟨f1, f2⟩ := fin _ hx
      exact ⟨rfl, s, hs, hi, f1, f2, hx⟩

set_option maxRecDepth 100000 in
set_option maxHeartbeats 2000000 in
theorem order_any (B A : Option Addr) (l cb ca : Nat) (R : Nat → Option Addr) (L C : Nat → Nat) (Z : Nat → Nat → Int) (f : Nat → Int) (w : World) (hb : MatAt w B l R L C Z) (ha : IntsAt w A l f) (hl0 : 0 < l) (hl : l ≤ 32) :
    Calls Try.prog 47 #[.slice B l cb, .slice A l ca] w fun e w' => ∃ (s : Nat → Nat) (A' B' : Option Addr) (c1 c2 : Nat), e = .returned (.tuple #[.slice A' l c1, .slice B' l c2]) ∧ IsPerm l s ∧ l ≤ c1 ∧ l ≤ c2 ∧ MatAt w' A' l (fun i => R (s i)) (fun i => L (s i)) (fun i => C (s i)) (fun i => Z (s i)) ∧ IntsAt w' B' l (fun i => f (s i)) ∧ Bw w w' := by
  obtain ⟨M0, hs0, hM0, hmk⟩ := made_ints l (by omega)
  have HM : Hid (∀ i, i < l → M0[i]? = some (.int .i64 0)) := hM0
  clear hM0
  obtain ⟨i0, hi0, hz0, hz1, hz2⟩ := info_parts info_int
  obtain ⟨j0, hj0, hy0, hy1, hy2⟩ := info_parts info_row
  have hst0 : OrdW (((w.alloc (.cells #[.slice A l ca] 33)).alloc (.cells M0 3)).alloc (.cells #[.slice (some ⟨w.heap.size + 1, 0, none⟩) l l] 33)) w.heap.size l ca A (fun _ => 0) := by
    refine ⟨?_, ⟨M0, ?_, hs0, HM.out⟩, ?_⟩
    · rw [heap_alloc_old _ _ (by simp; omega), heap_alloc_old _ _ (by simp), heap_alloc_new]
    · rw [heap_alloc_old _ _ (by simp)]
      have := heap_alloc_new (w.alloc (.cells #[.slice A l ca] 33)) (.cells M0 3)
      simpa using this
    · have := heap_alloc_new ((w.alloc (.cells #[.slice A l ca] 33)).alloc (.cells M0 3)) (.cells #[.slice (some ⟨w.heap.size + 1, 0, none⟩) l l] 33)
      simpa using this
  have hbw : Bw w (((w.alloc (.cells #[.slice A l ca] 33)).alloc (.cells M0 3)).alloc (.cells #[.slice (some ⟨w.heap.size + 1, 0, none⟩) l l] 33)) := (((Below.refl _ _).alloc (Nat.le_refl _) _).alloc (by simp) _).alloc (by simp; omega) _
  go_enter Try.func47, Try.ntmps47
  go_wp2
  go_loopw [15] (fun i wr => ∃ t : Nat, t ≤ l ∧ i = .int .i64 t ∧ OrdW wr w.heap.size l ca A (fun c => if c < t then (c : Int) else 0) ∧ Bw w wr) (fun i _ => l - (intOf i).toNat)
  case atStart => exact ⟨0, Nat.zero_le _, rfl, hst0, hbw⟩
  case round =>
    obtain ⟨t, ht, rfl, hO, hw⟩ := hrel
    by_cases hlt : t < l
    · have c2 : wr.cell? ⟨w.heap.size + 1 + 1, 0, none⟩ = some (.slice (some ⟨w.heap.size + 1, 0, none⟩) l l) := cell_of_row wr (w.heap.size + 1 + 1) 0 _ _ _ hO.obox
      obtain ⟨cur, o1, o2, o3⟩ := hO.ord
      have c1 : wr.cell? ⟨w.heap.size + 1, t, none⟩ = some (.int .i64 0) := (cell_of_row wr (w.heap.size + 1) t cur _ _ o1).trans (by rw [o3 t hlt, if_neg (by omega)])
      have c3 : wr.frozen? ⟨w.heap.size + 1, t, none⟩ = false := frozen_of_row wr (w.heap.size + 1) t cur _ o1
      have t0 : (0 : Int) ≤ (t : Int) := Int.natCast_nonneg _
      have t1 : (t : Int) < (l : Int) := by omega
      go_wp2
      go_roundw
      case rel =>
        refine ⟨t + 1, by omega, by go_num, hO.set hlt (by rw [if_pos (by omega)]) (fun c _ hne => ?_), Bw.put hw (by omega) t _⟩
        by_cases e : c < t
        · rw [if_pos e, if_pos (by omega)]
        · rw [if_neg e, if_neg (by omega)]
      case measure => simp [intOf]; omega
    · have ek : l = t := by omega
      subst ek
      have c2 : wr.cell? ⟨w.heap.size + 1 + 1, 0, none⟩ = some (.slice (some ⟨w.heap.size + 1, 0, none⟩) l l) := cell_of_row wr (w.heap.size + 1 + 1) 0 _ _ _ hO.obox
      have hO2 : OrdW wr w.heap.size l ca A (fun i => (i : Int)) := by
        obtain ⟨cur, o1, o2, o3⟩ := hO.ord
        exact ⟨hO.box, ⟨cur, o1, o2, fun i hi => by rw [o3 i hi, if_pos hi]⟩, hO.obox⟩
      have hS := order_sort l w.heap.size ca A f wr w rfl hO2 ha hw hl
      clear hO hO2
      go_wp2_with (go_at_call 56; refine hS.mono ?_; rintro e w1 ⟨rfl, s, hs, hi, f1, f2, hx⟩)
      have hw1 : Bw w w1 := ⟨hx.os.trans hw.os, hx.tape.trans hw.tape, hx.output.trans hw.output, Nat.le_trans hw.size hx.size, fun b hb' => (hx.block b (Nat.lt_of_lt_of_le hb' hw.size) (fun h => by have h' : b = w.heap.size + 1 := h; omega)).trans (hw.block b hb')⟩
      have HS : Hid (IsPerm l s) := hs
      have hb1 := hb.keep hw1
      have ha1 := ha.keep hw1
      clear hs hx hS hst0 hbw
      go_loopw [4, 5, 29] (fun v u i wr => ∃ t : Nat, t ≤ l ∧ i = .int .i64 t ∧ wr.ownsRow w1.heap.size 37 1 v t (rowsU (fun i => R (s i)) (fun i => L (s i)) (fun i => C (s i)) t) ∧ wr.ownsRow w1.heap.size 3 1 u t (intsU (fun i => f (s i)) t) ∧ Bw w1 wr) (fun _ _ i _ => l - (intOf i).toNat)
      case atStart => exact ⟨0, Nat.zero_le _, rfl, World.ownsRow_nil _ _ _ _, World.ownsRow_nil _ _ _ _, Bw.refl _⟩
      case round =>
        rename World => wt
        obtain ⟨t, ht, rfl, hv, hu, hwt⟩ := hrel
        by_cases hlt : t < l
        · have hst := HS.out.1 t hlt
          have g1 := cell_bw hwt f1
          obtain ⟨ob, oo, e1, hoc⟩ := (hi.keep hwt).resolve_left (by omega)
          cases e1
          have h1 := hoc t hlt
          rw [Nat.zero_add] at h1
          obtain ⟨bb, bo, rfl, hbc⟩ := (hb1.keep hwt).at hst
          have h2 := hbc (s t) hst
          obtain ⟨ab, ao, rfl, hac⟩ := (ha1.keep hwt).resolve_left (by omega)
          have h3 := hac (s t) hst
          have lb := block_lt_of_cell (hac (s t) hst)
          have t0 : (0 : Int) ≤ (t : Int) := Int.natCast_nonneg _
          have t1 : (t : Int) < (l : Int) := by omega
          have s0 : (0 : Int) ≤ (s t : Int) := Int.natCast_nonneg _
          have s1 : (s t : Int) < (l : Int) := by omega
          have hmx : t + 1 ≤ maxLen := by unfold maxLen; omega
          have hsz := hwt.size
          clear hoc hbc hac
          go_wp2_with (first
            | (at_builtin; refine wpList_append_lies _ (by rfl) (.tmp 33) (.tmp 38) _ (by rfl) w1.heap.size 37 j0 _ 1 24 Try.underlying22 hj0 hy0 hy1 hy2 rfl (by omega) _ _ _ (by rfl) (hv.alloc _) ⟨wt.heap.size, 0, none⟩ 1 1 [.slice (R (s t)) (L (s t)) (C (s t))] (by rfl) (by rfl) (World.news_of_block (cs := #[.slice (R (s t)) (L (s t)) (C (s t))]) (t := 37) (fr := (0, 0)) (heap_alloc_new wt _)) (by simp [Value.oneCell']) (by omega) hmx (by omega) (by simp; omega) (wt.heap.size + 1) (by simp) ?_; intro gg cc w2 hv2 hgrow2 hat hlt'; have hb2 : Bw w1 w2 := bw_grow hgrow2 (hwt.alloc hsz _) (by simp; omega) (hv.alloc _); have hu2 := (hu.alloc (.cells #[.slice (R (s t)) (L (s t)) (C (s t))] 37)).kept hgrow2 (own_apart hu hv (by decide)); have k1 := cell_bw hb2 f1; have k3 : w2.cell? ⟨ab, ao + s t, none⟩ = some (.int .i64 (f (s t))) := (by obtain ⟨ab', ao', e', hac'⟩ := (ha1.keep hb2).resolve_left (by omega); cases e'; exact hac' (s t) hst); have hsz2 := hb2.size)
            | (at_builtin; refine wpList_append_lies _ (by rfl) (.tmp 40) (.tmp 45) _ (by rfl) w1.heap.size 3 i0 _ 1 8 Try.underlying33 hi0 hz0 hz1 hz2 rfl (by omega) _ _ _ (by rfl) (hu2.alloc _) ⟨w2.heap.size, 0, none⟩ 1 1 [.int .i64 (f (s t))] (by rfl) (by rfl) (World.news_of_block (cs := #[.int .i64 (f (s t))]) (t := 3) (fr := (0, 0)) (heap_alloc_new w2 _)) (by simp [Value.oneCell']) (by omega) hmx (by omega) (by simp; omega) (w2.heap.size + 1) (by simp) ?_; intro gg3 cc3 w3 hu3 hgrow3 hat3 hlt3))
          have hb3 : Bw w1 w3 := bw_grow hgrow3 (hb2.alloc hsz2 _) (by simp; omega) (hu2.alloc _)
          have hv3 := (hv2.alloc (.cells #[.int .i64 (f (s t))] 3)).kept hgrow3 (own_apart hv2 hu2 (by decide))
          rw [← rowsU_succ (fun i => R (s i)) (fun i => L (s i)) (fun i => C (s i)) t] at hv3
          rw [← intsU_succ (fun i => f (s i)) t] at hu3
          go_roundw
          case rel => exact ⟨t + 1, by omega, by go_num, hv3, hu3, hb3⟩
          case measure => simp [intOf]; omega
        · have ek : l = t := by omega
          subst ek
          obtain ⟨A1, c1, rfl, hc1⟩ := own_cap hv hl0
          obtain ⟨B1, c2', rfl, hc2⟩ := own_cap hu hl0
          obtain ⟨A1', c1', e1, hm⟩ := mat_of_own (Z := fun i => Z (s i)) hv (fun i hi' => ((hb1.keep hwt).2 (s i) (HS.out.1 i hi')))
          cases e1
          obtain ⟨B1', c2'', e2, hn, -, -⟩ := ints_of_own hu
          cases e2
          go_wp2
          go_ret2
          exact ⟨s, A1, B1, c1, c2', rfl, HS.out, hc1, hc2, hm, hn, hw1.trans hwt⟩

end Go.Proofs.Ytbhbdhkifkmkbaa
