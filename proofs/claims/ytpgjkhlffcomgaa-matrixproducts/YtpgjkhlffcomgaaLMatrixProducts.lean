/- Proved: for every two matrices of bytes and every whole number the statement MatrixProducts answers true (the document's P2.2 and P2.3: a product is the document's, and new memory), with no condition but the reach; arguments may share memory. -/
import Derived.Test.YtpgjkhlffcomgaaP15
import Derived.Test.YtpgjkhlffcomgaaFr
import Derived.ShutString
import Derived.ChangeOld
namespace Go.Proofs.Ytpgjkhlffcomgaa.matrixProducts
open Go.ChangeShapes Go.WideShapes Go.ChangeAt Go.RowKit
set_option linter.unusedVariables false

theorem pr_great (A B : Option Addr) (n m ca cb : Nat) (R S : Nat → Option Addr) (L C M E : Nat → Nat) (Z Y : Nat → Nat → Int) (N : Int) (w : World) (ha : InMat w A n ca R L C Z) (hb : InMat w B m cb S M E Y)
    (hg : decide (4096 < bulk L n) = true ∨ (decide (4096 < bulk L n) = false ∧ decide (4096 < bulk M m) = true)) :
    Calls Try.prog 4 #[.slice A n ca, .slice B m cb, .int .i64 N] w fun e w' => e = .returned (.bool true) ∧ Bw w w' := by
  rcases hg with h1 | ⟨h1, h2⟩
  · go_enter Try.func4, Try.ntmps4
    go_wp2_with (first
      | (go_at_call 15; refine (small_any ha true h1 (Bw.refl _)).mono ?_; rintro e w' ⟨rfl, hw'⟩; subst w')
      | (go_at_call 9; refine (wakes2_any _).mono ?_; rintro e w1 ⟨rfl, hw1⟩))
    go_ret
    exact ⟨rfl, hw1⟩
  · go_enter Try.func4, Try.ntmps4
    go_wp2_with (first
      | (go_at_call_of 15 (Value.slice A n ca); refine (small_any ha false h1 (Bw.refl _)).mono ?_; rintro e w' ⟨rfl, hw'⟩; subst w')
      | (go_at_call_of 15 (Value.slice B m cb); refine (small_any hb true h2 (Bw.refl _)).mono ?_; rintro e w' ⟨rfl, hw'⟩; subst w')
      | (go_at_call 9; refine (wakes2_any _).mono ?_; rintro e w1 ⟨rfl, hw1⟩))
    go_ret
    exact ⟨rfl, hw1⟩

set_option maxRecDepth 100000 in
set_option maxHeartbeats 2000000 in
theorem pr_ok (A B : Option Addr) (n m ca cb : Nat) (R S : Nat → Option Addr) (L C M E : Nat → Nat) (Z Y : Nat → Nat → Int) (N : Int) (w : World) (ha : InMat w A n ca R L C Z) (hb : InMat w B m cb S M E Y)
    (h1 : decide (4096 < bulk L n) = false) (h2 : decide (4096 < bulk M m) = false) :
    Calls Try.prog 4 #[.slice A n ca, .slice B m cb, .int .i64 N] w fun e w' => e = .returned (.bool true) ∧ Bw w w' := by
  have g1 : bulk L n ≤ 4096 := Nat.le_of_not_lt (of_decide_eq_false h1)
  have g2 : bulk M m ≤ 4096 := Nat.le_of_not_lt (of_decide_eq_false h2)
  obtain ⟨l1, l2⟩ := bulk_le L n
  obtain ⟨l3, l4⟩ := bulk_le M m
  have cl1 : ∀ r, r < n → L r ≤ 140737488351232 := fun r hr => by have := l2 r hr; omega
  have cl2 : ∀ r, r < m → M r ≤ 140737488351232 := fun r hr => by have := l4 r hr; omega
  have sp1 : ∀ r, r < n → L r ≤ 140737488355328 := fun r hr => by have := l2 r hr; omega
  have sp2 : ∀ r, r < m → M r ≤ 140737488355328 := fun r hr => by have := l4 r hr; omega
  have hn5 : n ≤ 4096 := by omega
  have hm5 : m ≤ 4096 := by omega
  have H1 : Hid (∀ r, r < n → L r ≤ 140737488351232) := cl1
  have H2 : Hid (∀ r, r < m → M r ≤ 140737488351232) := cl2
  have H3 : Hid (∀ r, r < n → L r ≤ 140737488355328) := sp1
  have H4 : Hid (∀ r, r < m → M r ≤ 140737488355328) := sp2
  clear l1 l2 l3 l4 g1 g2 cl1 cl2 sp1 sp2
  go_enter Try.func4, Try.ntmps4
  go_wp2_with (first
    | (go_at_call_of 15 (Value.slice A n ca); refine (small_any ha false h1 (Bw.refl _)).mono ?_; rintro e w' ⟨rfl, hw'⟩; subst w')
    | (go_at_call_of 15 (Value.slice B m cb); refine (small_any hb false h2 (Bw.refl _)).mono ?_; rintro e w' ⟨rfl, hw'⟩; subst w')
    | (go_at_call_of 16 (Value.slice A n ca); refine (rcopied_free A n ca R L C Z _ ha.mat (fun r hr => (ha.rows r hr).2.2) H1.out (by omega)).mono ?_; rintro e w1 ⟨v, R1, C1, rfl, ho1, hf1, hw1⟩; obtain ⟨A1, cap1, rfl, -, -⟩ := matw_of ho1 hf1; have hb1 := hb.mat.keep hw1; have ri1 := rows_in ho1)
    | (go_at_call_of 16 (Value.slice B m cb); refine (rcopied_free B m cb S M E Y _ hb1 (fun r hr => (hb.rows r hr).2.2) H2.out (by omega)).mono ?_; rintro e w2 ⟨v, R2, C2, rfl, ho2, hf2, hw2⟩; obtain ⟨A2, cap2, rfl, -, -⟩ := matw_of ho2 hf2; have p1 := ho1.keep hw2; have q1 := hf1.keep hw2; have ri2 := rows_in ho2)
    | (go_at_call 17; refine (mul_all A1 A2 n m cap1 cap2 R1 R2 L C1 M C2 Z Y _ (own_mat p1) (own_mat ho2)).mono ?_; rintro e w3 ⟨v, x, k, q, rfl, hres, hsay, hw3⟩; obtain ⟨X, xc, RX, CX, rfl, hx3⟩ := hres; have k32 := mulsays_le hsay; have p2 := p1.keep hw3; have q2 := q1.keep hw3; have p3 := ho2.keep hw3; have q3 := hf2.keep hw3; have a3 := ha.mat.keep (hw1.trans (hw2.trans hw3)); have b3 := hb1.keep (hw2.trans hw3))
    | (go_at_call_of 18 (Value.slice A1 n cap1); refine (rsame_any A1 A n n cap1 ca R1 R L C1 L C Z Z (by omega) _ (own_mat p2) a3).mono ?_; rintro e w4 ⟨y, rfl, hy, hw4⟩; obtain rfl : y = true := hy.2 (same_self _ _ _); have p4 := p2.keep hw4; have q4 := q2.keep hw4; have p5 := p3.keep hw4; have q5 := q3.keep hw4; have b4 := b3.keep hw4)
    | (go_at_call_of 18 (Value.slice A2 m cap2); refine (rsame_any A2 B m m cap2 cb R2 S M C2 M E Y Y (by omega) _ (own_mat p5) b4).mono ?_; rintro e w5 ⟨y, rfl, hy, hw5⟩; obtain rfl : y = true := hy.2 (same_self _ _ _); have p6 := p4.keep hw5; have q6 := q4.keep hw5; have p7 := p5.keep hw5; have q7 := q5.keep hw5)
    | (go_at_call_of 12 (Value.slice A1 n cap1); refine (spoilt_any A1 n cap1 _ R1 L C1 (by omega) H3.out _ (own_matw p6 q6)).mono ?_; rintro e w6 ⟨rfl, hw6⟩; have p8 := p7.keepx hw6 (fun b hb => (ri1 b hb).2); have q8 := q7.keepx p7 hw6 (fun b hb => (ri1 b hb).2))
    | (go_at_call_of 12 (Value.slice A2 m cap2); refine (spoilt_any A2 m cap2 _ R2 M C2 (by omega) H4.out _ (own_matw p8 q8)).mono ?_; rintro e w7 ⟨rfl, hw7⟩; have hs2 := hw2.size; have hs1 := hw1.size; have bw5 := hw1.trans (hw2.trans (hw3.trans (hw4.trans hw5))); have bw6 : Bw w w6 := (Below.trans bw5 (hw6.below bw5.size (fun b hb => (ri1 b hb).1))); have bw7 : Bw w w7 := (Below.trans bw6 (hw7.below bw6.size (fun b hb => Nat.le_trans hs1 (ri2 b hb).1))); have x5 : NewMat w5 w2.heap.size X k RX (fun _ => q) CX (prodZ m Z Y) := ⟨hx3.mat.keep (hw4.trans hw5), hx3.head.imp id (fun ⟨g, o, e, h1, h2⟩ => ⟨g, o, e, h1, Nat.lt_of_lt_of_le h2 (hw4.trans hw5).size⟩), fun r hr => (hx3.rows r hr).imp id (fun ⟨g, o, e, h1, h2⟩ => ⟨g, o, e, h1, Nat.lt_of_lt_of_le h2 (hw4.trans hw5).size⟩)⟩; have x6 := MatAt.keepx x5 hw6 (fun b hb => Nat.lt_of_lt_of_le (ri1 b hb).2 hs2); have x7 := MatAt.keepx x6 hw7 (fun b hb => (ri2 b hb).2); clear x5 x6 p8 q8 p7 q7 p6 q6 p5 q5 p4 q4 p3 q3 p2 q2 p1 q1 a3 b3 b4 hb1 hx3 ho1 ho2 hf1 hf2 bw5 bw6 hs1 hs2 ri1 ri2 hw7 hw6 hw5 hw4 hw3 hw2 hw1)
    | (refine wpList_extract rfl _ _ rfl _ rfl _ rfl ?_)
    | (go_at_call 19; refine (rmm_all A B n m ca cb R S L C M E Z Y _ (ha.mat.keep bw7) (hb.mat.keep bw7)).mono ?_; rintro e w8 ⟨v, x', k', q', rfl, hres, hsay', hw8⟩; have hq : Hid (x = x' ∧ k = k' ∧ (k = 0 ∨ q = q')) := mulsays_unique hsay hsay'; have hxx : (x == x') = true := (by rw [hq.out.1]; simp); clear hsay'; obtain ⟨X8, xc8, RX8, CX8, rfl, hx8⟩ := hres; have x8 := x7.mat.keep hw8)
    | (go_at_call 20; refine (one_all N _).mono ?_; rintro e w9 ⟨v, ox, ok, rfl, hres, ho9, hw9⟩; obtain ⟨O9, oc9, RO9, CO9, rfl, hm9⟩ := hres; have o32 := onesays_le ho9; have x9 := x8.keep hw9; have y9 := hx8.keep hw9)
    | (go_at_call 21; refine (rone_all N _).mono ?_; rintro e w10 ⟨v, ox', ok', rfl, hres, ho10, hw10⟩; obtain ⟨rfl, rfl⟩ := onesays_unique ho9 ho10; obtain ⟨O10, oc10, RO10, CO10, rfl, hm10⟩ := hres; have x10 := x9.keep hw10; have y10 := y9.keep hw10; have o10 := hm9.keep hw10)
    | (go_at_call_of 18 (Value.slice X k xc); refine (rsame_any X X8 k k' xc xc8 RX RX8 _ CX _ CX8 _ _ (by omega) _ x10 y10).mono ?_; rintro e w11 ⟨y, rfl, hy, hw11⟩; obtain rfl : y = true := hy.2 ⟨hq.out.2.1, fun r hr => ⟨hq.out.2.2.resolve_left (by omega), fun _ _ => rfl⟩⟩; have o11 := o10.keep hw11; have m11 := hm10.keep hw11)
    | (go_at_call 18; refine (rsame_any O9 O10 ok ok oc9 oc10 RO9 RO10 _ CO9 _ CO10 _ _ (by omega) _ o11 m11).mono ?_; rintro e w12 ⟨y, rfl, hy, hw12⟩; obtain rfl : y = true := hy.2 (same_self _ _ _))
    | (go_at_call 9; refine (wakes2_any _).mono ?_; rintro e w13 ⟨rfl, hw13⟩))
  go_ret
  exact ⟨rfl, bw7.trans (hw8.trans (hw9.trans (hw10.trans (hw11.trans (hw12.trans hw13)))))⟩

theorem walk (a0 : Option Addr) (len0 cap0 : Nat) (R0 : Nat → Option Addr) (L0 C0 : Nat → Nat) (Z0 : Nat → Nat → Int) (a1 : Option Addr) (len1 cap1 : Nat) (R1 : Nat → Option Addr) (L1 C1 : Nat → Nat) (Z1 : Nat → Nat → Int) (a2 : Int) (w : World) (w0 : InMat w a0 len0 cap0 R0 L0 C0 Z0) (w1 : InMat w a1 len1 cap1 R1 L1 C1 Z1) (w2 : (Lit.int .i64 a2).wf = true) :
    Calls Try.prog 4 #[.slice a0 len0 cap0, .slice a1 len1 cap1, .int .i64 a2] w fun e w' => e = .returned (.bool true) ∧ Below w.heap.size w w' := by
  by_cases h1 : 4096 < bulk L0 len0
  · exact pr_great _ _ _ _ _ _ _ _ _ _ _ _ _ _ _ w w0 w1 (Or.inl (decide_eq_true h1))
  · have h1' : decide (4096 < bulk L0 len0) = false := decide_eq_false h1
    by_cases h2 : 4096 < bulk L1 len1
    · exact pr_great _ _ _ _ _ _ _ _ _ _ _ _ _ _ _ w w0 w1 (Or.inr ⟨h1', decide_eq_true h2⟩)
    · exact pr_ok _ _ _ _ _ _ _ _ _ _ _ _ _ _ _ w w0 w1 h1' (decide_eq_false h2)

set_option maxRecDepth 100000 in
theorem lifted (os : Os) (started : os.Started) (H : Type) (enc : TypeId × Value → H) :
    ReturnsInHanded {} Try.checked os 4 .any (Rows.matrixProductsSpec.pre6 enc Try.prog Try.f4 Rows.matrixProductsRow.domain false) (Rows.matrixProductsSpec.post enc Try.prog Try.f4 false true false false) := by
  refine returnsInHanded_of_change_sized (C := Try.checked) own started (by kernel_rfl) Try.func4
    (ChangeSpec.witness6 (enc := enc) (C := Try.checked) false ⟨#[], #[.slice none 0 0, .slice none 0 0, .int .i64 0], []⟩ 8 (by kernel_rfl) (by kernel_rfl) (by kernel_rfl) (by kernel_rfl)) ?_
  intro W base args ds gs before hval0 hW hcnd hsz0 _
  have hval : ∀ (j : Nat) t v, Try.f4.params[j]? = some t → args[j]? = some v → Value.okWide Try.prog W .any base t v := hval0
  have hW' := hW
  obtain ⟨p, q, hA0, hV, rfl, hfz, hnd⟩ := hW
  have hA : DataW.TrodAll enc Try.prog W 0 (fun _ => true) true Try.f4.params.toList args.toList ds p := hA0
  have hsz : (DataW.weightsEach Try.prog (Try.f4.params.toList ++ Rows.matrixProductsSpec.plain.varTypes Try.prog) (ds ++ gs)).all (· ≤ reachBytes) = true := hsz0
  rw [Try.params4] at hA hval hsz
  obtain ⟨v0, vs0, d0, ds0, p0, q0, hargs, rfl, rfl, h0, r0⟩ := trodAll_cons hA
  obtain ⟨v1, vs1, d1, ds1, p1, q1, rfl, rfl, rfl, h1, r1⟩ := trodAll_cons r0
  obtain ⟨v2, vs2, d2, ds2, p2, q2, rfl, rfl, rfl, h2, r2⟩ := trodAll_cons r1
  obtain ⟨rfl, rfl, rfl⟩ := trodAll_nil r2
  obtain rfl : args = #[v0, v1, v2] := by cases args; simp_all
  obtain ⟨rfl, rfl⟩ := trodVars_none hV
  obtain ⟨a0, len0, cap0, rfl⟩ := okWide_slice Try.underlying30 (hval 0 30 v0 rfl rfl)
  have k0 := h0
  have lt0 : ∀ x ∈ p0, x.block < W.heap.size := by obtain ⟨m, hm⟩ := k0; exact DataW.trod_lt m _ _ _ hm
  obtain ⟨R0, L0, C0, Z0, w0⟩ := open_rows h0 (fun x hx => by simpa using List.all_eq_true.1 hsz x (DataW.weights_mem_each (j := 0) (t := 30) rfl rfl x hx))
  obtain ⟨a1, len1, cap1, rfl⟩ := okWide_slice Try.underlying30 (hval 1 30 v1 rfl rfl)
  have k1 := h1
  have lt1 : ∀ x ∈ p1, x.block < W.heap.size := by obtain ⟨m, hm⟩ := k1; exact DataW.trod_lt m _ _ _ hm
  obtain ⟨R1, L1, C1, Z1, w1⟩ := open_rows h1 (fun x hx => by simpa using List.all_eq_true.1 hsz x (DataW.weights_mem_each (j := 1) (t := 30) rfl rfl x hx))
  obtain ⟨a2, rfl, rfl, rfl, w2⟩ := open_int Try.underlying3 (hval 2 3 v2 rfl rfl) h2
  clear hA0 hval0
  refine (walk a0 len0 cap0 R0 L0 C0 Z0 a1 len1 cap1 R1 L1 C1 Z1 a2 W w0 w1 w2).mono fun e W' ⟨he, bel⟩ => ?_
  subst he
  exact ⟨_, rfl, _, _, _, [], _, [], hW', trodAll_mk1 (shut_bool Try.underlying4 _), (trodAll_cons_mk (Below.trod laidOut (by kernel_rfl) (of_decide_eq_true (by kernel_rfl)) k0 bel lt0) (trodAll_cons_mk (Below.trod laidOut (by kernel_rfl) (of_decide_eq_true (by kernel_rfl)) k1 bel lt1) (trodAll_cons_mk (shut_int Try.underlying3 w2) trodAll_mk0))), rfl, bel.frame _, fun h => by cases h⟩

theorem over : Rows.matrixProductsRow.holds Try.pinned (OpenSpec.ofChange Rows.matrixProductsSpec) :=
  OpenClaim.holds_of_wide 4 Try.f4 rfl rfl rfl rfl rfl rfl rfl ⟨rfl, rfl, rfl, rfl, rfl⟩ rfl rfl rfl rfl rfl (by kernel_rfl) Try.func4 (by kernel_rfl)
    (of_decide_eq_true (by kernel_rfl)) (by unfold Func.isWrapper; first | (rw [if_pos (by decide +kernel)]; kernel_rfl) | (rw [if_neg (by decide +kernel)]; exact ⟨rfl, rfl⟩))
    (fun os started H enc _ => lifted os started H enc)

theorem proved : Rows.MatrixProductsSaid := over
#print axioms proved
end Go.Proofs.Ytpgjkhlffcomgaa.matrixProducts
