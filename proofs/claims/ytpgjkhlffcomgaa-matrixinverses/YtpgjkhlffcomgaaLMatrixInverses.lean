/- Proved: for every matrix of bytes the statement MatrixInverses answers true (the document's P2.4 and P2.5: the inverse, the rank, and rows and columns changed about, are the document's, and new memory), with no condition but the reach; arguments may share memory. -/
import Derived.Test.YtpgjkhlffcomgaaP16
import Derived.Test.YtpgjkhlffcomgaaFr
import Derived.ShutString
import Derived.ChangeOld
namespace Go.Proofs.Ytpgjkhlffcomgaa.matrixInverses
open Go.ChangeShapes Go.WideShapes Go.ChangeAt Go.RowKit
set_option linter.unusedVariables false

theorem iv_great (A : Option Addr) (n ca : Nat) (R : Nat → Option Addr) (L C : Nat → Nat) (Z : Nat → Nat → Int) (w : World) (ha : InMat w A n ca R L C Z) (h1 : decide (4096 < bulk L n) = true) :
    Calls Try.prog 5 #[.slice A n ca] w fun e w' => e = .returned (.bool true) ∧ Bw w w' := by
  go_enter Try.func5, Try.ntmps5
  go_wp2_with (first
    | (go_at_call 15; refine (small_any ha true h1 (Bw.refl _)).mono ?_; rintro e w' ⟨rfl, hw'⟩; subst w')
    | (go_at_call 9; refine (wakes2_any _).mono ?_; rintro e w1 ⟨rfl, hw1⟩))
  go_ret
  exact ⟨rfl, hw1⟩

attribute [local go_sem] List.getElem?_cons_zero Option.getD_some

set_option maxRecDepth 100000 in
set_option maxHeartbeats 2000000 in
theorem ivs_ok (A : Option Addr) (n ca : Nat) (R : Nat → Option Addr) (L C : Nat → Nat) (Z : Nat → Nat → Int) (w : World) (ha : InMat w A n ca R L C Z) (h1 : decide (4096 < bulk L n) = false) :
    Calls Try.prog 5 #[.slice A n ca] w fun e w' => e = .returned (.bool true) ∧ Bw w w' := by
  have g1 : bulk L n ≤ 4096 := Nat.le_of_not_lt (of_decide_eq_false h1)
  obtain ⟨l1, l2⟩ := bulk_le L n
  have cl1 : ∀ r, r < n → L r ≤ 140737488351232 := fun r hr => by have := l2 r hr; omega
  have sp1 : ∀ r, r < n → L r ≤ 140737488355328 := fun r hr => by have := l2 r hr; omega
  have hn5 : n ≤ 4096 := by omega
  have H1 : Hid (∀ r, r < n → L r ≤ 140737488351232) := cl1
  have H3 : Hid (∀ r, r < n → L r ≤ 140737488355328) := sp1
  have HC : Hid (∀ r, r < n → R r = none → C r = 0) := fun r hr => (ha.rows r hr).2.2
  clear l1 l2 g1 cl1 sp1
  go_enter Try.func5, Try.ntmps5
  go_wp2_with (first
    | (go_at_call 15; refine (small_any ha false h1 (Bw.refl _)).mono ?_; rintro e w' ⟨rfl, hw'⟩; subst w')
    | (go_at_call 16; refine (rcopied_free A n ca R L C Z _ ha.mat HC.out H1.out (by omega)).mono ?_; rintro e w1 ⟨v, R1, C1, rfl, ho1, hf1, hw1⟩; obtain ⟨A1, cap1, rfl, -, -⟩ := matw_of ho1 hf1; have ri1 := rows_in ho1)
    | (go_at_call 22; refine (iv_all A1 n cap1 R1 L C1 Z _ (own_mat ho1)).mono ?_; rintro e w2 ⟨v, x, k, Y, rfl, hres, hsay, hw2⟩; obtain ⟨X, xc, RX, CX, rfl, hx2⟩ := hres; have k32 := ivsays_le hsay; have p2 := ho1.keep hw2; have q2 := hf1.keep hw2)
    | (go_at_call 23; refine (rk_all A1 n cap1 R1 L C1 Z _ (own_mat p2)).mono ?_; rintro e w3 ⟨xr, r, rfl, hrk, hw3⟩; have p3 := p2.keep hw3; have q3 := q2.keep hw3)
    | (go_at_call 24; refine (tur_all A1 n cap1 R1 L C1 Z _ (own_mat p3)).mono ?_; rintro e w4 ⟨v, xt, kt, rfl, hres, htu, hw4⟩; obtain ⟨T, tc, RT, CT, rfl, ht4⟩ := hres; have t32 := turnsays_le htu; have p4 := p3.keep hw4; have q4 := q3.keep hw4; have a4 := ha.mat.keep (hw1.trans (hw2.trans (hw3.trans hw4))))
    | (go_at_call_of 18 (Value.slice A1 n cap1); refine (rsame_any A1 A n n cap1 ca R1 R L C1 L C Z Z (by omega) _ (own_mat p4) a4).mono ?_; rintro e w5 ⟨y, rfl, hy, hw5⟩; obtain rfl : y = true := hy.2 (same_self _ _ _); have p5 := p4.keep hw5; have q5 := q4.keep hw5)
    | (go_at_call 12; refine (spoilt_any A1 n cap1 _ R1 L C1 (by omega) H3.out _ (own_matw p5 q5)).mono ?_; rintro e w6 ⟨rfl, hw6⟩; have bw5 := hw1.trans (hw2.trans (hw3.trans (hw4.trans hw5))); have bw6 : Bw w w6 := (Below.trans bw5 (hw6.below bw5.size (fun b hb => (ri1 b hb).1))); have x6 := MatAt.keepx (hx2.keep (hw3.trans (hw4.trans hw5))) hw6 (fun b hb => (ri1 b hb).2); have t6 := MatAt.keepx (ht4.keep hw5) hw6 (fun b hb => Nat.lt_of_lt_of_le (ri1 b hb).2 (hw2.trans hw3).size); have x6' := x6.mat; have t6' := t6.mat; clear x6 t6 p5 q5 p4 q4 p3 q3 p2 q2 a4 hx2 ht4 ho1 hf1 bw5 ri1 hw6 hw5 hw4 hw3 hw2 hw1)
    | (refine wpList_extract rfl _ _ rfl _ rfl _ rfl ?_)
    | (go_at_call 25; refine (rinv_all2 A n ca R L C Z _ (ha.mat.keep bw6)).mono ?_; rintro e w7 ⟨v, x', k', Y', rfl, hres, hsay', hw7⟩; have hq : Hid (x = x' ∧ k = k' ∧ (k = 0 ∨ (k = n ∧ ∀ i j, i < n → j < n → fm Y i j = fm Y' i j))) := ivsays_unique hsay hsay'; have hxx : (x == x') = true := (by rw [hq.out.1]; simp); obtain ⟨X7, xc7, RX7, CX7, rfl, hx7⟩ := hres; have x7 := x6'.keep hw7; have t7 := t6'.keep hw7; have b7 := bw6.trans hw7; clear hsay')
    | (go_at_call 26; refine (rrk_all A n ca R L C Z _ (ha.mat.keep b7) HC.out).mono ?_; rintro e w8 ⟨xr', r', rfl, hrk', hw8⟩; obtain ⟨er1, er2⟩ := ranksays_unique hrk hrk'; have hr1 : (xr == xr') = true := (by rw [er1]; simp); have hr2 : ((r : Int) == (r' : Int)) = true := (by rw [er2]; simp); clear er1 er2 hrk'; have x8 := x7.keep hw8; have t8 := t7.keep hw8; have y8 := hx7.keep hw8; have b8 := b7.trans hw8)
    | (go_at_call 27; refine (rtur_all A n ca R L C Z _ (ha.mat.keep b8)).mono ?_; rintro e w9 ⟨v, xt', kt', rfl, hres, htu', hw9⟩; have ht : Hid (xt = xt' ∧ kt = kt') := turnsays_unique htu htu'; have ht1 : (xt == xt') = true := (by rw [ht.out.1]; simp); obtain ⟨T9, tc9, RT9, CT9, rfl, hu9⟩ := hres; have x9 := x8.keep hw9; have t9 := t8.keep hw9; have y9 := y8.keep hw9; clear htu')
    | (go_at_call_of 18 (Value.slice X k xc); refine (rsame_any X X7 k k' xc xc7 RX RX7 _ CX _ CX7 Y Y' (by omega) _ x9 y9).mono ?_; rintro e w10 ⟨y, rfl, hy, hw10⟩; obtain rfl : y = true := hy.2 ⟨hq.out.2.1, fun r hr => ⟨rfl, fun i hi => fi_inj ((x9.2 r hr).2 i) ((y9.2 r (hq.out.2.1 ▸ hr)).2 i) ((hq.out.2.2.resolve_left (by omega)).2 r i ((hq.out.2.2.resolve_left (by omega)).1 ▸ hr) hi)⟩⟩; have t10 := t9.keep hw10; have u10 := hu9.keep hw10)
    | (go_at_call 18; refine (rsame_any T T9 kt kt' tc tc9 RT RT9 _ CT _ CT9 _ _ (by omega) _ t10 u10).mono ?_; rintro e w11 ⟨y, rfl, hy, hw11⟩; obtain rfl : y = true := hy.2 ⟨ht.out.2, fun r hr => ⟨rfl, fun _ _ => rfl⟩⟩)
    | (go_at_call 9; refine (wakes2_any _).mono ?_; rintro e w12 ⟨rfl, hw12⟩))
  go_ret
  exact ⟨rfl, b8.trans (hw9.trans (hw10.trans (hw11.trans hw12)))⟩

theorem walk (a0 : Option Addr) (len0 cap0 : Nat) (R0 : Nat → Option Addr) (L0 C0 : Nat → Nat) (Z0 : Nat → Nat → Int) (w : World) (w0 : InMat w a0 len0 cap0 R0 L0 C0 Z0) :
    Calls Try.prog 5 #[.slice a0 len0 cap0] w fun e w' => e = .returned (.bool true) ∧ Below w.heap.size w w' := by
  by_cases h1 : 4096 < bulk L0 len0
  · exact iv_great _ _ _ _ _ _ _ w w0 (decide_eq_true h1)
  · exact ivs_ok _ _ _ _ _ _ _ w w0 (decide_eq_false h1)

set_option maxRecDepth 100000 in
theorem lifted (os : Os) (started : os.Started) (H : Type) (enc : TypeId × Value → H) :
    ReturnsInHanded {} Try.checked os 5 .any (Rows.matrixInversesSpec.pre6 enc Try.prog Try.f5 Rows.matrixInversesRow.domain false) (Rows.matrixInversesSpec.post enc Try.prog Try.f5 false true false false) := by
  refine returnsInHanded_of_change_sized (C := Try.checked) own started (by kernel_rfl) Try.func5
    (ChangeSpec.witness6 (enc := enc) (C := Try.checked) false ⟨#[], #[.slice none 0 0], []⟩ 8 (by kernel_rfl) (by kernel_rfl) (by kernel_rfl) (by kernel_rfl)) ?_
  intro W base args ds gs before hval0 hW hcnd hsz0 _
  have hval : ∀ (j : Nat) t v, Try.f5.params[j]? = some t → args[j]? = some v → Value.okWide Try.prog W .any base t v := hval0
  have hW' := hW
  obtain ⟨p, q, hA0, hV, rfl, hfz, hnd⟩ := hW
  have hA : DataW.TrodAll enc Try.prog W 0 (fun _ => true) true Try.f5.params.toList args.toList ds p := hA0
  have hsz : (DataW.weightsEach Try.prog (Try.f5.params.toList ++ Rows.matrixInversesSpec.plain.varTypes Try.prog) (ds ++ gs)).all (· ≤ reachBytes) = true := hsz0
  rw [Try.params5] at hA hval hsz
  obtain ⟨v0, vs0, d0, ds0, p0, q0, hargs, rfl, rfl, h0, r0⟩ := trodAll_cons hA
  obtain ⟨rfl, rfl, rfl⟩ := trodAll_nil r0
  obtain rfl : args = #[v0] := by cases args; simp_all
  obtain ⟨rfl, rfl⟩ := trodVars_none hV
  obtain ⟨a0, len0, cap0, rfl⟩ := okWide_slice Try.underlying30 (hval 0 30 v0 rfl rfl)
  have k0 := h0
  have lt0 : ∀ x ∈ p0, x.block < W.heap.size := by obtain ⟨m, hm⟩ := k0; exact DataW.trod_lt m _ _ _ hm
  obtain ⟨R0, L0, C0, Z0, w0⟩ := open_rows h0 (fun x hx => by simpa using List.all_eq_true.1 hsz x (DataW.weights_mem_each (j := 0) (t := 30) rfl rfl x hx))
  clear hA0 hval0
  refine (walk a0 len0 cap0 R0 L0 C0 Z0 W w0).mono fun e W' ⟨he, bel⟩ => ?_
  subst he
  exact ⟨_, rfl, _, _, _, [], _, [], hW', trodAll_mk1 (shut_bool Try.underlying4 _), (trodAll_cons_mk (Below.trod laidOut (by kernel_rfl) (of_decide_eq_true (by kernel_rfl)) k0 bel lt0) trodAll_mk0), rfl, bel.frame _, fun h => by cases h⟩

theorem over : Rows.matrixInversesRow.holds Try.pinned (OpenSpec.ofChange Rows.matrixInversesSpec) :=
  OpenClaim.holds_of_wide 5 Try.f5 rfl rfl rfl rfl rfl rfl rfl ⟨rfl, rfl, rfl, rfl, rfl⟩ rfl rfl rfl rfl rfl (by kernel_rfl) Try.func5 (by kernel_rfl)
    (of_decide_eq_true (by kernel_rfl)) (by unfold Func.isWrapper; first | (rw [if_pos (by decide +kernel)]; kernel_rfl) | (rw [if_neg (by decide +kernel)]; exact ⟨rfl, rfl⟩))
    (fun os started H enc _ => lifted os started H enc)

theorem proved : Rows.MatrixInversesSaid := over
#print axioms proved
end Go.Proofs.Ytpgjkhlffcomgaa.matrixInverses
