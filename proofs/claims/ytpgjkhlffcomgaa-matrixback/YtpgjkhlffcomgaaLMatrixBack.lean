/- Proved: for every matrix of bytes the statement MatrixBack answers true (the document's P2.4 and P2.6: a matrix and its inverse come to nothing, both ways round, and one has an inverse just if no row hangs on others), with no condition but the reach; arguments may share memory. -/
import Derived.Test.YtpgjkhlffcomgaaP13
import Derived.Test.YtpgjkhlffcomgaaFr
import Derived.ShutString
import Derived.ChangeOld
namespace Go.Proofs.Ytpgjkhlffcomgaa.matrixBack
open Go.ChangeShapes Go.WideShapes Go.ChangeAt Go.RowKit
set_option linter.unusedVariables false

theorem bk_great (A : Option Addr) (n cap : Nat) (R : Nat → Option Addr) (L C : Nat → Nat) (Z : Nat → Nat → Int) (w : World) (h : InMat w A n cap R L C Z) (hg : decide (4096 < bulk L n) = true) :
    Calls Try.prog 6 #[.slice A n cap] w fun e w' => e = .returned (.bool true) ∧ Bw w w' := by
  go_enter Try.func6, Try.ntmps6
  go_wp2_with (first
    | (go_at_call 15; refine (small_any h true hg (Bw.refl _)).mono ?_; rintro e w' ⟨rfl, hw'⟩; subst w')
    | (go_at_call 9; refine (wakes2_any _).mono ?_; rintro e w1 ⟨rfl, hw1⟩))
  go_ret
  exact ⟨rfl, hw1⟩

theorem bk_err (A : Option Addr) (n cap : Nat) (R : Nat → Option Addr) (L C : Nat → Nat) (Z : Nat → Nat → Int) (w : World) (h : InMat w A n cap R L C Z) (hg : decide (4096 < bulk L n) = false) (x : Int) (h0 : (x != 0) = true) (h20 : (x == 20) = false)
    (hi : Calls Try.prog 22 #[.slice A n cap] w fun e w' => e = .returned (.tuple #[.slice none 0 0, .int .i64 x]) ∧ w' = w) :
    Calls Try.prog 6 #[.slice A n cap] w fun e w' => e = .returned (.bool true) ∧ Bw w w' := by
  go_enter Try.func6, Try.ntmps6
  go_wp2_with (first
    | (go_at_call 15; refine (small_any h false hg (Bw.refl _)).mono ?_; rintro e w' ⟨rfl, hw'⟩; subst w')
    | (go_at_call 22; refine hi.mono ?_; rintro e w' ⟨rfl, hw'⟩; subst w')
    | (go_at_call 23; refine (rk_all A n cap R L C Z _ h.mat).mono ?_; rintro e w1 ⟨x1, r1, rfl, -, hw1⟩)
    | (go_at_call 9; refine (wakes2_any _).mono ?_; rintro e w2 ⟨rfl, hw2⟩))
  go_ret
  exact ⟨rfl, hw1.trans hw2⟩

theorem bk_ok (A : Option Addr) (n cap : Nat) (R : Nat → Option Addr) (L C : Nat → Nat) (Z : Nat → Nat → Int) (w : World) (h : InMat w A n cap R L C Z) (hg : decide (4096 < bulk L n) = false) (hx : Wrong n L 0) (hc : colsN n L = n) :
    Calls Try.prog 6 #[.slice A n cap] w fun e w' => e = .returned (.bool true) ∧ Bw w w' := by
  obtain ⟨hn, -, -⟩ := wrong_ok hx
  have hci : colsI n L = (n : Int) := by rw [colsI_eq, hc]
  obtain ⟨-, hLn⟩ := wrong_cols hx hci
  have hx2 : Wrong n (fun _ => n) 0 := wrong_lit (c := n) hn (by omega) (fun _ => rfl)
  have hc2 : colsI n (fun _ => n) = (n : Int) := by rw [colsI_eq, cols_self]
  have hZ : ∀ i, i < n → ∀ t, 0 ≤ Z i t ∧ Z i t < 256 := fun i hi => (h.mat.2 i hi).2
  by_cases hs : ∃ B, ∀ i j, i < n → j < n → La.mm n (fm Z) B i j = La.one i j
  · have hrk : La.IsRank n n (fm Z) n := by obtain ⟨B, hB⟩ := hs; exact La.rank_of_inv hB
    have one_same : ∀ (U V : Nat → Nat → Int), (∀ i, i < n → ∀ t, 0 ≤ U i t ∧ U i t < 256) → (∀ i, i < n → ∀ t, 0 ≤ V i t ∧ V i t < 256) → (∀ i j, i < n → j < n → La.mm n (fm U) (fm V) i j = La.one i j) → SameM n n (fun _ => n) (fun _ => n) (prodZ n U V) oneZ := by
      intro U V hU hV hm
      refine ⟨rfl, fun r hr => ⟨rfl, fun i hi => ?_⟩⟩
      have hi' : i < n := hi
      apply fi_inj (prod_bd (hU r hr) i) (oneZ_bd r i)
      have e1 := prod_fm (m := n) (Z := U) (Y := V) (i := r) (j := i) (hU r hr) (fun t ht => hV t ht i)
      show fm (prodZ n U V) r i = fm oneZ r i
      rw [e1, one_fm, hm r i hr hi']
    go_enter Try.func6, Try.ntmps6
    go_wp2_with (first
      | (go_at_call 15; refine (small_any h false hg (Bw.refl _)).mono ?_; rintro e w' ⟨rfl, hw'⟩; subst w')
      | (go_at_call_of 22 (Value.slice A n cap); refine (iv_ok A n cap R L C Z _ h.mat hx hci).mono ?_; rintro e w1 ⟨v, x, k, Y, rfl, hres, hinv, hw1⟩; obtain ⟨rfl, rfl, hY⟩ := hinv.resolve_left (fun e => e.2.2 hs); obtain ⟨A1, cap1, R1, C1, rfl, hn1⟩ := hres; have a1 := h.mat.keep hw1; have y1 := hn1.mat; have bY : ∀ i, i < k → ∀ t, 0 ≤ Y i t ∧ Y i t < 256 := fun i hi => (y1.2 i hi).2; have hYZ := La.both _ _ _ hY; have s1 := one_same Z Y hZ bY hY; have s2 := one_same Y Z bY hZ hYZ)
      | (go_at_call 23; refine (rk_ok A _ _ cap R L C Z _ a1 hx hci).mono ?_; rintro e w2 ⟨r1, rfl, hr1, hw2⟩; obtain rfl := La.rank_unique hr1 hrk; have a2 := a1.keep hw2; have y2 := y1.keep hw2)
      | (go_at_call 20; refine (one_ok _ hn _).mono ?_; rintro e w3 ⟨v, rfl, hres, hw3⟩; obtain ⟨A3, cap3, R3, C3, rfl, hn3⟩ := hres; have a3 := a2.keep hw3; have y3 := y2.keep hw3; have o3 := hn3.mat)
      | (go_at_call 17; refine (mul_ok A A1 _ _ _ cap cap1 R R1 L C _ C1 Z Y _ a3 y3 hx hx2 hci hc2).mono ?_; rintro e w4 ⟨v, rfl, hres, hw4⟩; obtain ⟨A4, cap4, R4, C4, rfl, hn4⟩ := hres; have a4 := a3.keep hw4; have y4 := y3.keep hw4; have o4 := o3.keep hw4; have p4 := hn4.mat; clear a3)
      | (go_at_call 17; refine (mul_ok A1 A _ _ _ cap1 cap R1 R _ C1 L C Y Z _ y4 a4 hx2 hx hc2 hci).mono ?_; rintro e w5 ⟨v, rfl, hres, hw5⟩; obtain ⟨A5, cap5, R5, C5, rfl, hn5⟩ := hres; have a5 := a4.keep hw5; have y5 := y4.keep hw5; have o5 := o4.keep hw5; have p5 := p4.keep hw5; have q5 := hn5.mat)
      | (go_at_call 22; refine (iv_ok A1 _ cap1 R1 _ C1 Y _ y5 hx2 hc2).mono ?_; rintro e w6 ⟨v, x6, k6, Y6, rfl, hres, hinv6, hw6⟩; obtain ⟨rfl, rfl, hY6⟩ := hinv6.resolve_left (fun e => e.2.2 ⟨_, hYZ⟩); obtain ⟨A6, cap6, R6, C6, rfl, hn6⟩ := hres; have a6 := a5.keep hw6; have o6 := o5.keep hw6; have p6 := p5.keep hw6; have q6 := q5.keep hw6; have z6 := hn6.mat)
      | (go_at_call 18; refine (rsame_any A4 A3 _ _ cap4 cap3 R4 R3 _ C4 _ C3 _ _ (by omega) _ p6 o6).mono ?_; rintro e w7 ⟨x, rfl, hxs, hw7⟩; obtain rfl : x = true := hxs.2 s1; have a7 := a6.keep hw7; have o7 := o6.keep hw7; have q7 := q6.keep hw7; have z7 := z6.keep hw7; clear p6)
      | (go_at_call 18; refine (rsame_any A5 A3 _ _ cap5 cap3 R5 R3 _ C5 _ C3 _ _ (by omega) _ q7 o7).mono ?_; rintro e w8 ⟨x, rfl, hxs, hw8⟩; obtain rfl : x = true := hxs.2 s2; have a8 := a7.keep hw8; have z8 := z7.keep hw8; clear q7)
      | (go_at_call 18; refine (rsame_any A6 A _ _ cap6 cap R6 R _ C6 L C Y6 Z (by omega) _ z8 a8).mono ?_; rintro e w9 ⟨x, rfl, hxs, hw9⟩; obtain rfl : x = true := hxs.2 ⟨rfl, fun r hr => ⟨(hLn r hr).symm, fun i hi => fi_inj ((z6.2 r hr).2 i) (hZ r hr i) (La.inv_unique _ _ _ _ hY6 hYZ r i hr hi)⟩⟩; clear z8)
      | (go_at_call 9; refine (wakes2_any _).mono ?_; rintro e w10 ⟨rfl, hw10⟩))
    go_ret
    exact ⟨rfl, hw1.trans (hw2.trans (hw3.trans (hw4.trans (hw5.trans (hw6.trans (hw7.trans (hw8.trans (hw9.trans hw10))))))))⟩
  · go_enter Try.func6, Try.ntmps6
    go_wp2_with (first
      | (go_at_call 15; refine (small_any h false hg (Bw.refl _)).mono ?_; rintro e w' ⟨rfl, hw'⟩; subst w')
      | (go_at_call_of 22 (Value.slice A n cap); refine (iv_ok A n cap R L C Z _ h.mat hx hci).mono ?_; rintro e w1 ⟨v, x, k, Y, rfl, hres, hinv, hw1⟩; obtain ⟨rfl, rfl, -⟩ := hinv.resolve_right (fun e => hs ⟨_, e.2.2⟩); obtain ⟨A1, cap1, R1, C1, rfl, hn1⟩ := hres; have a1 := h.mat.keep hw1)
      | (go_at_call 23; refine (rk_ok A _ _ cap R L C Z _ a1 hx hci).mono ?_; rintro e w2 ⟨r1, rfl, hr1, hw2⟩; have hlt : r1 < n := (by have := La.rank_le_rows hr1; rcases Nat.lt_or_ge r1 n with h' | h'; exact h'; exact absurd (La.inv_of_rank ((show r1 = n by omega) ▸ hr1)) hs))
      | (go_at_call 9; refine (wakes2_any _).mono ?_; rintro e w3 ⟨rfl, hw3⟩))
    go_ret
    exact ⟨rfl, hw1.trans (hw2.trans hw3)⟩

theorem walk (a0 : Option Addr) (len0 cap0 : Nat) (R0 : Nat → Option Addr) (L0 C0 : Nat → Nat) (Z0 : Nat → Nat → Int) (w : World) (w0 : InMat w a0 len0 cap0 R0 L0 C0 Z0) :
    Calls Try.prog 6 #[.slice a0 len0 cap0] w fun e w' => e = .returned (.bool true) ∧ Below w.heap.size w w' := by
  by_cases hg : 4096 < bulk L0 len0
  · exact bk_great _ _ _ _ _ _ _ w w0 (decide_eq_true hg)
  · have hg' : decide (4096 < bulk L0 len0) = false := decide_eq_false hg
    obtain ⟨x, hx⟩ := wrong_some_x len0 L0
    by_cases h1 : x = 0
    · subst h1
      by_cases h2 : colsN len0 L0 = len0
      · exact bk_ok _ _ _ _ _ _ _ w w0 hg' hx h2
      · exact bk_err _ _ _ _ _ _ _ w w0 hg' 6 rfl rfl (iv_shape _ _ _ _ _ _ _ w w0.mat hx h2)
    · refine bk_err _ _ _ _ _ _ _ w w0 hg' x (by simpa using h1) ?_ (iv_bad _ _ _ _ _ _ _ w w0.mat x hx h1)
      rcases hx with ⟨rfl, _⟩ | ⟨rfl, _⟩ | ⟨rfl, _⟩
      · rfl
      · rfl
      · exact absurd rfl h1

set_option maxRecDepth 100000 in
theorem lifted (os : Os) (started : os.Started) (H : Type) (enc : TypeId × Value → H) :
    ReturnsInHanded {} Try.checked os 6 .any (Rows.matrixBackSpec.pre6 enc Try.prog Try.f6 Rows.matrixBackRow.domain false) (Rows.matrixBackSpec.post enc Try.prog Try.f6 false true false false) := by
  refine returnsInHanded_of_change_sized (C := Try.checked) own started (by kernel_rfl) Try.func6
    (ChangeSpec.witness6 (enc := enc) (C := Try.checked) false ⟨#[], #[.slice none 0 0], []⟩ 8 (by kernel_rfl) (by kernel_rfl) (by kernel_rfl) (by kernel_rfl)) ?_
  intro W base args ds gs before hval0 hW hcnd hsz0 _
  have hval : ∀ (j : Nat) t v, Try.f6.params[j]? = some t → args[j]? = some v → Value.okWide Try.prog W .any base t v := hval0
  have hW' := hW
  obtain ⟨p, q, hA0, hV, rfl, hfz, hnd⟩ := hW
  have hA : DataW.TrodAll enc Try.prog W 0 (fun _ => true) true Try.f6.params.toList args.toList ds p := hA0
  have hsz : (DataW.weightsEach Try.prog (Try.f6.params.toList ++ Rows.matrixBackSpec.plain.varTypes Try.prog) (ds ++ gs)).all (· ≤ reachBytes) = true := hsz0
  rw [Try.params6] at hA hval hsz
  obtain ⟨v0, vs0, d0, ds0, p0, q0, hargs, rfl, rfl, h0, r0⟩ := trodAll_cons hA
  obtain ⟨rfl, rfl, rfl⟩ := trodAll_nil r0
  obtain rfl : args = #[v0] := by cases args; simp_all
  obtain ⟨rfl, rfl⟩ := trodVars_none hV
  obtain ⟨a0, len0, cap0, rfl⟩ := okWide_slice Try.underlying30 (hval 0 30 v0 rfl rfl)
  have k0 := h0
  have lt0 : ∀ x ∈ p0, x.block < W.heap.size := by obtain ⟨m, hm⟩ := k0; exact DataW.trod_lt m _ _ _ hm
  obtain ⟨R0, L0, C0, Z0, w0⟩ := open_rows h0 (fun x hx => by simpa using List.all_eq_true.1 hsz x (DataW.weights_mem_each (j := 0) (t := 30) rfl rfl x hx))
  clear hA0 hval0
  refine (walk a0 len0 cap0 R0 L0 C0 Z0 W w0).mono fun e W' ⟨he, bel⟩ => ?_
  subst he
  exact ⟨_, rfl, _, _, _, [], _, [], hW', trodAll_mk1 (shut_bool Try.underlying4 _), (trodAll_cons_mk (Below.trod laidOut (by kernel_rfl) (of_decide_eq_true (by kernel_rfl)) k0 bel lt0) trodAll_mk0), rfl, bel.frame _, fun h => by cases h⟩

theorem over : Rows.matrixBackRow.holds Try.pinned (OpenSpec.ofChange Rows.matrixBackSpec) :=
  OpenClaim.holds_of_wide 6 Try.f6 rfl rfl rfl rfl rfl rfl rfl ⟨rfl, rfl, rfl, rfl, rfl⟩ rfl rfl rfl rfl rfl (by kernel_rfl) Try.func6 (by kernel_rfl)
    (of_decide_eq_true (by kernel_rfl)) (by unfold Func.isWrapper; first | (rw [if_pos (by decide +kernel)]; kernel_rfl) | (rw [if_neg (by decide +kernel)]; exact ⟨rfl, rfl⟩))
    (fun os started H enc _ => lifted os started H enc)

theorem proved : Rows.MatrixBackSaid := over
#print axioms proved
end Go.Proofs.Ytpgjkhlffcomgaa.matrixBack
