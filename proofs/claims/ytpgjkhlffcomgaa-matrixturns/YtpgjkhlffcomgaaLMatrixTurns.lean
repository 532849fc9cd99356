/- Proved: for every matrix of bytes the statement MatrixTurns answers true (the document's P2.6: rows and columns changed about twice are as they were, and hang on one another as much), with no condition but the reach; arguments may share memory. -/
import Derived.Test.YtpgjkhlffcomgaaP12
import Derived.Test.YtpgjkhlffcomgaaM15
import Derived.Test.YtpgjkhlffcomgaaFr
import Derived.ShutString
import Derived.ChangeOld
namespace Go.Proofs.Ytpgjkhlffcomgaa.matrixTurns
open Go.ChangeShapes Go.WideShapes Go.ChangeAt Go.RowKit
set_option linter.unusedVariables false

theorem small_any {A : Option Addr} {n cap : Nat} {R : Nat → Option Addr} {L C : Nat → Nat} {Z : Nat → Nat → Int} {w : World} (h : InMat w A n cap R L C Z) (b : Bool) (hb : decide (4096 < bulk L n) = b) {w' : World} (hw : Bw w w') :
    Calls Try.prog 15 #[.slice A n cap] w' fun e w'' => e = .returned (.bool b) ∧ w'' = w' := by
  have h1 := h.le
  have h2 := h.room
  rw [← hb]
  exact great_any A n cap R L C Z (fun r hr => by have := h.rows r hr; omega) (by omega) w' (h.mat.keep hw)

theorem turns_great (A : Option Addr) (n cap : Nat) (R : Nat → Option Addr) (L C : Nat → Nat) (Z : Nat → Nat → Int) (w : World) (h : InMat w A n cap R L C Z) (hg : decide (4096 < bulk L n) = true) :
    Calls Try.prog 8 #[.slice A n cap] w fun e w' => e = .returned (.bool true) ∧ Bw w w' := by
  go_enter Try.func8, Try.ntmps8
  go_wp2_with (first
    | (go_at_call 15; refine (small_any h true hg (Bw.refl _)).mono ?_; rintro e w' ⟨rfl, hw'⟩; subst w')
    | (go_at_call 9; refine (wakes2_any _).mono ?_; rintro e w1 ⟨rfl, hw1⟩))
  go_ret
  exact ⟨rfl, hw1⟩

theorem turns_bad (A : Option Addr) (n cap : Nat) (R : Nat → Option Addr) (L C : Nat → Nat) (Z : Nat → Nat → Int) (w : World) (h : InMat w A n cap R L C Z) (hg : decide (4096 < bulk L n) = false) (x : Int) (h0 : (x != 0) = true)
    (ht : Calls Try.prog 24 #[.slice A n cap] w fun e w' => e = .returned (.tuple #[.slice none 0 0, .int .i64 x]) ∧ w' = w) :
    Calls Try.prog 8 #[.slice A n cap] w fun e w' => e = .returned (.bool true) ∧ Bw w w' := by
  go_enter Try.func8, Try.ntmps8
  go_wp2_with (first
    | (go_at_call 15; refine (small_any h false hg (Bw.refl _)).mono ?_; rintro e w' ⟨rfl, hw'⟩; subst w')
    | (go_at_call 24; refine ht.mono ?_; rintro e w' ⟨rfl, hw'⟩; subst w')
    | (go_at_call 9; refine (wakes2_any _).mono ?_; rintro e w1 ⟨rfl, hw1⟩))
  go_ret
  exact ⟨rfl, hw1⟩

theorem turns_none (A : Option Addr) (n cap : Nat) (R : Nat → Option Addr) (L C : Nat → Nat) (Z : Nat → Nat → Int) (w : World) (h : InMat w A n cap R L C Z) (hg : decide (4096 < bulk L n) = false) (hx : Wrong n L 0) (hc : colsI n L = 0) :
    Calls Try.prog 8 #[.slice A n cap] w fun e w' => e = .returned (.bool true) ∧ Bw w w' := by
  go_enter Try.func8, Try.ntmps8
  go_wp2_with (first
    | (go_at_call 15; refine (small_any h false hg (Bw.refl _)).mono ?_; rintro e w' ⟨rfl, hw'⟩; subst w')
    | (go_at_call 24; refine (tur_ok A n 0 cap R L C Z w h.mat hx hc (by omega)).mono ?_; rintro e w1 ⟨v, rfl, hres, hw1⟩; obtain ⟨A1, cap1, R1, C1, rfl, hn1⟩ := hres; have hm1 := h.mat.keep hw1)
    | (go_at_call 28; refine (rcols_any _ _ _ _ _ _ _ _ hm1).mono ?_; rintro e w' ⟨rfl, hw'⟩; subst w'; rw [hc])
    | (go_at_call 9; refine (wakes2_any _).mono ?_; rintro e w2 ⟨rfl, hw2⟩))
  go_ret
  exact ⟨rfl, hw1.trans hw2⟩

theorem turns_ok (A : Option Addr) (n m cap : Nat) (R : Nat → Option Addr) (L C : Nat → Nat) (Z : Nat → Nat → Int) (w : World) (h : InMat w A n cap R L C Z) (hg : decide (4096 < bulk L n) = false) (hx : Wrong n L 0) (hc : colsI n L = (m : Int)) (hm0 : 0 < m) (hm : m ≤ 32) :
    Calls Try.prog 8 #[.slice A n cap] w fun e w' => e = .returned (.bool true) ∧ Bw w w' := by
  obtain ⟨hn, -, -⟩ := wrong_ok hx
  obtain ⟨-, hLm⟩ := wrong_cols hx hc
  have hx2 : Wrong m (fun _ => n) 0 := wrong_lit (c := n) hm (by omega) (fun _ => rfl)
  have hc2 : colsI m (fun _ => n) = (n : Int) := by unfold colsI; rw [if_neg (by omega)]
  have hc3 : ((m : Int) == 0) = false := by simp; omega
  have hsame : SameM n n (fun _ => m) L (tz m (tz n Z)) Z := by
    refine ⟨rfl, fun r hr => ⟨(hLm r hr).symm, fun i hi => ?_⟩⟩
    have hi' : i < m := hi
    unfold tz; rw [if_pos hi', if_pos hr]
  go_enter Try.func8, Try.ntmps8
  go_wp2_with (first
    | (go_at_call 15; refine (small_any h false hg (Bw.refl _)).mono ?_; rintro e w' ⟨rfl, hw'⟩; subst w')
    | (go_at_call_of 24 (Value.slice A n cap); refine (tur_ok A n m cap R L C Z w h.mat hx hc hm).mono ?_; rintro e w1 ⟨v, rfl, hres, hw1⟩; obtain ⟨A1, cap1, R1, C1, rfl, hn1⟩ := hres; have hm1 := h.mat.keep hw1)
    | (go_at_call 28; refine (rcols_any _ _ _ _ _ _ _ _ hm1).mono ?_; rintro e w' ⟨rfl, hw'⟩; subst w'; rw [hc])
    | (go_at_call_of 24 (Value.slice A1 m cap1); refine (tur_ok A1 m n cap1 R1 _ C1 _ _ hn1.mat hx2 hc2 hn).mono ?_; rintro e w2 ⟨v, rfl, hres, hw2⟩; obtain ⟨A2, cap2, R2, C2, rfl, hn2⟩ := hres; have hm2 := hm1.keep hw2; have ht2 := hn1.mat.keep hw2)
    | (go_at_call_of 23 (Value.slice A n cap); refine (rk_ok A n m cap R L C Z _ hm2 hx hc).mono ?_; rintro e w3 ⟨r1, rfl, hr1, hw3⟩; have hm3 := hm2.keep hw3; have ht3 := ht2.keep hw3; have hu3 := hn2.mat.keep hw3)
    | (go_at_call_of 23 (Value.slice A1 m cap1); refine (rk_ok A1 m n cap1 R1 _ C1 _ _ ht3 hx2 hc2).mono ?_; rintro e w4 ⟨r2, rfl, hr2, hw4⟩; have hm4 := hm3.keep hw4; have hu4 := hu3.keep hw4; obtain rfl : r1 = r2 := La.rank_unique (La.rank_turned hr1) (rank_congr hr2 (fun i j hi hj => by unfold fm tz; rw [if_pos hj])))
    | (go_at_call 18; refine (rsame_any A2 A n n cap2 cap R2 R _ C2 L C _ Z (by omega) _ hu4 hm4).mono ?_; rintro e w5 ⟨x, rfl, hxs, hw5⟩; obtain rfl : x = true := hxs.2 hsame)
    | (go_at_call 9; refine (wakes2_any _).mono ?_; rintro e w6 ⟨rfl, hw6⟩))
  go_ret
  exact ⟨rfl, hw1.trans (hw2.trans (hw3.trans (hw4.trans (hw5.trans hw6))))⟩

theorem walk (a0 : Option Addr) (len0 cap0 : Nat) (R0 : Nat → Option Addr) (L0 C0 : Nat → Nat) (Z0 : Nat → Nat → Int) (w : World) (w0 : InMat w a0 len0 cap0 R0 L0 C0 Z0) :
    Calls Try.prog 8 #[.slice a0 len0 cap0] w fun e w' => e = .returned (.bool true) ∧ Below w.heap.size w w' := by
  by_cases hg : 4096 < bulk L0 len0
  · exact turns_great _ _ _ _ _ _ _ w w0 (decide_eq_true hg)
  · have hg' : decide (4096 < bulk L0 len0) = false := decide_eq_false hg
    obtain ⟨x, hx⟩ := wrong_some_x len0 L0
    by_cases h1 : x = 0
    · subst h1
      by_cases h2 : 32 < colsN len0 L0
      · exact turns_bad _ _ _ _ _ _ _ w w0 hg' 2 rfl (tur_long _ _ _ _ _ _ _ w w0.mat hx (by rw [colsI_eq]; omega))
      · by_cases h3 : colsN len0 L0 = 0
        · exact turns_none _ _ _ _ _ _ _ w w0 hg' hx (by rw [colsI_eq, h3]; rfl)
        · exact turns_ok _ _ (colsN len0 L0) _ _ _ _ _ w w0 hg' hx (colsI_eq _ _) (by omega) (by omega)
    · exact turns_bad _ _ _ _ _ _ _ w w0 hg' x (by simpa using h1) (tur_bad _ _ _ _ _ _ _ w w0.mat x hx h1)

set_option maxRecDepth 100000 in
theorem lifted (os : Os) (started : os.Started) (H : Type) (enc : TypeId × Value → H) :
    ReturnsInHanded {} Try.checked os 8 .any (Rows.matrixTurnsSpec.pre6 enc Try.prog Try.f8 Rows.matrixTurnsRow.domain false) (Rows.matrixTurnsSpec.post enc Try.prog Try.f8 false true false false) := by
  refine returnsInHanded_of_change_sized (C := Try.checked) own started (by kernel_rfl) Try.func8
    (ChangeSpec.witness6 (enc := enc) (C := Try.checked) false ⟨#[], #[.slice none 0 0], []⟩ 8 (by kernel_rfl) (by kernel_rfl) (by kernel_rfl) (by kernel_rfl)) ?_
  intro W base args ds gs before hval0 hW hcnd hsz0 _
  have hval : ∀ (j : Nat) t v, Try.f8.params[j]? = some t → args[j]? = some v → Value.okWide Try.prog W .any base t v := hval0
  have hW' := hW
  obtain ⟨p, q, hA0, hV, rfl, hfz, hnd⟩ := hW
  have hA : DataW.TrodAll enc Try.prog W 0 (fun _ => true) true Try.f8.params.toList args.toList ds p := hA0
  have hsz : (DataW.weightsEach Try.prog (Try.f8.params.toList ++ Rows.matrixTurnsSpec.plain.varTypes Try.prog) (ds ++ gs)).all (· ≤ reachBytes) = true := hsz0
  rw [Try.params8] at hA hval hsz
  obtain ⟨v0, vs0, d0, ds0, p0, q0, hargs, rfl, rfl, h0, r0⟩ := trodAll_cons hA
  obtain ⟨rfl, rfl, rfl⟩ := trodAll_nil r0
  obtain rfl : args = #[v0] := by cases args; simp_all
  obtain ⟨rfl, rfl⟩ := trodVars_none hV
  obtain ⟨a0, len0, cap0, rfl⟩ := okWide_slice Try.underlying30 (hval 0 30 v0 rfl rfl)
  have k0 := h0
  have lt0 : ∀ x ∈ p0, x.block < W.heap.size := by obtain ⟨m, hm⟩ := k0; exact DataW.trod_lt m _ _ _ hm
  obtain ⟨R0, L0, C0, Z0, w0⟩ := open_rows h0 (fun x hx => by simpa using List.all_eq_true.1 hsz x (DataW.weights_mem_each (j := 0) (t := 30) rfl rfl x hx))
  clear hA0 hval0
  refine (walk a0 len0 cap0 R0 L0 C0 Z0 W w0).mono fun e W' ⟨he, bel⟩ => ?_
  subst he
  exact ⟨_, rfl, _, _, _, [], _, [], hW', trodAll_mk1 (shut_bool Try.underlying4 _), (trodAll_cons_mk (Below.trod laidOut (by kernel_rfl) (of_decide_eq_true (by kernel_rfl)) k0 bel lt0) trodAll_mk0), rfl, bel.frame _, fun h => by cases h⟩

theorem over : Rows.matrixTurnsRow.holds Try.pinned (OpenSpec.ofChange Rows.matrixTurnsSpec) :=
  OpenClaim.holds_of_wide 8 Try.f8 rfl rfl rfl rfl rfl rfl rfl ⟨rfl, rfl, rfl, rfl, rfl⟩ rfl rfl rfl rfl rfl (by kernel_rfl) Try.func8 (by kernel_rfl)
    (of_decide_eq_true (by kernel_rfl)) (by unfold Func.isWrapper; first | (rw [if_pos (by decide +kernel)]; kernel_rfl) | (rw [if_neg (by decide +kernel)]; exact ⟨rfl, rfl⟩))
    (fun os started H enc _ => lifted os started H enc)

theorem proved : Rows.MatrixTurnsSaid := over
#print axioms proved
end Go.Proofs.Ytpgjkhlffcomgaa.matrixTurns
