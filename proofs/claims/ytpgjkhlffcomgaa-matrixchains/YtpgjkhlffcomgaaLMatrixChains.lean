/- Proved: for every three matrices of bytes the statement MatrixChains answers true (the document's P2.6: products go in any order of brackets), with no condition but the reach; arguments may share memory. -/
import Derived.Test.YtpgjkhlffcomgaaP13
import Derived.Test.YtpgjkhlffcomgaaFr
import Derived.ShutString
import Derived.ChangeOld
namespace Go.Proofs.Ytpgjkhlffcomgaa.matrixChains
open Go.ChangeShapes Go.WideShapes Go.ChangeAt Go.RowKit
set_option linter.unusedVariables false

theorem ch_first (A B D : Option Addr) (n m q ca cb cd : Nat) (R : Nat → Option Addr) (L C : Nat → Nat) (Z : Nat → Nat → Int) (w : World) (ha : InMat w A n ca R L C Z)
    (hp : 512 < wrap64 ((n : Int) * colsI n L)) :
    Calls Try.prog 7 #[.slice A n ca, .slice B m cb, .slice D q cd] w fun e w' => e = .returned (.bool true) ∧ Bw w w' := by
  go_enter Try.func7, Try.ntmps7
  go_wp2_with (first
    | (go_at_call 28; refine (rcols_any _ _ _ _ _ _ _ _ ha.mat).mono ?_; rintro e w' ⟨rfl, hw'⟩; subst w')
    | (go_at_call 9; refine (wakes2_any _).mono ?_; rintro e w1 ⟨rfl, hw1⟩))
  go_ret
  exact ⟨rfl, hw1⟩

theorem ch_great (A B D : Option Addr) (n m q ca cb cd : Nat) (R S T : Nat → Option Addr) (L C M E N G : Nat → Nat) (Z Y X : Nat → Nat → Int) (w : World) (ha : InMat w A n ca R L C Z) (hb : InMat w B m cb S M E Y) (hd : InMat w D q cd T N G X)
    (hp : ¬ 512 < wrap64 ((n : Int) * colsI n L)) (hg : decide (4096 < bulk M m) = true ∨ (decide (4096 < bulk M m) = false ∧ decide (4096 < bulk N q) = true)) :
    Calls Try.prog 7 #[.slice A n ca, .slice B m cb, .slice D q cd] w fun e w' => e = .returned (.bool true) ∧ Bw w w' := by
  rcases hg with h1 | ⟨h1, h2⟩
  · go_enter Try.func7, Try.ntmps7
    go_wp2_with (first
      | (go_at_call 28; refine (rcols_any _ _ _ _ _ _ _ _ ha.mat).mono ?_; rintro e w' ⟨rfl, hw'⟩; subst w')
      | (go_at_call 15; refine (small_any hb true h1 (Bw.refl _)).mono ?_; rintro e w' ⟨rfl, hw'⟩; subst w')
      | (go_at_call 9; refine (wakes2_any _).mono ?_; rintro e w1 ⟨rfl, hw1⟩))
    go_ret
    exact ⟨rfl, hw1⟩
  · go_enter Try.func7, Try.ntmps7
    go_wp2_with (first
      | (go_at_call 28; refine (rcols_any _ _ _ _ _ _ _ _ ha.mat).mono ?_; rintro e w' ⟨rfl, hw'⟩; subst w')
      | (go_at_call_of 15 (Value.slice B m cb); refine (small_any hb false h1 (Bw.refl _)).mono ?_; rintro e w' ⟨rfl, hw'⟩; subst w')
      | (go_at_call_of 15 (Value.slice D q cd); refine (small_any hd true h2 (Bw.refl _)).mono ?_; rintro e w' ⟨rfl, hw'⟩; subst w')
      | (go_at_call 9; refine (wakes2_any _).mono ?_; rintro e w1 ⟨rfl, hw1⟩))
    go_ret
    exact ⟨rfl, hw1⟩

theorem mulsays_no {n m k q : Nat} {L M : Nat → Nat} {x : Int} (h : MulSays n L m M x k q) (hno : ¬ (Wrong n L 0 ∧ Wrong m M 0 ∧ colsN n L = m)) : (x != 0) = true := by
  rcases h with ⟨_, h2, _⟩ | ⟨_, _, h2, _⟩ | ⟨_, _, _, h1, _⟩ | ⟨h1, h2, h3, _⟩
  · simpa using h2
  · simpa using h2
  · subst h1; rfl
  · exact absurd ⟨h1, h2, h3⟩ hno

theorem ch_err (A B D : Option Addr) (n m q ca cb cd : Nat) (R S T : Nat → Option Addr) (L C M E N G : Nat → Nat) (Z Y X : Nat → Nat → Int) (w : World) (ha : InMat w A n ca R L C Z) (hb : InMat w B m cb S M E Y) (hd : InMat w D q cd T N G X)
    (hp : ¬ 512 < wrap64 ((n : Int) * colsI n L)) (h1 : decide (4096 < bulk M m) = false) (h2 : decide (4096 < bulk N q) = false)
    (hno : ¬ (Wrong n L 0 ∧ Wrong m M 0 ∧ colsN n L = m) ∨ ((Wrong n L 0 ∧ Wrong m M 0 ∧ colsN n L = m) ∧ ¬ (Wrong m M 0 ∧ Wrong q N 0 ∧ colsN m M = q))) :
    Calls Try.prog 7 #[.slice A n ca, .slice B m cb, .slice D q cd] w fun e w' => e = .returned (.bool true) ∧ Bw w w' := by
  rcases hno with hno | ⟨⟨k1, k2, k3⟩, hno⟩
  · go_enter Try.func7, Try.ntmps7
    go_wp2_with (first
      | (go_at_call 28; refine (rcols_any _ _ _ _ _ _ _ _ ha.mat).mono ?_; rintro e w' ⟨rfl, hw'⟩; subst w')
      | (go_at_call_of 15 (Value.slice B m cb); refine (small_any hb false h1 (Bw.refl _)).mono ?_; rintro e w' ⟨rfl, hw'⟩; subst w')
      | (go_at_call_of 15 (Value.slice D q cd); refine (small_any hd false h2 (Bw.refl _)).mono ?_; rintro e w' ⟨rfl, hw'⟩; subst w')
      | (go_at_call_of 17 (Value.slice A n ca); refine (mul_all A B n m ca cb R S L C M E Z Y _ ha.mat hb.mat).mono ?_; rintro e w1 ⟨v, x, k, q', rfl, hres, hsay, hw1⟩; have hx1 := mulsays_no hsay hno; have hb1 := hb.mat.keep hw1; have hd1 := hd.mat.keep hw1)
      | (go_at_call_of 17 (Value.slice D q cd); refine (mul_all B D m q cb cd S T M E N G Y X _ hb1 hd1).mono ?_; rintro e w2 ⟨v2, x2, k2, q2, rfl, hres2, hsay2, hw2⟩)
      | (go_at_call 9; refine (wakes2_any _).mono ?_; rintro e w3 ⟨rfl, hw3⟩))
    go_ret
    exact ⟨rfl, hw1.trans (hw2.trans hw3)⟩
  · go_enter Try.func7, Try.ntmps7
    go_wp2_with (first
      | (go_at_call 28; refine (rcols_any _ _ _ _ _ _ _ _ ha.mat).mono ?_; rintro e w' ⟨rfl, hw'⟩; subst w')
      | (go_at_call_of 15 (Value.slice B m cb); refine (small_any hb false h1 (Bw.refl _)).mono ?_; rintro e w' ⟨rfl, hw'⟩; subst w')
      | (go_at_call_of 15 (Value.slice D q cd); refine (small_any hd false h2 (Bw.refl _)).mono ?_; rintro e w' ⟨rfl, hw'⟩; subst w')
      | (go_at_call_of 17 (Value.slice A n ca); refine (mul_all A B n m ca cb R S L C M E Z Y _ ha.mat hb.mat).mono ?_; rintro e w1 ⟨v, x, k, q', rfl, hres, hsay, hw1⟩; obtain ⟨rfl, rfl, rfl⟩ := mulsays_ok k1 k2 k3 hsay; have hb1 := hb.mat.keep hw1; have hd1 := hd.mat.keep hw1)
      | (go_at_call_of 17 (Value.slice D q cd); refine (mul_all B D m q cb cd S T M E N G Y X _ hb1 hd1).mono ?_; rintro e w2 ⟨v2, x2, k2, q2, rfl, hres2, hsay2, hw2⟩; have hx2 := mulsays_no hsay2 hno)
      | (go_at_call 9; refine (wakes2_any _).mono ?_; rintro e w3 ⟨rfl, hw3⟩))
    go_ret
    exact ⟨rfl, hw1.trans (hw2.trans hw3)⟩

set_option maxHeartbeats 4000000 in
theorem ch_ok (A B D : Option Addr) (n m q s ca cb cd : Nat) (R S T : Nat → Option Addr) (L C M E N G : Nat → Nat) (Z Y X : Nat → Nat → Int) (w : World) (ha : InMat w A n ca R L C Z) (hb : InMat w B m cb S M E Y) (hd : InMat w D q cd T N G X)
    (hp : ¬ 512 < wrap64 ((n : Int) * colsI n L)) (h1 : decide (4096 < bulk M m) = false) (h2 : decide (4096 < bulk N q) = false)
    (k1 : Wrong n L 0) (k2 : Wrong m M 0) (k3 : Wrong q N 0) (c1 : colsN n L = m) (c2 : colsN m M = q) (c3 : colsN q N = s)
    (hnm : ((n : Int) == 0) = true ∨ (((n : Int) == 0) = false ∧ ((m : Int) == 0) = true) ∨ (((n : Int) == 0) = false ∧ ((m : Int) == 0) = false)) :
    Calls Try.prog 7 #[.slice A n ca, .slice B m cb, .slice D q cd] w fun e w' => e = .returned (.bool true) ∧ Bw w w' := by
  obtain ⟨hn, -, -⟩ := wrong_ok k1
  obtain ⟨hm, -, -⟩ := wrong_ok k2
  obtain ⟨hq, -, -⟩ := wrong_ok k3
  obtain ⟨hs, -⟩ := wrong_cols (q := s) k3 (by rw [colsI_eq, c3])
  have kab : Wrong n (fun _ => q) 0 := wrong_lit (c := q) hn (by omega) (fun _ => rfl)
  have kbc : Wrong m (fun _ => s) 0 := wrong_lit (c := s) hm hs (fun _ => rfl)
  have cab : Hid (colsI n (fun _ => q) = (q : Int)) := show colsI n (fun _ => q) = (q : Int) by
    unfold colsI; split
    · rename_i h0; subst h0
      have e1 : m = 0 := by rw [← c1]; rfl
      subst e1
      have e2 : q = 0 := by rw [← c2]; rfl
      rw [e2]; rfl
    · rfl
  have d1 : Hid (colsI n L = (m : Int)) := show colsI n L = (m : Int) by rw [colsI_eq, c1]
  have d2 : Hid (colsI m M = (q : Int)) := show colsI m M = (q : Int) by rw [colsI_eq, c2]
  have d3 : Hid (colsI q N = (s : Int)) := show colsI q N = (s : Int) by rw [colsI_eq, c3]
  have hsame : ((n : Int) == 0) = false → ((m : Int) == 0) = false → SameM n n (fun _ => s) (fun _ => colsN m (fun _ => s)) (prodZ q (prodZ m Z Y) X) (prodZ m Z (prodZ q Y X)) := by
    intro _ hm0
    refine ⟨rfl, fun r hr => ⟨?_, fun i hi => ?_⟩⟩
    · show s = colsN m (fun _ => s)
      unfold colsN; rw [if_neg (fun e => by subst e; simp at hm0)]
    · exact prod_assoc (ha.mat.2 r hr).2 (fun t ht => (hb.mat.2 t ht).2) (fun t ht => (hd.mat.2 t ht).2 i)
  clear c1 c2 c3 hs hq
  have a0 := ha.mat
  have b0 := hb.mat
  have e0 := hd.mat
  rcases hnm with g1 | ⟨g1, g2⟩ | ⟨g1, g2⟩
  all_goals
    go_enter Try.func7, Try.ntmps7
    go_wp2_with (first
      | (go_at_call 28; refine (rcols_any _ _ _ _ _ _ _ _ ha.mat).mono ?_; rintro e w' ⟨rfl, hw'⟩; subst w')
      | (go_at_call_of 15 (Value.slice B m cb); refine (small_any hb false h1 (Bw.refl _)).mono ?_; rintro e w' ⟨rfl, hw'⟩; subst w')
      | (go_at_call_of 15 (Value.slice D q cd); refine (small_any hd false h2 (Bw.refl _)).mono ?_; rintro e w' ⟨rfl, hw'⟩; subst w')
      | (go_at_call 17; refine (mul_ok A B n m q ca cb R S L C M E Z Y _ a0 b0 k1 k2 d1.out d2.out).mono ?_; rintro e w1 ⟨v, rfl, hres, hw1⟩; obtain ⟨A1, cap1, R1, C1, rfl, hn1⟩ := hres; have a1 := a0.keep hw1; have b1 := b0.keep hw1; have e1 := e0.keep hw1; clear a0 b0 e0)
      | (go_at_call 17; refine (mul_ok B D m q s cb cd S T M E N G Y X _ b1 e1 k2 k3 d2.out d3.out).mono ?_; rintro e w2 ⟨v, rfl, hres, hw2⟩; obtain ⟨A2, cap2, R2, C2, rfl, hn2⟩ := hres; have a2 := a1.keep hw2; have e2 := e1.keep hw2; have ab2 := hn1.mat.keep hw2; clear a1 b1 e1)
      | (go_at_call 17; refine (mul_ok A1 D n q s cap1 cd R1 T _ C1 N G _ X _ ab2 e2 kab k3 cab.out d3.out).mono ?_; rintro e w3 ⟨v, rfl, hres, hw3⟩; obtain ⟨A3, cap3, R3, C3, rfl, hn3⟩ := hres; have a3 := a2.keep hw3; have bc3 := hn2.mat.keep hw3; clear ab2 a2 e2)
      | (go_at_call 17; refine (mul_ok A A2 n m (colsN m (fun _ => s)) ca cap2 R R2 L C _ C2 Z _ _ a3 bc3 k1 kbc d1.out (colsI_eq _ _)).mono ?_; rintro e w4 ⟨v, rfl, hres, hw4⟩; obtain ⟨A4, cap4, R4, C4, rfl, hn4⟩ := hres; have x4 := hn3.mat.keep hw4; clear a3 bc3)
      | (go_at_call 18; refine (rsame_any A3 A4 n n cap3 cap4 R3 R4 _ C3 _ C4 _ _ (by omega) _ x4 hn4.mat).mono ?_; rintro e w5 ⟨x, rfl, hxs, hw5⟩; obtain rfl : x = true := hxs.2 (hsame g1 g2))
      | (go_at_call 9; refine (wakes2_any _).mono ?_; rintro e w6 ⟨rfl, hw6⟩))
    go_ret
    first
      | exact ⟨rfl, hw1.trans (hw2.trans (hw3.trans (hw4.trans hw6)))⟩
      | exact ⟨rfl, hw1.trans (hw2.trans (hw3.trans (hw4.trans (hw5.trans hw6))))⟩

theorem walk (a0 : Option Addr) (len0 cap0 : Nat) (R0 : Nat → Option Addr) (L0 C0 : Nat → Nat) (Z0 : Nat → Nat → Int) (a1 : Option Addr) (len1 cap1 : Nat) (R1 : Nat → Option Addr) (L1 C1 : Nat → Nat) (Z1 : Nat → Nat → Int) (a2 : Option Addr) (len2 cap2 : Nat) (R2 : Nat → Option Addr) (L2 C2 : Nat → Nat) (Z2 : Nat → Nat → Int) (w : World) (w0 : InMat w a0 len0 cap0 R0 L0 C0 Z0) (w1 : InMat w a1 len1 cap1 R1 L1 C1 Z1) (w2 : InMat w a2 len2 cap2 R2 L2 C2 Z2) :
    Calls Try.prog 7 #[.slice a0 len0 cap0, .slice a1 len1 cap1, .slice a2 len2 cap2] w fun e w' => e = .returned (.bool true) ∧ Below w.heap.size w w' := by
  by_cases hp : 512 < wrap64 ((len0 : Int) * colsI len0 L0)
  · exact ch_first _ _ _ _ _ _ _ _ _ _ _ _ _ w w0 hp
  · have hp' := hp
    by_cases h1 : 4096 < bulk L1 len1
    · exact ch_great _ _ _ _ _ _ _ _ _ _ _ _ _ _ _ _ _ _ _ _ _ w w0 w1 w2 hp' (Or.inl (decide_eq_true h1))
    · have h1' : decide (4096 < bulk L1 len1) = false := decide_eq_false h1
      by_cases h2 : 4096 < bulk L2 len2
      · exact ch_great _ _ _ _ _ _ _ _ _ _ _ _ _ _ _ _ _ _ _ _ _ w w0 w1 w2 hp' (Or.inr ⟨h1', decide_eq_true h2⟩)
      · have h2' : decide (4096 < bulk L2 len2) = false := decide_eq_false h2
        by_cases ok1 : Wrong len0 L0 0 ∧ Wrong len1 L1 0 ∧ colsN len0 L0 = len1
        · by_cases ok2 : Wrong len1 L1 0 ∧ Wrong len2 L2 0 ∧ colsN len1 L1 = len2
          · refine ch_ok _ _ _ _ _ _ _ _ _ _ _ _ _ _ _ _ _ _ _ _ _ _ w w0 w1 w2 hp' h1' h2' ok1.1 ok1.2.1 ok2.2.1 ok1.2.2 ok2.2.2 rfl ?_
            cases e1 : ((len0 : Int) == 0)
            · cases e2 : ((len1 : Int) == 0)
              · exact Or.inr (Or.inr ⟨rfl, rfl⟩)
              · exact Or.inr (Or.inl ⟨rfl, rfl⟩)
            · exact Or.inl rfl
          · exact ch_err _ _ _ _ _ _ _ _ _ _ _ _ _ _ _ _ _ _ _ _ _ w w0 w1 w2 hp' h1' h2' (Or.inr ⟨ok1, ok2⟩)
        · exact ch_err _ _ _ _ _ _ _ _ _ _ _ _ _ _ _ _ _ _ _ _ _ w w0 w1 w2 hp' h1' h2' (Or.inl ok1)

set_option maxRecDepth 100000 in
theorem lifted (os : Os) (started : os.Started) (H : Type) (enc : TypeId × Value → H) :
    ReturnsInHanded {} Try.checked os 7 .any (Rows.matrixChainsSpec.pre6 enc Try.prog Try.f7 Rows.matrixChainsRow.domain false) (Rows.matrixChainsSpec.post enc Try.prog Try.f7 false true false false) := by
  refine returnsInHanded_of_change_sized (C := Try.checked) own started (by kernel_rfl) Try.func7
    (ChangeSpec.witness6 (enc := enc) (C := Try.checked) false ⟨#[], #[.slice none 0 0, .slice none 0 0, .slice none 0 0], []⟩ 8 (by kernel_rfl) (by kernel_rfl) (by kernel_rfl) (by kernel_rfl)) ?_
  intro W base args ds gs before hval0 hW hcnd hsz0 _
  have hval : ∀ (j : Nat) t v, Try.f7.params[j]? = some t → args[j]? = some v → Value.okWide Try.prog W .any base t v := hval0
  have hW' := hW
  obtain ⟨p, q, hA0, hV, rfl, hfz, hnd⟩ := hW
  have hA : DataW.TrodAll enc Try.prog W 0 (fun _ => true) true Try.f7.params.toList args.toList ds p := hA0
  have hsz : (DataW.weightsEach Try.prog (Try.f7.params.toList ++ Rows.matrixChainsSpec.plain.varTypes Try.prog) (ds ++ gs)).all (· ≤ reachBytes) = true := hsz0
  rw [Try.params7] at hA hval hsz
  obtain ⟨v0, vs0, d0, ds0, p0, q0, hargs, rfl, rfl, h0, r0⟩ := trodAll_cons hA
  obtain ⟨v1, vs1, d1, ds1, p1, q1, rfl, rfl, rfl, h1, r1⟩ := trodAll_cons r0
  obtain ⟨v2, vs2, d2, ds2, p2, q2, rfl, rfl, rfl, h2, r2⟩ := trodAll_cons r1
  obtain ⟨rfl, rfl, rfl⟩ := trodAll_nil r2
  obtain rfl : args = #[v0, v1, v2] := by cases args; simp_all
  obtain ⟨rfl, rfl⟩ := trodVars_none hV
  obtain ⟨a0, len0, cap0, rfl⟩ := okWide_slice Try.underlying30 (hval 0 30 v0 rfl rfl)
  have k0 := h0
  have lt0 : ∀ x ∈ p0, x.block < W.heap.size := by obtain ⟨m, hm⟩ := k0; exact DataW.trod_lt m _ _ _ hm
  obtain ⟨R0, L0, C0, Z0, w0⟩ := open_rows h0 (fun x hx => by simpa using List.all_eq_true.1 hsz x (DataW.weights_mem_each (j := 0) (t := 30) rfl rfl x hx))
  obtain ⟨a1, len1, cap1, rfl⟩ := okWide_slice Try.underlying30 (hval 1 30 v1 rfl rfl)
  have k1 := h1
  have lt1 : ∀ x ∈ p1, x.block < W.heap.size := by obtain ⟨m, hm⟩ := k1; exact DataW.trod_lt m _ _ _ hm
  obtain ⟨R1, L1, C1, Z1, w1⟩ := open_rows h1 (fun x hx => by simpa using List.all_eq_true.1 hsz x (DataW.weights_mem_each (j := 1) (t := 30) rfl rfl x hx))
  obtain ⟨a2, len2, cap2, rfl⟩ := okWide_slice Try.underlying30 (hval 2 30 v2 rfl rfl)
  have k2 := h2
  have lt2 : ∀ x ∈ p2, x.block < W.heap.size := by obtain ⟨m, hm⟩ := k2; exact DataW.trod_lt m _ _ _ hm
  obtain ⟨R2, L2, C2, Z2, w2⟩ := open_rows h2 (fun x hx => by simpa using List.all_eq_true.1 hsz x (DataW.weights_mem_each (j := 2) (t := 30) rfl rfl x hx))
  clear hA0 hval0
  refine (walk a0 len0 cap0 R0 L0 C0 Z0 a1 len1 cap1 R1 L1 C1 Z1 a2 len2 cap2 R2 L2 C2 Z2 W w0 w1 w2).mono fun e W' ⟨he, bel⟩ => ?_
  subst he
  exact ⟨_, rfl, _, _, _, [], _, [], hW', trodAll_mk1 (shut_bool Try.underlying4 _), (trodAll_cons_mk (Below.trod laidOut (by kernel_rfl) (of_decide_eq_true (by kernel_rfl)) k0 bel lt0) (trodAll_cons_mk (Below.trod laidOut (by kernel_rfl) (of_decide_eq_true (by kernel_rfl)) k1 bel lt1) (trodAll_cons_mk (Below.trod laidOut (by kernel_rfl) (of_decide_eq_true (by kernel_rfl)) k2 bel lt2) trodAll_mk0))), rfl, bel.frame _, fun h => by cases h⟩

theorem over : Rows.matrixChainsRow.holds Try.pinned (OpenSpec.ofChange Rows.matrixChainsSpec) :=
  OpenClaim.holds_of_wide 7 Try.f7 rfl rfl rfl rfl rfl rfl rfl ⟨rfl, rfl, rfl, rfl, rfl⟩ rfl rfl rfl rfl rfl (by kernel_rfl) Try.func7 (by kernel_rfl)
    (of_decide_eq_true (by kernel_rfl)) (by unfold Func.isWrapper; first | (rw [if_pos (by decide +kernel)]; kernel_rfl) | (rw [if_neg (by decide +kernel)]; exact ⟨rfl, rfl⟩))
    (fun os started H enc _ => lifted os started H enc)

theorem proved : Rows.MatrixChainsSaid := over
#print axioms proved
end Go.Proofs.Ytpgjkhlffcomgaa.matrixChains
