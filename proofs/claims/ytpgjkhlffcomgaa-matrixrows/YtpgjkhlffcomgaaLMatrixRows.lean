/- Proved: for every two rows of bytes and every byte the statement MatrixRows answers true (the document's P2.1: sums of rows, and of their products, are the document's, and new memory), with no condition but the reach; arguments may share memory. -/
import Derived.Test.YtpgjkhlffcomgaaP17
import Derived.Test.YtpgjkhlffcomgaaFr
import Derived.ShutString
import Derived.ChangeOld
namespace Go.Proofs.Ytpgjkhlffcomgaa.matrixRows
open Go.ChangeShapes Go.WideShapes Go.ChangeAt Go.RowKit
set_option linter.unusedVariables false

theorem rw_great (A B : Option Addr) (la ca lb cb : Nat) (c : Int) (w : World) (h : 262144 < la ∨ (la ≤ 262144 ∧ 262144 < lb)) :
    Calls Try.prog 3 #[.slice A la ca, .slice B lb cb, .int .u8 c] w fun e w' => e = .returned (.bool true) ∧ Bw w w' := by
  rcases h with h1 | ⟨h1, h2⟩
  all_goals
    go_enter Try.func3, Try.ntmps3
    go_wp2_with (go_at_call 9; refine (wakes2_any _).mono ?_; rintro e w1 ⟨rfl, hw1⟩)
    go_ret
    exact ⟨rfl, hw1⟩

attribute [local go_sem] List.getElem?_cons_zero Option.getD_some

set_option maxRecDepth 100000 in
set_option maxHeartbeats 2000000 in
theorem rw_ok (A B : Option Addr) (la ca lb cb : Nat) (f g : Nat → Int) (c : Int) (c0 : 0 ≤ c) (c1 : c < 256) (w : World) (ha : InRow w A la ca f) (hb : InRow w B lb cb g) (h1 : la ≤ 262144) (h2 : lb ≤ 262144)
    (y : Nat → Int) (ny : Nat) (hp : ∀ w', Bw w w' → Calls Try.prog 13 #[.slice A la ca, .slice B lb cb, .int .u8 c] w' fun e w'' => ∃ Y yc, e = .returned (.tuple #[.slice Y ny yc, .int .i64 (twoE la lb)]) ∧ RowAt w'' Y ny y ∧ Bw w' w'')
    (hd : ∀ w', Bw w w' → Calls Try.prog 14 #[.slice A la ca, .slice B lb cb] w' fun e w'' => e = .returned (.tuple #[.int .u8 (dotE la lb f g), .int .i64 (twoE la lb)]) ∧ Bw w' w'')
    (hxy : Hid (∀ (nx : Nat) (x : Nat → Int), ((twoE la lb = 0 ∧ nx = la ∧ ∀ i, i < la → x i = addI (f i) (mulI c (g i))) ∨ (twoE la lb ≠ 0 ∧ nx = 0)) → nx = ny ∧ ∀ i, i < nx → x i = y i)) :
    Calls Try.prog 3 #[.slice A la ca, .slice B lb cb, .int .u8 c] w fun e w' => e = .returned (.bool true) ∧ Bw w w' := by
  obtain ⟨i0, hi0, hz0, hz1, hz2⟩ := info_parts info_u8
  have hmx1 : 0 + la ≤ maxLen := by unfold maxLen; omega
  have hmx2 : 0 + lb ≤ maxLen := by unfold maxLen; omega
  have ar := ha.row
  have br := hb.row
  have an := ha.nil
  have bn := hb.nil
  go_enter Try.func3, Try.ntmps3
  go_wp2_with (first
    | (at_builtin; refine wpList_append_rowat _ (by rfl) (.tmp 26) (.tmp 27) _ (by rfl) w.heap.size 5 i0 _ 1 Try.underlying22 hi0 hz0 hz1 hz2 rfl _ _ _ (by rfl) (own_empty w w.heap.size _ (Nat.le_refl _)) A la ca f (by rfl) (ar.keep ((Below.refl _ _).alloc (Nat.le_refl _) _)) an hmx1 (by omega) (by simp) ?_; intro v1 w1 hown1 hgrow1; simp only [Nat.zero_add, List.nil_append] at hown1; obtain ⟨A1, cap1, rfl, hl1, hc1, hrow1, hA1⟩ := row_of_own ar.2 hown1; have fr1 : FreeAt w1 A1 := own_free hown1; have bw1 := bw_fresh hgrow1; have sz1 := bw1.size; have br1 := br.keep bw1; clear hown1 hgrow1)
    | (at_builtin; refine wpList_append_rowat _ (by rfl) (.tmp 29) (.tmp 30) _ (by rfl) w1.heap.size 5 i0 _ 1 Try.underlying22 hi0 hz0 hz1 hz2 rfl _ _ _ (by rfl) (own_empty w1 w1.heap.size _ (Nat.le_refl _)) B lb cb g (by rfl) (br1.keep ((Below.refl _ _).alloc (Nat.le_refl _) _)) bn hmx2 (by omega) (by simp) ?_; intro v2 w2 hown2 hgrow2; simp only [Nat.zero_add, List.nil_append] at hown2; obtain ⟨A2, cap2, rfl, hl2, hc2, hrow2, hA2⟩ := row_of_own br.2 hown2; have fr2 : FreeAt w2 A2 := own_free hown2; have bw2 := bw_fresh hgrow2; have sz2 := bw2.size; have row1 := hrow1.keep bw2; have fr1b := fr1.keep bw2; clear hown2 hgrow2)
    | (go_at_call 10; refine (plus_any A1 A2 la cap1 lb cap2 f g c c0 c1 _ row1 hrow2).mono ?_; rintro e w3 ⟨X, nx, xc, x, rfl, hn3, hw3, hs3⟩; have hxx : Hid (nx = ny ∧ ∀ i, i < nx → x i = y i) := hxy.out nx x hs3; clear hs3; have m3 := row1.keep hw3; have o3 := hrow2.keep hw3; have fm3 := fr1b.keep hw3; have fo3 := fr2.keep hw3)
    | (go_at_call 11; refine (dot_any A1 A2 la cap1 lb cap2 f g _ m3 o3).mono ?_; rintro e w4 ⟨rfl, hw4⟩; have m4 := m3.keep hw4; have o4 := o3.keep hw4; have fm4 := fm3.keep hw4; have fo4 := fo3.keep hw4; have b4 := bw1.trans (bw2.trans (hw3.trans hw4)); have cv1 := conv_row (C := cap1) m4; have cv2 := conv_row (C := ca) (ar.keep b4); have cv3 := conv_row (C := cap2) o4; have cv4 := conv_row (C := cb) (br.keep b4); have mw := matw_two (ca := cap1) (cb := cap2) m4 o4 fm4 fo4; have x4 := hn3.keep hw4)
    | (go_at_call 12; refine (spoilt_any _ 2 _ _ _ _ _ (by omega) (fun r hr => by split <;> omega) _ mw).mono ?_; rintro e w6 ⟨rfl, hw6⟩; have tin := two_in (lo := w.heap.size) (hi := w2.heap.size) (fun a e => ⟨(hA1 a e).1, Nat.lt_of_lt_of_le (hA1 a e).2 sz2⟩) (fun a e => ⟨Nat.le_trans sz1 (hA2 a e).1, (hA2 a e).2⟩); have ba : Bw w4 (w4.alloc (.cells #[.slice A1 la cap1, .slice A2 lb cap2] 22)) := (Below.refl _ _).alloc (Nat.le_refl _) _; have b5 := b4.trans ba; have b6 : Bw w w6 := (Below.trans b5 (hw6.below b5.size (fun b hb => (tin b hb).1))); have x6 := (x4.keep ba).keepx hw6 (fun b hb => (tin b hb).2); clear cv1 cv2 cv3 cv4 mw x4 fm4 fo4 m4 o4 m3 o3 fm3 fo3 row1 hrow2 fr1b fr2 hn3 tin ba b5 hw6 hw4 hw3 b4 sz2 bw2 hA2 br1 sz1 bw1 fr1 hrow1 hA1)
    | (go_at_call 13; refine (hp _ b6).mono ?_; rintro e w7 ⟨Y, yc, rfl, hy7, hw7⟩; have x7 := x6.keep hw7; have b7 := b6.trans hw7)
    | (go_at_call 14; refine (hd _ b7).mono ?_; rintro e w8 ⟨rfl, hw8⟩; have x8 := x7.keep hw8; have y8 := hy7.keep hw8; have cv5 := conv_row (C := xc) x8; have cv6 := conv_row (C := yc) y8; have he2 : ((str x nx).toList == (str y ny).toList) = true := (by rw [(str_inj x8.2 y8.2).2 hxx.out]; simp))
    | (go_at_call 9; refine (wakes2_any _).mono ?_; rintro e w9 ⟨rfl, hw9⟩)
    | (refine wpList_extract rfl _ _ rfl _ rfl _ rfl ?_))
  go_ret
  exact ⟨rfl, b7.trans (hw8.trans hw9)⟩

theorem two_ok {la lb : Nat} (h : twoE la lb = 0) : la = lb ∧ la ≤ 131072 := by
  unfold twoE at h
  split at h
  · cases h
  · split at h
    · cases h
    · omega

theorem walk (a0 : Option Addr) (len0 cap0 : Nat) (f0 : Nat → Int) (a1 : Option Addr) (len1 cap1 : Nat) (f1 : Nat → Int) (a2 : Int) (w : World) (w0 : InRow w a0 len0 cap0 f0) (w1 : InRow w a1 len1 cap1 f1) (w2 : (Lit.int .u8 a2).wf = true) :
    Calls Try.prog 3 #[.slice a0 len0 cap0, .slice a1 len1 cap1, .int .u8 a2] w fun e w' => e = .returned (.bool true) ∧ Below w.heap.size w w' := by
  have hc := bounds_u8 w2
  by_cases h1 : 262144 < len0
  · exact rw_great _ _ _ _ _ _ _ w (Or.inl h1)
  · by_cases h2 : 262144 < len1
    · exact rw_great _ _ _ _ _ _ _ w (Or.inr ⟨by omega, h2⟩)
    · by_cases h0 : twoE len0 len1 = 0
      · obtain ⟨rfl, hl⟩ := two_ok h0
        refine rw_ok _ _ _ _ _ _ f0 f1 _ (by omega) (by omega) w w0 w1 (by omega) (by omega) (fun i => addI (f0 i) (mulI a2 (f1 i))) len0 (fun w' hw => ?_) (fun w' hw => ?_) (fun nx x h => ?_)
        · refine (rplus_ok _ _ len0 _ _ f0 f1 _ a2 (by omega) (by omega) hl w' (w0.row.keep hw) (w1.row.keep hw) (fun i => rfl)).mono ?_
          rintro e w'' ⟨v, rfl, hown, hw'⟩
          obtain ⟨Y, yc, rfl, -, -, hr, -⟩ := row_of_own (f := fun i => addI (f0 i) (mulI a2 (f1 i))) (fun i => addI_bd _ _ (w0.row.2 i).2 (mulI_bd _ _ (by omega)).2) hown
          exact ⟨Y, yc, by rw [h0], hr, hw'⟩
        · refine (rdot_ok _ _ len0 _ _ f0 f1 hl w' (w0.row.keep hw) (w1.row.keep hw)).mono ?_
          rintro e w'' ⟨rfl, hw'⟩
          exact ⟨by unfold dotE; rw [if_pos h0, h0], hw'⟩
        · rcases h with ⟨_, h, h'⟩ | ⟨h, _⟩
          · exact ⟨h, fun i hi => h' i (by omega)⟩
          · exact absurd h0 h
      · have h0' : (twoE len0 len1 == 0) = false := by simpa using h0
        refine rw_ok _ _ _ _ _ _ f0 f1 _ (by omega) (by omega) w w0 w1 (by omega) (by omega) (fun _ => 0) 0 (fun w' hw => ?_) (fun w' hw => ?_) (fun nx x h => ?_)
        · refine (rplus_no _ _ _ _ _ _ a2 w' h0').mono ?_
          rintro e w'' ⟨rfl, hw'⟩
          exact ⟨none, 0, rfl, row_none _, hw'⟩
        · refine (rdot_no _ _ _ _ _ _ w' h0').mono ?_
          rintro e w'' ⟨rfl, hw'⟩
          exact ⟨by unfold dotE; rw [if_neg h0], hw'⟩
        · rcases h with ⟨h, _⟩ | ⟨_, h⟩
          · exact absurd h h0
          · exact ⟨h, fun i hi => by omega⟩

set_option maxRecDepth 100000 in
theorem lifted (os : Os) (started : os.Started) (H : Type) (enc : TypeId × Value → H) :
    ReturnsInHanded {} Try.checked os 3 .any (Rows.matrixRowsSpec.pre6 enc Try.prog Try.f3 Rows.matrixRowsRow.domain false) (Rows.matrixRowsSpec.post enc Try.prog Try.f3 false true false false) := by
  refine returnsInHanded_of_change_sized (C := Try.checked) own started (by kernel_rfl) Try.func3
    (ChangeSpec.witness6 (enc := enc) (C := Try.checked) false ⟨#[], #[.slice none 0 0, .slice none 0 0, .int .u8 0], []⟩ 8 (by kernel_rfl) (by kernel_rfl) (by kernel_rfl) (by kernel_rfl)) ?_
  intro W base args ds gs before hval0 hW hcnd hsz0 _
  have hval : ∀ (j : Nat) t v, Try.f3.params[j]? = some t → args[j]? = some v → Value.okWide Try.prog W .any base t v := hval0
  have hW' := hW
  obtain ⟨p, q, hA0, hV, rfl, hfz, hnd⟩ := hW
  have hA : DataW.TrodAll enc Try.prog W 0 (fun _ => true) true Try.f3.params.toList args.toList ds p := hA0
  have hsz : (DataW.weightsEach Try.prog (Try.f3.params.toList ++ Rows.matrixRowsSpec.plain.varTypes Try.prog) (ds ++ gs)).all (· ≤ reachBytes) = true := hsz0
  rw [Try.params3] at hA hval hsz
  obtain ⟨v0, vs0, d0, ds0, p0, q0, hargs, rfl, rfl, h0, r0⟩ := trodAll_cons hA
  obtain ⟨v1, vs1, d1, ds1, p1, q1, rfl, rfl, rfl, h1, r1⟩ := trodAll_cons r0
  obtain ⟨v2, vs2, d2, ds2, p2, q2, rfl, rfl, rfl, h2, r2⟩ := trodAll_cons r1
  obtain ⟨rfl, rfl, rfl⟩ := trodAll_nil r2
  obtain rfl : args = #[v0, v1, v2] := by cases args; simp_all
  obtain ⟨rfl, rfl⟩ := trodVars_none hV
  obtain ⟨a0, len0, cap0, rfl⟩ := okWide_slice Try.underlying22 (hval 0 22 v0 rfl rfl)
  have k0 := h0
  have lt0 : ∀ x ∈ p0, x.block < W.heap.size := by obtain ⟨m, hm⟩ := k0; exact DataW.trod_lt m _ _ _ hm
  obtain ⟨f0, w0⟩ := open_bytes h0 (fun x hx => by simpa using List.all_eq_true.1 hsz x (DataW.weights_mem_each (j := 0) (t := 22) rfl rfl x hx))
  obtain ⟨a1, len1, cap1, rfl⟩ := okWide_slice Try.underlying22 (hval 1 22 v1 rfl rfl)
  have k1 := h1
  have lt1 : ∀ x ∈ p1, x.block < W.heap.size := by obtain ⟨m, hm⟩ := k1; exact DataW.trod_lt m _ _ _ hm
  obtain ⟨f1, w1⟩ := open_bytes h1 (fun x hx => by simpa using List.all_eq_true.1 hsz x (DataW.weights_mem_each (j := 1) (t := 22) rfl rfl x hx))
  obtain ⟨a2, rfl, rfl, rfl, w2⟩ := open_int Try.underlying5 (hval 2 5 v2 rfl rfl) h2
  clear hA0 hval0
  refine (walk a0 len0 cap0 f0 a1 len1 cap1 f1 a2 W w0 w1 w2).mono fun e W' ⟨he, bel⟩ => ?_
  subst he
  exact ⟨_, rfl, _, _, _, [], _, [], hW', trodAll_mk1 (shut_bool Try.underlying4 _), (trodAll_cons_mk (Below.trod laidOut (by kernel_rfl) (of_decide_eq_true (by kernel_rfl)) k0 bel lt0) (trodAll_cons_mk (Below.trod laidOut (by kernel_rfl) (of_decide_eq_true (by kernel_rfl)) k1 bel lt1) (trodAll_cons_mk (shut_int Try.underlying5 w2) trodAll_mk0))), rfl, bel.frame _, fun h => by cases h⟩

theorem over : Rows.matrixRowsRow.holds Try.pinned (OpenSpec.ofChange Rows.matrixRowsSpec) :=
  OpenClaim.holds_of_wide 3 Try.f3 rfl rfl rfl rfl rfl rfl rfl ⟨rfl, rfl, rfl, rfl, rfl⟩ rfl rfl rfl rfl rfl (by kernel_rfl) Try.func3 (by kernel_rfl)
    (of_decide_eq_true (by kernel_rfl)) (by unfold Func.isWrapper; first | (rw [if_pos (by decide +kernel)]; kernel_rfl) | (rw [if_neg (by decide +kernel)]; exact ⟨rfl, rfl⟩))
    (fun os started H enc _ => lifted os started H enc)

theorem proved : Rows.MatrixRowsSaid := over
#print axioms proved
end Go.Proofs.Ytpgjkhlffcomgaa.matrixRows
