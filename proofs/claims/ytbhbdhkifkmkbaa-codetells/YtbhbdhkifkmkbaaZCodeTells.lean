/- Proved: for every matrix of bytes and every two whole numbers the statement CodeTells answers true (the document's P3.1 and P3.2: the table of any k and n and the word of any data are the document's, in new memory), with no condition but the reach; arguments may share memory. -/
import Derived.Test.YtbhbdhkifkmkbaaB10
import Derived.ShutString
import Derived.ChangeOld
namespace Go.Proofs.Ytbhbdhkifkmkbaa.codeTells
open Go.ChangeShapes Go.WideShapes Go.ChangeAt Go.RowKit
set_option linter.unusedVariables false

theorem tells_great (A : Option Addr) (n ca : Nat) (R : Nat → Option Addr) (L C : Nat → Nat) (Z : Nat → Nat → Int) (K N : Int) (w : World) (ha : InMat w A n ca R L C Z) (h1 : great3 n L = true) :
    Calls Try.prog 3 #[.slice A n ca, .int .i64 K, .int .i64 N] w fun e w' => e = .returned (.bool true) ∧ Bw w w' := by
  have a1 := ha.le
  have a2 := ha.room
  have al : ∀ r, r < n → L r ≤ 140737488355328 := fun r hr => by have := ha.rows r hr; omega
  have AL : Hid (∀ r, r < n → L r ≤ 140737488355328) := al
  clear al
  go_enter Try.func3, Try.ntmps3
  go_wp2_with (first
    | (go_at_call 9; refine (great3_any A n ca R L C Z AL.out (by omega) _ ha.mat).mono ?_; rintro e w' ⟨rfl, hw'⟩; subst w'; rw [h1])
    | (go_at_call 10; refine (wakes3_any _).mono ?_; rintro e w1 ⟨rfl, hw1⟩))
  go_ret
  exact ⟨rfl, hw1⟩

attribute [local go_sem] List.getElem?_cons_zero Option.getD_some

set_option maxRecDepth 100000 in
set_option maxHeartbeats 4000000 in
theorem tells_ok (A : Option Addr) (n ca : Nat) (R : Nat → Option Addr) (L C : Nat → Nat) (Z : Nat → Nat → Int) (K N : Int) (w : World) (ha : InMat w A n ca R L C Z) (h1 : great3 n L = false) :
    Calls Try.prog 3 #[.slice A n ca, .int .i64 K, .int .i64 N] w fun e w' => e = .returned (.bool true) ∧ Bw w w' := by
  have hn5 := (great3_no h1).1
  have H1 : Hid (∀ r, r < n → L r ≤ 140737488351232) := fun r hr => by have := (great3_no h1).2 r hr; omega
  have H3 : Hid (∀ r, r < n → L r ≤ 140737488355328) := fun r hr => by have := (great3_no h1).2 r hr; omega
  have HC : Hid (∀ r, r < n → R r = none → C r = 0) := fun r hr => (ha.rows r hr).2.2
  have am := ha.mat
  clear ha
  go_enter Try.func3, Try.ntmps3
  go_wp2_with (first
    | (go_at_call 9; refine (great3_any A n ca R L C Z H3.out (by omega) _ am).mono ?_; rintro e w' ⟨rfl, hw'⟩; subst w'; rw [h1])
    | (go_at_call 11; refine (table_all K N _).mono ?_; rintro e w1 ⟨v, xt, kt, rfl, hres, hts, hw1⟩; obtain ⟨T, tc, RT, CT, rfl, hT1⟩ := hres; have hT1' := hT1.mat; clear hT1; have kt32 : kt ≤ 32 := tabsays_le hts)
    | (go_at_call 12; refine (rtab_all K N _).mono ?_; rintro e w2 ⟨v, xu, ku, rfl, hres, hus, hw2⟩; obtain ⟨e1, e2⟩ := tabsays_unique hts hus; subst xu; subst ku; have hxt : (xt == xt) = true := (by simp); obtain ⟨U, uc, RU, CU, rfl, hU2⟩ := hres; have hT2 := hT1'.keep hw2; clear hts hus hT1')
    | (go_at_call 13; refine (rcopied_free A n ca R L C Z _ (am.keep (hw1.trans hw2)) HC.out H1.out (by omega)).mono ?_; rintro e w3 ⟨v, R1, C1, rfl, ho3, hf3, hw3⟩; obtain ⟨A1, cap1, rfl, -, -⟩ := matw_of ho3 hf3; have ri3 := rows_in ho3)
    | (go_at_call 14; refine (enc_res A1 n cap1 R1 L C1 Z N _ (own_mat ho3)).mono ?_; rintro e w4 ⟨v, x, kk, rfl, hres, hsay, hw4⟩; obtain ⟨X, xc, RX, CX, rfl, hx4⟩ := hres; have k32 : kk ≤ 32 := encsays_le hsay; have p4 := ho3.keep hw4; have q4 := hf3.keep hw4; have a4 := am.keep (hw1.trans (hw2.trans (hw3.trans hw4))))
    | (go_at_call_of 15 (Value.slice A1 n cap1); refine (rsame_any A1 A n n cap1 ca R1 R L C1 L C Z Z (by omega) _ (own_mat p4) a4).mono ?_; rintro e w5 ⟨y, rfl, hy, hw5⟩; obtain rfl : y = true := hy.2 (same_self _ _ _); have p5 := p4.keep hw5; have q5 := q4.keep hw5; clear hy)
    | (go_at_call 16; refine (spoilt3_any A1 n cap1 _ R1 L C1 (by omega) H3.out _ (own_matw p5 q5)).mono ?_; rintro e w6 ⟨rfl, hw6⟩; have bw25 := hw3.trans (hw4.trans hw5); have bw26 : Bw w2 w6 := (Below.trans bw25 (hw6.below bw25.size (fun b hb => (ri3 b hb).1))); have x6 := MatAt.keepx (hx4.keep hw5) hw6 (fun b hb => (ri3 b hb).2); have x6' := x6.mat; have t6 := hT2.keep bw26; have u6 := hU2.keep bw26; have bw6 : Bw w w6 := hw1.trans (hw2.trans bw26); clear x6 p5 q5 p4 q4 a4 hx4 ho3 hf3 bw25 ri3 hw6 hw5 hw4 hw3 hT2 hU2 bw26)
    | (refine wpList_extract rfl _ _ rfl _ rfl _ rfl ?_)
    | (go_at_call 17; refine (renc_all A n ca R L C Z N _ (am.keep bw6)).mono ?_; rintro e w7 ⟨v, x', kk', rfl, hres, hsay', hw7⟩; obtain ⟨e1, e2⟩ := encsays_unique hsay hsay'; subst x'; subst kk'; have hxx : (x == x) = true := (by simp); obtain ⟨V, vc, RV, CV, rfl, hv7⟩ := hres; have x7 := x6'.keep hw7; have t7 := t6.keep hw7; have u7 := u6.keep hw7; have b7 := bw6.trans hw7; clear hsay hsay' x6' t6 u6)
    | (go_at_call_of 15 (Value.slice T kt tc); refine (rsame_any T U kt kt tc uc RT RU _ CT _ CU _ _ (by omega) _ t7 u7).mono ?_; rintro e w8 ⟨y, rfl, hy, hw8⟩; obtain rfl : y = true := hy.2 (same_self _ _ _); have x8 := x7.keep hw8; have v8 := hv7.keep hw8; clear hy t7 u7)
    | (go_at_call_of 15 (Value.slice X kk xc); refine (rsame_any X V kk kk xc vc RX RV _ CX _ CV _ _ (by omega) _ x8 v8).mono ?_; rintro e w9 ⟨y, rfl, hy, hw9⟩; obtain rfl : y = true := hy.2 (same_self _ _ _); clear hy)
    | (go_at_call 10; refine (wakes3_any _).mono ?_; rintro e w10 ⟨rfl, hw10⟩))
  go_ret
  exact ⟨rfl, b7.trans (hw8.trans (hw9.trans hw10))⟩

theorem walk (a0 : Option Addr) (len0 cap0 : Nat) (R0 : Nat → Option Addr) (L0 C0 : Nat → Nat) (Z0 : Nat → Nat → Int) (a1 : Int) (a2 : Int) (w : World) (w0 : InMat w a0 len0 cap0 R0 L0 C0 Z0) (w1 : (Lit.int .i64 a1).wf = true) (w2 : (Lit.int .i64 a2).wf = true) :
    Calls Try.prog 3 #[.slice a0 len0 cap0, .int .i64 a1, .int .i64 a2] w fun e w' => e = .returned (.bool true) ∧ Below w.heap.size w w' := by
  cases h1 : great3 len0 L0 with
  | true => exact tells_great _ _ _ _ _ _ _ _ _ w w0 h1
  | false => exact tells_ok _ _ _ _ _ _ _ _ _ w w0 h1

set_option maxRecDepth 100000 in
theorem lifted (os : Os) (started : os.Started) (H : Type) (enc : TypeId × Value → H) :
    ReturnsInHanded {} Try.checked os 3 .any (Rows.codeTellsSpec.pre6 enc Try.prog Try.f3 Rows.codeTellsRow.domain false) (Rows.codeTellsSpec.post enc Try.prog Try.f3 false true false false) := by
  refine returnsInHanded_of_change_sized (C := Try.checked) own started (by kernel_rfl) Try.func3
    (ChangeSpec.witness6 (enc := enc) (C := Try.checked) false ⟨#[], #[.slice none 0 0, .int .i64 0, .int .i64 0], []⟩ 8 (by kernel_rfl) (by kernel_rfl) (by kernel_rfl) (by kernel_rfl)) ?_
  intro W base args ds gs before hval0 hW hcnd hsz0 _
  have hval : ∀ (j : Nat) t v, Try.f3.params[j]? = some t → args[j]? = some v → Value.okWide Try.prog W .any base t v := hval0
  have hW' := hW
  obtain ⟨p, q, hA0, hV, rfl, hfz, hnd⟩ := hW
  have hA : DataW.TrodAll enc Try.prog W 0 (fun _ => true) true Try.f3.params.toList args.toList ds p := hA0
  have hsz : (DataW.weightsEach Try.prog (Try.f3.params.toList ++ Rows.codeTellsSpec.plain.varTypes Try.prog) (ds ++ gs)).all (· ≤ reachBytes) = true := hsz0
  rw [Try.params3] at hA hval hsz
  obtain ⟨v0, vs0, d0, ds0, p0, q0, hargs, rfl, rfl, h0, r0⟩ := trodAll_cons hA
  obtain ⟨v1, vs1, d1, ds1, p1, q1, rfl, rfl, rfl, h1, r1⟩ := trodAll_cons r0
  obtain ⟨v2, vs2, d2, ds2, p2, q2, rfl, rfl, rfl, h2, r2⟩ := trodAll_cons r1
  obtain ⟨rfl, rfl, rfl⟩ := trodAll_nil r2
  obtain rfl : args = #[v0, v1, v2] := by cases args; simp_all
  obtain ⟨rfl, rfl⟩ := trodVars_none hV
  obtain ⟨a0, len0, cap0, rfl⟩ := okWide_slice Try.underlying22 (hval 0 22 v0 rfl rfl)
  have k0 := h0
  have lt0 : ∀ x ∈ p0, x.block < W.heap.size := by obtain ⟨m, hm⟩ := k0; exact DataW.trod_lt m _ _ _ hm
  obtain ⟨R0, L0, C0, Z0, w0⟩ := open_rows h0 (fun x hx => by simpa using List.all_eq_true.1 hsz x (DataW.weights_mem_each (j := 0) (t := 22) rfl rfl x hx))
  obtain ⟨a1, rfl, rfl, rfl, w1⟩ := open_int Try.underlying3 (hval 1 3 v1 rfl rfl) h1
  obtain ⟨a2, rfl, rfl, rfl, w2⟩ := open_int Try.underlying3 (hval 2 3 v2 rfl rfl) h2
  clear hA0 hval0
  refine (walk a0 len0 cap0 R0 L0 C0 Z0 a1 a2 W w0 w1 w2).mono fun e W' ⟨he, bel⟩ => ?_
  subst he
  exact ⟨_, rfl, _, _, _, [], _, [], hW', trodAll_mk1 (shut_bool Try.underlying4 _), (trodAll_cons_mk (Below.trod laidOut (by kernel_rfl) (of_decide_eq_true (by kernel_rfl)) k0 bel lt0) (trodAll_cons_mk (shut_int Try.underlying3 w1) (trodAll_cons_mk (shut_int Try.underlying3 w2) trodAll_mk0))), rfl, bel.frame _, fun h => by cases h⟩

theorem over : Rows.codeTellsRow.holds Try.pinned (OpenSpec.ofChange Rows.codeTellsSpec) :=
  OpenClaim.holds_of_wide 3 Try.f3 rfl rfl rfl rfl rfl rfl rfl ⟨rfl, rfl, rfl, rfl, rfl⟩ rfl rfl rfl rfl rfl (by kernel_rfl) Try.func3 (by kernel_rfl)
    (of_decide_eq_true (by kernel_rfl)) (by unfold Func.isWrapper; first | (rw [if_pos (by decide +kernel)]; kernel_rfl) | (rw [if_neg (by decide +kernel)]; exact ⟨rfl, rfl⟩))
    (fun os started H enc _ => lifted os started H enc)

theorem proved : Rows.CodeTellsSaid := over
#print axioms proved
end Go.Proofs.Ytbhbdhkifkmkbaa.codeTells
