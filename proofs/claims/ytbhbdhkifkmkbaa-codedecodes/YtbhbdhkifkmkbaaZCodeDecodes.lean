/- Proved: for every list of shards, every list of numbers, every k and n and every whole number the statement CodeDecodes answers true (the document's P3.3 and P3.4: what any shards give, and each shard that is built again of them, is the document's, or refused, in new memory), with no condition but the reach; arguments may share memory. -/
import Derived.Test.YtbhbdhkifkmkbaaB11
import Derived.ShutString
import Derived.ChangeOld
namespace Go.Proofs.Ytbhbdhkifkmkbaa.codeDecodes
open Go.ChangeShapes Go.WideShapes Go.ChangeAt Go.RowKit
set_option linter.unusedVariables false

/-- the shards' box -/
structure Fld (W : World) (b : Nat) (K N : Int) (A : Option Addr) (n ca : Nat) (B : Option Addr) (l cb : Nat) : Prop where
  f0 : W.cell? ⟨b, 0, none⟩ = some (.int .i64 K)
  f1 : W.cell? ⟨b, 1, none⟩ = some (.int .i64 N)
  f2 : W.cell? ⟨b, 2, none⟩ = some (.slice A n ca)
  f3 : W.cell? ⟨b, 3, none⟩ = some (.slice B l cb)
theorem Fld.keep {W W' : World} {b : Nat} {K N : Int} {A : Option Addr} {n ca : Nat} {B : Option Addr} {l cb : Nat} (h : Fld W b K N A n ca B l cb) (k : Bw W W') : Fld W' b K N A n ca B l cb := ⟨cell_bw k h.f0, cell_bw k h.f1, cell_bw k h.f2, cell_bw k h.f3⟩
theorem fld_new (w : World) (K N : Int) (A : Option Addr) (n ca : Nat) (B : Option Addr) (l cb : Nat) : Fld (w.alloc (.cells #[.int .i64 K, .int .i64 N, .slice A n ca, .slice B l cb] 35)) w.heap.size K N A n ca B l cb :=
  ⟨cell_of_row _ _ 0 _ _ _ (heap_alloc_new w _), cell_of_row _ _ 1 _ _ _ (heap_alloc_new w _), cell_of_row _ _ 2 _ _ _ (heap_alloc_new w _), cell_of_row _ _ 3 _ _ _ (heap_alloc_new w _)⟩

theorem dc_early (K N want : Int) (A B : Option Addr) (n ca l cb : Nat) (R : Nat → Option Addr) (L C : Nat → Nat) (Z : Nat → Nat → Int) (w : World) (ha : InMat w A n ca R L C Z) (hc : great3 n L = true ∨ (great3 n L = false ∧ 100 < l)) :
    Calls Try.prog 4 #[.agg #[.int .i64 K, .int .i64 N, .slice A n ca, .slice B l cb], .int .i64 want] w fun e w' => e = .returned (.bool true) ∧ Bw w w' := by
  have a1 := ha.le
  have a2 := ha.room
  have al : ∀ r, r < n → L r ≤ 140737488355328 := fun r hr => by have := ha.rows r hr; omega
  have AL : Hid (∀ r, r < n → L r ≤ 140737488355328) := al
  have hb0 : Bw w (w.alloc (.cells #[.int .i64 K, .int .i64 N, .slice A n ca, .slice B l cb] 35)) := (Below.refl _ _).alloc (Nat.le_refl _) _
  have am := ha.mat.keep hb0
  clear al ha
  rcases hc with h1 | ⟨h1, h2⟩
  · go_enter Try.func4, Try.ntmps4
    go_wp2_with (first
      | (go_at_call 9; refine (great3_any A n ca R L C Z AL.out (by omega) _ am).mono ?_; rintro e w' ⟨rfl, hw'⟩; subst w'; rw [h1])
      | (go_at_call 10; refine (wakes3_any _).mono ?_; rintro e w1 ⟨rfl, hw1⟩))
    go_ret
    exact ⟨rfl, hb0.trans hw1⟩
  · go_enter Try.func4, Try.ntmps4
    go_wp2_with (first
      | (go_at_call 9; refine (great3_any A n ca R L C Z AL.out (by omega) _ am).mono ?_; rintro e w' ⟨rfl, hw'⟩; subst w'; rw [h1])
      | (go_at_call 10; refine (wakes3_any _).mono ?_; rintro e w1 ⟨rfl, hw1⟩))
    go_ret
    exact ⟨rfl, hb0.trans hw1⟩

theorem decsays_le {k n : Int} {m l : Nat} {L : Nat → Nat} {f : Nat → Int} {Z : Nat → Nat → Int} {x : Int} {kk : Nat} {D : Nat → Nat → Int} (h : DecSays k n m l L f Z x kk D) : kk ≤ 32 := by
  rcases h with ⟨_, _, h⟩ | ⟨_, _, h, _⟩ | ⟨h, _, e, _⟩
  · omega
  · omega
  · obtain ⟨h1, _, _, _, _⟩ := sh_ok h
    have := kn_ok h1
    omega

attribute [local go_sem] List.getElem?_cons_zero Option.getD_some

set_option maxRecDepth 100000 in
set_option maxHeartbeats 4000000 in
theorem dc_ok (K N want : Int) (A B : Option Addr) (n ca l cb : Nat) (R : Nat → Option Addr) (L C : Nat → Nat) (Z : Nat → Nat → Int) (f : Nat → Int) (w : World) (ha : InMat w A n ca R L C Z) (hb : InInts w B l cb f) (h1 : great3 n L = false) (hl : l ≤ 100) :
    Calls Try.prog 4 #[.agg #[.int .i64 K, .int .i64 N, .slice A n ca, .slice B l cb], .int .i64 want] w fun e w' => e = .returned (.bool true) ∧ Bw w w' := by
  obtain ⟨i0, hi0, hz0, hz1, hz2⟩ := info_parts info_int
  have hn5 := (great3_no h1).1
  have H1 : Hid (∀ r, r < n → L r ≤ 140737488351232) := fun r hr => by have := (great3_no h1).2 r hr; omega
  have H3 : Hid (∀ r, r < n → L r ≤ 140737488355328) := fun r hr => by have := (great3_no h1).2 r hr; omega
  have HC : Hid (∀ r, r < n → R r = none → C r = 0) := fun r hr => (ha.rows r hr).2.2
  have hca := ha.le
  have hcb := hb.le
  have hnil := hb.nil
  have HNIL : Hid (B = none → cb = 0) := hnil
  have hb0 : Bw w (w.alloc (.cells #[.int .i64 K, .int .i64 N, .slice A n ca, .slice B l cb] 35)) := (Below.refl _ _).alloc (Nat.le_refl _) _
  have am := ha.mat.keep hb0
  have bi := hb.row.keep hb0
  have hF := fld_new w K N A n ca B l cb
  have hmx : 0 + l ≤ maxLen := by unfold maxLen; omega
  have ell : ((l : Int) != (l : Int)) = false := by simp
  have l100 : ¬ (100 : Int) < (l : Int) := by omega
  clear ha hb hnil
  go_enter Try.func4, Try.ntmps4
  go_wp2_with (first
    | (go_at_call 9; refine (great3_any A n ca R L C Z H3.out (by omega) _ am).mono ?_; rintro e w' ⟨rfl, hw'⟩; subst w'; rw [h1])
    | (go_at_call 13; refine (rcopied_free A n ca R L C Z _ am HC.out H1.out (by omega)).mono ?_; rintro e w1 ⟨v, R1, C1, rfl, ho1, hf1, hw1⟩; obtain ⟨A1, cap1, rfl, -, -⟩ := matw_of ho1 hf1; have HRI : Hid (∀ b, RowsOf n R1 b → w.heap.size + 1 ≤ b ∧ b < w1.heap.size) := (fun b hb => by have := rows_in ho1 b hb; rw [size_alloc] at this; exact this); have F1 := hF.keep hw1; obtain ⟨k10, k11, k12, k13⟩ := F1; have s1 : w.heap.size < w1.heap.size := (by have := hw1.size; rw [size_alloc] at this; omega); have bi1 := bi.keep hw1)
    | (at_builtin; refine wpList_append_ints _ (by rfl) (.tmp 29) (.tmp 31) _ (by rfl) w1.heap.size 3 i0 _ 8 Try.underlying33 hi0 hz0 hz1 hz2 rfl _ _ _ (by rfl) (own_empty w1 w1.heap.size _ (Nat.le_refl _)) B l cb f (by rfl) (bi1.keep ((Below.refl _ _).alloc (Nat.le_refl _) _)) HNIL.out hmx (by omega) (by simp) ?_; intro v2 w2 hown2 hgrow2; simp only [Nat.zero_add, List.nil_append] at hown2; obtain ⟨A2, cap2, rfl, hi2, -, -⟩ := ints_of_own hown2; have hw2 := bw_fresh hgrow2; have F2 := (hF.keep hw1).keep hw2; obtain ⟨k20, k21, k22, k23⟩ := F2; have p2 := ho1.keep hw2; have q2 := hf1.keep hw2; clear hown2 hgrow2 k10 k11 k12 k13)
    | (go_at_call 18; refine (dec_all K N A1 A2 n l cap1 cap2 R1 L C1 Z f _ (own_mat p2) hi2 (by omega) (by omega)).mono ?_; rintro e w3 ⟨v, x, kk, D, rfl, hr3, hs3, hw3⟩; obtain ⟨X, xc, RX, CX, rfl, hX3⟩ := hr3; have F3 := (hF.keep hw1).keep (hw2.trans hw3); obtain ⟨k30, k31, k32, k33⟩ := F3; have p3 := p2.keep hw3; have q3 := q2.keep hw3; have hi3 := hi2.keep hw3; clear k20 k21 k22 k23)
    | (go_at_call 19; refine (reb_all K N want A1 A2 n l cap1 cap2 R1 L C1 Z f _ (own_mat p3) hi3 (by omega) (by omega)).mono ?_; rintro e w4 ⟨Y, yc, xr, qr, row, rfl, hr4, hs4, hw4⟩; have F4 := (hF.keep hw1).keep (hw2.trans (hw3.trans hw4)); obtain ⟨k40, k41, k42, k43⟩ := F4; have p4 := p3.keep hw4; have q4 := q3.keep hw4; have hi4 := hi3.keep hw4; have hw14 := hw1.trans (hw2.trans (hw3.trans hw4)); have am4 := am.keep hw14; clear k30 k31 k32 k33)
    | (go_at_call_of 15 (Value.slice A1 n cap1); refine (rsame_any A1 A n n cap1 ca R1 R L C1 L C Z Z (by omega) _ (own_mat p4) am4).mono ?_; rintro e w5 ⟨y, rfl, hy, hw5⟩; obtain rfl : y = true := hy.2 (same_self _ _ _); have F5 := hF.keep (hw14.trans hw5); have k53 := F5.f3; clear hy k40 k41 k42 k43 am4))
  go_loopw [11] (fun i wr => ∃ t : Nat, t ≤ l ∧ i = .int .i64 t ∧ Bw w5 wr) (fun i _ => l - (intOf i).toNat)
  case atStart => exact ⟨0, Nat.zero_le _, rfl, Bw.refl _⟩
  case round =>
    rename World => w6
    obtain ⟨t, ht, rfl, hw6⟩ := hrel
    by_cases hlt : t < l
    · obtain ⟨b1, o1, rfl, hc1⟩ := (hi4.keep (hw5.trans hw6)).resolve_left (by omega)
      have g1 := hc1 t hlt
      obtain ⟨b2, o2, rfl, hc2⟩ := (bi.keep (hw14.trans (hw5.trans hw6))).resolve_left (by omega)
      have g2 := hc2 t hlt
      have k63 := cell_bw hw6 k53
      have nf : (f t != f t) = false := by simp
      have t0 : (0 : Int) ≤ (t : Int) := Int.natCast_nonneg _
      have t1 : (t : Int) < (l : Int) := by omega
      clear hc1 hc2
      go_wp2
      go_quiet (fail)
      go_wp2
      go_roundw
      case rel => exact ⟨t + 1, by omega, by go_num, hw6.trans (Bw.drewN _ _)⟩
      case measure => simp [intOf]; omega
    · have ek : l = t := by omega
      subst ek
      have p6 := p4.keep (hw5.trans hw6)
      have q6 := q4.keep (hw5.trans hw6)
      have bw6 := hw14.trans (hw5.trans hw6)
      have X6 := hX3.keep (hw4.trans (hw5.trans hw6))
      have Y6 := hr4.keep (hw5.trans hw6)
      have sz2 := hw2.size
      have sz3 := (hw2.trans hw3).size
      clear p2 q2 p3 q3 p4 q4 hX3 hr4 hi2 hi3 hi4 F5 k53 ho1 hf1 bi1
      go_wp2_with (first
        | (go_at_call 16; refine (spoilt3_any A1 n cap1 _ R1 L C1 (by omega) H3.out _ (own_matw p6 q6)).mono ?_; rintro e w7 ⟨rfl, hx7⟩; have bw7 := Below.trans bw6 (hx7.below bw6.size (fun b hb => by rw [size_alloc]; exact (HRI.out b hb).1)); have X7 := (MatAt.keepx X6 hx7 (fun b hb => Nat.lt_of_lt_of_le (HRI.out b hb).2 sz2)).mat; have Y7 := NewRow.keepx Y6 hx7 (fun b hb => Nat.lt_of_lt_of_le (HRI.out b hb).2 sz3); have am7 := am.keep bw7; have bi7 := bi.keep bw7; obtain ⟨k70, k71, k72, k73⟩ := hF.keep bw7; clear p6 q6 X6 Y6 hx7 bw6)
        | (refine wpList_extract rfl _ _ rfl _ rfl _ rfl ?_)
        | (go_at_call 20; refine (rdec_all K N A B n l ca cb R L C Z f _ am7 bi7 hcb hca (by omega)).mono ?_; rintro e w8 ⟨v, x', kk', D', rfl, hv8, hs8, hw8⟩; obtain ⟨e1, e2, e3⟩ := decsays_unique hs3 hs8; subst x'; subst kk'; have HD : Hid (∀ j, j < kk → ∀ c, c < L 0 → D j c = D' j c) := e3; have hxx : (x == x) = true := (by simp); have k32 : kk ≤ 32 := decsays_le hs3; obtain ⟨V, vc, RV, CV, rfl, hV8⟩ := hv8; have X8 := X7.keep hw8; have Y8 := Y7.keep hw8; have am8 := am7.keep hw8; have bi8 := bi7.keep hw8; have bw8 := Bw.trans bw7 hw8; obtain ⟨k80, k81, k82, k83⟩ := hF.keep bw8; clear hs3 hs8 e3 X7 Y7 am7 bi7 k70 k71 k72 k73)
        | (go_at_call 21; refine (rreb_all K N want A B n l ca cb R L C Z f _ am8 bi8 hcb hca (by omega)).mono ?_; rintro e w9 ⟨Y', yc', xr', qr', row', rfl, hr9, hs9, hw9⟩; obtain ⟨e1, e2, e3⟩ := rebsays_unique hs4 hs9; subst xr'; subst qr'; have HW : Hid (∀ c, c < qr → row c = row' c) := e3; have hrr : (xr == xr) = true := (by simp); have X9 := X8.keep hw9; have Y9 := Y8.keep hw9; have V9 := hV8.keep hw9; have bw9 := bw8.trans hw9; clear hs4 hs9 e3 X8 Y8 am8 bi8 hV8 k80 k81 k82 k83)
        | (go_at_call_of 15 (Value.slice X kk xc); refine (rsame_any X V kk kk xc vc RX RV _ CX _ CV _ _ (by omega) _ X9 V9).mono ?_; rintro e w10 ⟨y, rfl, hy, hw10⟩; obtain rfl : y = true := hy.2 ⟨rfl, fun r hr => ⟨rfl, fun i hi => HD.out r hr i hi⟩⟩; have Y10 := Y9.keep hw10; have Z10 := hr9.keep hw10; have cv1 := conv_row (C := yc) Y10; have cv2 := conv_row (C := yc') Z10; have he2 : ((str row qr).toList == (str row' qr).toList) = true := (by have := (str_inj (f := row) (g := row') (L := qr) (M := qr) Y10.2 Z10.2).2 ⟨rfl, HW.out⟩; simpa using this); clear hy)
        | (go_at_call 10; refine (wakes3_any _).mono ?_; rintro e w11 ⟨rfl, hw11⟩))
      go_ret
      exact ⟨rfl, hb0.trans (bw9.trans (hw10.trans hw11))⟩

theorem walk (K0 N0 : Int) (a0 : Option Addr) (len0 cap0 : Nat) (R0 : Nat → Option Addr) (L0 C0 : Nat → Nat) (Z0 : Nat → Nat → Int) (b0 : Option Addr) (lenb0 capb0 : Nat) (f0 : Nat → Int) (a1 : Int) (w : World) (w0 : InMat w a0 len0 cap0 R0 L0 C0 Z0) (x0 : InInts w b0 lenb0 capb0 f0) (w1 : (Lit.int .i64 a1).wf = true) :
    Calls Try.prog 4 #[.agg #[.int .i64 K0, .int .i64 N0, .slice a0 len0 cap0, .slice b0 lenb0 capb0], .int .i64 a1] w fun e w' => e = .returned (.bool true) ∧ Below w.heap.size w w' := by
  cases h1 : great3 len0 L0 with
  | true => exact dc_early _ _ _ _ _ _ _ _ _ _ _ _ _ w w0 (Or.inl h1)
  | false =>
    by_cases hl : 100 < lenb0
    · exact dc_early _ _ _ _ _ _ _ _ _ _ _ _ _ w w0 (Or.inr ⟨h1, hl⟩)
    · exact dc_ok _ _ _ _ _ _ _ _ _ _ _ _ _ _ w w0 x0 h1 (by omega)

set_option maxRecDepth 100000 in
theorem lifted (os : Os) (started : os.Started) (H : Type) (enc : TypeId × Value → H) :
    ReturnsInHanded {} Try.checked os 4 .any (Rows.codeDecodesSpec.pre6 enc Try.prog Try.f4 Rows.codeDecodesRow.domain false) (Rows.codeDecodesSpec.post enc Try.prog Try.f4 false true false false) := by
  refine returnsInHanded_of_change_sized (C := Try.checked) own started (by kernel_rfl) Try.func4
    (ChangeSpec.witness6 (enc := enc) (C := Try.checked) false ⟨#[], #[.agg #[.int .i64 0, .int .i64 0, .slice none 0 0, .slice none 0 0], .int .i64 0], []⟩ 8 (by kernel_rfl) (by kernel_rfl) (by kernel_rfl) (by kernel_rfl)) ?_
  intro W base args ds gs before hval0 hW hcnd hsz0 _
  have hval : ∀ (j : Nat) t v, Try.f4.params[j]? = some t → args[j]? = some v → Value.okWide Try.prog W .any base t v := hval0
  have hW' := hW
  obtain ⟨p, q, hA0, hV, rfl, hfz, hnd⟩ := hW
  have hA : DataW.TrodAll enc Try.prog W 0 (fun _ => true) true Try.f4.params.toList args.toList ds p := hA0
  have hsz : (DataW.weightsEach Try.prog (Try.f4.params.toList ++ Rows.codeDecodesSpec.plain.varTypes Try.prog) (ds ++ gs)).all (· ≤ reachBytes) = true := hsz0
  rw [Try.params4] at hA hval hsz
  obtain ⟨v0, vs0, d0, ds0, p0, q0, hargs, rfl, rfl, h0, r0⟩ := trodAll_cons hA
  obtain ⟨v1, vs1, d1, ds1, p1, q1, rfl, rfl, rfl, h1, r1⟩ := trodAll_cons r0
  obtain ⟨rfl, rfl, rfl⟩ := trodAll_nil r1
  obtain rfl : args = #[v0, v1] := by cases args; simp_all
  obtain ⟨rfl, rfl⟩ := trodVars_none hV
  have k0 := h0
  have lt0 : ∀ x ∈ p0, x.block < W.heap.size := by obtain ⟨m, hm⟩ := k0; exact DataW.trod_lt m _ _ _ hm
  obtain ⟨K0, N0, a0, len0, cap0, R0, L0, C0, Z0, b0, lenb0, capb0, f0, rfl, -, -, w0, x0⟩ := open_shards (hval 0 35 v0 rfl rfl) h0 (fun x hx => by simpa using List.all_eq_true.1 hsz x (DataW.weights_mem_each (j := 0) (t := 35) rfl rfl x hx))
  obtain ⟨a1, rfl, rfl, rfl, w1⟩ := open_int Try.underlying3 (hval 1 3 v1 rfl rfl) h1
  clear hA0 hval0
  refine (walk K0 N0 a0 len0 cap0 R0 L0 C0 Z0 b0 lenb0 capb0 f0 a1 W w0 x0 w1).mono fun e W' ⟨he, bel⟩ => ?_
  subst he
  exact ⟨_, rfl, _, _, _, [], _, [], hW', trodAll_mk1 (shut_bool Try.underlying4 _), (trodAll_cons_mk (Below.trod laidOut (by kernel_rfl) (of_decide_eq_true (by kernel_rfl)) k0 bel lt0) (trodAll_cons_mk (shut_int Try.underlying3 w1) trodAll_mk0)), rfl, bel.frame _, fun h => by cases h⟩

theorem over : Rows.codeDecodesRow.holds Try.pinned (OpenSpec.ofChange Rows.codeDecodesSpec) :=
  OpenClaim.holds_of_wide 4 Try.f4 rfl rfl rfl rfl rfl rfl rfl ⟨rfl, rfl, rfl, rfl, rfl⟩ rfl rfl rfl rfl rfl (by kernel_rfl) Try.func4 (by kernel_rfl)
    (of_decide_eq_true (by kernel_rfl)) (by unfold Func.isWrapper; first | (rw [if_pos (by decide +kernel)]; kernel_rfl) | (rw [if_neg (by decide +kernel)]; exact ⟨rfl, rfl⟩))
    (fun os started H enc _ => lifted os started H enc)

theorem proved : Rows.CodeDecodesSaid := over
#print axioms proved
end Go.Proofs.Ytbhbdhkifkmkbaa.codeDecodes
