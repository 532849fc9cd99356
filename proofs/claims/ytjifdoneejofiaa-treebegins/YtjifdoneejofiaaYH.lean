/- slices.SortStableFunc at items, as landed at 97b3c5cd: comparing two, insertion (written by mkyh.py). -/
import Derived.Test.YtjifdoneejofiaaYG
namespace Go.Proofs.Ytjifdoneejofiaa
open Go.RowKit Go.Deep
set_option linter.unusedVariables false
set_option linter.unusedSimpArgs false

theorem keep_twelve {w1 w w' : World} {a0 a1 a2 a3 a4 a5 a6 a7 a8 a9 a10 a11 : Addr} {v0 v1 v2 v3 v4 v5 v6 v7 v8 v9 v10 v11 : Value} (h : w.cell? a0 = some v0 ∧ w.cell? a1 = some v1 ∧ w.cell? a2 = some v2 ∧ w.cell? a3 = some v3 ∧ w.cell? a4 = some v4 ∧ w.cell? a5 = some v5 ∧ w.cell? a6 = some v6 ∧ w.cell? a7 = some v7 ∧ w.cell? a8 = some v8 ∧ w.cell? a9 = some v9 ∧ w.cell? a10 = some v10 ∧ w.cell? a11 = some v11 ∧ Bw w1 w) (k : Bw w w') : w'.cell? a0 = some v0 ∧ w'.cell? a1 = some v1 ∧ w'.cell? a2 = some v2 ∧ w'.cell? a3 = some v3 ∧ w'.cell? a4 = some v4 ∧ w'.cell? a5 = some v5 ∧ w'.cell? a6 = some v6 ∧ w'.cell? a7 = some v7 ∧ w'.cell? a8 = some v8 ∧ w'.cell? a9 = some v9 ∧ w'.cell? a10 = some v10 ∧ w'.cell? a11 = some v11 ∧ Bw w1 w' := by
  obtain ⟨h0, h1, h2, h3, h4, h5, h6, h7, h8, h9, h10, h11, h12⟩ := h
  exact ⟨keep_cell11 h0 k, keep_cell11 h1 k, keep_cell11 h2 k, keep_cell11 h3 k, keep_cell11 h4 k, keep_cell11 h5 k, keep_cell11 h6 k, keep_cell11 h7 k, keep_cell11 h8 k, keep_cell11 h9 k, keep_cell11 h10 k, keep_cell11 h11 k, h12.trans k⟩
set_option maxRecDepth 100000 in
theorem sort1_any (x y : Tr.Iv) (hx : Tr.Fit x.it) (hy : Tr.Fit y.it) (w : World) : Calls Try.prog 42 #[.agg x.arr, .agg y.arr] w fun e w' => e = .returned (.int .i64 (Tr.cmpI x y)) ∧ Bw w w' := by
  obtain ⟨V, hV⟩ : ∃ V, V = w.alloc (.cells x.arr 26) := ⟨_, rfl⟩
  obtain ⟨W, hW⟩ : ∃ W, W = V.alloc (.cells y.arr 26) := ⟨_, rfl⟩
  have hbv : Bw w V := by rw [hV]; exact bw_alloc11 (Bw.refl _) _
  have hbw : Bw V W := by rw [hW]; exact bw_alloc11 (Bw.refl _) _
  have hsz : V.heap.size = w.heap.size + 1 := by rw [hV]; simp
  have hX : BoxAt W w.heap.size x := BoxAt.keep (by rw [hV]; exact BoxAt.new _ _) hbw
  have hY : BoxAt W (w.heap.size + 1) y := by rw [← hsz, hW]; exact BoxAt.new _ _
  obtain ⟨x0, -, -, -, -, -⟩ := hX.cells
  obtain ⟨y0, -, -, -, -, -⟩ := hY.cells
  have HF : Hid (∀ u, Calls Try.prog 43 #[.string (Nm.S x.it.path), .string (Nm.S y.it.path)] u fun e w' => e = .returned (.int .i64 (Tr.cmpI x y)) ∧ Bw u w') := fun u => ncompareL x.it.path y.it.path (by have := hx.path; omega) (by have := hy.path; omega) u
  clear hX hY hsz
  rw [hV] at hW
  generalize Tr.cmpI x y = r at HF ⊢
  go_enter Try.func42, Try.ntmps42
  go_upto_region 1 with fail
  rw [← hW]
  clear hW hV
  go_wp2_with (go_at_call 43; refine (HF.out _).mono ?_; rintro e w1 ⟨rfl, hw1⟩)
  go_ret
  exact ⟨rfl, (hbv.trans hbw).trans hw1⟩
abbrev Tg := Tr.Iv × Nat
def un (T : List Tg) : List Tr.Iv := T.map (·.1)
/-- all items are what a machine's are -/
def Fits (T : List Tg) : Prop := ∀ x ∈ T, Tr.Fit x.1.it
theorem Fits.perm {A Z X B : List Tg} (h : Fits (A ++ (X ++ B))) (p : Z.Perm X) : Fits (A ++ (Z ++ B)) := by
  intro x hx
  simp only [List.mem_append] at hx
  rw [p.mem_iff] at hx
  exact h x (by simp only [List.mem_append]; exact hx)
theorem un_at (A B : List Tg) (x : Tg) : (un (A ++ x :: B))[A.length]? = some x.1 := by
  unfold un; rw [List.getElem?_map, Tr.get_at]; rfl
theorem un_len (T : List Tg) : (un T).length = T.length := by unfold un; rw [List.length_map]
theorem Sw.swapT {w0 : World} {H g n c : Nat} {A C B : List Tg} {x y : Tg} {W : World} (h : Sw w0 H g n c (un (A ++ x :: (C ++ y :: B))) W) {i j : Nat} (hi : i = A.length) (hj : j = A.length + 1 + C.length) : Sw w0 H g n c (un (A ++ y :: (C ++ x :: B))) (putIt (putIt W g (i * 6) y.1) g (j * 6) x.1) := by
  simp only [un, List.map_append, List.map_cons] at h ⊢
  exact h.swap (by rw [List.length_map]; exact hi) (by rw [List.length_map, List.length_map]; exact hj)
theorem Sw.swapU {w0 : World} {H g n c : Nat} {A C B : List Tg} {x y : Tg} {W : World} (h : Sw w0 H g n c (un (A ++ x :: (C ++ y :: B))) W) {i j : Nat} (hi : i = A.length) (hj : j = A.length + 1 + C.length) : Sw w0 H g n c (un (A ++ y :: (C ++ x :: B))) (putIt (putIt W g (j * 6) x.1) g (i * 6) y.1) := by
  simp only [un, List.map_append, List.map_cons] at h ⊢
  exact h.swap' (by rw [List.length_map]; exact hi) (by rw [List.length_map, List.length_map]; exact hj)
abbrev cfv : Value := .func (.func 42) #[] #[]
set_option maxRecDepth 100000 in
set_option maxHeartbeats 4000000 in
theorem insert_any (w0 : World) (H g n c : Nat) (A X B : List Tg) (xa xb : Int) (w : World) (hs : Sw w0 H g n c (un (A ++ (X ++ B))) w) (hf : Fits (A ++ (X ++ B))) (hn : n ≤ 2199023255552) (hr : X.Pairwise fun x y => x.2 < y.2) (ha : xa = A.length) (hb : xb = (A.length : Int) + X.length) :
    Calls Try.prog 86 #[.slice (some ⟨g, 0, none⟩) n c, .int .i64 xa, .int .i64 xb, cfv] w fun e w' => e = .returned (.tuple #[]) ∧ ∃ Z : List Tg, Z.Perm X ∧ Ss.St Tr.cmpI Z ∧ Sw w0 H g n c (un (A ++ (Z ++ B))) w' := by
  have hlen := hs.len
  rw [un_len] at hlen
  simp only [List.length_append] at hlen
  obtain ⟨a, hA⟩ : ∃ a, Hid (A.length = a) := ⟨_, rfl⟩
  obtain ⟨m, hX⟩ : ∃ m, Hid (X.length = m) := ⟨_, rfl⟩
  rw [hA.out] at ha hb hlen
  rw [hX.out] at hb hlen
  subst ha hb
  have ham : a + m ≤ n := by omega
  have HS : Hid (Sw w0 H g n c (un (A ++ (X ++ B))) w) := hs
  have HF : Hid (Fits (A ++ (X ++ B))) := hf
  have HR : Hid (X.Pairwise fun x y => x.2 < y.2) := hr
  clear hs hf hr hlen
  go_enter Try.func86, Try.ntmps86
  go_wp2
  go_loopw [8] (fun s8 wr => ∃ (k : Nat) (Z : List Tg), s8 = .int .i64 ((a : Int) + (k : Int)) ∧ 1 ≤ k ∧ (k ≤ m ∨ k = 1) ∧ Hid (Z.Perm (X.take k)) ∧ Hid (Ss.St Tr.cmpI Z) ∧ Hid (Sw w0 H g n c (un (A ++ (Z ++ (X.drop k ++ B)))) wr)) (fun s8 _ => n + 2 - (intOf s8).toNat)
  case atStart =>
    refine ⟨1, X.take 1, by go_num, Nat.le_refl _, .inr rfl, List.Perm.refl _, ?_, ?_⟩
    · show List.Pairwise _ _
      cases X with
      | nil => exact List.Pairwise.nil
      | cons x X => exact List.pairwise_singleton _ _
    · show Sw _ _ _ _ _ _ _
      rw [Tr.cut_join]; exact HS.out
  case round =>
    obtain ⟨k, Z, rfl, hk1, hk2, hZ, hSt, hsw⟩ := hrel
    by_cases hlt : k < m
    · have hltz : (a : Int) + (k : Int) < (a : Int) + (m : Int) := by omega
      obtain ⟨x, hx⟩ : ∃ x, Hid (X.drop k = x :: X.drop (k + 1)) := ⟨_, List.drop_eq_getElem_cons (by rw [hX.out]; exact hlt)⟩
      obtain ⟨R, hR⟩ : ∃ R, Hid (X.drop (k + 1) ++ B = R) := ⟨_, rfl⟩
      have HZl : Hid (Z.length = k) := by show _ = _; rw [hZ.out.length_eq, List.length_take, hX.out]; omega
      have HZP : Hid (∀ z ∈ Z, z.2 < x.2) := fun z hz => by
        have h1 := hZ.out.mem_iff.1 hz
        have h2 := HR.out
        rw [← List.take_append_drop k X, hx.out] at h2
        exact (List.pairwise_append.1 h2).2.2 z h1 x (List.mem_cons_self ..)
      have HFZ : Hid (Tr.Fit x.1.it ∧ ∀ z ∈ Z, Tr.Fit z.1.it) := by
        have hX2 := List.take_append_drop k X
        rw [hx.out] at hX2
        refine ⟨HF.out x ?_, fun z hz => HF.out z ?_⟩
        · rw [← hX2]; simp
        · have := hZ.out.mem_iff.1 hz
          rw [← hX2]; simp [this]
      have HS0 : Hid (Sw w0 H g n c (un (A ++ (Z ++ (x :: ([] ++ R))))) wr) := by
        have h := hsw.out
        rw [hx.out, List.cons_append, hR.out] at h
        exact h
      clear hsw
      rename World => wo
      go_wp2
      go_loopw [9] (fun s9 wr => ∃ (Z1 Z2 : List Tg), s9 = .int .i64 ((a : Int) + (Z1.length : Int)) ∧ Z1.length ≤ k ∧ Hid (Z1 ++ Z2 = Z) ∧ Hid (∀ z ∈ Z2, Ss.r Tr.cmpI x z) ∧ Hid (Sw w0 H g n c (un (A ++ (Z1 ++ (x :: (Z2 ++ R))))) wr)) (fun s9 _ => (intOf s9).toNat)
      case atStart => exact ⟨Z, [], by rw [HZl.out], by rw [HZl.out]; exact Nat.le_refl _, (by show _ = _; simp), (fun z hz => by simp at hz), HS0.out⟩
      case round =>
        obtain ⟨Z1, Z2, rfl, hz1, hz12, hz2, hsw⟩ := hrel
        have OUT : Hid ((∀ z ∈ Z1, Ss.r Tr.cmpI z x) → ∃ (k' : Nat) (Z' : List Tg), Value.int .i64 ((a : Int) + (k : Int) + 1) = .int .i64 ((a : Int) + (k' : Int)) ∧ 1 ≤ k' ∧ (k' ≤ m ∨ k' = 1) ∧ k' = k + 1 ∧ Hid (Z'.Perm (X.take k')) ∧ Hid (Ss.St Tr.cmpI Z') ∧ un (A ++ (Z' ++ (X.drop k' ++ B))) = un (A ++ (Z1 ++ (x :: (Z2 ++ R))))) := fun h1 => by
          refine ⟨k + 1, Z1 ++ x :: Z2, by go_num, by omega, .inl (by omega), rfl, ?_, ?_, ?_⟩
          · show List.Perm _ _
            rw [Tr.take_next hx.out]
            refine List.perm_middle.trans ?_
            rw [hz12.out]
            exact (List.Perm.cons _ hZ.out).trans (List.perm_append_singleton _ _).symm
          · exact Ss.st_insert Tr.cmpI_ok (by rw [hz12.out]; exact hSt.out) hz2.out h1
          · rw [hR.out]; simp
        rcases List.eq_nil_or_concat Z1 with e0 | ⟨Z0, z, e0⟩
        · subst e0
          have hja : ¬ (a : Int) < (a : Int) + ((([] : List Tg).length : Nat) : Int) := by simp
          have ez : ((([] : List Tg).length : Nat) : Int) = 0 := rfl
          obtain ⟨k', Z', o1, o2, o3, o4, o5, o6, o7⟩ := OUT.out (fun z hz => by simp at hz)
          have HS3 : Hid (Sw w0 H g n c (un (A ++ (Z' ++ (X.drop k' ++ B)))) wr) := by show Sw _ _ _ _ _ _ _; rw [o7]; exact hsw.out
          clear OUT hsw o7
          rw [ez, Int.add_zero] at *
          have hjb : ¬ (a : Int) < (a : Int) := by omega
          go_wp2_with fail
          go_quiet (fail)
          go_wp2
          go_roundw
          case rel => exact ⟨k', Z', o1, o2, o3, o5, o6, HS3.out.keep (Bw.drewN _ _)⟩
          case measure => simp [intOf]; omega
        · subst e0
          rw [List.concat_eq_append] at *
          have hZ0 : (Z0 ++ [z]).length = Z0.length + 1 := by simp
          rw [hZ0] at hz1 ⊢
          obtain ⟨q, hq⟩ : ∃ q, Hid (Z0.length = q) := ⟨_, rfl⟩
          rw [hq.out] at hz1 ⊢
          have hs1 := hsw.out
          have e1 : A ++ ((Z0 ++ [z]) ++ (x :: (Z2 ++ R))) = (A ++ Z0) ++ z :: ([] ++ x :: (Z2 ++ R)) := by simp
          rw [e1] at hs1
          have l1 : (A ++ Z0).length = a + q := by rw [List.length_append, hA.out, hq.out]
          have hzI := hs1.at (i := a + q) (y := z.1) (by rw [← l1]; exact un_at _ _ _)
          have hxI := hs1.at (i := a + q + 1) (y := x.1) (by
            have := un_at ((A ++ Z0) ++ [z]) (Z2 ++ R) x
            rw [show ((A ++ Z0) ++ [z]).length = a + q + 1 by rw [List.length_append, l1]; rfl] at this
            rw [← this]; simp)
          obtain ⟨a0, a1, a2, a3, a4, a5⟩ := hxI
          obtain ⟨b0, b1, b2, b3, b4, b5⟩ := hzI
          have HS1 : Hid (Sw w0 H g n c (un ((A ++ Z0) ++ z :: ([] ++ x :: (Z2 ++ R)))) wr) := hs1
          have L1 : Hid ((A ++ Z0).length = a + q) := l1
          clear hs1 l1 e1 hsw hZ0
          have HC : Hid (∀ u, Calls Try.prog 42 #[.agg x.1.arr, .agg z.1.arr] u fun e w' => e = .returned (.int .i64 (Tr.cmpI x.1 z.1)) ∧ Bw u w') := fun u => sort1_any x.1 z.1 HFZ.out.1 (HFZ.out.2 z (by rw [← hz12.out]; simp)) u
          obtain ⟨cv, hcv⟩ : ∃ r, Hid (Tr.cmpI x.1 z.1 = r) := ⟨_, rfl⟩
          rw [hcv.out] at HC
          have j0 : (a : Int) < (a : Int) + ((q + 1 : Nat) : Int) := by omega
          have j1 : (a : Int) + ((q + 1 : Nat) : Int) < (n : Int) := by omega
          have j2 : (0 : Int) ≤ (a : Int) + ((q + 1 : Nat) : Int) := by omega
          have j3 : ((a : Int) + ((q + 1 : Nat) : Int)).toNat = a + q + 1 := by omega
          have j4 : IntKind.i64.wrap ((a : Int) + ((q + 1 : Nat) : Int) - 1) = (a : Int) + ((q + 1 : Nat) : Int) - 1 := by rw [IntKind.wrap_i64]; omega
          have j9 : (1 : Int) ≤ (a : Int) + ((q + 1 : Nat) : Int) := by omega
          have j8 : ((a : Int) + ((q + 1 : Nat) : Int) - 1).toNat = a + q := by omega
          have j6 : (0 : Int) ≤ (a : Int) + ((q + 1 : Nat) : Int) - 1 := by omega
          have j7 : (a : Int) + ((q + 1 : Nat) : Int) - 1 < (n : Int) := by omega
          obtain ⟨jj, hjj⟩ : ∃ jj : Int, jj = (a : Int) + ((q + 1 : Nat) : Int) := ⟨_, rfl⟩
          rw [← hjj] at j0 j1 j2 j3 j4 j6 j7 j8 j9 ⊢
          have j5 : IntKind.i64.wrap jj = jj := by rw [IntKind.wrap_i64]; omega
          have HJ : Hid (jj = (a : Int) + ((q + 1 : Nat) : Int)) := hjj
          clear hjj
          by_cases hlv : cv < 0
          · go_wp2_with fail
            go_region_held3 (fun w' => w'.cell? ⟨g, (a + q + 1) * 6, none⟩ = some (.string (Nm.S x.1.it.path)) ∧ w'.cell? ⟨g, (a + q + 1) * 6 + 1, none⟩ = some (.int .u8 (x.1.it.kind : Int)) ∧ w'.cell? ⟨g, (a + q + 1) * 6 + 2, none⟩ = some (.int .i64 x.1.it.mode) ∧ w'.cell? ⟨g, (a + q + 1) * 6 + 3, none⟩ = some (.int .i64 x.1.it.time) ∧ w'.cell? ⟨g, (a + q + 1) * 6 + 4, none⟩ = some (.slice x.1.ad x.1.it.body.length x.1.cp) ∧ w'.cell? ⟨g, (a + q + 1) * 6 + 5, none⟩ = some (.string (Nm.S x.1.it.to)) ∧ w'.cell? ⟨g, (a + q) * 6, none⟩ = some (.string (Nm.S z.1.it.path)) ∧ w'.cell? ⟨g, (a + q) * 6 + 1, none⟩ = some (.int .u8 (z.1.it.kind : Int)) ∧ w'.cell? ⟨g, (a + q) * 6 + 2, none⟩ = some (.int .i64 z.1.it.mode) ∧ w'.cell? ⟨g, (a + q) * 6 + 3, none⟩ = some (.int .i64 z.1.it.time) ∧ w'.cell? ⟨g, (a + q) * 6 + 4, none⟩ = some (.slice z.1.ad z.1.it.body.length z.1.cp) ∧ w'.cell? ⟨g, (a + q) * 6 + 5, none⟩ = some (.string (Nm.S z.1.it.to)) ∧ Bw wr w')
              (first | exact ⟨a0, a1, a2, a3, a4, a5, b0, b1, b2, b3, b4, b5, Below.drew (Bw.refl _)⟩ | assumption | exact keep_twelve (by assumption) (by assumption))
              (first | (go_at_call 42; refine (HC.out _).mono ?_; rintro e wz ⟨rfl, hwz⟩))
            rename_i hSe
            have hw1 := hSe.2.2.2.2.2.2.2.2.2.2.2.2
            clear hSe
            go_wp2_with fail
            replace a0 := keep_cell11 a0 hw1
            replace a1 := keep_cell11 a1 hw1
            replace a2 := keep_cell11 a2 hw1
            replace a3 := keep_cell11 a3 hw1
            replace a4 := keep_cell11 a4 hw1
            replace a5 := keep_cell11 a5 hw1
            replace b0 := keep_cell11 b0 hw1
            replace b1 := keep_cell11 b1 hw1
            replace b2 := keep_cell11 b2 hw1
            replace b3 := keep_cell11 b3 hw1
            replace b4 := keep_cell11 b4 hw1
            replace b5 := keep_cell11 b5 hw1
            have HS2 : Hid (Sw w0 H g n c (un (A ++ (Z0 ++ (x :: ((z :: Z2) ++ R))))) (putIt (putIt wz g ((a + q + 1) * 6) z.1) g ((a + q) * 6) x.1).drew) := by
              have h2 := ((HS1.out.keep hw1).swapU (i := a + q) (j := a + q + 1) L1.out.symm (by rw [L1.out]; rfl)).drew
              show Sw _ _ _ _ _ _ _
              have e2 : (A ++ Z0) ++ x :: ([] ++ z :: (Z2 ++ R)) = A ++ (Z0 ++ (x :: ((z :: Z2) ++ R))) := by simp
              rw [← e2]; exact h2
            have hfr := (HS1.out.keep hw1).free
            clear OUT HS1
            go_region
            change Exit.inBlock 3 _ _ _ (putIt (putIt wz g ((a + q + 1) * 6) z.1) g ((a + q) * 6) x.1).drew
            clear a0 a1 a2 a3 a4 a5 b0 b1 b2 b3 b4 b5 hfr
            generalize (putIt (putIt wz g ((a + q + 1) * 6) z.1) g ((a + q) * 6) x.1).drew = wv at HS2 ⊢
            go_wp2
            go_roundw
            case rel =>
              refine ⟨Z0, z :: Z2, by rw [HJ.out, hq.out]; go_num, by rw [hq.out]; omega, ?_, ?_, HS2.out⟩
              · show _ = _; rw [← hz12.out]; simp
              · intro y hy
                rcases List.mem_cons.1 hy with e | e
                · rw [e]; exact .inl (by rw [hcv.out]; exact hlv)
                · exact hz2.out y e
            case measure => simp [intOf]; omega
          · obtain ⟨k', Z', o1, o2, o3, o4, o5, o6, o7⟩ := OUT.out (Ss.st_last Tr.cmpI_ok (by
              have h := hSt.out
              rw [← hz12.out] at h
              exact (Ss.st_append.1 h).1) (Ss.r_of_not Tr.cmpI_ok (x := z) (y := x) (by rw [hcv.out]; exact hlv) (HZP.out z (by rw [← hz12.out]; simp))))
            have HS3 : Hid (Sw w0 H g n c (un (A ++ (Z' ++ (X.drop k' ++ B)))) wr) := by
              show Sw _ _ _ _ _ _ _
              have e2 : (A ++ Z0) ++ z :: ([] ++ x :: (Z2 ++ R)) = A ++ ((Z0 ++ [z]) ++ x :: (Z2 ++ R)) := by simp
              rw [o7, ← e2]; exact HS1.out
            clear OUT HS1 o7
            go_wp2_with fail
            go_region_held3 (fun w' => w'.cell? ⟨g, (a + q + 1) * 6, none⟩ = some (.string (Nm.S x.1.it.path)) ∧ w'.cell? ⟨g, (a + q + 1) * 6 + 1, none⟩ = some (.int .u8 (x.1.it.kind : Int)) ∧ w'.cell? ⟨g, (a + q + 1) * 6 + 2, none⟩ = some (.int .i64 x.1.it.mode) ∧ w'.cell? ⟨g, (a + q + 1) * 6 + 3, none⟩ = some (.int .i64 x.1.it.time) ∧ w'.cell? ⟨g, (a + q + 1) * 6 + 4, none⟩ = some (.slice x.1.ad x.1.it.body.length x.1.cp) ∧ w'.cell? ⟨g, (a + q + 1) * 6 + 5, none⟩ = some (.string (Nm.S x.1.it.to)) ∧ w'.cell? ⟨g, (a + q) * 6, none⟩ = some (.string (Nm.S z.1.it.path)) ∧ w'.cell? ⟨g, (a + q) * 6 + 1, none⟩ = some (.int .u8 (z.1.it.kind : Int)) ∧ w'.cell? ⟨g, (a + q) * 6 + 2, none⟩ = some (.int .i64 z.1.it.mode) ∧ w'.cell? ⟨g, (a + q) * 6 + 3, none⟩ = some (.int .i64 z.1.it.time) ∧ w'.cell? ⟨g, (a + q) * 6 + 4, none⟩ = some (.slice z.1.ad z.1.it.body.length z.1.cp) ∧ w'.cell? ⟨g, (a + q) * 6 + 5, none⟩ = some (.string (Nm.S z.1.it.to)) ∧ Bw wr w')
              (first | exact ⟨a0, a1, a2, a3, a4, a5, b0, b1, b2, b3, b4, b5, Below.drew (Bw.refl _)⟩ | assumption | exact keep_twelve (by assumption) (by assumption))
              (first | (go_at_call 42; refine (HC.out _).mono ?_; rintro e wz ⟨rfl, hwz⟩))
            rename_i hSe
            have hw1 := hSe.2.2.2.2.2.2.2.2.2.2.2.2
            clear hSe
            go_wp2
            go_roundw
            case rel => exact ⟨k', Z', o1, o2, o3, o5, o6, HS3.out.keep hw1⟩
            case measure => simp [intOf]; omega
    · have hltz : ¬ (a : Int) + (k : Int) < (a : Int) + (m : Int) := by omega
      have HD : Hid (X.drop k = [] ∧ X.take k = X) := ⟨List.drop_eq_nil_of_le (by rw [hX.out]; omega), List.take_of_length_le (by rw [hX.out]; omega)⟩
      go_wp2
      go_end0
      refine ⟨rfl, Z, ?_, hSt.out, ?_⟩
      · have := hZ.out; rwa [HD.out.2] at this
      · have h := hsw.out
        rw [HD.out.1] at h
        exact h
end Go.Proofs.Ytjifdoneejofiaa
