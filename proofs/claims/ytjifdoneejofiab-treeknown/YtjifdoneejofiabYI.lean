/- slices.SortStableFunc at items, as landed at 97b3c5cd: merging with one alone (written by mkyh.py). -/
import Derived.Test.YtjifdoneejofiabYG
namespace Go.Proofs.Ytjifdoneejofiab
open Go.RowKit Go.Deep
set_option linter.unusedVariables false
set_option linter.unusedSimpArgs false

theorem keep_twelve {w1 w w' : World} {a0 a1 a2 a3 a4 a5 a6 a7 a8 a9 a10 a11 : Addr} {v0 v1 v2 v3 v4 v5 v6 v7 v8 v9 v10 v11 : Value} (h : w.cell? a0 = some v0 ∧ w.cell? a1 = some v1 ∧ w.cell? a2 = some v2 ∧ w.cell? a3 = some v3 ∧ w.cell? a4 = some v4 ∧ w.cell? a5 = some v5 ∧ w.cell? a6 = some v6 ∧ w.cell? a7 = some v7 ∧ w.cell? a8 = some v8 ∧ w.cell? a9 = some v9 ∧ w.cell? a10 = some v10 ∧ w.cell? a11 = some v11 ∧ Bw w1 w) (k : Bw w w') : w'.cell? a0 = some v0 ∧ w'.cell? a1 = some v1 ∧ w'.cell? a2 = some v2 ∧ w'.cell? a3 = some v3 ∧ w'.cell? a4 = some v4 ∧ w'.cell? a5 = some v5 ∧ w'.cell? a6 = some v6 ∧ w'.cell? a7 = some v7 ∧ w'.cell? a8 = some v8 ∧ w'.cell? a9 = some v9 ∧ w'.cell? a10 = some v10 ∧ w'.cell? a11 = some v11 ∧ Bw w1 w' := by
  obtain ⟨h0, h1, h2, h3, h4, h5, h6, h7, h8, h9, h10, h11, h12⟩ := h
  exact ⟨keep_cell11 h0 k, keep_cell11 h1 k, keep_cell11 h2 k, keep_cell11 h3 k, keep_cell11 h4 k, keep_cell11 h5 k, keep_cell11 h6 k, keep_cell11 h7 k, keep_cell11 h8 k, keep_cell11 h9 k, keep_cell11 h10 k, keep_cell11 h11 k, h12.trans k⟩
set_option maxRecDepth 100000 in
theorem sort1_any (x y : Tr.Iv) (hx : Tr.Fit x.it) (hy : Tr.Fit y.it) (w : World) : Calls Try.prog 43 #[.agg x.arr, .agg y.arr] w fun e w' => e = .returned (.int .i64 (Tr.cmpI x y)) ∧ Bw w w' := by
  obtain ⟨V, hV⟩ : ∃ V, V = w.alloc (.cells x.arr 26) := ⟨_, rfl⟩
  obtain ⟨W, hW⟩ : ∃ W, W = V.alloc (.cells y.arr 26) := ⟨_, rfl⟩
  have hbv : Bw w V := by rw [hV]; exact bw_alloc11 (Bw.refl _) _
  have hbw : Bw V W := by rw [hW]; exact bw_alloc11 (Bw.refl _) _
  have hsz : V.heap.size = w.heap.size + 1 := by rw [hV]; simp
  have hX : BoxAt W w.heap.size x := BoxAt.keep (by rw [hV]; exact BoxAt.new _ _) hbw
  have hY : BoxAt W (w.heap.size + 1) y := by rw [← hsz, hW]; exact BoxAt.new _ _
  obtain ⟨x0, -, -, -, -, -⟩ := hX.cells
  obtain ⟨y0, -, -, -, -, -⟩ := hY.cells
  have HF : Hid (∀ u, Calls Try.prog 28 #[.string (Nm.S x.it.path), .string (Nm.S y.it.path)] u fun e w' => e = .returned (.int .i64 (Tr.cmpI x y)) ∧ Bw u w') := fun u => ncompareL x.it.path y.it.path (by have := hx.path; omega) (by have := hy.path; omega) u
  clear hX hY hsz
  rw [hV] at hW
  generalize Tr.cmpI x y = r at HF ⊢
  go_enter Try.func43, Try.ntmps43
  go_upto_region 1 with fail
  rw [← hW]
  clear hW hV
  go_wp2_with (go_at_call 28; refine (HF.out _).mono ?_; rintro e w1 ⟨rfl, hw1⟩)
  go_ret
  exact ⟨rfl, (hbv.trans hbw).trans hw1⟩
abbrev Tg := Tr.Iv × Nat
def un (T : List Tg) : List Tr.Iv := T.map (·.1)
/-- all items are what a machine's are -/
def Fits (T : List Tg) : Prop := ∀ x ∈ T, Tr.Fit x.1.it
theorem Fits.perm {A Z X B : List Tg} (h : Fits (A ++ (X ++ B))) (p : Z.Perm X) : Fits (A ++ (Z ++ B)) := by
  intro x hx
  simp only [List.mem_append] at hx
  rw [p.mem_iff] at hx
  exact h x (by simp only [List.mem_append]; exact hx)
theorem un_at (A B : List Tg) (x : Tg) : (un (A ++ x :: B))[A.length]? = some x.1 := by
  unfold un; rw [List.getElem?_map, Tr.get_at]; rfl
theorem un_len (T : List Tg) : (un T).length = T.length := by unfold un; rw [List.length_map]
theorem Sw.swapT {w0 : World} {H g n c : Nat} {A C B : List Tg} {x y : Tg} {W : World} (h : Sw w0 H g n c (un (A ++ x :: (C ++ y :: B))) W) {i j : Nat} (hi : i = A.length) (hj : j = A.length + 1 + C.length) : Sw w0 H g n c (un (A ++ y :: (C ++ x :: B))) (putIt (putIt W g (i * 6) y.1) g (j * 6) x.1) := by
  simp only [un, List.map_append, List.map_cons] at h ⊢
  exact h.swap (by rw [List.length_map]; exact hi) (by rw [List.length_map, List.length_map]; exact hj)
theorem Sw.swapU {w0 : World} {H g n c : Nat} {A C B : List Tg} {x y : Tg} {W : World} (h : Sw w0 H g n c (un (A ++ x :: (C ++ y :: B))) W) {i j : Nat} (hi : i = A.length) (hj : j = A.length + 1 + C.length) : Sw w0 H g n c (un (A ++ y :: (C ++ x :: B))) (putIt (putIt W g (j * 6) x.1) g (i * 6) y.1) := by
  simp only [un, List.map_append, List.map_cons] at h ⊢
  exact h.swap' (by rw [List.length_map]; exact hi) (by rw [List.length_map, List.length_map]; exact hj)
abbrev cfv : Value := .func (.func 43) #[] #[]
set_option maxRecDepth 100000 in
set_option maxHeartbeats 4000000 in
theorem insert_any (w0 : World) (H g n c : Nat) (A X B : List Tg) (xa xb : Int) (w : World) (hs : Sw w0 H g n c (un (A ++ (X ++ B))) w) (hf : Fits (A ++ (X ++ B))) (hn : n ≤ 2199023255552) (hr : X.Pairwise fun x y => x.2 < y.2) (ha : xa = A.length) (hb : xb = (A.length : Int) + X.length) :
    Calls Try.prog 73 #[.slice (some ⟨g, 0, none⟩) n c, .int .i64 xa, .int .i64 xb, cfv] w fun e w' => e = .returned (.tuple #[]) ∧ ∃ Z : List Tg, Z.Perm X ∧ Ss.St Tr.cmpI Z ∧ Sw w0 H g n c (un (A ++ (Z ++ B))) w' := by
  have hlen := hs.len
  rw [un_len] at hlen
  simp only [List.length_append] at hlen
  obtain ⟨a, hA⟩ : ∃ a, Hid (A.length = a) := ⟨_, rfl⟩
  obtain ⟨m, hX⟩ : ∃ m, Hid (X.length = m) := ⟨_, rfl⟩
  rw [hA.out] at ha hb hlen
  rw [hX.out] at hb hlen
  subst ha hb
  have ham : a + m ≤ n := by omega
  have HS : Hid (Sw w0 H g n c (un (A ++ (X ++ B))) w) := hs
  have HF : Hid (Fits (A ++ (X ++ B))) := hf
  have HR : Hid (X.Pairwise fun x y => x.2 < y.2) := hr
  clear hs hf hr hlen
  go_enter Try.func73, Try.ntmps73
  go_wp2
  go_loopw [8] (fun s8 wr => ∃ (k : Nat) (Z : List Tg), s8 = .int .i64 ((a : Int) + (k : Int)) ∧ 1 ≤ k ∧ (k ≤ m ∨ k = 1) ∧ Hid (Z.Perm (X.take k)) ∧ Hid (Ss.St Tr.cmpI Z) ∧ Hid (Sw w0 H g n c (un (A ++ (Z ++ (X.drop k ++ B)))) wr)) (fun s8 _ => n + 2 - (intOf s8).toNat)
  case atStart =>
    refine ⟨1, X.take 1, by go_num, Nat.le_refl _, .inr rfl, List.Perm.refl _, ?_, ?_⟩
    · show List.Pairwise _ _
      cases X with
      | nil => exact List.Pairwise.nil
      | cons x X => exact List.pairwise_singleton _ _
    · show Sw _ _ _ _ _ _ _
      rw [Tr.cut_join]; exact HS.out
  case round =>
    obtain ⟨k, Z, rfl, hk1, hk2, hZ, hSt, hsw⟩ := hrel
    by_cases hlt : k < m
    · have hltz : (a : Int) + (k : Int) < (a : Int) + (m : Int) := by omega
      obtain ⟨x, hx⟩ : ∃ x, Hid (X.drop k = x :: X.drop (k + 1)) := ⟨_, List.drop_eq_getElem_cons (by rw [hX.out]; exact hlt)⟩
      obtain ⟨R, hR⟩ : ∃ R, Hid (X.drop (k + 1) ++ B = R) := ⟨_, rfl⟩
      have HZl : Hid (Z.length = k) := by show _ = _; rw [hZ.out.length_eq, List.length_take, hX.out]; omega
      have HZP : Hid (∀ z ∈ Z, z.2 < x.2) := fun z hz => by
        have h1 := hZ.out.mem_iff.1 hz
        have h2 := HR.out
        rw [← List.take_append_drop k X, hx.out] at h2
        exact (List.pairwise_append.1 h2).2.2 z h1 x (List.mem_cons_self ..)
      have HFZ : Hid (Tr.Fit x.1.it ∧ ∀ z ∈ Z, Tr.Fit z.1.it) := by
        have hX2 := List.take_append_drop k X
        rw [hx.out] at hX2
        refine ⟨HF.out x ?_, fun z hz => HF.out z ?_⟩
        · rw [← hX2]; simp
        · have := hZ.out.mem_iff.1 hz
          rw [← hX2]; simp [this]
      have HS0 : Hid (Sw w0 H g n c (un (A ++ (Z ++ (x :: ([] ++ R))))) wr) := by
        have h := hsw.out
        rw [hx.out, List.cons_append, hR.out] at h
        exact h
      clear hsw
      rename World => wo
      go_wp2
      go_loopw [9] (fun s9 wr => ∃ (Z1 Z2 : List Tg), s9 = .int .i64 ((a : Int) + (Z1.length : Int)) ∧ Z1.length ≤ k ∧ Hid (Z1 ++ Z2 = Z) ∧ Hid (∀ z ∈ Z2, Ss.r Tr.cmpI x z) ∧ Hid (Sw w0 H g n c (un (A ++ (Z1 ++ (x :: (Z2 ++ R))))) wr)) (fun s9 _ => (intOf s9).toNat)
      case atStart => exact ⟨Z, [], by rw [HZl.out], by rw [HZl.out]; exact Nat.le_refl _, (by show _ = _; simp), (fun z hz => by simp at hz), HS0.out⟩
      case round =>
        obtain ⟨Z1, Z2, rfl, hz1, hz12, hz2, hsw⟩ := hrel
        have OUT : Hid ((∀ z ∈ Z1, Ss.r Tr.cmpI z x) → ∃ (k' : Nat) (Z' : List Tg), Value.int .i64 ((a : Int) + (k : Int) + 1) = .int .i64 ((a : Int) + (k' : Int)) ∧ 1 ≤ k' ∧ (k' ≤ m ∨ k' = 1) ∧ k' = k + 1 ∧ Hid (Z'.Perm (X.take k')) ∧ Hid (Ss.St Tr.cmpI Z') ∧ un (A ++ (Z' ++ (X.drop k' ++ B))) = un (A ++ (Z1 ++ (x :: (Z2 ++ R))))) := fun h1 => by
          refine ⟨k + 1, Z1 ++ x :: Z2, by go_num, by omega, .inl (by omega), rfl, ?_, ?_, ?_⟩
          · show List.Perm _ _
            rw [Tr.take_next hx.out]
            refine List.perm_middle.trans ?_
            rw [hz12.out]
            exact (List.Perm.cons _ hZ.out).trans (List.perm_append_singleton _ _).symm
          · exact Ss.st_insert Tr.cmpI_ok (by rw [hz12.out]; exact hSt.out) hz2.out h1
          · rw [hR.out]; simp
        rcases List.eq_nil_or_concat Z1 with e0 | ⟨Z0, z, e0⟩
        · subst e0
          have hja : ¬ (a : Int) < (a : Int) + ((([] : List Tg).length : Nat) : Int) := by simp
          have ez : ((([] : List Tg).length : Nat) : Int) = 0 := rfl
          obtain ⟨k', Z', o1, o2, o3, o4, o5, o6, o7⟩ := OUT.out (fun z hz => by simp at hz)
          have HS3 : Hid (Sw w0 H g n c (un (A ++ (Z' ++ (X.drop k' ++ B)))) wr) := by show Sw _ _ _ _ _ _ _; rw [o7]; exact hsw.out
          clear OUT hsw o7
          rw [ez, Int.add_zero] at *
          have hjb : ¬ (a : Int) < (a : Int) := by omega
          go_wp2_with fail
          go_quiet (fail)
          go_wp2
          go_roundw
          case rel => exact ⟨k', Z', o1, o2, o3, o5, o6, HS3.out.keep (Bw.drewN _ _)⟩
          case measure => simp [intOf]; omega
        · subst e0
          rw [List.concat_eq_append] at *
          have hZ0 : (Z0 ++ [z]).length = Z0.length + 1 := by simp
          rw [hZ0] at hz1 ⊢
          obtain ⟨q, hq⟩ : ∃ q, Hid (Z0.length = q) := ⟨_, rfl⟩
          rw [hq.out] at hz1 ⊢
          have hs1 := hsw.out
          have e1 : A ++ ((Z0 ++ [z]) ++ (x :: (Z2 ++ R))) = (A ++ Z0) ++ z :: ([] ++ x :: (Z2 ++ R)) := by simp
          rw [e1] at hs1
          have l1 : (A ++ Z0).length = a + q := by rw [List.length_append, hA.out, hq.out]
          have hzI := hs1.at (i := a + q) (y := z.1) (by rw [← l1]; exact un_at _ _ _)
          have hxI := hs1.at (i := a + q + 1) (y := x.1) (by
            have := un_at ((A ++ Z0) ++ [z]) (Z2 ++ R) x
            rw [show ((A ++ Z0) ++ [z]).length = a + q + 1 by rw [List.length_append, l1]; rfl] at this
            rw [← this]; simp)
          obtain ⟨a0, a1, a2, a3, a4, a5⟩ := hxI
          obtain ⟨b0, b1, b2, b3, b4, b5⟩ := hzI
          have HS1 : Hid (Sw w0 H g n c (un ((A ++ Z0) ++ z :: ([] ++ x :: (Z2 ++ R)))) wr) := hs1
          have L1 : Hid ((A ++ Z0).length = a + q) := l1
          clear hs1 l1 e1 hsw hZ0
          have HC : Hid (∀ u, Calls Try.prog 43 #[.agg x.1.arr, .agg z.1.arr] u fun e w' => e = .returned (.int .i64 (Tr.cmpI x.1 z.1)) ∧ Bw u w') := fun u => sort1_any x.1 z.1 HFZ.out.1 (HFZ.out.2 z (by rw [← hz12.out]; simp)) u
          obtain ⟨cv, hcv⟩ : ∃ r, Hid (Tr.cmpI x.1 z.1 = r) := ⟨_, rfl⟩
          rw [hcv.out] at HC
          have j0 : (a : Int) < (a : Int) + ((q + 1 : Nat) : Int) := by omega
          have j1 : (a : Int) + ((q + 1 : Nat) : Int) < (n : Int) := by omega
          have j2 : (0 : Int) ≤ (a : Int) + ((q + 1 : Nat) : Int) := by omega
          have j3 : ((a : Int) + ((q + 1 : Nat) : Int)).toNat = a + q + 1 := by omega
          have j4 : IntKind.i64.wrap ((a : Int) + ((q + 1 : Nat) : Int) - 1) = (a : Int) + ((q + 1 : Nat) : Int) - 1 := by rw [IntKind.wrap_i64]; omega
          have j9 : (1 : Int) ≤ (a : Int) + ((q + 1 : Nat) : Int) := by omega
          have j8 : ((a : Int) + ((q + 1 : Nat) : Int) - 1).toNat = a + q := by omega
          have j6 : (0 : Int) ≤ (a : Int) + ((q + 1 : Nat) : Int) - 1 := by omega
          have j7 : (a : Int) + ((q + 1 : Nat) : Int) - 1 < (n : Int) := by omega
          obtain ⟨jj, hjj⟩ : ∃ jj : Int, jj = (a : Int) + ((q + 1 : Nat) : Int) := ⟨_, rfl⟩
          rw [← hjj] at j0 j1 j2 j3 j4 j6 j7 j8 j9 ⊢
          have j5 : IntKind.i64.wrap jj = jj := by rw [IntKind.wrap_i64]; omega
          have HJ : Hid (jj = (a : Int) + ((q + 1 : Nat) : Int)) := hjj
          clear hjj
          by_cases hlv : cv < 0
          · go_wp2_with fail
            go_region_held3 (fun w' => w'.cell? ⟨g, (a + q + 1) * 6, none⟩ = some (.string (Nm.S x.1.it.path)) ∧ w'.cell? ⟨g, (a + q + 1) * 6 + 1, none⟩ = some (.int .u8 (x.1.it.kind : Int)) ∧ w'.cell? ⟨g, (a + q + 1) * 6 + 2, none⟩ = some (.int .i64 x.1.it.mode) ∧ w'.cell? ⟨g, (a + q + 1) * 6 + 3, none⟩ = some (.int .i64 x.1.it.time) ∧ w'.cell? ⟨g, (a + q + 1) * 6 + 4, none⟩ = some (.slice x.1.ad x.1.it.body.length x.1.cp) ∧ w'.cell? ⟨g, (a + q + 1) * 6 + 5, none⟩ = some (.string (Nm.S x.1.it.to)) ∧ w'.cell? ⟨g, (a + q) * 6, none⟩ = some (.string (Nm.S z.1.it.path)) ∧ w'.cell? ⟨g, (a + q) * 6 + 1, none⟩ = some (.int .u8 (z.1.it.kind : Int)) ∧ w'.cell? ⟨g, (a + q) * 6 + 2, none⟩ = some (.int .i64 z.1.it.mode) ∧ w'.cell? ⟨g, (a + q) * 6 + 3, none⟩ = some (.int .i64 z.1.it.time) ∧ w'.cell? ⟨g, (a + q) * 6 + 4, none⟩ = some (.slice z.1.ad z.1.it.body.length z.1.cp) ∧ w'.cell? ⟨g, (a + q) * 6 + 5, none⟩ = some (.string (Nm.S z.1.it.to)) ∧ Bw wr w')
              (first | exact ⟨a0, a1, a2, a3, a4, a5, b0, b1, b2, b3, b4, b5, Below.drew (Bw.refl _)⟩ | assumption | exact keep_twelve (by assumption) (by assumption))
              (first | (go_at_call 43; refine (HC.out _).mono ?_; rintro e wz ⟨rfl, hwz⟩))
            rename_i hSe
            have hw1 := hSe.2.2.2.2.2.2.2.2.2.2.2.2
            clear hSe
            go_wp2_with fail
            replace a0 := keep_cell11 a0 hw1
            replace a1 := keep_cell11 a1 hw1
            replace a2 := keep_cell11 a2 hw1
            replace a3 := keep_cell11 a3 hw1
            replace a4 := keep_cell11 a4 hw1
            replace a5 := keep_cell11 a5 hw1
            replace b0 := keep_cell11 b0 hw1
            replace b1 := keep_cell11 b1 hw1
            replace b2 := keep_cell11 b2 hw1
            replace b3 := keep_cell11 b3 hw1
            replace b4 := keep_cell11 b4 hw1
            replace b5 := keep_cell11 b5 hw1
            have HS2 : Hid (Sw w0 H g n c (un (A ++ (Z0 ++ (x :: ((z :: Z2) ++ R))))) (putIt (putIt wz g ((a + q + 1) * 6) z.1) g ((a + q) * 6) x.1).drew) := by
              have h2 := ((HS1.out.keep hw1).swapU (i := a + q) (j := a + q + 1) L1.out.symm (by rw [L1.out]; rfl)).drew
              show Sw _ _ _ _ _ _ _
              have e2 : (A ++ Z0) ++ x :: ([] ++ z :: (Z2 ++ R)) = A ++ (Z0 ++ (x :: ((z :: Z2) ++ R))) := by simp
              rw [← e2]; exact h2
            have hfr := (HS1.out.keep hw1).free
            clear OUT HS1
            go_region
            change Exit.inBlock 3 _ _ _ (putIt (putIt wz g ((a + q + 1) * 6) z.1) g ((a + q) * 6) x.1).drew
            clear a0 a1 a2 a3 a4 a5 b0 b1 b2 b3 b4 b5 hfr
            generalize (putIt (putIt wz g ((a + q + 1) * 6) z.1) g ((a + q) * 6) x.1).drew = wv at HS2 ⊢
            go_wp2
            go_roundw
            case rel =>
              refine ⟨Z0, z :: Z2, by rw [HJ.out, hq.out]; go_num, by rw [hq.out]; omega, ?_, ?_, HS2.out⟩
              · show _ = _; rw [← hz12.out]; simp
              · intro y hy
                rcases List.mem_cons.1 hy with e | e
                · rw [e]; exact .inl (by rw [hcv.out]; exact hlv)
                · exact hz2.out y e
            case measure => simp [intOf]; omega
          · obtain ⟨k', Z', o1, o2, o3, o4, o5, o6, o7⟩ := OUT.out (Ss.st_last Tr.cmpI_ok (by
              have h := hSt.out
              rw [← hz12.out] at h
              exact (Ss.st_append.1 h).1) (Ss.r_of_not Tr.cmpI_ok (x := z) (y := x) (by rw [hcv.out]; exact hlv) (HZP.out z (by rw [← hz12.out]; simp))))
            have HS3 : Hid (Sw w0 H g n c (un (A ++ (Z' ++ (X.drop k' ++ B)))) wr) := by
              show Sw _ _ _ _ _ _ _
              have e2 : (A ++ Z0) ++ z :: ([] ++ x :: (Z2 ++ R)) = A ++ ((Z0 ++ [z]) ++ x :: (Z2 ++ R)) := by simp
              rw [o7, ← e2]; exact HS1.out
            clear OUT HS1 o7
            go_wp2_with fail
            go_region_held3 (fun w' => w'.cell? ⟨g, (a + q + 1) * 6, none⟩ = some (.string (Nm.S x.1.it.path)) ∧ w'.cell? ⟨g, (a + q + 1) * 6 + 1, none⟩ = some (.int .u8 (x.1.it.kind : Int)) ∧ w'.cell? ⟨g, (a + q + 1) * 6 + 2, none⟩ = some (.int .i64 x.1.it.mode) ∧ w'.cell? ⟨g, (a + q + 1) * 6 + 3, none⟩ = some (.int .i64 x.1.it.time) ∧ w'.cell? ⟨g, (a + q + 1) * 6 + 4, none⟩ = some (.slice x.1.ad x.1.it.body.length x.1.cp) ∧ w'.cell? ⟨g, (a + q + 1) * 6 + 5, none⟩ = some (.string (Nm.S x.1.it.to)) ∧ w'.cell? ⟨g, (a + q) * 6, none⟩ = some (.string (Nm.S z.1.it.path)) ∧ w'.cell? ⟨g, (a + q) * 6 + 1, none⟩ = some (.int .u8 (z.1.it.kind : Int)) ∧ w'.cell? ⟨g, (a + q) * 6 + 2, none⟩ = some (.int .i64 z.1.it.mode) ∧ w'.cell? ⟨g, (a + q) * 6 + 3, none⟩ = some (.int .i64 z.1.it.time) ∧ w'.cell? ⟨g, (a + q) * 6 + 4, none⟩ = some (.slice z.1.ad z.1.it.body.length z.1.cp) ∧ w'.cell? ⟨g, (a + q) * 6 + 5, none⟩ = some (.string (Nm.S z.1.it.to)) ∧ Bw wr w')
              (first | exact ⟨a0, a1, a2, a3, a4, a5, b0, b1, b2, b3, b4, b5, Below.drew (Bw.refl _)⟩ | assumption | exact keep_twelve (by assumption) (by assumption))
              (first | (go_at_call 43; refine (HC.out _).mono ?_; rintro e wz ⟨rfl, hwz⟩))
            rename_i hSe
            have hw1 := hSe.2.2.2.2.2.2.2.2.2.2.2.2
            clear hSe
            go_wp2
            go_roundw
            case rel => exact ⟨k', Z', o1, o2, o3, o5, o6, HS3.out.keep hw1⟩
            case measure => simp [intOf]; omega
    · have hltz : ¬ (a : Int) + (k : Int) < (a : Int) + (m : Int) := by omega
      have HD : Hid (X.drop k = [] ∧ X.take k = X) := ⟨List.drop_eq_nil_of_le (by rw [hX.out]; omega), List.take_of_length_le (by rw [hX.out]; omega)⟩
      go_wp2
      go_end0
      refine ⟨rfl, Z, ?_, hSt.out, ?_⟩
      · have := hZ.out; rwa [HD.out.2] at this
      · have h := hsw.out
        rw [HD.out.1] at h
        exact h
end Go.Proofs.Ytjifdoneejofiab
namespace Go.Proofs.Ytjifdoneejofiab
open Go.RowKit Go.Deep
set_option linter.unusedVariables false
set_option linter.unusedSimpArgs false

attribute [local go_sem] List.getElem?_cons_zero Option.getD_some
theorem un_get {T : List Tg} {i : Nat} {x : Tg} (h : T[i]? = some x) : (un T)[i]? = some x.1 := by
  unfold un; rw [List.getElem?_map, h]; rfl
theorem get_mid {α : Type} {A X B : List α} {i : Nat} {x : α} (h : X[i]? = some x) : (A ++ (X ++ B))[A.length + i]? = some x := by
  have hi := (List.getElem?_eq_some_iff.1 h).1
  rw [List.getElem?_append_right (by omega), Nat.add_sub_cancel_left, List.getElem?_append_left hi]
  exact h
theorem get_fa {α : Type} {A X Y B : List α} {i : Nat} {x : α} (h : Y[i]? = some x) : (A ++ (X ++ (Y ++ B)))[A.length + X.length + i]? = some x := by
  have := get_mid (A := A ++ X) (B := B) h
  rw [List.length_append, List.append_assoc] at this
  exact this
set_option maxRecDepth 100000 in
set_option maxHeartbeats 8000000 in
theorem sym_one (w0 : World) (H g n c : Nat) (A X Y B : List Tg) (xa xm xb : Int) (w : World) (hs : Sw w0 H g n c (un (A ++ (X ++ (Y ++ B)))) w) (hf : Fits (A ++ (X ++ (Y ++ B)))) (hn : n ≤ 2199023255552) (hSX : Ss.St Tr.cmpI X) (hSY : Ss.St Tr.cmpI Y) (hAh : Ss.Ahead X Y) (ha : xa = A.length) (hm : xm = (A.length : Int) + X.length) (hb : xb = (A.length : Int) + X.length + Y.length) (h1 : X.length = 1) (h2 : 0 < Y.length) :
    Calls Try.prog 74 #[.slice (some ⟨g, 0, none⟩) n c, .int .i64 xa, .int .i64 xm, .int .i64 xb, cfv] w fun e w' => e = .returned (.tuple #[]) ∧ ∃ Z : List Tg, Z.Perm (X ++ Y) ∧ Ss.St Tr.cmpI Z ∧ Sw w0 H g n c (un (A ++ (Z ++ B))) w' := by
  obtain ⟨x, rfl⟩ : ∃ x, X = [x] := List.length_eq_one_iff.1 h1
  have hlen := hs.len
  rw [un_len] at hlen
  simp only [List.length_append, List.length_singleton] at hlen
  obtain ⟨a, hA⟩ : ∃ a, Hid (A.length = a) := ⟨_, rfl⟩
  obtain ⟨v, hY⟩ : ∃ v, Hid (Y.length = v) := ⟨_, rfl⟩
  rw [hA.out] at ha hm hb hlen
  rw [hY.out] at hb hlen h2
  simp only [List.length_singleton] at hm hb
  obtain ⟨m, hmm⟩ : ∃ m, Hid (a + 1 = m) := ⟨_, rfl⟩
  have hm1 : a + 1 ≤ m ∧ m ≤ a + 1 := by have := hmm.out; omega
  obtain ⟨hm1, hm2⟩ := hm1
  have hm' : xm = (m : Int) := by omega
  have hb' : xb = (m : Int) + (v : Int) := by omega
  clear hm hb
  subst hm' hb' ha
  have hmn : m + v ≤ n := by omega
  have HFx : Hid (Tr.Fit x.1.it ∧ ∀ y ∈ Y, Tr.Fit y.1.it) := ⟨hf x (by simp), fun y hy => hf y (by simp [hy])⟩
  have HS : Hid (Sw w0 H g n c (un (A ++ ([x] ++ (Y ++ B)))) w) := hs
  have HSY : Hid (Ss.St Tr.cmpI Y) := hSY
  have HAh : Hid (∀ y ∈ Y, x.2 < y.2) := fun y hy => hAh x (by simp) y hy
  clear hs hf hSX hSY hAh hlen h1
  have e1 : (m : Int) - (a : Int) = 1 := by omega
  go_enter Try.func74, Try.ntmps74
  go_wp2
  clear e1
  go_loopw [10, 11] (fun s10 s11 wr => ∃ (i j : Nat), s10 = .int .i64 ((m : Int) + (i : Int)) ∧ s11 = .int .i64 ((m : Int) + (j : Int)) ∧ i ≤ j ∧ j ≤ v ∧ Hid (∀ y ∈ Y.take i, Ss.r Tr.cmpI y x) ∧ Hid (∀ y ∈ Y.drop j, Ss.r Tr.cmpI x y) ∧ Hid (Sw w0 H g n c (un (A ++ ([x] ++ (Y ++ B)))) wr)) (fun s10 s11 _ => (intOf s11).toNat - (intOf s10).toNat)
  case atStart => exact ⟨0, v, by simp, rfl, Nat.zero_le _, Nat.le_refl _, (fun y hy => by simp at hy), (fun y hy => by rw [List.drop_eq_nil_of_le (by rw [hY.out]; exact Nat.le_refl _)] at hy; cases hy), HS.out⟩
  case round =>
    obtain ⟨i, j, rfl, rfl, hij, hjv, hlow, hhigh, hsw⟩ := hrel
    by_cases hlt : i < j
    · obtain ⟨q, hq⟩ : ∃ q, Hid ((i + j) / 2 = q) := ⟨_, rfl⟩
      have hq1 : i ≤ q ∧ q < j := by have := hq.out; omega
      obtain ⟨hq1, hq2⟩ := hq1
      obtain ⟨y, hy⟩ : ∃ y, Hid (Y[q]? = some y) := ⟨_, List.getElem?_eq_getElem (by rw [hY.out]; omega)⟩
      have hyI := hsw.out.at (i := m + q) (y := y.1) (un_get (by
        have := get_fa (A := A) (X := [x]) (B := B) hy.out
        rwa [hA.out, List.length_singleton, hmm.out] at this))
      have hxI := hsw.out.at (i := a) (y := x.1) (by rw [← hA.out]; exact un_at A (Y ++ B) x)
      obtain ⟨a0, a1, a2, a3, a4, a5⟩ := hyI
      obtain ⟨b0, b1, b2, b3, b4, b5⟩ := hxI
      have HC : Hid (∀ u, Calls Try.prog 43 #[.agg y.1.arr, .agg x.1.arr] u fun e w' => e = .returned (.int .i64 (Tr.cmpI y.1 x.1)) ∧ Bw u w') := fun u => sort1_any y.1 x.1 (HFx.out.2 y (List.mem_of_getElem? hy.out)) HFx.out.1 u
      obtain ⟨cv, hcv⟩ : ∃ r, Hid (Tr.cmpI y.1 x.1 = r) := ⟨_, rfl⟩
      rw [hcv.out] at HC
      have hdr : Y.drop q = y :: Y.drop (q + 1) := by
        obtain ⟨h1, h2⟩ := List.getElem?_eq_some_iff.1 hy.out
        rw [List.drop_eq_getElem_cons h1, h2]
      have HDR : Hid (Y.drop q = y :: Y.drop (q + 1)) := hdr
      have f1 : ((m : Int) + (i : Int) + ((m : Int) + (j : Int))) / 2 = (m : Int) + (q : Int) := by have := hq.out; omega
      have f2 : (m : Int) + (q : Int) < (n : Int) := by omega
      have f3 : (0 : Int) ≤ (m : Int) + (q : Int) := by omega
      have f4 : ((m : Int) + (q : Int)).toNat = m + q := by omega
      have f5 : (a : Int) < (n : Int) := by omega
      have f6 : (0 : Int) ≤ (a : Int) := Int.natCast_nonneg _
      have f7 : IntKind.i64.wrap ((m : Int) + (q : Int)) = (m : Int) + (q : Int) := by rw [IntKind.wrap_i64]; omega
      have hltz : (m : Int) + (i : Int) < (m : Int) + (j : Int) := by omega
      clear hdr
      by_cases hlv : cv < 0
      · have HLo : Hid (∀ z ∈ Y.take (q + 1), Ss.r Tr.cmpI z x) := by
          have h := HSY.out
          rw [← List.take_append_drop (q + 1) Y] at h
          have h := (Ss.st_append.1 h).1
          rw [Tr.take_next HDR.out] at h ⊢
          exact Ss.st_last Tr.cmpI_ok h (.inl (by rw [hcv.out]; exact hlv))
        go_upto_region 5 with fail
        go_region_held3 (fun w' => w'.cell? ⟨g, (m + q) * 6, none⟩ = some (.string (Nm.S y.1.it.path)) ∧ w'.cell? ⟨g, (m + q) * 6 + 1, none⟩ = some (.int .u8 (y.1.it.kind : Int)) ∧ w'.cell? ⟨g, (m + q) * 6 + 2, none⟩ = some (.int .i64 y.1.it.mode) ∧ w'.cell? ⟨g, (m + q) * 6 + 3, none⟩ = some (.int .i64 y.1.it.time) ∧ w'.cell? ⟨g, (m + q) * 6 + 4, none⟩ = some (.slice y.1.ad y.1.it.body.length y.1.cp) ∧ w'.cell? ⟨g, (m + q) * 6 + 5, none⟩ = some (.string (Nm.S y.1.it.to)) ∧ w'.cell? ⟨g, a * 6, none⟩ = some (.string (Nm.S x.1.it.path)) ∧ w'.cell? ⟨g, a * 6 + 1, none⟩ = some (.int .u8 (x.1.it.kind : Int)) ∧ w'.cell? ⟨g, a * 6 + 2, none⟩ = some (.int .i64 x.1.it.mode) ∧ w'.cell? ⟨g, a * 6 + 3, none⟩ = some (.int .i64 x.1.it.time) ∧ w'.cell? ⟨g, a * 6 + 4, none⟩ = some (.slice x.1.ad x.1.it.body.length x.1.cp) ∧ w'.cell? ⟨g, a * 6 + 5, none⟩ = some (.string (Nm.S x.1.it.to)) ∧ Bw wr w')
          (first | exact ⟨a0, a1, a2, a3, a4, a5, b0, b1, b2, b3, b4, b5, Below.drew (Bw.refl _)⟩ | assumption | exact keep_twelve (by assumption) (by assumption))
          (first | (go_at_call 43; refine (HC.out _).mono ?_; rintro e wz ⟨rfl, hwz⟩))
        rename_i hSe
        have hw1 := hSe.2.2.2.2.2.2.2.2.2.2.2.2
        clear hSe
        go_wp2
        go_roundw
        case rel => exact ⟨q + 1, j, by go_num, rfl, by omega, hjv, HLo.out, hhigh.out, hsw.out.keep hw1⟩
        case measure => simp [intOf]; omega
      · have HHi : Hid (∀ z ∈ Y.drop q, Ss.r Tr.cmpI x z) := by
          have h := HSY.out
          rw [← List.take_append_drop q Y] at h
          have h := (Ss.st_append.1 h).2.1
          rw [HDR.out] at h ⊢
          exact Ss.st_head Tr.cmpI_ok h (Ss.r_of_not Tr.cmpI_ok (by rw [hcv.out]; exact hlv) (HAh.out y (List.mem_of_getElem? hy.out)))
        go_upto_region 5 with fail
        go_region_held3 (fun w' => w'.cell? ⟨g, (m + q) * 6, none⟩ = some (.string (Nm.S y.1.it.path)) ∧ w'.cell? ⟨g, (m + q) * 6 + 1, none⟩ = some (.int .u8 (y.1.it.kind : Int)) ∧ w'.cell? ⟨g, (m + q) * 6 + 2, none⟩ = some (.int .i64 y.1.it.mode) ∧ w'.cell? ⟨g, (m + q) * 6 + 3, none⟩ = some (.int .i64 y.1.it.time) ∧ w'.cell? ⟨g, (m + q) * 6 + 4, none⟩ = some (.slice y.1.ad y.1.it.body.length y.1.cp) ∧ w'.cell? ⟨g, (m + q) * 6 + 5, none⟩ = some (.string (Nm.S y.1.it.to)) ∧ w'.cell? ⟨g, a * 6, none⟩ = some (.string (Nm.S x.1.it.path)) ∧ w'.cell? ⟨g, a * 6 + 1, none⟩ = some (.int .u8 (x.1.it.kind : Int)) ∧ w'.cell? ⟨g, a * 6 + 2, none⟩ = some (.int .i64 x.1.it.mode) ∧ w'.cell? ⟨g, a * 6 + 3, none⟩ = some (.int .i64 x.1.it.time) ∧ w'.cell? ⟨g, a * 6 + 4, none⟩ = some (.slice x.1.ad x.1.it.body.length x.1.cp) ∧ w'.cell? ⟨g, a * 6 + 5, none⟩ = some (.string (Nm.S x.1.it.to)) ∧ Bw wr w')
          (first | exact ⟨a0, a1, a2, a3, a4, a5, b0, b1, b2, b3, b4, b5, Below.drew (Bw.refl _)⟩ | assumption | exact keep_twelve (by assumption) (by assumption))
          (first | (go_at_call 43; refine (HC.out _).mono ?_; rintro e wz ⟨rfl, hwz⟩))
        rename_i hSe
        have hw1 := hSe.2.2.2.2.2.2.2.2.2.2.2.2
        clear hSe
        go_wp2
        go_roundw
        case rel => exact ⟨i, q, rfl, by go_num, by omega, by omega, hlow.out, HHi.out, hsw.out.keep hw1⟩
        case measure => simp [intOf]; omega
    · obtain rfl : j = i := by omega
      have hno : ¬ (m : Int) + (j : Int) < (m : Int) + (j : Int) := by omega
      rename World => wo
      go_wp2
      go_loopw [13] (fun s13 wr => ∃ (k : Nat), s13 = .int .i64 ((a : Int) + (k : Int)) ∧ k ≤ j ∧ Hid (Sw w0 H g n c (un (A ++ (Y.take k ++ (x :: (Y.drop k ++ B))))) wr)) (fun s13 _ => m + j - (intOf s13).toNat)
      case atStart => exact ⟨0, by simp, Nat.zero_le _, (by show Sw _ _ _ _ _ _ _; simpa using hsw.out)⟩
      case round =>
        obtain ⟨k, rfl, hkj, hsk⟩ := hrel
        by_cases hlt2 : k < j
        · have hltz : (a : Int) + (k : Int) < (m : Int) + (j : Int) - 1 := by omega
          obtain ⟨y, hy⟩ : ∃ y, Hid (Y.drop k = y :: Y.drop (k + 1)) := ⟨_, List.drop_eq_getElem_cons (by rw [hY.out]; omega)⟩
          have hs1 := hsk.out
          have e1 : A ++ (Y.take k ++ (x :: (Y.drop k ++ B))) = (A ++ Y.take k) ++ x :: ([] ++ y :: (Y.drop (k + 1) ++ B)) := by rw [hy.out]; simp
          rw [e1] at hs1
          have l1 : (A ++ Y.take k).length = a + k := by rw [List.length_append, List.length_take, hA.out, hY.out]; omega
          have hxI := hs1.at (i := a + k) (y := x.1) (by rw [← l1]; exact un_at _ _ _)
          have hyI := hs1.at (i := a + k + 1) (y := y.1) (by
            have := un_at ((A ++ Y.take k) ++ [x]) (Y.drop (k + 1) ++ B) y
            rw [show ((A ++ Y.take k) ++ [x]).length = a + k + 1 by rw [List.length_append, l1]; rfl] at this
            rw [← this]; simp)
          obtain ⟨a0, a1, a2, a3, a4, a5⟩ := hxI
          obtain ⟨b0, b1, b2, b3, b4, b5⟩ := hyI
          have hfr := hs1.free
          have HS2 : Hid (Sw w0 H g n c (un (A ++ (Y.take (k + 1) ++ (x :: (Y.drop (k + 1) ++ B))))) (putIt (putIt wr g ((a + k) * 6) y.1) g ((a + k + 1) * 6) x.1).drew) := by
            have h2 := (hs1.swapT (i := a + k) (j := a + k + 1) l1.symm (by rw [l1]; rfl)).drew
            show Sw _ _ _ _ _ _ _
            rw [Tr.take_next hy.out]
            have e2 : (A ++ Y.take k) ++ y :: ([] ++ x :: (Y.drop (k + 1) ++ B)) = A ++ ((Y.take k ++ [y]) ++ (x :: (Y.drop (k + 1) ++ B))) := by simp
            rw [← e2]; exact h2
          clear hs1 l1 e1 hsk
          have g1 : (a : Int) + (k : Int) < (n : Int) := by omega
          have g2 : (0 : Int) ≤ (a : Int) + (k : Int) := by omega
          have g3 : ((a : Int) + (k : Int)).toNat = a + k := by omega
          have g4 : (a : Int) + (k : Int) + 1 < (n : Int) := by omega
          have g5 : (0 : Int) ≤ (a : Int) + (k : Int) + 1 := by omega
          have g6 : ((a : Int) + (k : Int) + 1).toNat = a + k + 1 := by omega
          have g7 : IntKind.i64.wrap ((a : Int) + (k : Int) + 1) = (a : Int) + (k : Int) + 1 := by rw [IntKind.wrap_i64]; omega
          go_wp2_with fail
          go_region
          change Exit.inBlock 3 _ _ _ (putIt (putIt wr g ((a + k) * 6) y.1) g ((a + k + 1) * 6) x.1).drew
          clear a0 a1 a2 a3 a4 a5 b0 b1 b2 b3 b4 b5 hfr
          generalize (putIt (putIt wr g ((a + k) * 6) y.1) g ((a + k + 1) * 6) x.1).drew = wv at HS2 ⊢
          go_wp2
          go_roundw
          case rel => exact ⟨k + 1, by go_num, by omega, HS2.out⟩
          case measure => simp [intOf]; omega
        · obtain rfl : k = j := by omega
          have hltz : ¬ (a : Int) + (k : Int) < (m : Int) + (k : Int) - 1 := by omega
          have HE : Hid ((Y.take k ++ x :: Y.drop k).Perm (x :: Y) ∧ Ss.St Tr.cmpI (Y.take k ++ x :: Y.drop k) ∧ Sw w0 H g n c (un (A ++ ((Y.take k ++ x :: Y.drop k) ++ B))) wr) := by
            refine ⟨?_, Ss.st_insert Tr.cmpI_ok (by rw [List.take_append_drop]; exact HSY.out) hhigh.out hlow.out, ?_⟩
            · refine List.perm_middle.trans ?_
              rw [List.take_append_drop]
            · have h := hsk.out
              rw [List.append_assoc]; exact h
          clear hsk
          go_wp2
          (try simp only [Exit.inBlock, Exit.then]); refine bodyPost_ret (results_none rfl _ _ _) rfl ?_
          exact ⟨rfl, _, HE.out.1, HE.out.2.1, HE.out.2.2⟩
set_option maxRecDepth 100000 in
set_option maxHeartbeats 8000000 in
theorem sym_two (w0 : World) (H g n c : Nat) (A X Y B : List Tg) (xa xm xb : Int) (w : World) (hs : Sw w0 H g n c (un (A ++ (X ++ (Y ++ B)))) w) (hf : Fits (A ++ (X ++ (Y ++ B)))) (hn : n ≤ 2199023255552) (hSX : Ss.St Tr.cmpI X) (hSY : Ss.St Tr.cmpI Y) (hAh : Ss.Ahead X Y) (ha : xa = A.length) (hm : xm = (A.length : Int) + X.length) (hb : xb = (A.length : Int) + X.length + Y.length) (h1 : 1 < X.length) (h2 : Y.length = 1) :
    Calls Try.prog 74 #[.slice (some ⟨g, 0, none⟩) n c, .int .i64 xa, .int .i64 xm, .int .i64 xb, cfv] w fun e w' => e = .returned (.tuple #[]) ∧ ∃ Z : List Tg, Z.Perm (X ++ Y) ∧ Ss.St Tr.cmpI Z ∧ Sw w0 H g n c (un (A ++ (Z ++ B))) w' := by
  obtain ⟨y, rfl⟩ : ∃ y, Y = [y] := List.length_eq_one_iff.1 h2
  have hlen := hs.len
  rw [un_len] at hlen
  simp only [List.length_append, List.length_singleton] at hlen
  obtain ⟨a, hA⟩ : ∃ a, Hid (A.length = a) := ⟨_, rfl⟩
  obtain ⟨v, hX⟩ : ∃ v, Hid (X.length = v) := ⟨_, rfl⟩
  rw [hA.out] at ha hm hb hlen
  rw [hX.out] at hm hb hlen h1
  simp only [List.length_singleton] at hb
  obtain ⟨m, hmm⟩ : ∃ m, Hid (a + v = m) := ⟨_, rfl⟩
  have hm1 : a + v ≤ m ∧ m ≤ a + v := by have := hmm.out; omega
  obtain ⟨hm1, hm2⟩ := hm1
  have hm' : xm = (m : Int) := by omega
  have hb' : xb = (m : Int) + 1 := by omega
  clear hm hb
  subst hm' hb' ha
  have hmn : m + 1 ≤ n := by omega
  have HFx : Hid (Tr.Fit y.1.it ∧ ∀ x ∈ X, Tr.Fit x.1.it) := ⟨hf y (by simp), fun x hx => hf x (by simp [hx])⟩
  have HS : Hid (Sw w0 H g n c (un (A ++ (X ++ ([y] ++ B)))) w) := hs
  have HSX : Hid (Ss.St Tr.cmpI X) := hSX
  have HAh : Hid (∀ x ∈ X, x.2 < y.2) := fun x hx => hAh x hx y (by simp)
  clear hs hf hSX hSY hAh hlen h2
  have e1 : ((m : Int) - (a : Int) == 1) = false := by rw [beq_eq_false_iff_ne]; omega
  have e2 : (m : Int) + 1 - (m : Int) = 1 := by omega
  go_enter Try.func74, Try.ntmps74
  go_wp2
  clear e1 e2
  go_loopw [14, 15] (fun s14 s15 wr => ∃ (i j : Nat), s14 = .int .i64 ((a : Int) + (i : Int)) ∧ s15 = .int .i64 ((a : Int) + (j : Int)) ∧ i ≤ j ∧ j ≤ v ∧ Hid (∀ x ∈ X.take i, Ss.r Tr.cmpI x y) ∧ Hid (∀ x ∈ X.drop j, Ss.r Tr.cmpI y x) ∧ Hid (Sw w0 H g n c (un (A ++ (X ++ ([y] ++ B)))) wr)) (fun s14 s15 _ => (intOf s15).toNat - (intOf s14).toNat)
  case atStart => exact ⟨0, v, by simp, by have := hmm.out; congr 1; omega, Nat.zero_le _, Nat.le_refl _, (fun y hy => by simp at hy), (fun y hy => by rw [List.drop_eq_nil_of_le (by rw [hX.out]; exact Nat.le_refl _)] at hy; cases hy), HS.out⟩
  case round =>
    obtain ⟨i, j, rfl, rfl, hij, hjv, hlow, hhigh, hsw⟩ := hrel
    by_cases hlt : i < j
    · obtain ⟨q, hq⟩ : ∃ q, Hid ((i + j) / 2 = q) := ⟨_, rfl⟩
      have hq1 : i ≤ q ∧ q < j := by have := hq.out; omega
      obtain ⟨hq1, hq2⟩ := hq1
      obtain ⟨x, hx⟩ : ∃ x, Hid (X[q]? = some x) := ⟨_, List.getElem?_eq_getElem (by rw [hX.out]; omega)⟩
      have hxI := hsw.out.at (i := a + q) (y := x.1) (un_get (by
        have := get_mid (A := A) (B := [y] ++ B) hx.out
        rwa [hA.out] at this))
      have hyI := hsw.out.at (i := m) (y := y.1) (un_get (by
        have := get_fa (A := A) (X := X) (Y := [y]) (B := B) (i := 0) (x := y) rfl
        rwa [hA.out, hX.out, hmm.out, Nat.add_zero] at this))
      obtain ⟨a0, a1, a2, a3, a4, a5⟩ := hyI
      obtain ⟨b0, b1, b2, b3, b4, b5⟩ := hxI
      have HC : Hid (∀ u, Calls Try.prog 43 #[.agg y.1.arr, .agg x.1.arr] u fun e w' => e = .returned (.int .i64 (Tr.cmpI y.1 x.1)) ∧ Bw u w') := fun u => sort1_any y.1 x.1 HFx.out.1 (HFx.out.2 x (List.mem_of_getElem? hx.out)) u
      obtain ⟨cv, hcv⟩ : ∃ r, Hid (Tr.cmpI y.1 x.1 = r) := ⟨_, rfl⟩
      rw [hcv.out] at HC
      have HDR : Hid (X.drop q = x :: X.drop (q + 1)) := by
        obtain ⟨h1, h2⟩ := List.getElem?_eq_some_iff.1 hx.out
        show _ = _
        rw [List.drop_eq_getElem_cons h1, h2]
      have f1 : ((a : Int) + (i : Int) + ((a : Int) + (j : Int))) / 2 = (a : Int) + (q : Int) := by have := hq.out; omega
      have f2 : (a : Int) + (q : Int) < (n : Int) := by omega
      have f3 : (0 : Int) ≤ (a : Int) + (q : Int) := by omega
      have f4 : ((a : Int) + (q : Int)).toNat = a + q := by omega
      have f5 : (m : Int) < (n : Int) := by omega
      have f6 : (0 : Int) ≤ (m : Int) := Int.natCast_nonneg _
      have f7 : IntKind.i64.wrap ((a : Int) + (q : Int)) = (a : Int) + (q : Int) := by rw [IntKind.wrap_i64]; omega
      have hltz : (a : Int) + (i : Int) < (a : Int) + (j : Int) := by omega
      by_cases hlv : cv < 0
      · have hlv2 : (!decide (cv < 0)) = false := by rw [decide_eq_true hlv]; rfl
        have HHi : Hid (∀ z ∈ X.drop q, Ss.r Tr.cmpI y z) := by
          have h := HSX.out
          rw [← List.take_append_drop q X] at h
          have h := (Ss.st_append.1 h).2.1
          rw [HDR.out] at h ⊢
          exact Ss.st_head Tr.cmpI_ok h (.inl (by rw [hcv.out]; exact hlv))
        go_upto_region 17 with fail
        go_region_held3 (fun w' => w'.cell? ⟨g, m * 6, none⟩ = some (.string (Nm.S y.1.it.path)) ∧ w'.cell? ⟨g, m * 6 + 1, none⟩ = some (.int .u8 (y.1.it.kind : Int)) ∧ w'.cell? ⟨g, m * 6 + 2, none⟩ = some (.int .i64 y.1.it.mode) ∧ w'.cell? ⟨g, m * 6 + 3, none⟩ = some (.int .i64 y.1.it.time) ∧ w'.cell? ⟨g, m * 6 + 4, none⟩ = some (.slice y.1.ad y.1.it.body.length y.1.cp) ∧ w'.cell? ⟨g, m * 6 + 5, none⟩ = some (.string (Nm.S y.1.it.to)) ∧ w'.cell? ⟨g, (a + q) * 6, none⟩ = some (.string (Nm.S x.1.it.path)) ∧ w'.cell? ⟨g, (a + q) * 6 + 1, none⟩ = some (.int .u8 (x.1.it.kind : Int)) ∧ w'.cell? ⟨g, (a + q) * 6 + 2, none⟩ = some (.int .i64 x.1.it.mode) ∧ w'.cell? ⟨g, (a + q) * 6 + 3, none⟩ = some (.int .i64 x.1.it.time) ∧ w'.cell? ⟨g, (a + q) * 6 + 4, none⟩ = some (.slice x.1.ad x.1.it.body.length x.1.cp) ∧ w'.cell? ⟨g, (a + q) * 6 + 5, none⟩ = some (.string (Nm.S x.1.it.to)) ∧ Bw wr w')
          (first | exact ⟨a0, a1, a2, a3, a4, a5, b0, b1, b2, b3, b4, b5, Below.drew (Bw.refl _)⟩ | assumption | exact keep_twelve (by assumption) (by assumption))
          (first | (go_at_call 43; refine (HC.out _).mono ?_; rintro e wz ⟨rfl, hwz⟩))
        rename_i hSe
        have hw1 := hSe.2.2.2.2.2.2.2.2.2.2.2.2
        clear hSe
        go_wp2
        go_roundw
        case rel => exact ⟨i, q, rfl, by go_num, by omega, by omega, hlow.out, HHi.out, hsw.out.keep hw1⟩
        case measure => simp [intOf]; omega
      · have hlv2 : (!decide (cv < 0)) = true := by rw [decide_eq_false hlv]; rfl
        have HLo : Hid (∀ z ∈ X.take (q + 1), Ss.r Tr.cmpI z y) := by
          have h := HSX.out
          rw [← List.take_append_drop (q + 1) X] at h
          have h := (Ss.st_append.1 h).1
          rw [Tr.take_next HDR.out] at h ⊢
          exact Ss.st_last Tr.cmpI_ok h (Ss.r_of_not Tr.cmpI_ok (by rw [hcv.out]; exact hlv) (HAh.out x (List.mem_of_getElem? hx.out)))
        go_upto_region 17 with fail
        go_region_held3 (fun w' => w'.cell? ⟨g, m * 6, none⟩ = some (.string (Nm.S y.1.it.path)) ∧ w'.cell? ⟨g, m * 6 + 1, none⟩ = some (.int .u8 (y.1.it.kind : Int)) ∧ w'.cell? ⟨g, m * 6 + 2, none⟩ = some (.int .i64 y.1.it.mode) ∧ w'.cell? ⟨g, m * 6 + 3, none⟩ = some (.int .i64 y.1.it.time) ∧ w'.cell? ⟨g, m * 6 + 4, none⟩ = some (.slice y.1.ad y.1.it.body.length y.1.cp) ∧ w'.cell? ⟨g, m * 6 + 5, none⟩ = some (.string (Nm.S y.1.it.to)) ∧ w'.cell? ⟨g, (a + q) * 6, none⟩ = some (.string (Nm.S x.1.it.path)) ∧ w'.cell? ⟨g, (a + q) * 6 + 1, none⟩ = some (.int .u8 (x.1.it.kind : Int)) ∧ w'.cell? ⟨g, (a + q) * 6 + 2, none⟩ = some (.int .i64 x.1.it.mode) ∧ w'.cell? ⟨g, (a + q) * 6 + 3, none⟩ = some (.int .i64 x.1.it.time) ∧ w'.cell? ⟨g, (a + q) * 6 + 4, none⟩ = some (.slice x.1.ad x.1.it.body.length x.1.cp) ∧ w'.cell? ⟨g, (a + q) * 6 + 5, none⟩ = some (.string (Nm.S x.1.it.to)) ∧ Bw wr w')
          (first | exact ⟨a0, a1, a2, a3, a4, a5, b0, b1, b2, b3, b4, b5, Below.drew (Bw.refl _)⟩ | assumption | exact keep_twelve (by assumption) (by assumption))
          (first | (go_at_call 43; refine (HC.out _).mono ?_; rintro e wz ⟨rfl, hwz⟩))
        rename_i hSe
        have hw1 := hSe.2.2.2.2.2.2.2.2.2.2.2.2
        clear hSe
        go_wp2
        go_roundw
        case rel => exact ⟨q + 1, j, by go_num, rfl, by omega, hjv, HLo.out, hhigh.out, hsw.out.keep hw1⟩
        case measure => simp [intOf]; omega
    · obtain rfl : j = i := by omega
      have hno : ¬ (a : Int) + (j : Int) < (a : Int) + (j : Int) := by omega
      rename World => wo
      go_wp2
      go_loopw [17] (fun s17 wr => ∃ (k : Nat), s17 = .int .i64 ((a : Int) + (k : Int)) ∧ j ≤ k ∧ k ≤ v ∧ Hid (Sw w0 H g n c (un (A ++ (X.take k ++ (y :: (X.drop k ++ B))))) wr)) (fun s17 _ => (intOf s17).toNat)
      case atStart => exact ⟨v, by have := hmm.out; congr 1; omega, hjv, Nat.le_refl _, (by
        show Sw _ _ _ _ _ _ _
        rw [List.take_of_length_le (by rw [hX.out]; exact Nat.le_refl _), List.drop_eq_nil_of_le (by rw [hX.out]; exact Nat.le_refl _)]
        exact hsw.out)⟩
      case round =>
        obtain ⟨k, rfl, hkj, hkv, hsk⟩ := hrel
        by_cases hlt2 : j < k
        · obtain ⟨q, rfl⟩ : ∃ q, k = q + 1 := ⟨k - 1, by omega⟩
          obtain ⟨x, hx⟩ : ∃ x, Hid (X.drop q = x :: X.drop (q + 1)) := ⟨_, List.drop_eq_getElem_cons (by rw [hX.out]; omega)⟩
          have hs1 := hsk.out
          have e1 : A ++ (X.take (q + 1) ++ (y :: (X.drop (q + 1) ++ B))) = (A ++ X.take q) ++ x :: ([] ++ y :: (X.drop (q + 1) ++ B)) := by rw [Tr.take_next hx.out]; simp
          rw [e1] at hs1
          have l1 : (A ++ X.take q).length = a + q := by rw [List.length_append, List.length_take, hA.out, hX.out]; omega
          have hxI := hs1.at (i := a + q) (y := x.1) (by rw [← l1]; exact un_at _ _ _)
          have hyI := hs1.at (i := a + q + 1) (y := y.1) (by
            have := un_at ((A ++ X.take q) ++ [x]) (X.drop (q + 1) ++ B) y
            rw [show ((A ++ X.take q) ++ [x]).length = a + q + 1 by rw [List.length_append, l1]; rfl] at this
            rw [← this]; simp)
          obtain ⟨a0, a1, a2, a3, a4, a5⟩ := hxI
          obtain ⟨b0, b1, b2, b3, b4, b5⟩ := hyI
          have hfr := hs1.free
          have HS2 : Hid (Sw w0 H g n c (un (A ++ (X.take q ++ (y :: (X.drop q ++ B))))) (putIt (putIt wr g ((a + q + 1) * 6) x.1) g ((a + q) * 6) y.1).drew) := by
            have h2 := (hs1.swapU (i := a + q) (j := a + q + 1) l1.symm (by rw [l1]; rfl)).drew
            show Sw _ _ _ _ _ _ _
            have e2 : (A ++ X.take q) ++ y :: ([] ++ x :: (X.drop (q + 1) ++ B)) = A ++ (X.take q ++ (y :: (X.drop q ++ B))) := by rw [hx.out]; simp
            rw [← e2]; exact h2
          clear hs1 l1 e1 hsk
          obtain ⟨jj, hjj⟩ : ∃ jj : Int, Hid (jj = (a : Int) + ((q + 1 : Nat) : Int)) := ⟨_, rfl⟩
          rw [← hjj.out]
          have g0 : (a : Int) + (j : Int) < jj := by have := hjj.out; omega
          have g1 : jj < (n : Int) := by have := hjj.out; omega
          have g2 : (0 : Int) ≤ jj := by have := hjj.out; omega
          have g3 : jj.toNat = a + q + 1 := by have := hjj.out; omega
          have g4 : jj - 1 < (n : Int) := by have := hjj.out; omega
          have g5 : (0 : Int) ≤ jj - 1 := by have := hjj.out; omega
          have g8 : (1 : Int) ≤ jj := by have := hjj.out; omega
          have g6 : (jj - 1).toNat = a + q := by have := hjj.out; omega
          have g7 : IntKind.i64.wrap (jj - 1) = jj - 1 := by rw [IntKind.wrap_i64]; omega
          go_wp2_with fail
          go_region
          change Exit.inBlock 7 _ _ _ (putIt (putIt wr g ((a + q + 1) * 6) x.1) g ((a + q) * 6) y.1).drew
          clear a0 a1 a2 a3 a4 a5 b0 b1 b2 b3 b4 b5 hfr
          generalize (putIt (putIt wr g ((a + q + 1) * 6) x.1) g ((a + q) * 6) y.1).drew = wv at HS2 ⊢
          go_wp2
          go_roundw
          case rel => exact ⟨q, by have := hjj.out; congr 1; omega, by omega, by omega, HS2.out⟩
          case measure => simp [intOf]; omega
        · obtain rfl : k = j := by omega
          have hltz : ¬ (a : Int) + (k : Int) < (a : Int) + (k : Int) := by omega
          have HE : Hid ((X.take k ++ y :: X.drop k).Perm (X ++ [y]) ∧ Ss.St Tr.cmpI (X.take k ++ y :: X.drop k) ∧ Sw w0 H g n c (un (A ++ ((X.take k ++ y :: X.drop k) ++ B))) wr) := by
            refine ⟨?_, Ss.st_insert Tr.cmpI_ok (by rw [List.take_append_drop]; exact HSX.out) hhigh.out hlow.out, ?_⟩
            · refine List.perm_middle.trans ?_
              rw [List.take_append_drop]
              exact (List.perm_append_singleton _ _).symm
            · have h := hsk.out
              rw [List.append_assoc]; exact h
          clear hsk
          go_wp2
          (try simp only [Exit.inBlock, Exit.then]); refine bodyPost_ret (results_none rfl _ _ _) rfl ?_
          exact ⟨rfl, _, HE.out.1, HE.out.2.1, HE.out.2.2⟩
end Go.Proofs.Ytjifdoneejofiab
