/- The program's own Same, of layer 11, as landed at 97b3c5cd (written by mkyq.py). -/
import Derived.Test.YtjifdoneejofiaaY6
import Derived.Test.YtjifdoneejofiaaU4
namespace Go.Proofs.Ytjifdoneejofiaa
open Go.RowKit Go.Deep
set_option linter.unusedVariables false
set_option linter.unusedSimpArgs false

theorem equal11_any (A B : Option Addr) (n m ca cb : Nat) (f g : Nat → Int) (w : World) (ha : RowAt w A n f) (hb : RowAt w B m g) :
    Calls Try.prog 52 #[.slice A n ca, .slice B m cb] w fun e w' => ∃ x, e = .returned (.bool x) ∧ (x = true ↔ n = m ∧ ∀ i, i < n → f i = g i) ∧ w' = w := by
  have c1 := conv_row (C := ca) ha
  have c2 := conv_row (C := cb) hb
  have c3 := str_inj (L := n) (M := m) ha.2 hb.2
  go_enter Try.func52, Try.ntmps52
  go_wp2
  go_ret
  exact ⟨_, rfl, by rw [beq_iff_eq]; exact c3, rfl⟩
set_option maxRecDepth 100000 in
set_option maxHeartbeats 4000000 in
theorem same1_any (x y : Tr.Iv) (w : World) (hx : BodyAt w x) (hy : BodyAt w y) : Calls Try.prog 51 #[.agg x.arr, .agg y.arr] w fun e w' => TellsN e (x.it = y.it) ∧ Bw w w' := by
  obtain ⟨V, hV⟩ : ∃ V, V = w.alloc (.cells x.arr 26) := ⟨_, rfl⟩
  obtain ⟨W, hW⟩ : ∃ W, W = V.alloc (.cells y.arr 26) := ⟨_, rfl⟩
  have hbv : Bw w V := by rw [hV]; exact bw_alloc11 (Bw.refl _) _
  have hbV : Bw V W := by rw [hW]; exact bw_alloc11 (Bw.refl _) _
  have hsz : V.heap.size = w.heap.size + 1 := by rw [hV]; simp
  have hX : BoxAt W w.heap.size x := BoxAt.keep (by rw [hV]; exact BoxAt.new _ _) hbV
  have hY : BoxAt W (w.heap.size + 1) y := by rw [← hsz, hW]; exact BoxAt.new _ _
  obtain ⟨x0, x1, x2, x3, x4, x5⟩ := hX.cells
  obtain ⟨y0, y1, y2, y3, y4, y5⟩ := hY.cells
  have hbw : Bw w W := hbv.trans hbV
  obtain ⟨D, hD⟩ : ∃ D : Bool, Hid (D = true ↔ x.it.body = y.it.body) := ⟨decide (x.it.body = y.it.body), decide_eq_true_iff⟩
  have HEq : Hid (∀ u, Bw w u → Calls Try.prog 52 #[.slice x.ad x.it.body.length x.cp, .slice y.ad y.it.body.length y.cp] u fun e w' => e = .returned (.bool D) ∧ w' = u) := fun u hu => by
    refine (equal11_any x.ad y.ad _ _ x.cp y.cp _ _ u (hx.row.keep hu) (hy.row.keep hu)).mono fun e w' h => ?_
    obtain ⟨b, rfl, hb, rfl⟩ := h
    have hbd : b = true ↔ x.it.body = y.it.body := by
      rw [hb]
      constructor
      · rintro ⟨h1, h2⟩; exact Tr.rowF_ext h1 h2
      · intro e; rw [e]; exact ⟨rfl, fun _ _ => rfl⟩
    have : b = D := by
      cases b <;> cases D
      · rfl
      · exact absurd (hbd.2 (hD.out.1 rfl)) (by simp)
      · exact absurd (hD.out.2 (hbd.1 rfl)) (by simp)
      · rfl
    rw [this]; exact ⟨rfl, rfl⟩
  clear hX hY hsz hx hy
  rw [hV] at hW
  clear hV hbv hbV
  go_enter Try.func51, Try.ntmps51
  go_upto_region 1 with fail
  rw [← hW]
  clear hW
  by_cases h : x.it.path = y.it.path
  case neg =>
    have epath := Tr.S_no (show x.it.path ≠ y.it.path from h)
    have HNE : Hid (x.it ≠ y.it) := fun e => h (by rw [e])
    clear h
    go_wp2_with (go_at_call 52; refine (HEq.out _ hbw).mono ?_; rintro e w1 ⟨rfl, rfl⟩)
    go_ret
    exact ⟨TellsN.no HNE.out, hbw⟩
  have g := h
  have epath := Tr.S_yes (show x.it.path = y.it.path from g)
  have G0 : Hid (x.it.path = y.it.path) := g
  clear g h
  by_cases h : x.it.kind = y.it.kind
  case neg =>
    have ekind : ((x.it.kind : Int) == (y.it.kind : Int)) = false := by rw [beq_eq_false_iff_ne]; omega
    have HNE : Hid (x.it ≠ y.it) := fun e => h (by rw [e])
    clear h
    go_wp2_with (go_at_call 52; refine (HEq.out _ hbw).mono ?_; rintro e w1 ⟨rfl, rfl⟩)
    go_ret
    exact ⟨TellsN.no HNE.out, hbw⟩
  have g := h
  have ekind : ((x.it.kind : Int) == (y.it.kind : Int)) = true := by rw [g]; simp
  have G1 : Hid (x.it.kind = y.it.kind) := g
  clear g h
  by_cases h : x.it.mode = y.it.mode
  case neg =>
    have emode : (x.it.mode == y.it.mode) = false := by rw [beq_eq_false_iff_ne]; exact h
    have HNE : Hid (x.it ≠ y.it) := fun e => h (by rw [e])
    clear h
    go_wp2_with (go_at_call 52; refine (HEq.out _ hbw).mono ?_; rintro e w1 ⟨rfl, rfl⟩)
    go_ret
    exact ⟨TellsN.no HNE.out, hbw⟩
  have g := h
  have emode : (x.it.mode == y.it.mode) = true := by rw [g]; simp
  have G2 : Hid (x.it.mode = y.it.mode) := g
  clear g h
  by_cases h : x.it.time = y.it.time
  case neg =>
    have etime : (x.it.time == y.it.time) = false := by rw [beq_eq_false_iff_ne]; exact h
    have HNE : Hid (x.it ≠ y.it) := fun e => h (by rw [e])
    clear h
    go_wp2_with (go_at_call 52; refine (HEq.out _ hbw).mono ?_; rintro e w1 ⟨rfl, rfl⟩)
    go_ret
    exact ⟨TellsN.no HNE.out, hbw⟩
  have g := h
  have etime : (x.it.time == y.it.time) = true := by rw [g]; simp
  have G3 : Hid (x.it.time = y.it.time) := g
  clear g h
  by_cases h : x.it.to = y.it.to
  case neg =>
    have eto := Tr.S_no (show x.it.to ≠ y.it.to from h)
    have HNE : Hid (x.it ≠ y.it) := fun e => h (by rw [e])
    clear h
    go_wp2_with (go_at_call 52; refine (HEq.out _ hbw).mono ?_; rintro e w1 ⟨rfl, rfl⟩)
    go_ret
    exact ⟨TellsN.no HNE.out, hbw⟩
  have g := h
  have eto := Tr.S_yes (show x.it.to = y.it.to from g)
  have G4 : Hid (x.it.to = y.it.to) := g
  clear g h
  go_wp2_with (go_at_call 52; refine (HEq.out _ hbw).mono ?_; rintro e w1 ⟨rfl, rfl⟩)
  go_ret
  refine ⟨⟨D, rfl, ?_⟩, hbw⟩
  rw [hD.out]
  exact ⟨fun h => Tr.it_ext G0.out G1.out G2.out G3.out h G4.out, fun h => by rw [h]⟩
set_option maxRecDepth 100000 in
set_option maxHeartbeats 4000000 in
theorem equalf_any (A B : Option Addr) (ca cb : Nat) (L M : List Tr.Iv) (hn : L.length ≤ 4611686018427387904) (hm : M.length ≤ 4611686018427387904) (w : World) (ha : ItsAt w A L) (hb : ItsAt w B M) :
    Calls Try.prog 50 #[.slice A L.length ca, .slice B M.length cb, .func (.func 51) #[] #[]] w fun e w' => TellsN e (Tr.its L = Tr.its M) ∧ Bw w w' := by
  by_cases hl : L.length = M.length
  · obtain ⟨n, hnn⟩ : ∃ n, Hid (L.length = n) := ⟨_, rfl⟩
    have hmm : Hid (M.length = n) := by show _ = _; rw [← hl]; exact hnn.out
    rw [hnn.out] at hn ⊢
    rw [hmm.out]
    have HA : Hid (ItsAt w A L) := ha
    have HB : Hid (ItsAt w B M) := hb
    clear ha hb hl hm
    go_enter Try.func50, Try.ntmps50
    go_wp2
    go_loopw [17] (fun i wr => ∃ k' : Nat, k' ≤ n ∧ i = .int .i64 (k' : Int) ∧ Hid (∀ (j : Nat), j < k' → (Tr.its L)[j]? = (Tr.its M)[j]?) ∧ Bw w wr) (fun i _ => n - (intOf i).toNat)
    case atStart => exact ⟨0, Nat.zero_le _, rfl, fun j hj => absurd hj (Nat.not_lt_zero _), Bw.refl _⟩
    case round =>
      obtain ⟨i, hi, rfl, hno, hbw⟩ := hrel
      have i0 : (0 : Int) ≤ (i : Int) := Int.natCast_nonneg _
      by_cases hlt : i < n
      · have i1 : (i : Int) < (n : Int) := by omega
        obtain ⟨y, hy⟩ : ∃ y, Hid (L[i]? = some y) := ⟨_, List.getElem?_eq_getElem (by rw [hnn.out]; exact hlt)⟩
        obtain ⟨z, hz⟩ : ∃ z, Hid (M[i]? = some z) := ⟨_, List.getElem?_eq_getElem (by rw [hmm.out]; exact hlt)⟩
        obtain ⟨b, off, rfl, hY, hbY⟩ := (HA.out.keep hbw).at hy.out
        obtain ⟨b2, off2, rfl, hZ, hbZ⟩ := (HB.out.keep hbw).at hz.out
        have HC : Hid (∀ u, Bw wr u → Calls Try.prog 51 #[.agg y.arr, .agg z.arr] u fun e w' => TellsN e (y.it = z.it) ∧ Bw u w') := fun u hu => same1_any y z u (hbY.keep hu) (hbZ.keep hu)
        clear hbY hbZ
        go_upto_region 7 with (first
          | refine wpList_load_it (by rfl) (.tmp 20) rfl b (off + i * 6) rfl y hY ?_
          | (refine wpList_store_row rfl 26 _ _ rfl wr.heap.size y.arr rfl rfl 26 _ (heap_alloc_new _ _) (info_it y) rfl (Tr.arr_one y) ?_; rw [setRow_alloc_new]; obtain ⟨W1, hW1⟩ : ∃ V, V = wr.alloc (.cells y.arr 26) := ⟨_, rfl⟩; have hX1 : BoxAt W1 wr.heap.size y := (by rw [hW1]; exact BoxAt.new _ _); have hb1 : Bw wr W1 := (by rw [hW1]; exact bw_alloc11 (Bw.refl _) _); rw [← hW1]; clear hW1; have hZ1 := hZ.keep hb1)
          | refine wpList_load_it (by rfl) (.tmp 24) rfl b2 (off2 + i * 6) rfl z hZ1 ?_
          | (refine wpList_store_row rfl 26 _ _ rfl W1.heap.size z.arr rfl rfl 26 _ (heap_alloc_new _ _) (info_it z) rfl (Tr.arr_one z) ?_; rw [setRow_alloc_new]; obtain ⟨W2, hW2⟩ : ∃ V, V = W1.alloc (.cells z.arr 26) := ⟨_, rfl⟩; have hX2 : BoxAt W2 W1.heap.size z := (by rw [hW2]; exact BoxAt.new _ _); have hb2 : Bw W1 W2 := (by rw [hW2]; exact bw_alloc11 (Bw.refl _) _); rw [← hW2]; clear hW2; have HX1 : Hid (BoxAt W2 wr.heap.size y) := hX1.keep hb2; have HX2 : Hid (BoxAt W2 W1.heap.size z) := hX2; have hb12 := hb1.trans hb2; clear hX1 hX2 hZ1 hb1 hb2))
        rw [put_none11]
        by_cases heq : y.it = z.it
        · have nx : Hid (∀ (j : Nat), j < i + 1 → (Tr.its L)[j]? = (Tr.its M)[j]?) := fun j hj => by
            rcases Nat.lt_or_ge j i with h | h
            · exact hno.out j h
            · rw [show j = i by omega, Tr.its_at hy.out, Tr.its_at hz.out, heq]
          have HC1 : Hid (∀ u, Bw wr u → Calls Try.prog 51 #[.agg y.arr, .agg z.arr] u fun e w' => e = .returned (.bool true) ∧ Bw u w') := fun u hu => (HC.out u hu).mono fun e w' h => by
            obtain ⟨⟨x, rfl, hx⟩, hw⟩ := h
            rw [hx.2 heq]; exact ⟨rfl, hw⟩
          clear heq HC
          go_wp2_with (first
            | refine wpList_load_it (by rfl) (.tmp 8) rfl wr.heap.size 0 rfl y HX1.out.it ?_
            | refine wpList_load_it (by rfl) (.tmp 9) rfl W1.heap.size 0 rfl z HX2.out.it ?_
            | (go_at_call 51; refine (HC1.out _ hb12).mono ?_; rintro e w3 ⟨rfl, hw3⟩))
          go_roundw
          case rel => exact ⟨i + 1, by omega, by go_num, nx, (hbw.trans hb12).trans hw3⟩
          case measure => simp [intOf]; omega
        · have HNE : Hid (Tr.its L ≠ Tr.its M) := fun e => by
            have h1 := Tr.its_at hy.out
            rw [e, Tr.its_at hz.out, Option.some.injEq] at h1
            exact heq h1.symm
          have HC1 : Hid (∀ u, Bw wr u → Calls Try.prog 51 #[.agg y.arr, .agg z.arr] u fun e w' => e = .returned (.bool false) ∧ Bw u w') := fun u hu => (HC.out u hu).mono fun e w' h => by
            obtain ⟨⟨x, rfl, hx⟩, hw⟩ := h
            cases x with
            | true => exact absurd (hx.1 rfl) heq
            | false => exact ⟨rfl, hw⟩
          clear heq HC
          go_wp2_with (first
            | refine wpList_load_it (by rfl) (.tmp 8) rfl wr.heap.size 0 rfl y HX1.out.it ?_
            | refine wpList_load_it (by rfl) (.tmp 9) rfl W1.heap.size 0 rfl z HX2.out.it ?_
            | (go_at_call 51; refine (HC1.out _ hb12).mono ?_; rintro e w3 ⟨rfl, hw3⟩))
          go_ret
          exact ⟨TellsN.no HNE.out, (hbw.trans hb12).trans hw3⟩
      · have ei : i = n := by omega
        subst ei
        have HEQ : Hid (Tr.its L = Tr.its M) := by
          apply List.ext_getElem?
          intro j
          rcases Nat.lt_or_ge j i with h | h
          · exact hno.out j h
          · rw [List.getElem?_eq_none (by rw [Tr.its_len, hnn.out]; exact h), List.getElem?_eq_none (by rw [Tr.its_len, hmm.out]; exact h)]
        go_wp2
        go_ret
        exact ⟨TellsN.yes HEQ.out, hbw⟩
  · have HNE : Hid (Tr.its L ≠ Tr.its M) := fun e => by
      have := congrArg List.length e
      rw [Tr.its_len, Tr.its_len] at this
      exact hl this
    have e1 : ((L.length : Int) != (M.length : Int)) = true := by rw [bne_iff_ne]; omega
    clear hl ha hb
    generalize L.length = n at *
    generalize M.length = m at *
    go_enter Try.func50, Try.ntmps50
    go_wp2
    go_ret
    exact ⟨TellsN.no HNE.out, Bw.refl _⟩
set_option maxRecDepth 100000 in
theorem tsame_any (A B : Option Addr) (ca cb : Nat) (L M : List Tr.Iv) (hn : L.length ≤ 4611686018427387904) (hm : M.length ≤ 4611686018427387904) (w : World) (ha : ItsAt w A L) (hb : ItsAt w B M) :
    Calls Try.prog 22 #[.slice A L.length ca, .slice B M.length cb] w fun e w' => TellsN e (Tr.its L = Tr.its M) ∧ Bw w w' := by
  have HE : Hid (Calls Try.prog 50 #[.slice A L.length ca, .slice B M.length cb, .func (.func 51) #[] #[]] w fun e w' => TellsN e (Tr.its L = Tr.its M) ∧ Bw w w') := equalf_any A B ca cb L M hn hm w ha hb
  clear ha hb
  generalize L.length = n at *
  generalize M.length = m at *
  generalize (Tr.its L = Tr.its M) = P at *
  go_enter Try.func22, Try.ntmps22
  go_wp2_with (go_at_call 50; refine HE.out.mono ?_; rintro e w1 ⟨⟨x, rfl, hx⟩, hw1⟩)
  go_ret
  exact ⟨⟨x, rfl, hx⟩, hw1⟩
end Go.Proofs.Ytjifdoneejofiaa
