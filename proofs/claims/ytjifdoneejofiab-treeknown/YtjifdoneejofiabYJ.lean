/- slices.SortStableFunc at items, as landed at 97b3c5cd: merging (written by mkyh.py). -/
import Derived.Test.YtjifdoneejofiabYI
namespace Go.Proofs.Ytjifdoneejofiab
open Go.RowKit Go.Deep
set_option linter.unusedVariables false
set_option linter.unusedSimpArgs false

attribute [local go_sem] List.getElem?_cons_zero Option.getD_some
set_option maxRecDepth 100000 in
set_option maxHeartbeats 8000000 in
theorem sym_gen1 (w0 : World) (H g n c : Nat) (A X Y B : List Tg) (xa xm xb : Int) (w : World) (hs : Sw w0 H g n c (un (A ++ (X ++ (Y ++ B)))) w) (hf : Fits (A ++ (X ++ (Y ++ B)))) (hn : n ≤ 2199023255552) (hSX : Ss.St Tr.cmpI X) (hSY : Ss.St Tr.cmpI Y) (hAh : Ss.Ahead X Y) (ha : xa = A.length) (hm : xm = (A.length : Int) + X.length) (hb : xb = (A.length : Int) + X.length + Y.length) (h1 : 1 < X.length) (h2 : 1 < Y.length) (hmid : X.length + Y.length < 2 * X.length - 0 ∧ (X.length + Y.length) / 2 < X.length)
    (IH : ∀ (A' X' Y' B' : List Tg) (ya ym yb : Int) (u : World), X'.length + Y'.length < X.length + Y.length → Sw w0 H g n c (un (A' ++ (X' ++ (Y' ++ B')))) u → Fits (A' ++ (X' ++ (Y' ++ B'))) → Ss.St Tr.cmpI X' → Ss.St Tr.cmpI Y' → Ss.Ahead X' Y' → 0 < X'.length → 0 < Y'.length → ya = A'.length → ym = (A'.length : Int) + X'.length → yb = (A'.length : Int) + X'.length + Y'.length → Calls Try.prog 74 #[.slice (some ⟨g, 0, none⟩) n c, .int .i64 ya, .int .i64 ym, .int .i64 yb, cfv] u fun e w' => e = .returned (.tuple #[]) ∧ ∃ Z : List Tg, Z.Perm (X' ++ Y') ∧ Ss.St Tr.cmpI Z ∧ Sw w0 H g n c (un (A' ++ (Z ++ B'))) w') :
    Calls Try.prog 74 #[.slice (some ⟨g, 0, none⟩) n c, .int .i64 xa, .int .i64 xm, .int .i64 xb, cfv] w fun e w' => e = .returned (.tuple #[]) ∧ ∃ Z : List Tg, Z.Perm (X ++ Y) ∧ Ss.St Tr.cmpI Z ∧ Sw w0 H g n c (un (A ++ (Z ++ B))) w' := by
  have hlen := hs.len
  rw [un_len] at hlen
  simp only [List.length_append] at hlen
  obtain ⟨a, hA⟩ : ∃ a, Hid (A.length = a) := ⟨_, rfl⟩
  obtain ⟨p1, hX⟩ : ∃ v, Hid (X.length = v) := ⟨_, rfl⟩
  obtain ⟨p2, hY⟩ : ∃ v, Hid (Y.length = v) := ⟨_, rfl⟩
  rw [hA.out] at ha hm hb hlen
  rw [hX.out] at hm hb hlen h1 hmid IH
  rw [hY.out] at hb hlen h2 hmid IH
  have HIH : Hid _ := IH
  clear IH
  obtain ⟨d, hd⟩ : ∃ d, Hid ((p1 + p2) / 2 = d) := ⟨_, rfl⟩
  have hd12 : 2 * d ≤ p1 + p2 ∧ p1 + p2 ≤ 2 * d + 1 := by have := hd.out; omega
  obtain ⟨hd1, hd2⟩ := hd12
  have hmd : d < p1 := by have := hd.out; omega
  clear hmid
  obtain ⟨m, hmm⟩ : ∃ m, Hid (a + p1 = m) := ⟨_, rfl⟩
  obtain ⟨b, hbb⟩ : ∃ b, Hid (a + p1 + p2 = b) := ⟨_, rfl⟩
  obtain ⟨md, hmdd⟩ : ∃ md, Hid (a + d = md) := ⟨_, rfl⟩
  have hm' : xm = (m : Int) := by have := hmm.out; omega
  have hb' : xb = (b : Int) := by have := hbb.out; omega
  clear hm hb
  subst hm' hb' ha
  have r1 : a + p1 ≤ m ∧ m ≤ a + p1 ∧ m + p2 ≤ b ∧ b ≤ m + p2 ∧ a + d ≤ md ∧ md ≤ a + d := by have := hmm.out; have := hbb.out; have := hmdd.out; omega
  obtain ⟨r1, r2, r3, r4, r5, r6⟩ := r1
  have hbn : b ≤ n := by omega
  have HFx : Hid (Fits (A ++ (X ++ (Y ++ B)))) := hf
  have HS : Hid (Sw w0 H g n c (un (A ++ (X ++ (Y ++ B)))) w) := hs
  have HSX : Hid (Ss.St Tr.cmpI X) := hSX
  have HSY : Hid (Ss.St Tr.cmpI Y) := hSY
  have HAh : Hid (Ss.Ahead X Y) := hAh
  clear hs hf hSX hSY hAh hlen
  have e1 : ((m : Int) - (a : Int) == 1) = false := by rw [beq_eq_false_iff_ne]; omega
  have e2 : ((b : Int) - (m : Int) == 1) = false := by rw [beq_eq_false_iff_ne]; omega
  have e3 : ((a : Int) + (b : Int)) / 2 = (md : Int) := by omega
  have e4 : (md : Int) < (m : Int) := by omega
  obtain ⟨nn, hnn⟩ : ∃ nn, Hid (md + m = nn) := ⟨_, rfl⟩
  have e5 : (md : Int) + (m : Int) = (nn : Int) := by have := hnn.out; omega
  obtain ⟨pp, hpp⟩ : ∃ pp, Hid (nn = pp + 1) := ⟨nn - 1, by have := hnn.out; show _ = _; omega⟩
  have e6 : (nn : Int) - 1 = (pp : Int) := by have := hpp.out; omega
  have r7 : md + m ≤ pp + 1 ∧ pp + 1 ≤ md + m ∧ nn ≤ pp + 1 ∧ pp + 1 ≤ nn := by have := hnn.out; have := hpp.out; omega
  obtain ⟨r7, r8, r9, r10⟩ := r7
  go_enter Try.func74, Try.ntmps74
  go_wp2
  clear e1 e2 e3 e4 e5 e6
  go_loopw [20, 21] (fun s20 s21 wr => ∃ (s t : Nat), s20 = .int .i64 ((a : Int) + (s : Int)) ∧ s21 = .int .i64 ((a : Int) + (t : Int)) ∧ d ≤ s + p2 ∧ s ≤ t ∧ t ≤ p1 ∧ t ≤ d ∧ Hid (s = d - p2 ∨ ∃ x y, X[s - 1]? = some x ∧ Y[d - s]? = some y ∧ 0 < s ∧ Ss.r Tr.cmpI x y) ∧ Hid ((t = p1 ∨ t = d) ∨ ∃ x y, X[t]? = some x ∧ Y[d - 1 - t]? = some y ∧ t < d ∧ Ss.r Tr.cmpI y x) ∧ Hid (Sw w0 H g n c (un (A ++ (X ++ (Y ++ B)))) wr)) (fun s20 s21 _ => (intOf s21).toNat - (intOf s20).toNat)
  case atStart => exact ⟨d - p2, d, by congr 1; omega, by congr 1; omega, by omega, by omega, by omega, Nat.le_refl _, .inl rfl, .inl (.inr rfl), HS.out⟩
  case round =>
    obtain ⟨s, t, rfl, rfl, hds, hst, htp, htd, hlow, hhigh, hsw⟩ := hrel
    by_cases hlt : s < t
    · obtain ⟨q, hq⟩ : ∃ q, Hid ((s + t) / 2 = q) := ⟨_, rfl⟩
      have hq1 : s ≤ q ∧ q < t := by have := hq.out; omega
      obtain ⟨hq1, hq2⟩ := hq1
      obtain ⟨j, hj⟩ : ∃ j, Hid (j + 1 + q = d) := ⟨d - 1 - q, by show _ = _; omega⟩
      have hj12 : j + 1 + q ≤ d ∧ d ≤ j + 1 + q := by have := hj.out; omega
      obtain ⟨hj1, hj2⟩ := hj12
      obtain ⟨x, hx⟩ : ∃ x, Hid (X[q]? = some x) := ⟨_, List.getElem?_eq_getElem (by rw [hX.out]; omega)⟩
      obtain ⟨y, hy⟩ : ∃ y, Hid (Y[j]? = some y) := ⟨_, List.getElem?_eq_getElem (by rw [hY.out]; omega)⟩
      have hxI := hsw.out.at (i := a + q) (y := x.1) (un_get (by
        have := get_mid (A := A) (B := Y ++ B) hx.out
        rwa [hA.out] at this))
      have hyI := hsw.out.at (i := m + j) (y := y.1) (un_get (by
        have := get_fa (A := A) (X := X) (B := B) hy.out
        rwa [hA.out, hX.out, hmm.out] at this))
      obtain ⟨a0, a1, a2, a3, a4, a5⟩ := hyI
      obtain ⟨b0, b1, b2, b3, b4, b5⟩ := hxI
      have HC : Hid (∀ u, Calls Try.prog 43 #[.agg y.1.arr, .agg x.1.arr] u fun e w' => e = .returned (.int .i64 (Tr.cmpI y.1 x.1)) ∧ Bw u w') := fun u => sort1_any y.1 x.1 (HFx.out y (by simp [List.mem_of_getElem? hy.out])) (HFx.out x (by simp [List.mem_of_getElem? hx.out])) u
      obtain ⟨cv, hcv⟩ : ∃ r, Hid (Tr.cmpI y.1 x.1 = r) := ⟨_, rfl⟩
      rw [hcv.out] at HC
      have HXY : Hid (x.2 < y.2) := HAh.out x (List.mem_of_getElem? hx.out) y (List.mem_of_getElem? hy.out)
      have f1 : ((a : Int) + (s : Int) + ((a : Int) + (t : Int))) / 2 = (a : Int) + (q : Int) := by have := hq.out; omega
      have f2 : (a : Int) + (q : Int) < (n : Int) := by omega
      have f3 : (0 : Int) ≤ (a : Int) + (q : Int) := by omega
      have f4 : ((a : Int) + (q : Int)).toNat = a + q := by omega
      have g1 : IntKind.i64.wrap ((pp : Int) - ((a : Int) + (q : Int))) = (m : Int) + (j : Int) := by rw [IntKind.wrap_i64]; omega
      have g2 : (m : Int) + (j : Int) < (n : Int) := by omega
      have g3 : (0 : Int) ≤ (m : Int) + (j : Int) := by omega
      have g4 : ((m : Int) + (j : Int)).toNat = m + j := by omega
      have g5 : (pp : Int) - ((a : Int) + (q : Int)) = (m : Int) + (j : Int) := by omega
      have g6 : IntKind.i64.wrap ((m : Int) + (j : Int)) = (m : Int) + (j : Int) := by rw [IntKind.wrap_i64]; omega
      have f7 : IntKind.i64.wrap ((a : Int) + (q : Int)) = (a : Int) + (q : Int) := by rw [IntKind.wrap_i64]; omega
      have hltz : (a : Int) + (s : Int) < (a : Int) + (t : Int) := by omega
      by_cases hlv : cv < 0
      · have hlv2 : (!decide (cv < 0)) = false := by rw [decide_eq_true hlv]; rfl
        go_upto_region 35 with fail
        go_region_held3 (fun w' => w'.cell? ⟨g, (m + j) * 6, none⟩ = some (.string (Nm.S y.1.it.path)) ∧ w'.cell? ⟨g, (m + j) * 6 + 1, none⟩ = some (.int .u8 (y.1.it.kind : Int)) ∧ w'.cell? ⟨g, (m + j) * 6 + 2, none⟩ = some (.int .i64 y.1.it.mode) ∧ w'.cell? ⟨g, (m + j) * 6 + 3, none⟩ = some (.int .i64 y.1.it.time) ∧ w'.cell? ⟨g, (m + j) * 6 + 4, none⟩ = some (.slice y.1.ad y.1.it.body.length y.1.cp) ∧ w'.cell? ⟨g, (m + j) * 6 + 5, none⟩ = some (.string (Nm.S y.1.it.to)) ∧ w'.cell? ⟨g, (a + q) * 6, none⟩ = some (.string (Nm.S x.1.it.path)) ∧ w'.cell? ⟨g, (a + q) * 6 + 1, none⟩ = some (.int .u8 (x.1.it.kind : Int)) ∧ w'.cell? ⟨g, (a + q) * 6 + 2, none⟩ = some (.int .i64 x.1.it.mode) ∧ w'.cell? ⟨g, (a + q) * 6 + 3, none⟩ = some (.int .i64 x.1.it.time) ∧ w'.cell? ⟨g, (a + q) * 6 + 4, none⟩ = some (.slice x.1.ad x.1.it.body.length x.1.cp) ∧ w'.cell? ⟨g, (a + q) * 6 + 5, none⟩ = some (.string (Nm.S x.1.it.to)) ∧ Bw wr w')
          (first | exact ⟨a0, a1, a2, a3, a4, a5, b0, b1, b2, b3, b4, b5, Below.drew (Bw.refl _)⟩ | assumption | exact keep_twelve (by assumption) (by assumption))
          (first | (go_at_call 43; refine (HC.out _).mono ?_; rintro e wz ⟨rfl, hwz⟩))
        rename_i hSe
        have hw1 := hSe.2.2.2.2.2.2.2.2.2.2.2.2
        clear hSe
        go_wp2
        go_roundw
        case rel => exact ⟨s, q, rfl, by go_num, hds, hq1, by omega, by omega, hlow.out, .inr ⟨x, y, hx.out, by rw [show d - 1 - q = j by omega]; exact hy.out, by omega, .inl (by rw [hcv.out]; exact hlv)⟩, hsw.out.keep hw1⟩
        case measure => simp [intOf]; omega
      · have hlv2 : (!decide (cv < 0)) = true := by rw [decide_eq_false hlv]; rfl
        go_upto_region 35 with fail
        go_region_held3 (fun w' => w'.cell? ⟨g, (m + j) * 6, none⟩ = some (.string (Nm.S y.1.it.path)) ∧ w'.cell? ⟨g, (m + j) * 6 + 1, none⟩ = some (.int .u8 (y.1.it.kind : Int)) ∧ w'.cell? ⟨g, (m + j) * 6 + 2, none⟩ = some (.int .i64 y.1.it.mode) ∧ w'.cell? ⟨g, (m + j) * 6 + 3, none⟩ = some (.int .i64 y.1.it.time) ∧ w'.cell? ⟨g, (m + j) * 6 + 4, none⟩ = some (.slice y.1.ad y.1.it.body.length y.1.cp) ∧ w'.cell? ⟨g, (m + j) * 6 + 5, none⟩ = some (.string (Nm.S y.1.it.to)) ∧ w'.cell? ⟨g, (a + q) * 6, none⟩ = some (.string (Nm.S x.1.it.path)) ∧ w'.cell? ⟨g, (a + q) * 6 + 1, none⟩ = some (.int .u8 (x.1.it.kind : Int)) ∧ w'.cell? ⟨g, (a + q) * 6 + 2, none⟩ = some (.int .i64 x.1.it.mode) ∧ w'.cell? ⟨g, (a + q) * 6 + 3, none⟩ = some (.int .i64 x.1.it.time) ∧ w'.cell? ⟨g, (a + q) * 6 + 4, none⟩ = some (.slice x.1.ad x.1.it.body.length x.1.cp) ∧ w'.cell? ⟨g, (a + q) * 6 + 5, none⟩ = some (.string (Nm.S x.1.it.to)) ∧ Bw wr w')
          (first | exact ⟨a0, a1, a2, a3, a4, a5, b0, b1, b2, b3, b4, b5, Below.drew (Bw.refl _)⟩ | assumption | exact keep_twelve (by assumption) (by assumption))
          (first | (go_at_call 43; refine (HC.out _).mono ?_; rintro e wz ⟨rfl, hwz⟩))
        rename_i hSe
        have hw1 := hSe.2.2.2.2.2.2.2.2.2.2.2.2
        clear hSe
        go_wp2
        go_roundw
        case rel => exact ⟨q + 1, t, by go_num, rfl, by omega, by omega, htp, htd, .inr ⟨x, y, hx.out, by rw [show d - (q + 1) = j by omega]; exact hy.out, by omega, Ss.r_of_not Tr.cmpI_ok (by rw [hcv.out]; have := hlv; omega) HXY.out⟩, hhigh.out, hsw.out.keep hw1⟩
        case measure => simp [intOf]; omega
    · obtain rfl : t = s := by omega
      have hno : ¬ (a : Int) + (t : Int) < (a : Int) + (t : Int) := by omega
      obtain ⟨X1, hX1⟩ : ∃ l, Hid (X.take t = l) := ⟨_, rfl⟩
      obtain ⟨X2, hX2⟩ : ∃ l, Hid (X.drop t = l) := ⟨_, rfl⟩
      obtain ⟨Y1, hY1⟩ : ∃ l, Hid (Y.take (d - t) = l) := ⟨_, rfl⟩
      obtain ⟨Y2, hY2⟩ : ∃ l, Hid (Y.drop (d - t) = l) := ⟨_, rfl⟩
      have HXX : Hid (X = X1 ++ X2) := by show _ = _; rw [← hX1.out, ← hX2.out, List.take_append_drop]
      have HYY : Hid (Y = Y1 ++ Y2) := by show _ = _; rw [← hY1.out, ← hY2.out, List.take_append_drop]
      have LX1 : Hid (X1.length = t) := by show _ = _; rw [← hX1.out, List.length_take, hX.out]; omega
      have LX2 : Hid (X2.length = p1 - t) := by show _ = _; rw [← hX2.out, List.length_drop, hX.out]
      have LY1 : Hid (Y1.length = d - t) := by show _ = _; rw [← hY1.out, List.length_take, hY.out]; omega
      have LY2 : Hid (Y2.length = p2 - (d - t)) := by show _ = _; rw [← hY2.out, List.length_drop, hY.out]
      have SX : Hid (Ss.St Tr.cmpI X1 ∧ Ss.St Tr.cmpI X2) := by have h := HSX.out; rw [HXX.out] at h; exact ⟨(Ss.st_append.1 h).1, (Ss.st_append.1 h).2.1⟩
      have SY : Hid (Ss.St Tr.cmpI Y1 ∧ Ss.St Tr.cmpI Y2) := by have h := HSY.out; rw [HYY.out] at h; exact ⟨(Ss.st_append.1 h).1, (Ss.st_append.1 h).2.1⟩
      have O1 : Hid (Ss.Over Tr.cmpI X1 Y2) := by
        refine Ss.over_of Tr.cmpI_ok SX.out.1 SY.out.2 ?_
        rcases hlow.out with h | ⟨x, y, h1, h2, h3, h4⟩
        · rcases Nat.lt_or_ge d p2 with g | g
          · left; exact List.eq_nil_of_length_eq_zero (by rw [LX1.out]; omega)
          · right; left; exact List.eq_nil_of_length_eq_zero (by rw [LY2.out]; omega)
        · refine .inr (.inr ⟨x, y, ?_, ?_, h4⟩)
          · rw [List.getLast?_eq_getElem?, LX1.out, ← hX1.out, List.getElem?_take, if_pos (by omega)]; exact h1
          · rw [← hY2.out, List.head?_drop]; exact h2
      have O2 : Hid (Ss.Over Tr.cmpI Y1 X2) := by
        refine Ss.over_of Tr.cmpI_ok SY.out.1 SX.out.2 ?_
        rcases hhigh.out with (h | h) | ⟨x, y, h1, h2, h3, h4⟩
        · right; left; exact List.eq_nil_of_length_eq_zero (by rw [LX2.out]; omega)
        · left; exact List.eq_nil_of_length_eq_zero (by rw [LY1.out]; omega)
        · refine .inr (.inr ⟨y, x, ?_, ?_, h4⟩)
          · rw [List.getLast?_eq_getElem?, LY1.out, ← hY1.out, List.getElem?_take, if_pos (by omega), show d - t - 1 = d - 1 - t by omega]; exact h2
          · rw [← hX2.out, List.head?_drop]; exact h1
      have AH : Hid (Ss.Ahead X1 Y1 ∧ Ss.Ahead X2 Y2) := ⟨fun x hx y hy => HAh.out x (by rw [HXX.out]; simp [hx]) y (by rw [HYY.out]; simp [hy]), fun x hx y hy => HAh.out x (by rw [HXX.out]; simp [hx]) y (by rw [HYY.out]; simp [hy])⟩
      have FT : Hid (∀ Z : List Tg, Z.Perm (X ++ Y) → Fits (A ++ (Z ++ B))) := fun Z hZ => Fits.perm (by rw [List.append_assoc]; exact HFx.out) hZ
      -- what lies there behind the rotation
      have HRot : Hid (t < p1 → t < d → ∀ u, Sw w0 H g n c (un (A ++ (X ++ (Y ++ B)))) u → Calls Try.prog 78 #[.slice (some ⟨g, 0, none⟩) n c, .int .i64 ((a : Int) + (t : Int)), .int .i64 (m : Int), .int .i64 ((nn : Int) - ((a : Int) + (t : Int))), cfv] u fun e w' => e = .returned (.tuple #[]) ∧ Sw w0 H g n c (un (A ++ (X1 ++ (Y1 ++ (X2 ++ (Y2 ++ B)))))) w') := fun q1 q2 u hu => by
        have h := rotate_any w0 H g n c cfv (un (A ++ X1)) (un X2) (un Y1) (un (Y2 ++ B)) ((a : Int) + (t : Int)) (m : Int) ((nn : Int) - ((a : Int) + (t : Int))) u (by
          rw [HXX.out, HYY.out] at hu
          simpa [un] using hu) hn (by rw [un_len, LX2.out]; omega) (by rw [un_len, LY1.out]; omega) (by rw [un_len, List.length_append, hA.out, LX1.out]; omega) (by rw [un_len, un_len, List.length_append, hA.out, LX1.out, LX2.out]; omega) (by rw [un_len, LY1.out]; omega)
        refine h.mono fun e w' hh => ⟨hh.1, ?_⟩
        have := hh.2
        simpa [un] using this
      have HNot : Hid (¬ (t < p1 ∧ t < d) → ∀ u, Sw w0 H g n c (un (A ++ (X ++ (Y ++ B)))) u → Sw w0 H g n c (un (A ++ (X1 ++ (Y1 ++ (X2 ++ (Y2 ++ B)))))) u) := fun q u hu => by
        have e : A ++ (X1 ++ (Y1 ++ (X2 ++ (Y2 ++ B)))) = A ++ (X ++ (Y ++ B)) := by
          rw [HXX.out, HYY.out]
          rcases Nat.lt_or_ge t p1 with g | g
          · have : Y1 = [] := List.eq_nil_of_length_eq_zero (by rw [LY1.out]; omega)
            rw [this]; simp
          · have : X2 = [] := List.eq_nil_of_length_eq_zero (by rw [LX2.out]; omega)
            rw [this]; simp
        rw [e]; exact hu
      have P1 : Hid (A ++ (X1 ++ (Y1 ++ (X2 ++ (Y2 ++ B)))) = A ++ (((X1 ++ Y1) ++ (X2 ++ Y2)) ++ B) ∧ ((X1 ++ Y1) ++ (X2 ++ Y2)).Perm (X ++ Y)) := ⟨by simp, by
        rw [HXX.out, HYY.out]
        simp only [List.append_assoc]
        refine List.Perm.append_left X1 ?_
        rw [← List.append_assoc, ← List.append_assoc]
        exact List.Perm.append_right Y2 List.perm_append_comm⟩
      have HL : Hid (0 < t → t < d → ∀ u, Sw w0 H g n c (un (A ++ (X1 ++ (Y1 ++ (X2 ++ (Y2 ++ B)))))) u → Calls Try.prog 74 #[.slice (some ⟨g, 0, none⟩) n c, .int .i64 (a : Int), .int .i64 ((a : Int) + (t : Int)), .int .i64 (md : Int), cfv] u fun e w' => e = .returned (.tuple #[]) ∧ ∃ Z : List Tg, Z.Perm (X1 ++ Y1) ∧ Ss.St Tr.cmpI Z ∧ Sw w0 H g n c (un (A ++ (Z ++ (X2 ++ (Y2 ++ B))))) w') := fun q1 q2 u hu =>
        HIH.out A X1 Y1 (X2 ++ (Y2 ++ B)) _ _ _ u (by rw [LX1.out, LY1.out]; omega) hu (by rw [P1.out.1]; exact FT.out _ P1.out.2) SX.out.1 SY.out.1 AH.out.1 (by rw [LX1.out]; exact q1) (by rw [LY1.out]; omega) (by rw [hA.out]) (by rw [hA.out, LX1.out]) (by rw [hA.out, LX1.out, LY1.out]; omega)
      have HLn : Hid (¬ (0 < t ∧ t < d) → ∀ u, Sw w0 H g n c (un (A ++ (X1 ++ (Y1 ++ (X2 ++ (Y2 ++ B)))))) u → ∃ Z : List Tg, Z.Perm (X1 ++ Y1) ∧ Ss.St Tr.cmpI Z ∧ Sw w0 H g n c (un (A ++ (Z ++ (X2 ++ (Y2 ++ B))))) u) := fun q u hu => by
        refine ⟨X1 ++ Y1, List.Perm.refl _, ?_, by rw [List.append_assoc]; exact hu⟩
        rcases Nat.eq_zero_or_pos t with g | g
        · have : X1 = [] := List.eq_nil_of_length_eq_zero (by rw [LX1.out]; omega)
          rw [this]; exact SY.out.1
        · have : Y1 = [] := List.eq_nil_of_length_eq_zero (by rw [LY1.out]; omega)
          rw [this, List.append_nil]; exact SX.out.1
      have HRr : Hid (t < p1 → d - t < p2 → ∀ (Z : List Tg) u, Z.Perm (X1 ++ Y1) → Sw w0 H g n c (un (A ++ (Z ++ (X2 ++ (Y2 ++ B))))) u → Calls Try.prog 74 #[.slice (some ⟨g, 0, none⟩) n c, .int .i64 (md : Int), .int .i64 ((nn : Int) - ((a : Int) + (t : Int))), .int .i64 (b : Int), cfv] u fun e w' => e = .returned (.tuple #[]) ∧ ∃ Z2 : List Tg, Z2.Perm (X2 ++ Y2) ∧ Ss.St Tr.cmpI Z2 ∧ Sw w0 H g n c (un (A ++ ((Z ++ Z2) ++ B))) w') := fun q1 q2 Z u hZ hu => by
        have hZl : Z.length = d := by rw [hZ.length_eq, List.length_append, LX1.out, LY1.out]; omega
        have h := HIH.out (A ++ Z) X2 Y2 B (md : Int) ((nn : Int) - ((a : Int) + (t : Int))) (b : Int) u (by rw [LX2.out, LY2.out]; omega) (by rw [List.append_assoc]; exact hu) (by
          have hf := FT.out (Z ++ (X2 ++ Y2)) ((List.Perm.append_right _ hZ).trans P1.out.2)
          simpa using hf) SX.out.2 SY.out.2 AH.out.2 (by rw [LX2.out]; omega) (by rw [LY2.out]; omega) (by rw [List.length_append, hA.out, hZl]; omega) (by rw [List.length_append, hA.out, hZl, LX2.out]; omega) (by rw [List.length_append, hA.out, hZl, LX2.out, LY2.out]; omega)
        refine h.mono fun e w' hh => ⟨hh.1, ?_⟩
        obtain ⟨Z2, g1, g2, g3⟩ := hh.2
        exact ⟨Z2, g1, g2, by simpa using g3⟩
      have HRn : Hid (¬ (t < p1 ∧ d - t < p2) → ∀ (Z : List Tg) u, Sw w0 H g n c (un (A ++ (Z ++ (X2 ++ (Y2 ++ B))))) u → ∃ Z2 : List Tg, Z2.Perm (X2 ++ Y2) ∧ Ss.St Tr.cmpI Z2 ∧ Sw w0 H g n c (un (A ++ ((Z ++ Z2) ++ B))) u) := fun q Z u hu => by
        refine ⟨X2 ++ Y2, List.Perm.refl _, ?_, by simpa using hu⟩
        rcases Nat.lt_or_ge t p1 with g | g
        · have : Y2 = [] := List.eq_nil_of_length_eq_zero (by rw [LY2.out]; omega)
          rw [this, List.append_nil]; exact SX.out.2
        · have : X2 = [] := List.eq_nil_of_length_eq_zero (by rw [LX2.out]; omega)
          rw [this]; exact SY.out.2
      have HEnd : Hid (∀ (Z1 Z2 : List Tg), Z1.Perm (X1 ++ Y1) → Ss.St Tr.cmpI Z1 → Z2.Perm (X2 ++ Y2) → Ss.St Tr.cmpI Z2 → (Z1 ++ Z2).Perm (X ++ Y) ∧ Ss.St Tr.cmpI (Z1 ++ Z2)) := fun Z1 Z2 p1 s1 p2 s2 => by
        have := Ss.st_merge (X1 := X1) (X2 := X2) (Y1 := Y1) (Y2 := Y2) (by rw [← HXX.out]; exact HSX.out) (by rw [← HYY.out]; exact HSY.out) p1 p2 s1 s2 O1.out O2.out
        rw [← HXX.out, ← HYY.out] at this
        exact ⟨this.2, this.1⟩
      clear hX1 hX2 hY1 hY2 HXX HYY LX1 LX2 LY1 LY2 SX SY O1 O2 AH FT P1 hlow hhigh HIH
      have hways : (t < p1 ∧ t < d ∧ 0 < t ∧ d - t < p2) ∨ (t < p1 ∧ t < d ∧ 0 < t ∧ ¬ d - t < p2) ∨ (t < p1 ∧ t < d ∧ ¬ 0 < t ∧ d - t < p2) ∨ (t < p1 ∧ t < d ∧ ¬ 0 < t ∧ ¬ d - t < p2) ∨ (t < p1 ∧ ¬ t < d ∧ 0 < t ∧ d - t < p2) ∨ (¬ t < p1 ∧ t < d ∧ 0 < t) ∨ (¬ t < p1 ∧ ¬ t < d ∧ 0 < t) := by omega
      rcases hways with hc | hc | hc | hc | hc | hc | hc
      · obtain ⟨c0, c1, c2, c3⟩ := hc
        have k1 : (a : Int) + (t : Int) < (m : Int) := by omega
        have k2 : (m : Int) < (nn : Int) - ((a : Int) + (t : Int)) := by omega
        have k3 : (a : Int) < (a : Int) + (t : Int) := by omega
        have k4 : (a : Int) + (t : Int) < (md : Int) := by omega
        have k5 : (md : Int) < (nn : Int) - ((a : Int) + (t : Int)) := by omega
        have k6 : (nn : Int) - ((a : Int) + (t : Int)) < (b : Int) := by omega
        have HS1 : Hid (Sw w0 H g n c (un (A ++ (X ++ (Y ++ B)))) wr) := hsw.out
        go_wp2_with (first | (go_at_call 78; refine (HRot.out (by omega) (by omega) _ HS1.out).mono ?_; rintro e w1 ⟨rfl, hs1⟩; skip) | (go_at_call 74; clear k3; refine (HL.out (by omega) (by omega) _ hs1).mono ?_; rintro e w2 ⟨rfl, Z1, z1, z2, hs2⟩) | (go_at_call 74; clear k6; refine (HRr.out (by omega) (by omega) Z1 _ z1 hs2).mono ?_; rintro e w3 ⟨rfl, Z2, z3, z4, hs3⟩))
        all_goals (go_end0; exact ⟨rfl, Z1 ++ Z2, (HEnd.out Z1 Z2 z1 z2 z3 z4).1, (HEnd.out Z1 Z2 z1 z2 z3 z4).2, hs3⟩)
      · obtain ⟨c0, c1, c2, c3⟩ := hc
        have k1 : (a : Int) + (t : Int) < (m : Int) := by omega
        have k2 : (m : Int) < (nn : Int) - ((a : Int) + (t : Int)) := by omega
        have k3 : (a : Int) < (a : Int) + (t : Int) := by omega
        have k4 : (a : Int) + (t : Int) < (md : Int) := by omega
        have k5 : (md : Int) < (nn : Int) - ((a : Int) + (t : Int)) := by omega
        have k6 : ¬ (nn : Int) - ((a : Int) + (t : Int)) < (b : Int) := by omega
        have HS1 : Hid (Sw w0 H g n c (un (A ++ (X ++ (Y ++ B)))) wr) := hsw.out
        go_wp2_with (first | (go_at_call 78; refine (HRot.out (by omega) (by omega) _ HS1.out).mono ?_; rintro e w1 ⟨rfl, hs1⟩; skip) | (go_at_call 74; clear k3; refine (HL.out (by omega) (by omega) _ hs1).mono ?_; rintro e w2 ⟨rfl, Z1, z1, z2, hs2⟩; obtain ⟨Z2, z3, z4, hs3⟩ := HRn.out (by omega) Z1 _ hs2))
        all_goals (go_end0; exact ⟨rfl, Z1 ++ Z2, (HEnd.out Z1 Z2 z1 z2 z3 z4).1, (HEnd.out Z1 Z2 z1 z2 z3 z4).2, hs3⟩)
      · obtain ⟨c0, c1, c2, c3⟩ := hc
        have k1 : (a : Int) + (t : Int) < (m : Int) := by omega
        have k2 : (m : Int) < (nn : Int) - ((a : Int) + (t : Int)) := by omega
        have k3 : ¬ (a : Int) < (a : Int) + (t : Int) := by omega
        have k4 : (a : Int) + (t : Int) < (md : Int) := by omega
        have k5 : (md : Int) < (nn : Int) - ((a : Int) + (t : Int)) := by omega
        have k6 : (nn : Int) - ((a : Int) + (t : Int)) < (b : Int) := by omega
        have HS1 : Hid (Sw w0 H g n c (un (A ++ (X ++ (Y ++ B)))) wr) := hsw.out
        go_wp2_with (first | (go_at_call 78; refine (HRot.out (by omega) (by omega) _ HS1.out).mono ?_; rintro e w1 ⟨rfl, hs1⟩; obtain ⟨Z1, z1, z2, hs2⟩ := HLn.out (by omega) _ hs1; skip) | (go_at_call 74; clear k6; refine (HRr.out (by omega) (by omega) Z1 _ z1 hs2).mono ?_; rintro e w3 ⟨rfl, Z2, z3, z4, hs3⟩))
        all_goals (go_end0; exact ⟨rfl, Z1 ++ Z2, (HEnd.out Z1 Z2 z1 z2 z3 z4).1, (HEnd.out Z1 Z2 z1 z2 z3 z4).2, hs3⟩)
      · obtain ⟨c0, c1, c2, c3⟩ := hc
        have k1 : (a : Int) + (t : Int) < (m : Int) := by omega
        have k2 : (m : Int) < (nn : Int) - ((a : Int) + (t : Int)) := by omega
        have k3 : ¬ (a : Int) < (a : Int) + (t : Int) := by omega
        have k4 : (a : Int) + (t : Int) < (md : Int) := by omega
        have k5 : (md : Int) < (nn : Int) - ((a : Int) + (t : Int)) := by omega
        have k6 : ¬ (nn : Int) - ((a : Int) + (t : Int)) < (b : Int) := by omega
        have HS1 : Hid (Sw w0 H g n c (un (A ++ (X ++ (Y ++ B)))) wr) := hsw.out
        go_wp2_with (first | (go_at_call 78; refine (HRot.out (by omega) (by omega) _ HS1.out).mono ?_; rintro e w1 ⟨rfl, hs1⟩; obtain ⟨Z1, z1, z2, hs2⟩ := HLn.out (by omega) _ hs1; obtain ⟨Z2, z3, z4, hs3⟩ := HRn.out (by omega) Z1 _ hs2; skip))
        all_goals (go_end0; exact ⟨rfl, Z1 ++ Z2, (HEnd.out Z1 Z2 z1 z2 z3 z4).1, (HEnd.out Z1 Z2 z1 z2 z3 z4).2, hs3⟩)
      · obtain ⟨c0, c1, c2, c3⟩ := hc
        have k1 : (a : Int) + (t : Int) < (m : Int) := by omega
        have k2 : ¬ (m : Int) < (nn : Int) - ((a : Int) + (t : Int)) := by omega
        have k3 : (a : Int) < (a : Int) + (t : Int) := by omega
        have k4 : ¬ (a : Int) + (t : Int) < (md : Int) := by omega
        have k5 : (md : Int) < (nn : Int) - ((a : Int) + (t : Int)) := by omega
        have k6 : (nn : Int) - ((a : Int) + (t : Int)) < (b : Int) := by omega
        have HS1 : Hid (Sw w0 H g n c (un (A ++ (X ++ (Y ++ B)))) wr) := hsw.out
        have hs1 := HNot.out (by omega) _ HS1.out
        obtain ⟨Z1, z1, z2, hs2⟩ := HLn.out (by omega) _ hs1
        go_wp2_with (first | (go_at_call 74; clear k6; refine (HRr.out (by omega) (by omega) Z1 _ z1 hs2).mono ?_; rintro e w3 ⟨rfl, Z2, z3, z4, hs3⟩))
        all_goals (go_end0; exact ⟨rfl, Z1 ++ Z2, (HEnd.out Z1 Z2 z1 z2 z3 z4).1, (HEnd.out Z1 Z2 z1 z2 z3 z4).2, hs3⟩)
      · obtain ⟨c0, c1, c2⟩ := hc
        have k1 : ¬ (a : Int) + (t : Int) < (m : Int) := by omega
        have k2 : (m : Int) < (nn : Int) - ((a : Int) + (t : Int)) := by omega
        have k3 : (a : Int) < (a : Int) + (t : Int) := by omega
        have k4 : (a : Int) + (t : Int) < (md : Int) := by omega
        have k5 : ¬ (md : Int) < (nn : Int) - ((a : Int) + (t : Int)) := by omega
        have HS1 : Hid (Sw w0 H g n c (un (A ++ (X ++ (Y ++ B)))) wr) := hsw.out
        have hs1 := HNot.out (by omega) _ HS1.out
        go_wp2_with (first | (go_at_call 74; clear k3; refine (HL.out (by omega) (by omega) _ hs1).mono ?_; rintro e w2 ⟨rfl, Z1, z1, z2, hs2⟩; obtain ⟨Z2, z3, z4, hs3⟩ := HRn.out (by omega) Z1 _ hs2))
        all_goals (go_end0; exact ⟨rfl, Z1 ++ Z2, (HEnd.out Z1 Z2 z1 z2 z3 z4).1, (HEnd.out Z1 Z2 z1 z2 z3 z4).2, hs3⟩)
      · obtain ⟨c0, c1, c2⟩ := hc
        have k1 : ¬ (a : Int) + (t : Int) < (m : Int) := by omega
        have k2 : ¬ (m : Int) < (nn : Int) - ((a : Int) + (t : Int)) := by omega
        have k3 : (a : Int) < (a : Int) + (t : Int) := by omega
        have k4 : ¬ (a : Int) + (t : Int) < (md : Int) := by omega
        have k5 : ¬ (md : Int) < (nn : Int) - ((a : Int) + (t : Int)) := by omega
        have HS1 : Hid (Sw w0 H g n c (un (A ++ (X ++ (Y ++ B)))) wr) := hsw.out
        have hs1 := HNot.out (by omega) _ HS1.out
        obtain ⟨Z1, z1, z2, hs2⟩ := HLn.out (by omega) _ hs1
        obtain ⟨Z2, z3, z4, hs3⟩ := HRn.out (by omega) Z1 _ hs2
        go_wp2
        all_goals (go_end0; exact ⟨rfl, Z1 ++ Z2, (HEnd.out Z1 Z2 z1 z2 z3 z4).1, (HEnd.out Z1 Z2 z1 z2 z3 z4).2, hs3⟩)
end Go.Proofs.Ytjifdoneejofiab
