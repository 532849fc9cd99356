/- slices.SortStableFunc at items, as landed at 97b3c5cd: what is sorted, comparing, exchanging. -/
import Derived.Test.YtjifdoneejofiabYF
import Derived.Test.YtjifdoneejofiabY6
import Derived.Deep.LoopGhost
namespace Go.Proofs.Ytjifdoneejofiab
open Go.RowKit Go.Deep
set_option linter.unusedVariables false
set_option linter.unusedSimpArgs false

/-- a list of items of a call's own in block g, under way -/
structure Sw (w0 : World) (H g n c : Nat) (M : List Tr.Iv) (W : World) : Prop where
  own : W.ownsRow H 26 6 (.slice (some ⟨g, 0, none⟩) n c) n (Tr.cellsI M)
  len : M.length = n
  bx : Bx (· = g) w0 W
theorem Sw.keep {w0 : World} {H g n c : Nat} {M : List Tr.Iv} {W W' : World} (h : Sw w0 H g n c M W) (k : Bw W W') : Sw w0 H g n c M W' := ⟨own_keep h.own k, h.len, h.bx.trans (Bx.of_bw k)⟩
theorem Sw.at {w0 : World} {H g n c : Nat} {M : List Tr.Iv} {W : World} (h : Sw w0 H g n c M W) {i : Nat} {y : Tr.Iv} (hy : M[i]? = some y) : ItAt W g (i * 6) y := by
  have hi := (List.getElem?_eq_some_iff.1 hy).1
  rw [h.len] at hi
  refine ItAt.of fun k v hv => ?_
  have hk : k < 6 := (List.getElem?_eq_some_iff.1 hv).1
  rw [h.own.cellAt (i * 6 + k) (by omega), Tr.cellsI_get M i y k hy hk]
  exact hv
theorem Sw.free {w0 : World} {H g n c : Nat} {M : List Tr.Iv} {W : World} (h : Sw w0 H g n c M W) (j : Nat) : W.frozen? ⟨g, j, none⟩ = false := h.own.frozenAt j
/-- an item stored -/
def putIt (W : World) (g o : Nat) (y : Tr.Iv) : World := (((((W.setCell ⟨g, o, none⟩ (.string (Nm.S y.it.path))).setCell ⟨g, o + 1, none⟩ (.int .u8 (y.it.kind : Int))).setCell ⟨g, o + 2, none⟩ (.int .i64 y.it.mode)).setCell ⟨g, o + 3, none⟩ (.int .i64 y.it.time)).setCell ⟨g, o + 4, none⟩ (.slice y.ad y.it.body.length y.cp)).setCell ⟨g, o + 5, none⟩ (.string (Nm.S y.it.to))
theorem Sw.put {w0 : World} {H g n c : Nat} {M : List Tr.Iv} {W : World} (h : Sw w0 H g n c M W) {i : Nat} (hi : i < n) (y : Tr.Iv) : Sw w0 H g n c (M.set i y) (putIt W g (i * 6) y) := by
  refine ⟨?_, by rw [List.length_set]; exact h.len, ?_⟩
  · rw [← Tr.cells_put M i y (by rw [h.len]; exact hi)]
    unfold putIt
    exact ((((((h.own.stored _ _).1.stored _ _).1.stored _ _).1.stored _ _).1.stored _ _).1.stored _ _).1
  · unfold putIt
    exact (((((h.bx.put rfl).put rfl).put rfl).put rfl).put rfl).put rfl
theorem Sw.drew {w0 : World} {H g n c : Nat} {M : List Tr.Iv} {W : World} (h : Sw w0 H g n c M W) : Sw w0 H g n c M W.drew := h.keep (Bw.refl _).drew
theorem Sw.swap {w0 : World} {H g n c : Nat} {A C B : List Tr.Iv} {x y : Tr.Iv} {W : World} (h : Sw w0 H g n c (A ++ x :: (C ++ y :: B)) W) {i j : Nat} (hi : i = A.length) (hj : j = A.length + 1 + C.length) : Sw w0 H g n c (A ++ y :: (C ++ x :: B)) (putIt (putIt W g (i * 6) y) g (j * 6) x) := by
  subst hi hj
  have hl := h.len
  simp only [List.length_append, List.length_cons] at hl
  have h1 := h.put (i := A.length) (by omega) y
  rw [Tr.set_at] at h1
  have h2 := h1.put (i := A.length + 1 + C.length) (by omega) x
  have e : A ++ y :: (C ++ y :: B) = (A ++ y :: C) ++ y :: B := by simp
  have e2 : A ++ y :: (C ++ x :: B) = (A ++ y :: C) ++ x :: B := by simp
  have e3 : A.length + 1 + C.length = (A ++ y :: C).length := by simp; omega
  rw [e] at h2
  rw [e2]
  rw [e3, Tr.set_at, ← e3] at h2
  exact h2
theorem Sw.swap' {w0 : World} {H g n c : Nat} {A C B : List Tr.Iv} {x y : Tr.Iv} {W : World} (h : Sw w0 H g n c (A ++ x :: (C ++ y :: B)) W) {i j : Nat} (hi : i = A.length) (hj : j = A.length + 1 + C.length) : Sw w0 H g n c (A ++ y :: (C ++ x :: B)) (putIt (putIt W g (j * 6) x) g (i * 6) y) := by
  subst hi hj
  have hl := h.len
  simp only [List.length_append, List.length_cons] at hl
  have e : A ++ x :: (C ++ y :: B) = (A ++ x :: C) ++ y :: B := by simp
  have e2 : (A ++ x :: C) ++ x :: B = A ++ x :: (C ++ x :: B) := by simp
  have e3 : A.length + 1 + C.length = (A ++ x :: C).length := by simp; omega
  rw [e] at h
  have h1 := h.put (i := A.length + 1 + C.length) (by omega) x
  rw [e3, Tr.set_at, ← e3, e2] at h1
  have h2 := h1.put (i := A.length) (by omega) y
  rw [Tr.set_at] at h2
  exact h2
set_option maxRecDepth 100000 in
set_option maxHeartbeats 4000000 in
theorem swapr_any (w0 : World) (H g n c : Nat) (cf : Value) (A U C V B : List Tr.Iv) (k : Nat) (hU : U.length = k) (hV : V.length = k) (hn : n ≤ 2199023255552) (w : World) (hs : Sw w0 H g n c (A ++ (U ++ (C ++ (V ++ B)))) w) :
    Calls Try.prog 84 #[.slice (some ⟨g, 0, none⟩) n c, .int .i64 (A.length : Int), .int .i64 ((A.length + k + C.length : Nat) : Int), .int .i64 (k : Int), cf] w fun e w' => e = .returned (.tuple #[]) ∧ Sw w0 H g n c (A ++ (V ++ (C ++ (U ++ B)))) w' := by
  have hlen := hs.len
  simp only [List.length_append, hU, hV] at hlen
  obtain ⟨a, ha⟩ : ∃ a, Hid (A.length = a) := ⟨_, rfl⟩
  obtain ⟨b, hb⟩ : ∃ b, Hid (A.length + k + C.length = b) := ⟨_, rfl⟩
  have hab : a + k ≤ b ∧ b + k ≤ n := by have := ha.out; have := hb.out; omega
  obtain ⟨hab1, hab2⟩ := hab
  rw [hb.out, ha.out]
  have HU : Hid (U.length = k) := hU
  have HV : Hid (V.length = k) := hV
  have HS : Hid (Sw w0 H g n c (A ++ (U ++ (C ++ (V ++ B)))) w) := hs
  clear hs hU hV hlen
  go_enter Try.func84, Try.ntmps84
  go_wp2
  go_loopw [10] (fun i wr => ∃ (j : Nat), j ≤ k ∧ i = .int .i64 (j : Int) ∧ Hid (Sw w0 H g n c (A ++ ((V.take j ++ U.drop j) ++ (C ++ ((U.take j ++ V.drop j) ++ B)))) wr)) (fun i _ => k - (intOf i).toNat)
  case atStart => exact ⟨0, Nat.zero_le _, rfl, (by show Sw _ _ _ _ _ _ _; simpa using HS.out)⟩
  case round =>
    obtain ⟨j, hj, rfl, hsw⟩ := hrel
    by_cases hlt : j < k
    · have i1 : (j : Int) < (k : Int) := by omega
      obtain ⟨x, hx⟩ : ∃ x, Hid (U.drop j = x :: U.drop (j + 1)) := ⟨_, List.drop_eq_getElem_cons (by rw [HU.out]; exact hlt)⟩
      obtain ⟨y, hy⟩ : ∃ y, Hid (V.drop j = y :: V.drop (j + 1)) := ⟨_, List.drop_eq_getElem_cons (by rw [HV.out]; exact hlt)⟩
      have hs1 := hsw.out
      rw [hx.out, hy.out] at hs1
      have e1 : A ++ ((V.take j ++ x :: U.drop (j + 1)) ++ (C ++ ((U.take j ++ y :: V.drop (j + 1)) ++ B))) = (A ++ V.take j) ++ x :: ((U.drop (j + 1) ++ C ++ U.take j) ++ y :: (V.drop (j + 1) ++ B)) := by simp
      rw [e1] at hs1
      have l1 : (A ++ V.take j).length = a + j := by rw [List.length_append, List.length_take, ha.out, HV.out]; omega
      have l2 : (A ++ V.take j).length + 1 + (U.drop (j + 1) ++ C ++ U.take j).length = b + j := by
        rw [l1, List.length_append, List.length_append, List.length_drop, List.length_take, HU.out, ← hb.out, ha.out]; omega
      have hX := hs1.at (i := a + j) (y := x) (by rw [← l1]; exact Tr.get_at _ _ _)
      have hY := hs1.at (i := b + j) (y := y) (by
        rw [← l2]
        have := Tr.get_at ((A ++ V.take j) ++ x :: (U.drop (j + 1) ++ C ++ U.take j)) (V.drop (j + 1) ++ B) y
        rw [← this]
        congr 1
        · simp
        · simp; omega)
      have HS1 : Hid (Sw w0 H g n c ((A ++ V.take j) ++ x :: ((U.drop (j + 1) ++ C ++ U.take j) ++ y :: (V.drop (j + 1) ++ B))) wr) := hs1
      have hfr := hs1.free
      obtain ⟨x0, x1, x2, x3, x4, x5⟩ := hX
      obtain ⟨y0, y1, y2, y3, y4, y5⟩ := hY
      clear hs1 e1
      have L1 : Hid _ := l1
      have L2 : Hid _ := l2
      clear l1 l2
      have r1 : IntKind.i64.wrap ((a : Int) + (j : Int)) = ((a + j : Nat) : Int) := by rw [IntKind.wrap_i64]; omega
      have r2 : IntKind.i64.wrap ((b : Int) + (j : Int)) = ((b + j : Nat) : Int) := by rw [IntKind.wrap_i64]; omega
      have HS2 : Hid (Sw w0 H g n c (A ++ ((V.take (j + 1) ++ U.drop (j + 1)) ++ (C ++ ((U.take (j + 1) ++ V.drop (j + 1)) ++ B)))) (putIt (putIt wr g ((a + j) * 6) y) g ((b + j) * 6) x).drew) := by
        have h2 := (HS1.out.swap (i := a + j) (j := b + j) L1.out.symm L2.out.symm).drew
        have tv := Tr.take_next hy.out
        have tu := Tr.take_next hx.out
        show Sw _ _ _ _ _ _ _
        rw [tv, tu]
        have e2 : (A ++ V.take j) ++ y :: ((U.drop (j + 1) ++ C ++ U.take j) ++ x :: (V.drop (j + 1) ++ B)) = A ++ (((V.take j ++ [y]) ++ U.drop (j + 1)) ++ (C ++ (((U.take j ++ [x]) ++ V.drop (j + 1)) ++ B))) := by simp
        rw [← e2]; exact h2
      clear hsw
      go_wp2_with fail
      go_region
      change Exit.inBlock 1 _ _ _ (putIt (putIt wr g ((a + j) * 6) y) g ((b + j) * 6) x).drew
      clear x0 x1 x2 x3 x4 x5 y0 y1 y2 y3 y4 y5 hfr HS1
      generalize (putIt (putIt wr g ((a + j) * 6) y) g ((b + j) * 6) x).drew = wv at HS2 ⊢
      go_wp2
      go_roundw
      case rel => exact ⟨j + 1, by omega, by go_num, HS2⟩
      case measure => simp [intOf]; omega
    · obtain rfl : j = k := by omega
      have HS2 : Hid (Sw w0 H g n c (A ++ (V ++ (C ++ (U ++ B)))) wr) := by
        have h := hsw.out
        rw [List.take_of_length_le (by rw [HV.out]; exact Nat.le_refl _), List.drop_eq_nil_of_le (by rw [HU.out]; exact Nat.le_refl _), List.take_of_length_le (by rw [HU.out]; exact Nat.le_refl _), List.drop_eq_nil_of_le (by rw [HV.out]; exact Nat.le_refl _), List.append_nil, List.append_nil] at h
        exact h
      clear hsw
      go_wp2
      go_end0
      exact ⟨rfl, HS2.out⟩
theorem swapr_at (w0 : World) (H g n c : Nat) (cf : Value) (A U C V B : List Tr.Iv) (xa xb xk : Int) (w : World) (hs : Sw w0 H g n c (A ++ (U ++ (C ++ (V ++ B)))) w) (hn : n ≤ 2199023255552) (hU : xk = U.length) (hV : xk = V.length) (ha : xa = A.length) (hb : xb = (A.length : Int) + xk + C.length) :
    Calls Try.prog 84 #[.slice (some ⟨g, 0, none⟩) n c, .int .i64 xa, .int .i64 xb, .int .i64 xk, cf] w fun e w' => e = .returned (.tuple #[]) ∧ Sw w0 H g n c (A ++ (V ++ (C ++ (U ++ B)))) w' := by
  have := swapr_any w0 H g n c cf A U C V B U.length rfl (by omega) hn w hs
  rw [← ha, ← hU, show ((A.length + U.length + C.length : Nat) : Int) = xb by omega] at this
  exact this
set_option maxRecDepth 100000 in
set_option maxHeartbeats 4000000 in
theorem rotate_any (w0 : World) (H g n c : Nat) (cf : Value) (A U V B : List Tr.Iv) (xa xm xb : Int) (w : World) (hs : Sw w0 H g n c (A ++ (U ++ (V ++ B))) w) (hn : n ≤ 2199023255552) (hU : 0 < U.length) (hV : 0 < V.length) (ha : xa = A.length) (hm : xm = (A.length : Int) + U.length) (hb : xb = xm + V.length) :
    Calls Try.prog 78 #[.slice (some ⟨g, 0, none⟩) n c, .int .i64 xa, .int .i64 xm, .int .i64 xb, cf] w fun e w' => e = .returned (.tuple #[]) ∧ Sw w0 H g n c (A ++ (V ++ (U ++ B))) w' := by
  have hlen := hs.len
  simp only [List.length_append] at hlen
  obtain ⟨a, hA⟩ : ∃ a, Hid (A.length = a) := ⟨_, rfl⟩
  obtain ⟨u, hUu⟩ : ∃ u, Hid (U.length = u) := ⟨_, rfl⟩
  obtain ⟨v, hVv⟩ : ∃ v, Hid (V.length = v) := ⟨_, rfl⟩
  rw [hA.out] at ha hm hlen
  rw [hUu.out] at hU hm hlen
  rw [hVv.out] at hV hb hlen
  subst hb hm ha
  obtain ⟨m, hmm⟩ : ∃ m, Hid (a + u = m) := ⟨_, rfl⟩
  have hmn : m + v ≤ n := by rw [← hmm.out]; omega
  have hm2 : (a : Int) + (u : Int) = (m : Int) := by have := hmm.out; omega
  have ham : a + u ≤ m ∧ m ≤ a + u := by have := hmm.out; omega
  obtain ⟨ham1, ham2⟩ := ham
  rw [hm2]
  clear hm2 hlen
  have HS : Hid (Sw w0 H g n c (A ++ (U ++ (V ++ B))) w) := hs
  obtain ⟨T, hT⟩ : ∃ T, Hid (A ++ (V ++ (U ++ B)) = T) := ⟨_, rfl⟩
  rw [hT.out]
  clear hs
  have e1 : (m : Int) - (a : Int) = (u : Int) := by omega
  have e2 : (m : Int) + (v : Int) - (m : Int) = (v : Int) := by omega
  go_enter Try.func78, Try.ntmps78
  go_wp2
  clear e1 e2
  go_loopw [10, 11] (fun s10 s11 wr => ∃ (p q : Nat) (A' U' V' B' : List Tr.Iv), s10 = .int .i64 (p : Int) ∧ s11 = .int .i64 (q : Int) ∧ 0 < p ∧ 0 < q ∧ p ≤ m ∧ m + q ≤ n ∧ Hid (A'.length + p = m) ∧ Hid (U'.length = p) ∧ Hid (V'.length = q) ∧ Hid (A' ++ (V' ++ (U' ++ B')) = T) ∧ Hid (Sw w0 H g n c (A' ++ (U' ++ (V' ++ B'))) wr)) (fun s10 s11 _ => (intOf s10).toNat + (intOf s11).toNat)
  case atStart =>
    exact ⟨u, v, A, U, V, B, by first | rfl | (congr 1; omega), by first | rfl | (congr 1; omega), hU, hV, by omega, hmn, by show _ = _; rw [hA.out, hmm.out], hUu.out, hVv.out, hT.out, HS.out⟩
  case round =>
    obtain ⟨p, q, A', U', V', B', rfl, rfl, hp, hq, hpm, hqn, hA', hU', hV', hT', hsw⟩ := hrel
    rcases Nat.lt_trichotomy p q with hlt | heq | hgt
    · have hne : ((p : Int) == (q : Int)) = false := by rw [beq_eq_false_iff_ne]; omega
      have HC : Hid (Calls Try.prog 84 #[.slice (some ⟨g, 0, none⟩) n c, .int .i64 ((m : Int) - (p : Int)), .int .i64 ((m : Int) + (q : Int) - (p : Int)), .int .i64 (p : Int), cf] wr fun e w' => e = .returned (.tuple #[]) ∧ Sw w0 H g n c (A' ++ (V'.drop (q - p) ++ (V'.take (q - p) ++ (U' ++ B')))) w') := by
        refine swapr_at w0 H g n c cf A' U' (V'.take (q - p)) (V'.drop (q - p)) B' _ _ _ wr ?_ hn (by rw [hU'.out]) (by rw [List.length_drop, hV'.out]; omega) (by have := hA'.out; omega) (by rw [List.length_take, hV'.out]; have := hA'.out; omega)
        rw [Tr.cut_join]; exact hsw.out
      go_wp2_with (go_at_call 84; refine HC.out.mono ?_; rintro e w1 ⟨rfl, hs1⟩)
      go_roundw
      case rel =>
        refine ⟨p, q - p, A', V'.drop (q - p), V'.take (q - p), U' ++ B', rfl, by rw [show ((q - p : Nat) : Int) = (q : Int) - (p : Int) by omega], hp, by omega, hpm, by omega, hA'.out, ?_, ?_, ?_, ?_⟩
        · show _ = _; rw [List.length_drop, hV'.out]; omega
        · show _ = _; rw [List.length_take, hV'.out]; omega
        · show _ = _
          rw [← hT'.out, Tr.cut_join]
        · exact hs1
      case measure => simp [intOf]; omega
    · subst heq
      have hne : ((p : Int) == (p : Int)) = true := by simp
      have HC : Hid (Calls Try.prog 84 #[.slice (some ⟨g, 0, none⟩) n c, .int .i64 ((m : Int) - (p : Int)), .int .i64 (m : Int), .int .i64 (p : Int), cf] wr fun e w' => e = .returned (.tuple #[]) ∧ Sw w0 H g n c T w') := by
        have := swapr_at w0 H g n c cf A' U' [] V' B' ((m : Int) - (p : Int)) (m : Int) (p : Int) wr hsw.out hn (by rw [hU'.out]) (by rw [hV'.out]) (by have := hA'.out; omega) (by have := hA'.out; simp; omega)
        rw [List.nil_append, hT'.out] at this
        exact this
      go_wp2_with (go_at_call 84; refine HC.out.mono ?_; rintro e w1 ⟨rfl, hs1⟩)
      go_end0
      exact ⟨rfl, hs1⟩
    · have hne : ((p : Int) == (q : Int)) = false := by rw [beq_eq_false_iff_ne]; omega
      have HC : Hid (Calls Try.prog 84 #[.slice (some ⟨g, 0, none⟩) n c, .int .i64 ((m : Int) - (p : Int)), .int .i64 (m : Int), .int .i64 (q : Int), cf] wr fun e w' => e = .returned (.tuple #[]) ∧ Sw w0 H g n c (A' ++ (V' ++ (U'.drop q ++ (U'.take q ++ B')))) w') := by
        refine swapr_at w0 H g n c cf A' (U'.take q) (U'.drop q) V' B' _ _ _ wr ?_ hn (by rw [List.length_take, hU'.out]; omega) (by rw [hV'.out]) (by have := hA'.out; omega) (by rw [List.length_drop, hU'.out]; have := hA'.out; omega)
        rw [Tr.cut_join]; exact hsw.out
      go_wp2_with (go_at_call 84; refine HC.out.mono ?_; rintro e w1 ⟨rfl, hs1⟩)
      go_roundw
      case rel =>
        refine ⟨p - q, q, A' ++ V', U'.drop q, U'.take q, B', by rw [show ((p - q : Nat) : Int) = (p : Int) - (q : Int) by omega], rfl, by omega, hq, by omega, hqn, ?_, ?_, ?_, ?_, ?_⟩
        · show _ = _; rw [List.length_append, hV'.out]; have := hA'.out; omega
        · show _ = _; rw [List.length_drop, hU'.out]
        · show _ = _; rw [List.length_take, hU'.out]; omega
        · show _ = _
          rw [← hT'.out, List.append_assoc, Tr.cut_join]
        · show Sw _ _ _ _ _ _ _; rw [List.append_assoc]; exact hs1
      case measure => simp [intOf]; omega
end Go.Proofs.Ytjifdoneejofiab
