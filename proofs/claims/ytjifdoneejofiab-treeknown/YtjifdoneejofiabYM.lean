/- The program's own Sort, of layer 11, as landed at 97b3c5cd. -/
import Derived.Test.YtjifdoneejofiabYJ
import Derived.Test.YtjifdoneejofiabYK
namespace Go.Proofs.Ytjifdoneejofiab
open Go.RowKit Go.Deep
set_option linter.unusedVariables false
set_option linter.unusedSimpArgs false

theorem sym_any (w0 : World) (H g n c : Nat) (hn : n ≤ 2199023255552) : ∀ (N : Nat) (A X Y B : List Tg) (xa xm xb : Int) (w : World), X.length + Y.length ≤ N → Sw w0 H g n c (un (A ++ (X ++ (Y ++ B)))) w → Fits (A ++ (X ++ (Y ++ B))) → Ss.St Tr.cmpI X → Ss.St Tr.cmpI Y → Ss.Ahead X Y → 0 < X.length → 0 < Y.length → xa = A.length → xm = (A.length : Int) + X.length → xb = (A.length : Int) + X.length + Y.length →
    Calls Try.prog 74 #[.slice (some ⟨g, 0, none⟩) n c, .int .i64 xa, .int .i64 xm, .int .i64 xb, cfv] w fun e w' => e = .returned (.tuple #[]) ∧ ∃ Z : List Tg, Z.Perm (X ++ Y) ∧ Ss.St Tr.cmpI Z ∧ Sw w0 H g n c (un (A ++ (Z ++ B))) w'
  | 0, A, X, Y, B, xa, xm, xb, w, hN, _, _, _, _, _, h1, _, _, _, _ => by omega
  | N + 1, A, X, Y, B, xa, xm, xb, w, hN, hs, hf, hSX, hSY, hAh, h1, h2, ha, hm, hb => by
    by_cases e1 : X.length = 1
    · exact sym_one w0 H g n c A X Y B xa xm xb w hs hf hn hSX hSY hAh ha hm hb e1 h2
    by_cases e2 : Y.length = 1
    · exact sym_two w0 H g n c A X Y B xa xm xb w hs hf hn hSX hSY hAh ha hm hb (by omega) e2
    have IH := fun (A' X' Y' B' : List Tg) (ya ym yb : Int) (u : World) (hlt : X'.length + Y'.length < X.length + Y.length) => sym_any w0 H g n c hn N A' X' Y' B' ya ym yb u (by omega)
    by_cases e3 : X.length ≤ (X.length + Y.length) / 2
    · exact sym_gen2 w0 H g n c A X Y B xa xm xb w hs hf hn hSX hSY hAh ha hm hb (by omega) (by omega) e3 IH
    · exact sym_gen1 w0 H g n c A X Y B xa xm xb w hs hf hn hSX hSY hAh ha hm hb (by omega) (by omega) (by omega) IH
theorem cut3 {α : Type} (T : List α) (a k : Nat) : T.take a ++ ((T.drop a).take k ++ T.drop (a + k)) = T := by
  rw [← List.drop_drop, List.take_append_drop, List.take_append_drop]
theorem cut4 {α : Type} (T : List α) (a k j : Nat) : T.take a ++ ((T.drop a).take k ++ ((T.drop (a + k)).take j ++ T.drop (a + k + j))) = T := by
  rw [← List.drop_drop (i := j), List.take_append_drop, cut3]
set_option maxRecDepth 100000 in
set_option maxHeartbeats 8000000 in
theorem stable_any (w0 : World) (H g n c : Nat) (M : List Tr.Iv) (hn : n ≤ 2199023255552) (w : World) (hs : Sw w0 H g n c M w) (hf : ∀ y ∈ M, Tr.Fit y.it) :
    Calls Try.prog 61 #[.slice (some ⟨g, 0, none⟩) n c, .int .i64 (n : Int), cfv] w fun e w' => e = .returned (.tuple #[]) ∧ ∃ M', Ss.Stable Tr.cmpI M M' ∧ Sw w0 H g n c M' w' := by
  have hMl := hs.len
  have HT0 : Hid (un (Ss.tag 0 M) = M) := Ss.tag_map 0 M
  have HF0 : Hid (∀ T : List Tg, T.Perm (Ss.tag 0 M) → Fits T ∧ T.length = n) := fun T hT => ⟨fun x hx => hf _ (by
    have h := hT.mem_iff.1 hx
    have h2 : x.1 ∈ (Ss.tag 0 M).map (·.1) := List.mem_map_of_mem h
    rwa [Ss.tag_map] at h2), by rw [hT.length_eq, Ss.tag_len, hMl]⟩
  have HS : Hid (Sw w0 H g n c M w) := hs
  clear hs hf hMl
  go_enter Try.func61, Try.ntmps61
  go_wp2
  go_loopw [7, 8] (fun s7 s8 wr => ∃ (a k : Nat) (T : List Tg), s7 = .int .i64 (a : Int) ∧ s8 = .int .i64 ((a : Int) + 20) ∧ a ≤ n ∧ Hid (k * 20 = a) ∧ Hid (T.Perm (Ss.tag 0 M)) ∧ Hid (Ss.First Tr.cmpI 20 k T) ∧ Hid (Sw w0 H g n c (un T) wr)) (fun s7 _ _ => n + 20 - (intOf s7).toNat)
  case atStart => exact ⟨0, 0, Ss.tag 0 M, rfl, rfl, Nat.zero_le _, rfl, List.Perm.refl _, Ss.First.start _ _ _, by show Sw _ _ _ _ _ _ _; rw [HT0.out]; exact HS.out⟩
  case round =>
    obtain ⟨a, k, T, rfl, rfl, han, hak, hT, hFi, hsw⟩ := hrel
    have HTl : Hid (T.length = n) := (HF0.out T hT.out).2
    by_cases hlt : a + 20 ≤ n
    · have hltz : (a : Int) + 20 ≤ (n : Int) := by omega
      have HI : Hid (∀ u, Sw w0 H g n c (un T) u → Calls Try.prog 73 #[.slice (some ⟨g, 0, none⟩) n c, .int .i64 (a : Int), .int .i64 ((a : Int) + 20), cfv] u fun e w' => e = .returned (.tuple #[]) ∧ ∃ T' : List Tg, T'.Perm (Ss.tag 0 M) ∧ Ss.First Tr.cmpI 20 (k + 1) T' ∧ Sw w0 H g n c (un T') w') := fun u hu => by
        have hl := HTl.out
        have hc := cut3 T a 20
        have h := insert_any w0 H g n c (T.take a) ((T.drop a).take 20) (T.drop (a + 20)) (a : Int) ((a : Int) + 20) u (by rw [hc]; exact hu) (by rw [hc]; exact (HF0.out T hT.out).1) hn (by
          have h := hFi.out.rest
          rw [hak.out] at h
          exact h.sublist (List.take_sublist _ _)) (by rw [List.length_take, hl]; omega) (by rw [List.length_take, List.length_take, List.length_drop, hl]; omega)
        refine h.mono fun e w' hh => ⟨hh.1, ?_⟩
        obtain ⟨Z, z1, z2, z3⟩ := hh.2
        refine ⟨_, ?_, ?_, z3⟩
        · refine List.Perm.trans ?_ hT.out
          conv => rhs; rw [← hc]
          exact List.Perm.append_left _ (List.Perm.append_right _ z1)
        · refine Ss.First.step (W := (T.drop a).take 20) (by rw [hc]; exact hFi.out) (by rw [List.length_take, hl, hak.out]; omega) (.inl (by rw [List.length_take, List.length_drop, hl]; omega)) z1 z2
      have HS1 := hsw.out
      go_wp2_with (go_at_call 73; refine (HI.out _ HS1).mono ?_; rintro e w1 ⟨rfl, T', t1, t2, t3⟩)
      go_roundw
      case rel => exact ⟨a + 20, k + 1, T', by go_num, by go_num, hlt, by show _ = _; have := hak.out; omega, t1, t2, t3⟩
      case measure => simp [intOf]; omega
    · have hltz : ¬ (a : Int) + 20 ≤ (n : Int) := by omega
      have HI : Hid (∀ u, Sw w0 H g n c (un T) u → Calls Try.prog 73 #[.slice (some ⟨g, 0, none⟩) n c, .int .i64 (a : Int), .int .i64 (n : Int), cfv] u fun e w' => e = .returned (.tuple #[]) ∧ ∃ T' : List Tg, T'.Perm (Ss.tag 0 M) ∧ Ss.Runs Tr.cmpI 20 T' ∧ Sw w0 H g n c (un T') w') := fun u hu => by
        have hl := HTl.out
        have hc : T.take a ++ (T.drop a ++ []) = T := by rw [List.append_nil, List.take_append_drop]
        have h := insert_any w0 H g n c (T.take a) (T.drop a) [] (a : Int) (n : Int) u (by rw [hc]; exact hu) (by rw [hc]; exact (HF0.out T hT.out).1) hn (by
          have h := hFi.out.rest
          rw [hak.out] at h
          exact h) (by rw [List.length_take, hl]; omega) (by rw [List.length_take, List.length_drop, hl]; omega)
        refine h.mono fun e w' hh => ⟨hh.1, ?_⟩
        obtain ⟨Z, z1, z2, z3⟩ := hh.2
        refine ⟨_, ?_, ?_, z3⟩
        · refine List.Perm.trans ?_ hT.out
          conv => rhs; rw [← hc]
          exact List.Perm.append_left _ (List.Perm.append_right _ z1)
        · refine (Ss.First.step (W := T.drop a) (by rw [hc]; exact hFi.out) (by rw [List.length_take, hl, hak.out]; omega) (.inr ⟨by rw [List.length_drop, hl]; omega, rfl⟩) z1 z2).done ?_
          rw [List.length_append, List.length_append, z1.length_eq, List.length_take, List.length_drop, hl]
          have := hak.out
          simp only [List.length_nil]
          omega
      have HS1 := hsw.out
      clear hsw
      go_wp2_with (go_at_call 73; refine (HI.out _ HS1).mono ?_; rintro e w1 ⟨rfl, T', t1, t2, t3⟩)
      have HS2 : Hid (T'.Perm (Ss.tag 0 M) ∧ Ss.Runs Tr.cmpI 20 T' ∧ Sw w0 H g n c (un T') w1) := ⟨t1, t2, t3⟩
      clear HI HS1 t1 t2 t3 hFi hT HTl
      go_loopw [6] (fun s6 wr => ∃ (bs : Nat) (T : List Tg), s6 = .int .i64 (bs : Int) ∧ 0 < bs ∧ bs ≤ 2 * n + 20 ∧ Hid (T.Perm (Ss.tag 0 M)) ∧ Hid (Ss.Runs Tr.cmpI bs T) ∧ Hid (Sw w0 H g n c (un T) wr)) (fun s6 _ => n - (intOf s6).toNat)
      case atStart => exact ⟨20, T', rfl, by decide, by omega, HS2.out.1, HS2.out.2.1, HS2.out.2.2⟩
      case round =>
        obtain ⟨bs, T, rfl, hb0, hb1, hT, hRu, hsw⟩ := hrel
        by_cases hlt2 : bs < n
        · have hltz2 : (bs : Int) < (n : Int) := by omega
          obtain ⟨b2, hb2⟩ : ∃ b2, Hid (2 * bs = b2) := ⟨_, rfl⟩
          have e2 : 2 * (bs : Int) = (b2 : Int) := by have := hb2.out; omega
          have e3 : (bs : Int) * 2 = (b2 : Int) := by have := hb2.out; omega
          have r1 : 2 * bs ≤ b2 ∧ b2 ≤ 2 * bs := by have := hb2.out; omega
          obtain ⟨r1, r2⟩ := r1
          have HM0 : Hid (Ss.Mid Tr.cmpI bs 0 T) := Ss.Mid.start hRu.out
          have w2a : IntKind.i64.wrap (2 * (bs : Int)) = (b2 : Int) := by rw [IntKind.wrap_i64]; omega
          rename World => wo
          go_wp2_with fail
          go_loopw [7, 8] (fun s7 s8 wr => ∃ (a k : Nat) (T : List Tg), s7 = .int .i64 (a : Int) ∧ s8 = .int .i64 ((a : Int) + (b2 : Int)) ∧ a ≤ n ∧ Hid (k * (2 * bs) = a) ∧ Hid (T.Perm (Ss.tag 0 M)) ∧ Hid (Ss.Mid Tr.cmpI bs k T) ∧ Hid (Sw w0 H g n c (un T) wr)) (fun s7 _ _ => n + b2 - (intOf s7).toNat)
          case atStart => exact ⟨0, 0, T, rfl, by simp, Nat.zero_le _, (by show _ = _; simp), hT.out, HM0.out, hsw.out⟩
          case round =>
            clear hsw hT HM0 hRu
            obtain ⟨a, k, T, rfl, rfl, han, hak, hT, hMi, hsw⟩ := hrel
            have HTl : Hid (T.length = n) := (HF0.out T hT.out).2
            have hsw1 := hsw.out
            have HG : Hid (a + bs < n → ∀ (W : Nat), (W = b2 ∧ a + b2 ≤ n ∨ a + W = n ∧ W ≤ b2) → ∀ (x3 : Int) u, x3 = (a : Int) + (W : Int) → Sw w0 H g n c (un T) u → Calls Try.prog 74 #[.slice (some ⟨g, 0, none⟩) n c, .int .i64 (a : Int), .int .i64 ((a : Int) + (bs : Int)), .int .i64 x3, cfv] u fun e w' => e = .returned (.tuple #[]) ∧ ∃ T' : List Tg, T'.Perm (Ss.tag 0 M) ∧ Ss.Mid Tr.cmpI bs (k + 1) T' ∧ Sw w0 H g n c (un T') w') := fun q1 W q2 x3 u hx hu => by
              have hl := HTl.out
              have hc := cut4 T a bs (W - bs)
              have ea : a + bs = (2 * k + 1) * bs := by rw [← hak.out, Nat.add_mul, Nat.one_mul, Nat.mul_left_comm k 2 bs, ← Nat.mul_assoc]
              have ea2 : a = (2 * k) * bs := by rw [← hak.out, Nat.mul_left_comm k 2 bs, ← Nat.mul_assoc]
              have hWb : bs < W := by have := hb2.out; omega
              have hcs := hMi.out.cutS (2 * k + 1) (by omega)
              have hs1 := hMi.out.small (2 * k) (Nat.le_refl _)
              have hs2 := hMi.out.small (2 * k + 1) (by omega)
              rw [← ea2] at hs1
              rw [← ea] at hs2 hcs
              have hs2' : Ss.St Tr.cmpI ((T.drop (a + bs)).take (W - bs)) := by
                have e : (T.drop (a + bs)).take (W - bs) = ((T.drop (a + bs)).take bs).take (W - bs) := by
                  rw [List.take_take, Nat.min_eq_left (by have := hb2.out; omega)]
                rw [e]; exact hs2.sublist (List.take_sublist _ _)
              have h := sym_any w0 H g n c hn _ (T.take a) ((T.drop a).take bs) ((T.drop (a + bs)).take (W - bs)) (T.drop (a + bs + (W - bs))) (a : Int) ((a : Int) + (bs : Int)) x3 u (Nat.le_refl _) (by rw [hc]; exact hu) (by rw [hc]; exact (HF0.out T hT.out).1) hs1 hs2' (fun x hx y hy => hcs x (by
                  have : T.take (a + bs) = T.take a ++ (T.drop a).take bs := List.take_add
                  rw [this]; exact List.mem_append.2 (.inr hx)) y (List.mem_of_mem_take hy)) (by rw [List.length_take, List.length_drop, hl]; omega) (by rw [List.length_take, List.length_drop, hl]; omega) (by rw [List.length_take, hl]; omega) (by rw [List.length_take, List.length_take, List.length_drop, hl]; omega) (by rw [List.length_take, List.length_take, List.length_drop, List.length_take, List.length_drop, hl]; omega)
              refine h.mono fun e w' hh => ⟨hh.1, ?_⟩
              obtain ⟨Z, z1, z2, z3⟩ := hh.2
              have hc' : T.take a ++ (((T.drop a).take bs ++ (T.drop (a + bs)).take (W - bs)) ++ T.drop (a + bs + (W - bs))) = T := by rw [List.append_assoc]; exact hc
              refine ⟨_, ?_, ?_, z3⟩
              · refine List.Perm.trans ?_ hT.out
                conv => rhs; rw [← hc']
                exact List.Perm.append_left _ (List.Perm.append_right _ z1)
              · refine Ss.Mid.step (W := (T.drop a).take bs ++ (T.drop (a + bs)).take (W - bs)) hb0 (by rw [hc']; exact hMi.out) (by rw [List.length_take, hl, hak.out]; omega) ?_ z1 z2
                have hb2' := hb2.out
                rcases q2 with ⟨q2, q3⟩ | ⟨q2, q3⟩
                · left; rw [List.length_append, List.length_take, List.length_take, List.length_drop, List.length_drop, hl]; omega
                · right; exact ⟨by rw [List.length_append, List.length_take, List.length_take, List.length_drop, List.length_drop, hl]; omega, List.drop_eq_nil_of_le (by rw [hl]; omega)⟩
            by_cases hlt3 : a + b2 ≤ n
            · have hltz3 : (a : Int) + (b2 : Int) ≤ (n : Int) := by omega
              go_wp2_with (go_at_call 74; refine (HG.out (by omega) b2 (.inl ⟨rfl, hlt3⟩) _ _ rfl hsw1).mono ?_; rintro e w1 ⟨rfl, T', t1, t2, t3⟩)
              go_roundw
              case rel => exact ⟨a + b2, k + 1, T', by go_num, by go_num, hlt3, by show _ = _; rw [Nat.add_mul, Nat.one_mul, hak.out, hb2.out], t1, t2, t3⟩
              case measure => simp [intOf]; omega
            · have hltz3 : ¬ (a : Int) + (b2 : Int) ≤ (n : Int) := by omega
              by_cases hlt4 : a + bs < n
              · have hltz4 : (a : Int) + (bs : Int) < (n : Int) := by omega
                go_wp2_with (go_at_call 74; refine (HG.out hlt4 (n - a) (.inr ⟨by omega, by omega⟩) _ _ (by omega) hsw1).mono ?_; rintro e w1 ⟨rfl, T', t1, t2, t3⟩)
                go_roundw
                case rel => exact ⟨b2, T', rfl, by omega, by omega, t1, (by
                  rw [← hb2.out]
                  refine t2.done ?_
                  rw [(HF0.out T' t1).2, Nat.add_mul, Nat.one_mul, hak.out]
                  omega), t3⟩
                case measure => simp [intOf]; omega
              · have hltz4 : ¬ (a : Int) + (bs : Int) < (n : Int) := by omega
                go_wp2
                go_roundw
                case rel => exact ⟨b2, T, rfl, by omega, by omega, hT.out, (by
                  rw [← hb2.out]
                  refine hMi.out.done ?_
                  rw [HTl.out, hak.out]
                  omega), hsw1⟩
                case measure => simp [intOf]; omega
        · have hltz2 : ¬ (bs : Int) < (n : Int) := by omega
          have HEND : Hid (Ss.Stable Tr.cmpI M (un T)) := ⟨T, rfl, hT.out, hRu.out.all (by rw [(HF0.out T hT.out).2]; omega)⟩
          have hsw1 := hsw.out
          go_wp2
          go_end0
          exact ⟨rfl, un T, HEND.out, hsw1⟩
end Go.Proofs.Ytjifdoneejofiab
namespace Go.Proofs.Ytjifdoneejofiab
open Go.RowKit Go.Deep
set_option linter.unusedVariables false
set_option linter.unusedSimpArgs false

theorem own_keepx {w w' : World} {base g n : Nat} {e : TypeId} {s : Nat} {v : Value} {xs : List Value} (h : w.ownsRow base e s v n xs) (k : Bx (· = g) w w') (hg : v.ownBlock ≠ some g) : w'.ownsRow base e s v n xs := by
  refine ⟨h.1, ?_⟩
  rcases h.2 with h0 | ⟨b, cap, cur, hv, hb, hh, h1, h2, h3, h4⟩
  · exact .inl h0
  · have hne : ¬ b = g := fun e => hg (by rw [hv, e]; rfl)
    exact .inr ⟨b, cap, cur, hv, hb, (k.block b (Array.getElem?_eq_some_iff.1 hh).1 hne).trans hh, h1, h2, h3, h4⟩
set_option maxRecDepth 100000 in
theorem insert_nil (w : World) : Calls Try.prog 73 #[.slice none 0 0, .int .i64 0, .int .i64 0, cfv] w fun e w' => e = .returned (.tuple #[]) ∧ w' = w := by
  go_enter Try.func73, Try.ntmps73
  go_wp2
  go_loop [8] (fun s8 => s8 = .int .i64 1) (fun _ => 0)
  case atStart => rfl
  case round =>
    obtain rfl := hrel
    go_wp2
    go_end0
    exact ⟨rfl, rfl⟩
set_option maxRecDepth 100000 in
theorem stable_nil (w : World) : Calls Try.prog 61 #[.slice none 0 0, .int .i64 0, cfv] w fun e w' => e = .returned (.tuple #[]) ∧ w' = w := by
  have HI : Hid (∀ u, Calls Try.prog 73 #[.slice none 0 0, .int .i64 0, .int .i64 0, cfv] u fun e w' => e = .returned (.tuple #[]) ∧ w' = u) := fun u => insert_nil u
  go_enter Try.func61, Try.ntmps61
  go_wp2
  go_loop [7, 8] (fun s7 s8 => s7 = .int .i64 0 ∧ s8 = .int .i64 20) (fun _ _ => 0)
  case atStart => exact ⟨rfl, rfl⟩
  case round =>
    obtain ⟨rfl, rfl⟩ := hrel
    go_wp2_with (go_at_call 73; refine (HI.out _).mono ?_; rintro e w1 ⟨rfl, rfl⟩)
    go_loop [6] (fun s6 => s6 = .int .i64 20) (fun _ => 0)
    case atStart => rfl
    case round =>
      obtain rfl := hrel
      go_wp2
      go_end0
      exact ⟨rfl, rfl⟩
set_option maxRecDepth 100000 in
theorem sorts_any (n c : Nat) (A : Option Addr) (w : World) (Q : Ending → World → Prop) (h : Calls Try.prog 61 #[.slice A n c, .int .i64 (n : Int), cfv] w fun e w' => e = .returned (.tuple #[]) ∧ Q (.returned (.tuple #[])) w') :
    Calls Try.prog 42 #[.slice A n c, cfv] w Q := by
  have HS : Hid (Calls Try.prog 61 #[.slice A n c, .int .i64 (n : Int), cfv] w fun e w' => e = .returned (.tuple #[]) ∧ Q (.returned (.tuple #[])) w') := h
  clear h
  go_enter Try.func42, Try.ntmps42
  go_wp2_with (go_at_call 61; refine HS.out.mono ?_; rintro e w1 ⟨rfl, hQ⟩)
  go_end0
  exact hQ
theorem own_some {w : World} {base n : Nat} {e : TypeId} {s : Nat} {v : Value} {xs : List Value} (h : w.ownsRow base e s v n xs) (hn : 0 < n) : ∃ g c, v = .slice (some ⟨g, 0, none⟩) n c ∧ base ≤ g := by
  rcases h.2 with ⟨-, h⟩ | ⟨g, c, cur, h, hb, -⟩
  · omega
  · exact ⟨g, c, h, hb⟩
/-- an answer that is a list in stable order -/
def SortEnds (base : Nat) (t : List Tr.It) (e : Ending) (w' : World) : Prop := ∃ v M, e = .returned v ∧ Ss.Stable Tr.cmpT t (Tr.its M) ∧ OwnIts base w' v M
/-- a list of a call's own, sorted where it lies -/
theorem sort_in (base : Nat) (w u : World) (v : Value) (M : List Tr.Iv) (hb : base ≤ w.heap.size) (hw : Bw w u) (hn : M.length ≤ 2199023255552) (hbase : base = w.heap.size) (ho : OwnIts base u v M) :
    Calls Try.prog 42 #[v, cfv] u fun e w' => e = .returned (.tuple #[]) ∧ ∃ M', Ss.Stable Tr.cmpI M M' ∧ OwnIts base w' v M' ∧ Bw w w' := by
  rcases ho.row.2 with ⟨h0, h1⟩ | ⟨g, cap, cur, hv, hgb, hh, h1, h2, h3, h4⟩
  · have hM : M = [] := List.eq_nil_of_length_eq_zero h1
    subst hM h0
    refine sorts_any 0 0 none u _ ((stable_nil u).mono fun e w' h => ⟨h.1, rfl, [], Ss.stable_nil _, ?_⟩)
    obtain ⟨-, rfl⟩ := h
    exact ⟨ho, hw⟩
  · subst hv
    have hs : Sw u base g M.length cap M u := ⟨ho.row, rfl, Bx.refl _ _⟩
    refine sorts_any M.length cap (some ⟨g, 0, none⟩) u _ ((stable_any u base g M.length cap M hn u hs ho.fit).mono fun e w' h => ⟨h.1, rfl, ?_⟩)
    obtain ⟨-, M', hst, hsw⟩ := h
    have hp := hst.perm
    refine ⟨M', hst, ⟨by rw [hp.length_eq]; exact hsw.own, fun y hy => ?_, fun y hy => ho.fit y (hp.mem_iff.1 hy)⟩, ?_⟩
    · have hb := ho.body y (hp.mem_iff.1 hy)
      refine own_keepx hb hsw.bx (fun e => ?_)
      rcases own_apart8 hb ho.row (by decide) with h | h
      · rw [h] at e; cases e
      · exact h (by rw [e]; rfl)
    · exact bw_of_bx11 hw hsw.bx (by rw [← hbase]; exact hgb)
set_option maxRecDepth 100000 in
set_option maxHeartbeats 1000000 in
theorem tsort_any (A : Option Addr) (cap : Nat) (L : List Tr.Iv) (hn : L.length * 80 ≤ 140737488355328) (hC : A = none → L.length = 0 ∧ cap = 0) (w : World) (ha : ItsAt w A L) :
    Calls Try.prog 18 #[.slice A L.length cap] w fun e w' => SortEnds w.heap.size (Tr.its L) e w' ∧ Bw w w' := by
  have HCo : Hid (Calls Try.prog 37 #[.slice A L.length cap] w fun e w' => CopyEnds w.heap.size (Tr.its L) e w' ∧ Bw w w') := copied_any A cap L hn hC w ha
  have HSo : Hid (∀ u v M, Bw w u → Tr.its M = Tr.its L → OwnIts w.heap.size u v M → Calls Try.prog 42 #[v, cfv] u fun e w' => e = .returned (.tuple #[]) ∧ ∃ M', Ss.Stable Tr.cmpI M M' ∧ OwnIts w.heap.size w' v M' ∧ Bw w w') := fun u v M hu he ho =>
    sort_in w.heap.size w u v M (Nat.le_refl _) hu (by have := congrArg List.length he; rw [Tr.its_len, Tr.its_len] at this; omega) rfl ho
  obtain ⟨n, hnn⟩ : ∃ n, Hid (L.length = n) := ⟨_, rfl⟩
  rw [hnn.out] at HCo hn ⊢
  obtain ⟨H, hH⟩ : ∃ H, Hid (w.heap.size = H) := ⟨_, rfl⟩
  rw [hH.out] at HCo HSo ⊢
  clear ha hC
  go_enter Try.func18, Try.ntmps18
  go_wp2_with (first
    | (go_at_call 37; refine HCo.out.mono ?_; rintro e w1 ⟨⟨v1, M1, rfl, hm1, ho1⟩, hw1⟩)
    | (go_at_call 42; refine (HSo.out _ v1 M1 hw1 hm1 ho1).mono ?_; rintro e w2 ⟨rfl, M2, hst, ho2, hw2⟩))
  go_ret
  exact ⟨⟨v1, M2, rfl, by
    have := Ss.Stable.map (d := Tr.cmpT) (fun y : Tr.Iv => y.it) (fun _ _ => rfl) hst
    rw [← hm1]; exact this, ho2⟩, hw2⟩
end Go.Proofs.Ytjifdoneejofiab
