/- The document's own Same, of layer 11 (written by mku4.py). -/
import Derived.Test.YtjifdoneejofiabU3
import Derived.Deep.CutRange
namespace Go.Proofs.Ytjifdoneejofiab
open Go.RowKit Go.Deep
set_option linter.unusedVariables false
set_option linter.unusedSimpArgs false

theorem Tr.it_ne {x y : Tr.It} (h : x ≠ y) : x.path ≠ y.path ∨ (x.path = y.path ∧ (x.kind ≠ y.kind ∨ (x.kind = y.kind ∧ (x.mode ≠ y.mode ∨ (x.mode = y.mode ∧ (x.time ≠ y.time ∨ (x.time = y.time ∧ (x.to ≠ y.to ∨ (x.to = y.to ∧ x.body ≠ y.body))))))))) := by
  by_cases h1 : x.path = y.path
  · by_cases h2 : x.kind = y.kind
    · by_cases h3 : x.mode = y.mode
      · by_cases h4 : x.time = y.time
        · by_cases h5 : x.to = y.to
          · by_cases h6 : x.body = y.body
            · exact absurd (Tr.it_ext h1 h2 h3 h4 h6 h5) h
            · exact .inr ⟨h1, .inr ⟨h2, .inr ⟨h3, .inr ⟨h4, .inr ⟨h5, h6⟩⟩⟩⟩⟩
          · exact .inr ⟨h1, .inr ⟨h2, .inr ⟨h3, .inr ⟨h4, .inl h5⟩⟩⟩⟩
        · exact .inr ⟨h1, .inr ⟨h2, .inr ⟨h3, .inl h4⟩⟩⟩
      · exact .inr ⟨h1, .inr ⟨h2, .inl h3⟩⟩
    · exact .inr ⟨h1, .inl h2⟩
  · exact .inl h1
theorem Tr.S_yes {a b : Tr.B} (h : a = b) : ((Nm.S a).toList == (Nm.S b).toList) = true := by rw [Tr.S_eql, decide_eq_true h]
theorem Tr.S_no {a b : Tr.B} (h : a ≠ b) : ((Nm.S a).toList == (Nm.S b).toList) = false := by rw [Tr.S_eql, decide_eq_false h]
theorem Tr.i_yes {a b : Int} (h : a = b) : (a != b) = false := by rw [h]; simp
theorem Tr.i_no {a b : Int} (h : a ≠ b) : (a != b) = true := by rw [bne_iff_ne]; exact h
theorem Tr.n_yes {a b : Nat} (h : a = b) : ((a : Int) != (b : Int)) = false := by rw [h]; simp
theorem Tr.n_no {a b : Nat} (h : a ≠ b) : ((a : Int) != (b : Int)) = true := by rw [bne_iff_ne]; omega
set_option maxRecDepth 100000 in
set_option maxHeartbeats 8000000 in
theorem rsame11_any (A B : Option Addr) (ca cb : Nat) (L M : List Tr.Iv) (hn : L.length ≤ 4611686018427387904) (hm : M.length ≤ 4611686018427387904) (w : World) (ha : ItsAt w A L) (hb : ItsAt w B M) :
    Calls Try.prog 11 #[.slice A L.length ca, .slice B M.length cb] w fun e w' => TellsN e (Tr.its L = Tr.its M) ∧ Bw w w' := by
  by_cases hl : L.length = M.length
  · obtain ⟨n, hnn⟩ : ∃ n, Hid (L.length = n) := ⟨_, rfl⟩
    have hmm : Hid (M.length = n) := by show _ = _; rw [← hl]; exact hnn.out
    rw [hnn.out] at hn ⊢
    rw [hmm.out]
    have HA : Hid (ItsAt w A L) := ha
    have HB : Hid (ItsAt w B M) := hb
    clear ha hb hl hm
    go_enter Try.func11, Try.ntmps11
    go_wp2
    go_loopw [5] (fun i wr => ∃ k' : Nat, k' ≤ n ∧ i = .int .i64 (k' : Int) ∧ Hid (∀ (j : Nat), j < k' → (Tr.its L)[j]? = (Tr.its M)[j]?) ∧ Bw w wr) (fun i _ => n - (intOf i).toNat)
    case atStart => exact ⟨0, Nat.zero_le _, rfl, fun j hj => absurd hj (Nat.not_lt_zero _), Bw.refl _⟩
    case round =>
      obtain ⟨i, hi, rfl, hno, hbw⟩ := hrel
      have i0 : (0 : Int) ≤ (i : Int) := Int.natCast_nonneg _
      by_cases hlt : i < n
      · have i1 : (i : Int) < (n : Int) := by omega
        obtain ⟨y, hy⟩ : ∃ y, Hid (L[i]? = some y) := ⟨_, List.getElem?_eq_getElem (by rw [hnn.out]; exact hlt)⟩
        obtain ⟨z, hz⟩ : ∃ z, Hid (M[i]? = some z) := ⟨_, List.getElem?_eq_getElem (by rw [hmm.out]; exact hlt)⟩
        obtain ⟨b, off, rfl, hY, hbY⟩ := (HA.out.keep hbw).at hy.out
        obtain ⟨b2, off2, rfl, hZ, hbZ⟩ := (HB.out.keep hbw).at hz.out
        have hBy : Hid (BodyAt wr y) := hbY
        have hBz : Hid (BodyAt wr z) := hbZ
        clear hbY hbZ
        go_upto_region 8 with (first
          | refine wpList_load_it (by rfl) (.tmp 21) rfl b (off + i * 6) rfl y hY ?_
          | (refine wpList_store_row rfl 26 _ _ rfl wr.heap.size y.arr rfl rfl 26 _ (heap_alloc_new _ _) (info_it y) rfl (Tr.arr_one y) ?_; rw [setRow_alloc_new]; obtain ⟨W1, hW1⟩ : ∃ V, V = wr.alloc (.cells y.arr 26) := ⟨_, rfl⟩; have hX1 : BoxAt W1 wr.heap.size y := (by rw [hW1]; exact BoxAt.new _ _); have hb1 : Bw wr W1 := (by rw [hW1]; exact bw_alloc11 (Bw.refl _) _); rw [← hW1]; clear hW1; have hZ1 := hZ.keep hb1)
          | refine wpList_load_it (by rfl) (.tmp 25) rfl b2 (off2 + i * 6) rfl z hZ1 ?_
          | (refine wpList_store_row rfl 26 _ _ rfl W1.heap.size z.arr rfl rfl 26 _ (heap_alloc_new _ _) (info_it z) rfl (Tr.arr_one z) ?_; rw [setRow_alloc_new]; obtain ⟨W2, hW2⟩ : ∃ V, V = W1.alloc (.cells z.arr 26) := ⟨_, rfl⟩; have hX2 : BoxAt W2 W1.heap.size z := (by rw [hW2]; exact BoxAt.new _ _); have hb2 : Bw W1 W2 := (by rw [hW2]; exact bw_alloc11 (Bw.refl _) _); rw [← hW2]; clear hW2; obtain ⟨x0, x1, x2, x3, x4, x5⟩ := (hX1.keep hb2).cells; obtain ⟨z0, z1, z2, z3, z4, z5⟩ := hX2.cells; have cvx := conv_body (hBy.out.keep (hb1.trans hb2)); have cvz := conv_body (hBz.out.keep (hb1.trans hb2)); have hb12 := (hbw.trans hb1).trans hb2; clear hX1 hX2 hZ1 hb1 hb2))
        rw [put_none11]
        go_cut [68] from 27 to 68 (fun v wc => ∃ D : Bool, v = .bool D ∧ (D = false ↔ y.it = z.it) ∧ wc = W2)
        case first =>
          by_cases heq : y.it = z.it
          · have HEQ : Hid (y.it = z.it) := heq
            have e0 := Tr.S_yes (show y.it.path = z.it.path from by rw [heq])
            have e1 := Tr.n_yes (show y.it.kind = z.it.kind from by rw [heq])
            have e2 := Tr.i_yes (show y.it.mode = z.it.mode from by rw [heq])
            have e3 := Tr.i_yes (show y.it.time = z.it.time from by rw [heq])
            have e4 := Tr.S_yes (show y.it.to = z.it.to from by rw [heq])
            have e5 := Tr.S_yes (show y.it.body = z.it.body from by rw [heq])
            clear heq
            go_wp2_with fail
            go_meet
            case rel => exact ⟨false, rfl, ⟨fun _ => HEQ.out, fun _ => rfl⟩, rfl⟩
          · have HNE : Hid (y.it ≠ z.it) := heq
            have h := Tr.it_ne heq
            clear heq
            rcases h with h | ⟨g0, h⟩
            · have e0 := Tr.S_no (show y.it.path ≠ z.it.path from h)
              clear h
              go_wp2_with fail
              go_meet
              case rel => exact ⟨true, rfl, ⟨fun e => (by cases e), fun e => absurd e HNE.out⟩, rfl⟩
            have e0 := Tr.S_yes (show y.it.path = z.it.path from g0)
            clear g0
            rcases h with h | ⟨g1, h⟩
            · have e1 := Tr.n_no (show y.it.kind ≠ z.it.kind from h)
              clear h
              go_wp2_with fail
              go_meet
              case rel => exact ⟨true, rfl, ⟨fun e => (by cases e), fun e => absurd e HNE.out⟩, rfl⟩
            have e1 := Tr.n_yes (show y.it.kind = z.it.kind from g1)
            clear g1
            rcases h with h | ⟨g2, h⟩
            · have e2 := Tr.i_no (show y.it.mode ≠ z.it.mode from h)
              clear h
              go_wp2_with fail
              go_meet
              case rel => exact ⟨true, rfl, ⟨fun e => (by cases e), fun e => absurd e HNE.out⟩, rfl⟩
            have e2 := Tr.i_yes (show y.it.mode = z.it.mode from g2)
            clear g2
            rcases h with h | ⟨g3, h⟩
            · have e3 := Tr.i_no (show y.it.time ≠ z.it.time from h)
              clear h
              go_wp2_with fail
              go_meet
              case rel => exact ⟨true, rfl, ⟨fun e => (by cases e), fun e => absurd e HNE.out⟩, rfl⟩
            have e3 := Tr.i_yes (show y.it.time = z.it.time from g3)
            clear g3
            rcases h with h | ⟨g4, h⟩
            · have e4 := Tr.S_no (show y.it.to ≠ z.it.to from h)
              clear h
              go_wp2_with fail
              go_meet
              case rel => exact ⟨true, rfl, ⟨fun e => (by cases e), fun e => absurd e HNE.out⟩, rfl⟩
            have e4 := Tr.S_yes (show y.it.to = z.it.to from g4)
            clear g4
            have e5 := Tr.S_no (show y.it.body ≠ z.it.body from h)
            clear h
            go_wp2_with fail
            go_meet
            case rel => exact ⟨true, rfl, ⟨fun e => (by cases e), fun e => absurd e HNE.out⟩, rfl⟩
        case rest =>
          obtain ⟨D, rfl, hD, rfl⟩ := hcut
          cases D with
          | false =>
            have heq := hD.1 rfl
            have nx : Hid (∀ (j : Nat), j < i + 1 → (Tr.its L)[j]? = (Tr.its M)[j]?) := fun j hj => by
              rcases Nat.lt_or_ge j i with h | h
              · exact hno.out j h
              · rw [show j = i by omega, Tr.its_at hy.out, Tr.its_at hz.out, heq]
            clear heq hD
            go_wp2
            go_roundw
            case rel => exact ⟨i + 1, by omega, by go_num, nx, hb12⟩
            case measure => simp [intOf]; omega
          | true =>
            have HNE : Hid (Tr.its L ≠ Tr.its M) := fun e => by
              have h1 := Tr.its_at hy.out
              rw [e, Tr.its_at hz.out, Option.some.injEq] at h1
              exact absurd (hD.2 h1.symm) (by decide)
            clear hD
            go_wp2
            go_ret
            exact ⟨TellsN.no HNE.out, hb12⟩
      · have ei : i = n := by omega
        subst ei
        have HEQ : Hid (Tr.its L = Tr.its M) := by
          apply List.ext_getElem?
          intro j
          rcases Nat.lt_or_ge j i with h | h
          · exact hno.out j h
          · rw [List.getElem?_eq_none (by rw [Tr.its_len, hnn.out]; exact h), List.getElem?_eq_none (by rw [Tr.its_len, hmm.out]; exact h)]
        go_wp2
        go_ret
        exact ⟨TellsN.yes HEQ.out, hbw⟩
  · have HNE : Hid (Tr.its L ≠ Tr.its M) := fun e => by
      have := congrArg List.length e
      rw [Tr.its_len, Tr.its_len] at this
      exact hl this
    have e1 : ((L.length : Int) != (M.length : Int)) = true := by rw [bne_iff_ne]; omega
    clear hl ha hb
    generalize L.length = n at *
    generalize M.length = m at *
    go_enter Try.func11, Try.ntmps11
    go_wp2
    go_ret
    exact ⟨TellsN.no HNE.out, Bw.refl _⟩
end Go.Proofs.Ytjifdoneejofiab
