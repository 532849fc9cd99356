/- Layer 19: the document's Cut. -/
import Derived.Test.YtjjnbpbbjaabeaaTz
namespace Go.Proofs.Ytjjnbpbbjaabeaa
open Go.RowKit Go.Deep
set_option linter.unusedVariables false
set_option linter.unusedSimpArgs false

theorem neq2 (a b p q : Int) (w : World) : (binOp .neq 63 (.agg #[.int .i64 a, .int .i64 b]) (.agg #[.int .i64 p, .int .i64 q])).run Try.prog w = .ok (.bool (!decide (a = p ∧ b = q))) w := by
  have h := eql2 a b p q w
  rw [run_eql_struct] at h
  rw [run_neq_struct]
  cases h1 : (Op.equalIn 10000 63 (.agg #[.int .i64 a, .int .i64 b]) (.agg #[.int .i64 p, .int .i64 q])).run Try.prog w with
  | ok r w' =>
    rw [h1] at h
    simp only [Result.andThen] at h ⊢
    cases h
    rfl
  | _ => rw [h1] at h; cases h
theorem info2 : (Try.prog.info? 63).map (fun i => (i.zero, i.size, i.bytes)) = some (some (.agg #[.int .i64 0, .int .i64 0]), 2, 16) := by kernel_rfl
def Ai.without (Z : List (Int × Int)) (p q : Int) : List (Int × Int) := Z.filter (fun z => !decide (z.1 = p ∧ z.2 = q))
theorem Ai.without_take {Z : List (Int × Int)} {k : Nat} {x y : Int} (h : Z[k]? = some (x, y)) (p q : Int) : Ai.without (Z.take (k + 1)) p q = Ai.without (Z.take k) p q ++ (if x = p ∧ y = q then [] else [(x, y)]) := by
  unfold Ai.without
  rw [List.take_add_one, h, List.filter_append]
  congr 1
  by_cases e : x = p ∧ y = q
  · rw [if_pos e]; simp [e]
  · rw [if_neg e]
    show List.filter _ [(x, y)] = _
    rw [List.filter_cons]
    simp only [decide_eq_false e]
    rfl
theorem Ai.mem_without {Z : List (Int × Int)} {p q x y : Int} : (x, y) ∈ Ai.without Z p q ↔ (x, y) ∈ Z ∧ ¬ (x = p ∧ y = q) := by
  unfold Ai.without
  rw [List.mem_filter]
  by_cases e : x = p ∧ y = q <;> simp [e]
theorem Ai.without_len (Z : List (Int × Int)) (p q : Int) : (Ai.without Z p q).length ≤ Z.length := List.length_filter_le _ _
theorem wpList_pair19 {W : World} {base : Nat} {v : Value} {F : List (Int × Int)} {x y : Int} {ops : Array Oper} {rest : List Oper} {o : Oper} {a : Act} {Q : Exit → Act → World → Prop} (hgd : o.guard = none) (s t : Operand)
    (ho : o.op = .call { callee := .builtin .append, args := #[s, t], argTypes := #[55, 55] }) (hF : W.ownsRow base 63 2 v F.length (flat2 F)) (hb : base ≤ W.heap.size) (hn : F.length ≤ 1000000) (hs : a.eval s = v) (hx : a.eval t = .slice (some ⟨W.heap.size, 0, none⟩) 1 1)
    (hK : ∀ g2 c2 W2, Hid (W2.ownsRow base 63 2 (.slice (some ⟨g2, 0, none⟩) (F.length + 1) c2) (F.length + 1) (flat2 (F ++ [(x, y)]))) → Hid (∀ u, Below base u W → Below base u W2) → wpList Try.prog ops Q rest (a.put o.dst (.slice (some ⟨g2, 0, none⟩) (F.length + 1) c2)) W2) :
    wpList Try.prog ops Q (o :: rest) a (W.alloc (.cells #[.int .i64 x, .int .i64 y] 63)) := by
  obtain ⟨i0, hi0, hz0, hz1, hz2⟩ := info_parts info2
  exact wpList_append_lies _ hgd s t _ ho base 63 i0 _ 2 16 Try.underlying55 hi0 hz0 hz1 hz2 rfl (by omega) _ _ _ hs (hF.alloc _) ⟨W.heap.size, 0, none⟩ 1 1 [.int .i64 x, .int .i64 y] hx rfl (World.news_of_block (cs := #[.int .i64 x, .int .i64 y]) (t := 63) (fr := (0, 0)) (heap_alloc_new W _)) (by simp [Value.oneCell']) (by omega) (by unfold maxLen; omega) (by omega) (by rw [size_alloc]; omega) (W.heap.size + 1) (by simp) (fun g2 c2 W2 own gr at2 _ => hK g2 c2 W2 (by
      rw [flat2_append]
      exact own) (fun u hu => by
      have h1 : Below base u (W.alloc (.cells #[.int .i64 x, .int .i64 y] 63)) := Below.alloc hu hb _
      exact bw_grow gr h1 (by rw [size_alloc]; omega) (hF.alloc _)))
/-- how the document's Cut ends -/
def RCut (w : World) (g : Nat) (lv ov : Value) (E : List Raw) (S : Ai.St) (p q : Int) (off : Bool) (w' : World) : Prop := ∃ ov' Z', RefX w' g lv ov' E Z' (S.cutW p q off) ∧ (∀ b, ov'.ownBlock = some b → ov.ownBlock = some b ∨ w.heap.size ≤ b) ∧ Bx (rIn g lv ov) w w'
set_option maxRecDepth 100000 in
set_option maxHeartbeats 8000000 in
theorem rcut_any {w : World} {g : Nat} {lv ov : Value} {E : List Raw} {Z : List (Int × Int)} {S : Ai.St} (h : RefX w g lv ov E Z S) (p q : Int) (off : Bool) (hm : S.m ≤ 100000) :
    Calls Try.prog 29 #[.pointer (some ⟨g, 0, none⟩), .int .i64 p, .int .i64 q, .bool off] w fun e w' => e = .returned (.int .i64 (S.cutE p q)) ∧ RCut w g lv ov E S p q off w' := by
  have HP : Hid (Calls Try.prog 36 #[.pointer (some ⟨g, 0, none⟩), .int .i64 p] w fun e w' => e = .returned (.bool (S.is p)) ∧ w' = w) := rparty_any h p
  have HQ : Hid (Calls Try.prog 36 #[.pointer (some ⟨g, 0, none⟩), .int .i64 q] w fun e w' => e = .returned (.bool (S.is q)) ∧ w' = w) := rparty_any h q
  have HN : Hid (¬ (S.is p && S.is q) = true → RCut w g lv ov E S p q off w) := fun hn => by
    have e : S.cutW p q off = S := by unfold Ai.St.cutW; rw [if_neg hn]
    exact ⟨ov, Z, by rw [e]; exact h, fun b hb => .inl hb, Bx.refl _ _⟩
  by_cases bp : S.is p = true
  · by_cases bq : S.is q = true
    · have hb : (S.is p && S.is q) = true := by rw [bp, bq]; rfl
      have e9 : S.cutW p q off = { S with cut := fun x y => if x = p ∧ y = q then off else S.cut x y, m := S.m + 1 } := by unfold Ai.St.cutW; rw [if_pos hb]
      have hok := Ai.cut_ok h.ok p q off
      have hE0 : S.cutE p q = 0 := by unfold Ai.St.cutE; rw [if_pos hb]
      rw [hE0]
      rw [bp] at HP
      rw [bq] at HQ
      obtain ⟨A, c, eov⟩ := h.off.form
      obtain ⟨n, hn⟩ : ∃ n, Hid (Z.length = n) := ⟨_, rfl⟩
      have hfew := h.few
      have hn5 : n ≤ 100000 := by rw [← hn.out]; omega
      have c9 : w.cell? ⟨g, 2, none⟩ = some (.slice A n c) := by rw [h.c2, eov, hn.out]
      have HC2 : Hid (∀ u, Bw w u → u.cell? ⟨g, 2, none⟩ = some (.slice A n c)) := fun u ku => (ku.cell (p := ⟨g, 2, none⟩) (block_lt_of_cell c9)).trans c9
      have HZ : Hid (∀ k, k < n → ∃ (b : Nat) (x y : Int), A = some ⟨b, 0, none⟩ ∧ Z[k]? = some (x, y) ∧ ∀ W, Bw w W → W.rangeAt b (k * 2) [.int .i64 x, .int .i64 y]) := fun k hk => by
        have hkZ : k < Z.length := by rw [hn.out]; exact hk
        obtain ⟨b, c', e1, hc⟩ := h.off.nth (List.getElem?_eq_getElem hkZ)
        rw [eov] at e1
        simp only [Value.slice.injEq] at e1
        exact ⟨b, Z[k].1, Z[k].2, e1.1, List.getElem?_eq_getElem hkZ, fun W kw => range2 (hc W kw)⟩
      have HE : Hid (∀ (ov' : Value) (Z' : List (Int × Int)) (u : World), Bw w u → u.ownsRow w.heap.size 63 2 ov' Z'.length (flat2 Z') → (∀ x y, ((x, y) ∈ Z') ↔ (if x = p ∧ y = q then off = true else (x, y) ∈ Z)) → Z'.length ≤ Z.length + 1 → (u.cell? ⟨g, 2, none⟩ = some (.slice A n c) ∧ u.frozen? ⟨g, 2, none⟩ = false) ∧ RCut w g lv ov E S p q off (u.setCell ⟨g, 2, none⟩ ov')) := fun ov' Z' u ku hO hmem hl => by
        have hcells : u.heap[g]? = some (.cells (rcells S.n lv ov) 57 (0, 0)) := (ku.block g h.lt).trans h.cells
        have hX : Bx (· = g) u (u.setCell ⟨g, 2, none⟩ ov') := (Bx.refl _ _).put rfl
        have hge := own_ge hO
        have hO0 : OffAt u ov' Z' := by
          refine ⟨hO.1, ?_⟩
          rcases hO.2 with h0 | ⟨gg, cap, cur, q1, q2, q3⟩
          · exact .inl h0
          · exact .inr ⟨gg, cap, cur, q1, Nat.zero_le _, q3⟩
        have hlt := h.lt
        refine ⟨⟨by rw [← hn.out, ← eov]; exact cell_of_row u g 2 _ _ _ hcells, frozen_of_row u g 2 _ _ hcells⟩, ov', Z', ?_, fun b hb => .inr (hge b hb), (Bx.of_bw ku).trans (hX.more (fun b hb => .inl hb))⟩
        rw [e9]
        refine ⟨heap_setCell_same u g 2 _ _ _ hcells, (h.und.keep ku).keepx hX (fun b hb e => h.nel (by rw [hb, e])), (h.dgs.keep ku).keepx hX (h.sep.mono (fun b hb e => hb (.inl e))), hO0.keepx hX (fun b hb e => by have := hge b hb; omega), fun x y => ?_, by show Z'.length ≤ S.m + 1; omega, by rw [← e9]; exact hok, fun r hr b o m c' e h0 hb => ?_⟩
        · show (if x = p ∧ y = q then off else S.cut x y) = _
          rw [h.cutz x y]
          by_cases e : x = p ∧ y = q
          · rw [if_pos e]
            have h1 := hmem x y
            rw [if_pos e] at h1
            rw [Bool.eq_iff_iff, decide_eq_true_eq, h1]
          · rw [if_neg e, decide_eq_decide]
            have h1 := hmem x y
            rw [if_neg e] at h1
            exact h1.symm
        · have h1 := h.sep r hr b o m c' e h0
          have h2 := h.dgs.low r hr b o m c' e h0
          rcases hb with hb | hb | hb
          · exact h1 (.inl hb)
          · exact h1 (.inr (.inl hb))
          · have := hge b hb; omega
      have c2 := HC2.out w (Bw.refl _)
      clear h hb e9 hok hE0 HN bp bq eov c9 hfew
      go_enter Try.func29, Try.ntmps29
      go_upto_region 7 with (go_at_call 36; first | (refine HP.out.mono ?_; clear HP; rintro e w2 ⟨rfl, hw⟩; subst w2) | (refine HQ.out.mono ?_; rintro e w2 ⟨rfl, hw⟩; subst w2))
      clear c2
      go_loopw [9, 10] (fun s9 s10 wr => ∃ (k : Nat) (v : Value), k ≤ n ∧ s10 = .int .i64 (k : Int) ∧ v = s9 ∧ Hid (Bw w wr) ∧ Hid (wr.ownsRow w.heap.size 63 2 v (Ai.without (Z.take k) p q).length (flat2 (Ai.without (Z.take k) p q)))) (fun _ s10 _ => n - (intOf s10).toNat)
      case atStart => exact ⟨0, _, Nat.zero_le _, rfl, rfl, Bw.refl _, (by show World.ownsRow _ _ _ _ _ _ _; exact ⟨rfl, .inl ⟨rfl, rfl⟩⟩)⟩
      case round =>
        obtain ⟨k, v, hk, rfl, rfl, hbw, hO⟩ := hrel
        have k0 : (0 : Int) ≤ (k : Int) := Int.natCast_nonneg _
        have c2 := HC2.out wr hbw.out
        by_cases hlt : k < n
        · have k1 : (k : Int) < (n : Int) := by omega
          obtain ⟨b, x, y, rfl, hZk, hrg⟩ := HZ.out k hlt
          have hr := hrg wr hbw.out
          have hwo : Hid (Ai.without (Z.take (k + 1)) p q = Ai.without (Z.take k) p q ++ (if x = p ∧ y = q then [] else [(x, y)])) := Ai.without_take hZk p q
          have hFl : Hid ((Ai.without (Z.take k) p q).length ≤ 1000000) := by
            show _ ≤ _
            have h1 := Ai.without_len (Z.take k) p q
            rw [List.length_take] at h1
            omega
          clear hZk hrg
          by_cases e : x = p ∧ y = q
          · rw [if_pos e, List.append_nil] at hwo
            have d1 : ∀ u, (binOp .neq 63 (.agg #[.int .i64 x, .int .i64 y]) (.agg #[.int .i64 p, .int .i64 q])).run Try.prog u = .ok (.bool false) u := fun u => by rw [neq2, show (!decide (x = p ∧ y = q)) = false from by rw [decide_eq_true e]; rfl]
            clear e
            go_wp2_with (refine wpList_load_mid rfl 63 _ rfl b (k * 2) (by rfl) [.int .i64 x, .int .i64 y] _ hr Try.underlying63 rfl (rowCells2 x y) ?_)
            go_roundw
            case rel => exact ⟨k + 1, _, by omega, by go_num, rfl, hbw, by rw [hwo.out]; exact hO⟩
            case measure => simp [intOf]; omega
          · rw [if_neg e] at hwo
            have d1 : ∀ u, (binOp .neq 63 (.agg #[.int .i64 x, .int .i64 y]) (.agg #[.int .i64 p, .int .i64 q])).run Try.prog u = .ok (.bool true) u := fun u => by rw [neq2, show (!decide (x = p ∧ y = q)) = true from by rw [decide_eq_false e]; rfl]
            obtain ⟨F, hF⟩ : ∃ F, Hid (Ai.without (Z.take k) p q = F) := ⟨_, rfl⟩
            rw [hF.out] at hO hwo hFl
            clear e
            go_wp2_with (first
              | refine wpList_load_mid rfl 63 _ rfl b (k * 2) (by rfl) [.int .i64 x, .int .i64 y] _ hr Try.underlying63 rfl (rowCells2 x y) ?_
              | (at_builtin; refine wpList_pair19 rfl (.tmp 43) (.tmp 51) (by rfl) hO.out hbw.out.size hFl.out (by rfl) (by rfl) ?_; intro g2 c3 w5 hO5 hb5))
            go_roundw
            case rel => exact ⟨k + 1, _, by omega, by go_num, rfl, hb5.out w hbw.out, by rw [hwo.out, List.length_append]; exact hO5⟩
            case measure => simp [intOf]; omega
        · obtain rfl : k = n := by omega
          have hfull : Z.take k = Z := by rw [← hn.out, List.take_length]
          rw [hfull] at hO
          have hFl : Hid ((Ai.without Z p q).length ≤ 1000000) := by
            show _ ≤ _
            have h1 := Ai.without_len Z p q
            rw [hn.out] at h1
            omega
          cases off
          · have hE1 := HE.out v (Ai.without Z p q) wr hbw.out hO.out (fun x y => by
              rw [Ai.mem_without]
              by_cases e : x = p ∧ y = q
              · simp [e]
              · simp [e]) (by have := Ai.without_len Z p q; omega)
            obtain ⟨⟨d1, f1⟩, hE2⟩ := hE1
            obtain ⟨Av, cv, ev⟩ := OffAt.form (w := wr) (v := v) (Z := Ai.without Z p q) ⟨hO.out.1, by
              rcases hO.out.2 with h0 | ⟨gg, cap, cur, q1, q2, q3⟩
              · exact .inl h0
              · exact .inr ⟨gg, cap, cur, q1, Nat.zero_le _, q3⟩⟩
            subst ev
            replace hE2 := (show Hid _ from hE2)
            clear hlt hfull
            go_wp2
            go_ret
            exact ⟨rfl, hE2.out⟩
          · obtain ⟨F, hF⟩ : ∃ F, Hid (Ai.without Z p q = F) := ⟨_, rfl⟩
            have HE2 : Hid (∀ (g2 c3 : Nat) (u : World), Bw w u → u.ownsRow w.heap.size 63 2 (.slice (some ⟨g2, 0, none⟩) (F.length + 1) c3) (F.length + 1) (flat2 (F ++ [(p, q)])) → (u.cell? ⟨g, 2, none⟩ = some (.slice A k c) ∧ u.frozen? ⟨g, 2, none⟩ = false) ∧ Hid (RCut w g lv ov E S p q true (u.setCell ⟨g, 2, none⟩ (.slice (some ⟨g2, 0, none⟩) (F.length + 1) c3)))) := fun g2 c3 u ku hO5 => by
              have hl5 : F.length + 1 = (F ++ [(p, q)]).length := by rw [List.length_append]; rfl
              rw [hl5] at hO5 ⊢
              exact HE.out _ (F ++ [(p, q)]) u ku hO5 (fun x y => by
                rw [List.mem_append, ← hF.out, Ai.mem_without]
                by_cases e : x = p ∧ y = q
                · simp [e]
                · simp [e, Prod.mk.injEq]) (by rw [← hl5, ← hF.out]; have := Ai.without_len Z p q; omega)
            rw [hF.out] at hO hFl
            clear hlt hfull HE
            go_upto_region 13 with (first
              | (at_builtin; refine wpList_pair19 rfl (.tmp 54) (.tmp 58) (by rfl) hO.out hbw.out.size hFl.out (by rfl) (by rfl) ?_; intro g2 c3 w5 hO5 hb5))
            obtain ⟨⟨d1, f1⟩, hE5⟩ := HE2.out g2 c3 w5 (hb5.out w hbw.out) hO5.out
            go_wp2
            go_ret
            exact ⟨rfl, hE5.out⟩
    · have bq' : S.is q = false := by cases e : S.is q; rfl; exact absurd e bq
      have hb : ¬ (S.is p && S.is q) = true := by rw [bp, bq']; decide
      have hE0 : S.cutE p q = 1 := by unfold Ai.St.cutE; rw [if_neg hb]
      have HN1 := HN.out hb
      replace HN1 := (show Hid _ from HN1)
      rw [bp] at HP
      rw [bq'] at HQ
      rw [hE0]
      clear h hb hE0 bp bq bq' HN
      go_enter Try.func29, Try.ntmps29
      go_wp2_with (go_at_call 36; first | (refine HP.out.mono ?_; clear HP; rintro e w2 ⟨rfl, hw⟩; subst w2) | (refine HQ.out.mono ?_; rintro e w2 ⟨rfl, hw⟩; subst w2))
      go_ret
      exact ⟨rfl, HN1.out⟩
  · have bp' : S.is p = false := by cases e : S.is p; rfl; exact absurd e bp
    have hb : ¬ (S.is p && S.is q) = true := by rw [bp', Bool.false_and]; decide
    have hE0 : S.cutE p q = 1 := by unfold Ai.St.cutE; rw [if_neg hb]
    have HN1 := HN.out hb
    replace HN1 := (show Hid _ from HN1)
    rw [bp'] at HP
    rw [hE0]
    clear h hb hE0 bp bp' HN
    go_enter Try.func29, Try.ntmps29
    go_wp2_with (go_at_call 36; refine HP.out.mono ?_; rintro e w2 ⟨rfl, hw⟩; subst w2)
    go_ret
    exact ⟨rfl, HN1.out⟩
end Go.Proofs.Ytjjnbpbbjaabeaa
