/- Layer 15: the document's Add and Rewrite. -/
import Derived.Test.YtppknadflmjefaaQg
namespace Go.Proofs.Ytppknadflmjefaa
open Go.RowKit Go.Deep Go.Maps
set_option linter.unusedVariables false
set_option linter.unusedSimpArgs false

theorem step_append_byt {w : World} {ops : Array Oper} {o : Oper} {a : Act} {K : Act → World → Prop} {Q : Exit → Act → World → Prop} {E : Prop} (hgd : o.guard = none) (s x : Operand)
    (ho : o.op = .call { callee := .builtin .append, args := #[s, x], argTypes := #[37, 37] })
    (base : Nat) (v : Value) (n : Nat) (xs : List Value) (hs : a.eval s = v) (hown : w.ownsRow base 5 1 v n xs)
    (A : Option Addr) (L C : Nat) (f : Nat → Int) (hx : a.eval x = .slice A L C) (hr : RowAt w A L f) (hC : A = none → C = 0)
    (h63 : n + L ≤ 140737488355328) (hbase : base ≤ w.heap.size)
    (h : ∀ v' w', w'.ownsRow base 5 1 v' (n + L) (xs ++ cellsU f L) → w.grownBy w' v.ownBlock → K (a.put o.dst v') w') :
    if Region.wanted o (yielded ops a.tmps) = true then Oper.wp Try.prog o a w K Q else E := by
  have hw : Region.wanted o (yielded ops a.tmps) = true := by simp [Region.wanted, hgd]
  rw [if_pos hw]
  obtain ⟨i0, hi0, hz0, hz1, hz2⟩ := info_parts info_u8
  cases A with
  | some ad =>
    refine wp_append_own w s x _ ho base _ i0 _ 1 1 Try.underlying37 hi0 hz0 hz1 hz2 rfl (by decide) v n xs hs hown ad L C (cellsU f L) hx (by rw [cellsU_len, Nat.mul_one]) (fun j u hu => ?_) (cellsU_one f L) (by unfold maxLen; omega) (by omega) hbase (fun v' w' h1 h2 _ => h v' w' h1 h2)
    obtain ⟨hj, rfl⟩ := cellsU_get f L j u hu
    obtain ⟨b, off, e', hc⟩ := hr.at hj
    cases e'
    have := hc j hj
    have hadd : (⟨b, off, none⟩ : Addr).add j = ⟨b, off + j, none⟩ := by rw [Addr.add_lit]
    rw [hadd]; exact this
  | none =>
    have hL : L = 0 := by
      rcases hr.1 with h0 | ⟨b, off, e', _⟩
      · exact h0
      · cases e'
    subst hL
    obtain rfl := hC rfl
    have hrun := run_append_owned_none (P := Try.prog) w base 37 o.type 5 i0 1 Try.underlying37 hi0 v n xs hown
    unfold Oper.wp
    simp [execOp, ho, resolve, invoke, builtin, hs, hx, hrun, Result.andThen]
    exact h v w (by simpa [cellsU] using hown) (World.grownBy.refl _ _)
/-- its records grew by one -/
theorem RjAt.push {w W w2 : World} {base gj g : Nat} {R : Nat → Prop} {v : Value} {J : Jl.Jn} {vs : List Value} {r : List Nat} {rv : Value} {g2 c2 : Nat} (h : RjAt w base gj g R v J) (hbase : base ≤ w.heap.size)
    (k1 : w.ownsRow base 37 1 v J.L.length vs) (k2 : RowsV w vs J.L) (k3 : RIn R vs) (k4 : RIn (fun b => ¬ jIn gj v b) vs)
    (k : Bw w W) (hv : RowV W rv r) (hvin : VIn (fun b => w.heap.size ≤ b) rv)
    (own2 : w2.ownsRow base 37 1 (.slice (some ⟨g2, 0, none⟩) (J.L.length + 1) c2) (J.L.length + 1) (vs ++ [rv])) (gr : (W.alloc (.cells #[rv] 37)).grownBy w2 v.ownBlock) (at2 : v.ownBlock = some g2 ∨ g2 = W.heap.size + 1) (hfew : J.L.length + 1 ≤ 4000000) :
    (w2.cell? ⟨gj, 6, none⟩ = some v ∧ w2.frozen? ⟨gj, 6, none⟩ = false) ∧ RjAt (w2.setCell ⟨gj, 6, none⟩ (.slice (some ⟨g2, 0, none⟩) (J.L.length + 1) c2)) base gj g (fun b => R b ∨ w.heap.size ≤ b) (.slice (some ⟨g2, 0, none⟩) (J.L.length + 1) c2) { J with L := J.L ++ [r] } ∧ Bx (jIn gj v) w (w2.setCell ⟨gj, 6, none⟩ (.slice (some ⟨g2, 0, none⟩) (J.L.length + 1) c2)) ∧ (v.ownBlock = some g2 ∨ w.heap.size ≤ g2) := by
  have kA : Bw W (W.alloc (.cells #[rv] 37)) := Below.alloc (Bw.refl _) (Nat.le_refl _) _
  have hgx := bx_grown gr
  have hwW := k.size
  have hlow : ∀ b, v.ownBlock = some b → b < w.heap.size := fun b hb => by
    rcases k1.2 with ⟨rfl, _⟩ | ⟨g, cap, cur, rfl, _, hg, _⟩
    · cases hb
    · cases hb; exact (Array.getElem?_eq_some_iff.1 hg).1
  have hvl := hv.low
  have hne := rown_ne h
  have hgjl := h.lt
  have hc2 : w2.heap[gj]? = some (.cells (jcells g v J) 92 (0, 0)) := by
    rw [hgx.block gj (by rw [size_alloc]; omega) (fun e => hne gj e rfl), kA.block gj (by omega), k.block gj hgjl]
    exact h.cells
  obtain ⟨v2, hv2⟩ : ∃ v2, v2 = Value.slice (some ⟨g2, 0, none⟩) (J.L.length + 1) c2 := ⟨_, rfl⟩
  have hgg : g2 ≠ gj := fun e => by
    rcases at2 with h1 | h1
    · exact hne g2 h1 e
    · omega
  have hX : Bx (· = gj) w2 (w2.setCell ⟨gj, 6, none⟩ (.slice (some ⟨g2, 0, none⟩) (J.L.length + 1) c2)) := (Bx.refl _ _).put rfl
  have hrowgj : ∀ b, b ≠ gj → ¬ (fun x => x = gj) b := fun b hb e => hb e
  refine ⟨⟨cell_of_row w2 gj 6 _ _ _ hc2, frozen_of_row w2 gj 6 _ _ hc2⟩, ⟨heap_setCell_same w2 gj 6 _ _ _ hc2, ⟨vs ++ [rv], ?_, RowsV.append ?_ (RowsV.one ?_), RIn.append (k3.mono (fun b hb => .inl hb)) ?_, RIn.append ?_ ?_⟩, h.ge, ⟨h.ok.rc4, h.ok.rc, h.ok.r0, h.ok.fit, by show (J.L ++ [r]).length ≤ 4000000; rw [List.length_append]; exact hfew⟩⟩, ?_, ?_⟩
  · show World.ownsRow _ _ _ _ _ (J.L ++ [r]).length _
    rw [List.length_append]
    exact own_keepx15 own2 hX (fun b hb e => by
      have e2 : g2 = b := by simpa [Value.ownBlock] using hb
      have e3 : b = gj := e
      exact hgg (e2.trans e3))
  · exact (((k2.keep k).keep kA).keepx hgx (k4.mono (fun b hb e => hb (.inr e)))).keepx hX (k4.mono (fun b hb e => hb (.inl e)))
  · refine ((hv.keep kA).keepx hgx (fun b o n c e h0 hb => by have := hvin b o n c e h0; have := hlow b hb; omega)).keepx hX (fun b o n c e h0 hb => ?_)
    have h1 := hvin b o n c e h0
    have h2 : b = gj := hb
    omega
  · exact fun u hu b o n c e h0 => by
      rw [List.mem_singleton.1 hu] at e
      exact .inr (hvin b o n c e h0)
  · exact fun u hu b o n c e h0 hb => by
      rcases hb with hb | hb
      · exact k4 u hu b o n c e h0 (.inl hb)
      · have e2 : g2 = b := by simpa [Value.ownBlock] using hb
        have hb1 := k2.low u hu b o n c e h0
        rcases at2 with h1 | h1
        · rw [e2] at h1; exact k4 u hu b o n c e h0 (.inr h1)
        · omega
  · exact fun u hu b o n c e h0 hb => by
      rw [List.mem_singleton.1 hu] at e
      have hb1 := hvl b o n c e h0
      have hb2 := hvin b o n c e h0
      rcases hb with hb | hb
      · omega
      · have e2 : g2 = b := by simpa [Value.ownBlock] using hb
        rcases at2 with h1 | h1
        · have := hlow g2 h1; omega
        · omega
  · exact (((Bx.of_bw (k.trans kA)).trans (hgx.more (fun b e => .inr e))).trans (hX.more (fun b e => .inl e)))
  · rcases at2 with h1 | h1
    · exact .inl h1
    · exact .inr (by omega)
end Go.Proofs.Ytppknadflmjefaa
