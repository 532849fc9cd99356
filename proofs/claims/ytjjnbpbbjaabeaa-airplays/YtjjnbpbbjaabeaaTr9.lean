/- Layer 19: count, Great (written by mktr.py out of tr9.base). -/
import Derived.Test.YtjjnbpbbjaabeaaTn
import Derived.Test.YtjjnbpbbjaabeaaFe
namespace Go.Proofs.Ytjjnbpbbjaabeaa
open Go.RowKit Go.Deep
set_option linter.unusedVariables false
set_option linter.unusedSimpArgs false

/-- how many of these are one -/
def Ai.many (M : List Ai.Dg) (d : Ai.Dg) : Nat := M.countP (fun x => Ai.eqb x d)
theorem Ai.many_le (M : List Ai.Dg) (d : Ai.Dg) : Ai.many M d ≤ M.length := List.countP_le_length
theorem Ai.many_take {M : List Ai.Dg} {k : Nat} {x : Ai.Dg} (h : M[k]? = some x) (d : Ai.Dg) : Ai.many (M.take (k + 1)) d = Ai.many (M.take k) d + (if Ai.eqb x d = true then 1 else 0) := by
  unfold Ai.many
  rw [List.take_add_one, h, List.countP_append]
  simp [List.countP_cons]
set_option maxRecDepth 100000 in
set_option maxHeartbeats 8000000 in
theorem count19_any {w : World} {v : Value} {E : List Raw} {M : List Ai.Dg} (hU : UndAt w v E) (hD : DgsV w E M) (hn : M.length ≤ 1000) (d : Ai.Dg) {u : Value} (hu : RowV w u d.b) :
    Calls Try.prog 23 #[v, .agg #[.int .i64 d.src, .int .i64 d.dst, u]] w fun e w' => e = .returned (.int .i64 ((Ai.many M d : Nat) : Int)) ∧ Bw w w' := by
  obtain ⟨z, hz⟩ : ∃ z, Hid (w.heap.size = z) := ⟨_, rfl⟩
  obtain ⟨W1, hW1⟩ : ∃ W, Hid (w.alloc (.cells #[.int .i64 d.src, .int .i64 d.dst, u] 35) = W) := ⟨_, rfl⟩
  have kW : Bw w W1 := by rw [← hW1.out]; exact bw_allocx (Bw.refl _)
  have hZ : DgAt W1 z d.src d.dst u := by rw [← hW1.out, ← hz.out]; exact heap_alloc_new _ _
  have hzl := (Array.getElem?_eq_some_iff.1 hZ).1
  obtain ⟨n, hnn⟩ : ∃ n, Hid (M.length = n) := ⟨_, rfl⟩
  have hEn : E.length = n := by rw [hD.1, hnn.out]
  obtain ⟨A, c, ev⟩ : ∃ A c, v = .slice A n c := by rw [← hEn]; exact hU.form
  have hn' : n ≤ 1000 := by rw [← hnn.out]; exact hn
  have HM : Hid (∀ k, k < n → ∃ (ub c : Nat) (r : Raw) (x : Ai.Dg), A = some ⟨ub, 0, none⟩ ∧ M[k]? = some x ∧ ∀ W, Bw w W → W.rangeAt ub (k * 3) r.cells ∧ r.src = x.src ∧ r.dst = x.dst ∧ RowV W r.v x.b) := fun k hk => by
    obtain ⟨ub, uc, e1, hB⟩ := hU.pos (by omega)
    obtain ⟨r, x, hr, hx, e3, e4, e5⟩ := hD.get (i := k) (by rw [hnn.out]; exact hk)
    rw [ev] at e1
    simp only [Value.slice.injEq] at e1
    exact ⟨ub, uc, r, x, e1.1, hx, fun W kw => ⟨(hB.keep kw).range hr, e3, e4, e5.keep kw⟩⟩
  have HZ : Hid (∀ W, Bw W1 W → W.rangeAt z 0 [.int .i64 d.src, .int .i64 d.dst, u]) := fun W kw => DgAt.range (r := ⟨d.src, d.dst, u⟩) ((kw.block z hzl).trans hZ)
  have HUu : Hid (∀ W, Bw w W → RowV W u d.b) := fun W kw => hu.keep kw
  have hkW : Hid (Bw w W1) := kW
  rw [ev]
  clear hU hD hu hn hEn ev hZ hzl kW
  go_enter Try.func23, Try.ntmps23
  go_upto_region 1 with fail
  rw [hW1.out, hz.out]
  go_upto_region 3 with fail
  go_loopw [5, 6] (fun s5 s6 wr => ∃ k : Nat, k ≤ n ∧ s6 = .int .i64 (k : Int) ∧ s5 = .int .i64 ((Ai.many (M.take k) d : Nat) : Int) ∧ Hid (Bw W1 wr)) (fun _ s6 _ => n - (intOf s6).toNat)
  case atStart => exact ⟨0, Nat.zero_le _, rfl, rfl, Bw.refl _⟩
  case round =>
    obtain ⟨k, hk, rfl, rfl, hbw⟩ := hrel
    have k0 : (0 : Int) ≤ (k : Int) := Int.natCast_nonneg _
    by_cases hlt : k < n
    · have k1 : (k : Int) < (n : Int) := by omega
      obtain ⟨ub, uc, r, x, hA, hx, hW⟩ := HM.out k hlt
      subst hA
      obtain ⟨-, e1, e2, -⟩ := hW w (Bw.refl _)
      have HR : Hid (∀ W, Bw (wr.drewN 1) W → W.rangeAt ub (k * 3) r.cells) := fun W kw => (hW W (hkW.out.trans (hbw.out.trans ((Bw.drewN wr 1).trans kw)))).1
      have HR2 : Hid (∀ W, Bw (wr.drewN 1) W → W.rangeAt z 0 [.int .i64 d.src, .int .i64 d.dst, u]) := fun W kw => HZ.out W (hbw.out.trans ((Bw.drewN wr 1).trans kw))
      have hR1 : Hid ((wr.drewN 1).rangeAt ub (k * 3) r.cells) := HR.out _ (Bw.refl _)
      have hR2 : Hid ((wr.drewN 1).rangeAt z 0 [.int .i64 d.src, .int .i64 d.dst, u]) := HR2.out _ (Bw.refl _)
      have HS : Hid (Calls Try.prog 17 #[.agg #[.int .i64 r.src, .int .i64 r.dst, r.v], .agg #[.int .i64 d.src, .int .i64 d.dst, u]] (wr.drewN 1) fun e w' => e = .returned (.bool (Ai.eqb x d)) ∧ Bw (wr.drewN 1) w') := by
        have kk := hkW.out.trans (hbw.out.trans (Bw.drewN wr 1))
        rw [e1, e2]
        exact same19_any x d (hW _ kk).2.2.2 (HUu.out _ kk)
      have hbw1 : Hid (Bw W1 (wr.drewN 1)) := hbw.out.trans (Bw.drewN wr 1)
      have hmt : Hid (Ai.many (M.take (k + 1)) d = Ai.many (M.take k) d + (if Ai.eqb x d = true then 1 else 0)) := Ai.many_take hx d
      obtain ⟨q, hq⟩ : ∃ q, Hid (Ai.many (M.take k) d = q) := ⟨_, rfl⟩
      have hq1 : (q : Int) ≤ 1000 := by
        have h1 := Ai.many_le (M.take k) d
        rw [hq.out, List.length_take] at h1
        omega
      have hq0 : (0 : Int) ≤ (q : Int) := by omega
      rw [hq.out] at hmt ⊢
      obtain ⟨b, hb⟩ : ∃ b, Hid (Ai.eqb x d = b) := ⟨_, rfl⟩
      rw [hb.out] at HS hmt
      clear hW hx
      go_upto_region 5 with fail
      refine wp_region_held_drew (S := fun w' => w'.rangeAt ub (k * 3) r.cells ∧ w'.rangeAt z 0 [.int .i64 d.src, .int .i64 d.dst, u]) (by kernel_rfl) (⟨hR1.out, hR2.out⟩) (fun hHeld => ?_)
      refine wpAnyH_take (i := 0) (v := ?_) rfl (by kernel_rfl) (by kernel_rfl) (by kernel_rfl) (fun _ _ _ h => h) (Or.inl ⟨by rfl, ?_⟩) (by assumption) ?_
      rotate_left
      · intro w hSw; (try dsimp only at hSw); go_simp; all_goals (with_reducible rfl)
      try simp only [Act.put, List.setIfInBounds_toArray, List.set_cons_zero, List.set_cons_succ, List.getElem_toArray, List.getElem_cons_succ, List.getElem_cons_zero]
      refine wpAnyH_take (i := 1) (v := ?_) rfl (by kernel_rfl) (by kernel_rfl) (by kernel_rfl) (fun _ _ _ h => h) (Or.inl ⟨by rfl, ?_⟩) (by assumption) ?_
      rotate_left
      · intro w hSw; (try dsimp only at hSw); go_simp; all_goals (with_reducible rfl)
      try simp only [Act.put, List.setIfInBounds_toArray, List.set_cons_zero, List.set_cons_succ, List.getElem_toArray, List.getElem_cons_succ, List.getElem_cons_zero]
      refine wpAnyH_take (i := 2) (v := .pointer (some ⟨ub, k * 3, none⟩)) rfl (by kernel_rfl) (by kernel_rfl) (by kernel_rfl) (fun _ _ _ h => h) (Or.inl ⟨by rfl, ?_⟩) (by assumption) ?_
      · intro w hSw; clear hSw; go_simp; try rfl
      try simp only [Act.put, List.setIfInBounds_toArray, List.set_cons_zero, List.set_cons_succ, List.getElem_toArray, List.getElem_cons_succ, List.getElem_cons_zero]
      refine wpAnyH_take (i := 3) rfl (by kernel_rfl) (by kernel_rfl) (by kernel_rfl) (fun _ _ _ h => h) (yieldsIf_load_mid (by rfl) 35 _ (by rfl) ub (k * 3) (by rfl) r.cells _ (fun _ h => h.1) Try.underlying35 rfl (dg_info _ _ r.v)) (by assumption) ?_
      try simp only [Act.put, List.setIfInBounds_toArray, List.set_cons_zero, List.set_cons_succ, List.getElem_toArray, List.getElem_cons_succ, List.getElem_cons_zero]
      refine wpAnyH_take (i := 4) rfl (by kernel_rfl) (by kernel_rfl) (by kernel_rfl) (fun _ _ _ h => h) (yieldsIf_load_mid (by rfl) 35 _ (by rfl) z 0 (by rfl) [.int .i64 d.src, .int .i64 d.dst, u] _ (fun _ h => h.2) Try.underlying35 rfl (dg_info _ _ u)) (by assumption) ?_
      try simp only [Act.put, List.setIfInBounds_toArray, List.set_cons_zero, List.set_cons_succ, List.getElem_toArray, List.getElem_cons_succ, List.getElem_cons_zero]
      refine wpAnyH_ready (rs := [5]) (by kernel_rfl) (by simp) ?_
      refine AllReadyH.cons rfl (fun K hK => ?_) AllReadyH.nil
      go_simp
      refine HS.out.mono ?_
      rintro x w2 ⟨rfl, hb2⟩
      replace hb2 := (show Hid (Bw (wr.drewN 1) w2) from hb2)
      refine hK.out _ _ ⟨HR.out _ hb2.out, HR2.out _ hb2.out⟩ (fun hHeld => ?_)
      clear hK K
      try simp only [Act.put, List.setIfInBounds_toArray, List.set_cons_zero, List.set_cons_succ, List.getElem_toArray, List.getElem_cons_succ, List.getElem_cons_zero]
      refine wpAnyH_done (by kernel_rfl) ?_ _
      cases b
      · rw [if_neg (by decide)] at hmt
        go_wp2
        go_roundw
        case rel => exact ⟨k + 1, by omega, by go_num, by rw [hmt.out]; rfl, hbw1.out.trans hb2.out⟩
        case measure => simp [intOf]; omega
      · rw [if_pos rfl] at hmt
        go_wp2
        go_roundw
        case rel => exact ⟨k + 1, by omega, by go_num, by rw [hmt.out]; go_num, hbw1.out.trans hb2.out⟩
        case measure => simp [intOf]; omega
    · obtain rfl : k = n := by omega
      have ek : Hid (M.take k = M) := by show _ = _; rw [← hnn.out, List.take_length]
      clear hlt
      go_wp2
      go_ret
      rw [ek.out]
      exact ⟨rfl, hkW.out.trans hbw.out⟩
end Go.Proofs.Ytjjnbpbbjaabeaa
