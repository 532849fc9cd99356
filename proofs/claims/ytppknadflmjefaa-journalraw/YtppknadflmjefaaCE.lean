/- Layer 14: the document's own Read and Restart. -/
import Derived.Test.YtppknadflmjefaaCD
namespace Go.Proofs.Ytppknadflmjefaa
open Go.RowKit Go.Deep Go.Maps
set_option linter.unusedVariables false
set_option linter.unusedSimpArgs false

/-- a row of bytes behind an owned one, at a step of a drawn region -/
theorem run_more {w : World} (ty : TypeId) (base : Nat) (v : Value) (n : Nat) (fo : Nat → Int) (hown : w.ownsRow base 5 1 v n (cellsU fo n)) (ad : Addr) (L C : Nat) (f : Nat → Int) (hr : RowAt w (some ad) L f) (hL : n + L ≤ 10000000) (hb : base ≤ w.heap.size) :
    ∃ v' w', (Builtin.append_ #[37, 37] ty #[v, .slice (some ad) L C]).run Try.prog w = .ok v' w' ∧ w'.ownsRow base 5 1 v' (n + L) (cellsU (fun c => if c < n then fo c else f (c - n)) (n + L)) ∧ w.grownBy w' v.ownBlock := by
  obtain ⟨i0, hi0, hz0, hz1, hz2⟩ := info_parts info_u8
  have hnews : ∀ j u, (cellsU f L)[j]? = some u → w.cell? (ad.add j) = some u := fun j u hu => by
    obtain ⟨hj, rfl⟩ := cellsU_get f L j u hu
    obtain ⟨b, off, e', hc⟩ := hr.at hj
    cases e'
    rw [Addr.add_lit]; exact hc j hj
  obtain ⟨v', w', hrun, ho, hg, -⟩ := run_append_own (P := Try.prog) w base 37 ty 5 i0 _ 1 1 Try.underlying37 hi0 hz0 hz1 hz2 rfl (by decide) v n _ hown ad L C (cellsU f L) (by rw [cellsU_len, Nat.mul_one]) hnews (cellsU_one f L) (by unfold maxLen; omega) (by omega) hb
  rw [cellsU_append] at ho
  exact ⟨v', w', hrun, ho, hg⟩
theorem step_more {w : World} {ops : Array Oper} {o : Oper} {a : Act} {K : Act → World → Prop} {Q : Exit → Act → World → Prop} {E : Prop} (hgd : o.guard = none) (s x : Operand)
    (ho : o.op = .call { callee := .builtin .append, args := #[s, x], argTypes := #[37, 37] }) (base : Nat) (v : Value) (n : Nat) (fo : Nat → Int) (hs : a.eval s = v) (hown : w.ownsRow base 5 1 v n (cellsU fo n)) (ad : Addr) (L C : Nat) (f : Nat → Int) (hx : a.eval x = .slice (some ad) L C) (hr : RowAt w (some ad) L f) (hL : n + L ≤ 10000000) (hb : base ≤ w.heap.size)
    (hh : ∀ v' w', w'.ownsRow base 5 1 v' (n + L) (cellsU (fun c => if c < n then fo c else f (c - n)) (n + L)) → w.grownBy w' v.ownBlock → K (a.put o.dst v') w') :
    if Region.wanted o (yielded ops a.tmps) = true then Oper.wp Try.prog o a w K Q else E := by
  have hw : Region.wanted o (yielded ops a.tmps) = true := by simp [Region.wanted, hgd]
  rw [if_pos hw]
  obtain ⟨v', w', hrun, h1, h2⟩ := run_more o.type base v n fo hown ad L C f hr hL hb
  unfold Oper.wp execOp
  simp only [ho, resolve, invoke, builtin, Sem.run_bind, Sem.run_pure, Result.andThen_ok, List.map_toArray, List.map_cons, List.map_nil, hs, hx, hrun]
  exact hh v' w' h1 h2
theorem wpList_more {w : World} {ops : Array Oper} {rest : List Oper} {o : Oper} {a : Act} {Q : Exit → Act → World → Prop} (hgd : o.guard = none) (s x : Operand)
    (ho : o.op = .call { callee := .builtin .append, args := #[s, x], argTypes := #[37, 37] }) (base : Nat) (v : Value) (n : Nat) (fo : Nat → Int) (hs : a.eval s = v) (hown : w.ownsRow base 5 1 v n (cellsU fo n)) (ad : Addr) (L C : Nat) (f : Nat → Int) (hx : a.eval x = .slice (some ad) L C) (hr : RowAt w (some ad) L f) (hL : n + L ≤ 10000000) (hb : base ≤ w.heap.size)
    (hh : ∀ v' w', w'.ownsRow base 5 1 v' (n + L) (cellsU (fun c => if c < n then fo c else f (c - n)) (n + L)) → w.grownBy w' v.ownBlock → wpList Try.prog ops Q rest (a.put o.dst v') w') : wpList Try.prog ops Q (o :: rest) a w := by
  refine wpList_plain hgd fun K hK => ?_
  obtain ⟨v', w', hrun, h1, h2⟩ := run_more o.type base v n fo hown ad L C f hr hL hb
  unfold Oper.wp execOp
  simp only [ho, resolve, invoke, builtin, Sem.run_bind, Sem.run_pure, Result.andThen_ok, List.map_toArray, List.map_cons, List.map_nil, hs, hx, hrun]
  exact hK _ _ (hh v' w' h1 h2)
theorem RowU.row {w : World} {v : Value} {f : Nat → Int} (h : RowU w v f) (hf : ∀ i, 0 ≤ f i ∧ f i < 256) : ∃ b c, v = .slice (some ⟨b, 0, none⟩) 64 c ∧ 64 ≤ c ∧ c ≤ maxLen ∧ RowAt w (some ⟨b, 0, none⟩) 64 f := by
  obtain ⟨b, c, e, h1, h2, h3⟩ := h
  exact ⟨b, c, e, h1, h2, h3.row hf⟩
/-- no row read -/
theorem rread_bad {w : World} {g cb cap : Nat} {LV WV : Nat → Value} {S : Dsk} (h : RefAt w g cb cap LV WV S) (x y : Int) (bx : x < 9223372036854775808) (he : S.readE x y ≠ 0) :
    Calls Try.prog 16 #[.pointer (some ⟨g, 0, none⟩), .int .i64 x, .int .i64 y] w fun e w' => e = .returned (.tuple #[.slice none 0 0, .int .i64 (S.readE x y)]) ∧ w' = w := by
  have t1 := h.t1
  cases hd : S.dead
  · have e1 : S.readE x y = 1 := by
      unfold Dsk.readE at he ⊢
      rw [hd] at he ⊢
      simp only [Bool.false_eq_true, if_false] at he ⊢
      split
      · rfl
      · rename_i h1; rw [if_neg h1] at he; exact absurd rfl he
    have ht : ¬ S.There x y := fun t => by
      unfold Dsk.readE at e1
      rw [hd, if_neg (by decide), if_neg (Decidable.not_not.2 ⟨t.1, t.2.1, t.2.2⟩)] at e1
      cases e1
    rw [e1]
    rw [hd] at t1
    have HH := rthere_no h x y bx ht
    clear he e1 ht
    go_enter Try.func16, Try.ntmps16
    go_wp2_with (go_at_call 43; refine HH.mono ?_; rintro e w1 ⟨rfl, hw⟩; obtain rfl := hw.symm)
    go_ret2
    exact ⟨rfl, rfl⟩
  · have e1 : S.readE x y = 140 := by unfold Dsk.readE; rw [hd, if_pos rfl]
    rw [e1]
    rw [hd] at t1
    clear he e1
    go_enter Try.func16, Try.ntmps16
    go_wp2
    go_ret2
    exact ⟨rfl, rfl⟩
/-- how the document's Read ends -/
def RReadEnds (w : World) (N : Nat) (F : Nat → Int) (e : Ending) (w' : World) : Prop := ∃ A c, e = .returned (.tuple #[.slice A N c, .int .i64 0]) ∧ RowAt w' A N F ∧ Bw w w'
set_option maxRecDepth 100000 in
set_option maxHeartbeats 4000000 in
theorem rread_ok {w : World} {g cb cap : Nat} {LV WV : Nat → Value} {S : Dsk} (h : RefAt w g cb cap LV WV S) (x k : Nat) (hd : S.dead = false) (hx : x + k ≤ S.n) :
    Calls Try.prog 16 #[.pointer (some ⟨g, 0, none⟩), .int .i64 (x : Int), .int .i64 (k : Int)] w fun e w' => RReadEnds w (k * 64) (fun i => S.read (64 * x + i)) e w' := by
  have t1 := h.t1
  rw [hd] at t1
  have HH := rthere_yes h (x : Int) (k : Int) ⟨Int.natCast_nonneg _, Int.natCast_nonneg _, by omega⟩
  have hn := h.ok.n1
  have hrb := h.ok.read
  have H : Hid (RefAt w g cb cap LV WV S) := h
  have k0 : (0 : Int) ≤ (k : Int) := Int.natCast_nonneg _
  have x0 : (0 : Int) ≤ (x : Int) := Int.natCast_nonneg _
  have xk : (x : Int) + (k : Int) ≤ 65536 := by omega
  clear h
  go_enter Try.func16, Try.ntmps16
  go_wp2_with (go_at_call 43; refine HH.mono ?_; rintro e w1 ⟨rfl, hw⟩; obtain rfl := hw.symm)
  clear HH
  go_loopw [8, 9] (fun v i wr => ∃ q : Nat, q ≤ k ∧ i = .int .i64 ((x + q : Nat) : Int) ∧ wr.ownsRow w.heap.size 5 1 v (64 * q) (cellsU (fun i => S.read (64 * x + i)) (64 * q)) ∧ Bw w wr) (fun _ i _ => x + k - (intOf i).toNat)
  case atStart => exact ⟨0, Nat.zero_le _, rfl, World.ownsRow_nil w _ _ _, Bw.refl _⟩
  case round =>
    obtain ⟨q, hq, rfl, hown, hb⟩ := hrel
    obtain ⟨y, hy⟩ : ∃ y, Hid (x + q = y) := ⟨_, rfl⟩
    rw [hy.out]
    have y0 : (0 : Int) ≤ (y : Int) := Int.natCast_nonneg _
    by_cases hlt : q < k
    · have y1 : (y : Int) < (x : Int) + (k : Int) := by have := hy.out; omega
      have HRd := rreads_any (H.out.keep hb) (s := y) (by have := hy.out; omega)
      have hws := hb.size
      go_wp2_with (first
        | (go_at_call 44; refine HRd.mono ?_; rintro e w2 ⟨v2, rfl, hv2, hw⟩; obtain rfl := hw.symm; obtain ⟨b2, c2, rfl, hc2, hm2, hr2⟩ := hv2.row (fun i => hrb _))
        | (at_builtin; refine wpList_more (by rfl) _ _ (by rfl) w.heap.size _ (64 * q) (fun i => S.read (64 * x + i)) (by rfl) hown ⟨b2, 0, none⟩ 64 c2 (fun c => S.read (64 * y + c)) (by rfl) hr2 (by omega) hws ?_; intro v3 w3 hown3 hg3))
      have hb3 : Bw w w3 := bw_grow hg3 hb hws hown
      have hown4 : w3.ownsRow w.heap.size 5 1 v3 (64 * (q + 1)) (cellsU (fun i => S.read (64 * x + i)) (64 * (q + 1))) := by
        rw [show 64 * (q + 1) = 64 * q + 64 by omega]
        have : cellsU (fun c => if c < 64 * q then S.read (64 * x + c) else S.read (64 * y + (c - 64 * q))) (64 * q + 64) = cellsU (fun i => S.read (64 * x + i)) (64 * q + 64) := by
          unfold cellsU
          refine List.map_congr_left (fun i hi => ?_)
          dsimp only
          by_cases e : i < 64 * q
          · rw [if_pos e]
          · rw [if_neg e, ← hy.out, show 64 * (x + q) + (i - 64 * q) = 64 * x + i by omega]
        rw [← this]; exact hown3
      exact ⟨⟨q + 1, hlt, by rw [← hy.out]; rfl, hown4, hb3⟩, by simp only [intOf]; omega⟩
    · obtain rfl : q = k := by omega
      have y1 : ¬ (y : Int) < (x : Int) + (q : Int) := by have := hy.out; omega
      obtain ⟨A, c, e, h1, h2, hr, -⟩ := row_of_own (fun i => hrb _) hown
      subst e
      go_wp2
      go_ret2
      rw [Nat.mul_comm q 64]
      exact ⟨A, c, rfl, hr, hb⟩
end Go.Proofs.Ytppknadflmjefaa
