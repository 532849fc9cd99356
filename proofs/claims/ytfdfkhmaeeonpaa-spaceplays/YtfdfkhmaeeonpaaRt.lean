/- Layer 16: what is held beside what is free (SpaceApart). -/
import Derived.Test.YtfdfkhmaeeonpaaRs
namespace Go.Proofs.Ytfdfkhmaeeonpaa
open Go.RowKit Go.Deep
set_option linter.unusedVariables false
set_option linter.unusedSimpArgs false

namespace Sp
theorem cov_two : ∀ {A : List Rn} {p q : Nat} {r s : Rn} {j : Nat}, p < q → A[p]? = some r → A[q]? = some s → (r.1 ≤ j ∧ j < r.1 + r.2) → (s.1 ≤ j ∧ j < s.1 + s.2) → 2 ≤ cov A j
  | [], p, q, r, s, j, _, h, _, _, _ => by simp at h
  | a :: A, 0, q + 1, r, s, j, _, h1, h2, h3, h4 => by
    simp at h1 h2
    subst h1
    have := cov_mem (List.mem_of_getElem? h2) h4
    rw [cov, inr_yes h3]
    omega
  | a :: A, p + 1, q + 1, r, s, j, h, h1, h2, h3, h4 => by
    simp at h1 h2
    have := cov_two (A := A) (by omega) h1 h2 h3 h4
    rw [cov]
    omega
theorem cov_set : ∀ {A : List Rn} {k : Nat} {r : Rn} (s : Rn) (j : Nat), A[k]? = some r → cov (A.set k s) j + inr r j = cov A j + inr s j
  | [], k, r, s, j, h => by simp at h
  | a :: A, 0, r, s, j, h => by simp at h; subst h; rw [List.set_cons_zero, cov, cov]; omega
  | a :: A, k + 1, r, s, j, h => by
    simp at h
    have := cov_set (A := A) s j h
    rw [List.set_cons_succ, cov, cov]
    omega
/-- the last one in the place of one that goes -/
theorem cov_drop {H : List Rn} {k m : Nat} {r l : Rn} (hk : H[k]? = some r) (hl : H[m]? = some l) (hm : H.length = m + 1) (j : Nat) : cov ((H.set k l).take m) j + inr r j = cov H j := by
  have e : H.set k l = (H.set k l).take m ++ [l] := by
    have h1 : (H.set k l)[m]? = some l := by
      rw [List.getElem?_set]
      split
      · rw [if_pos (by omega)]
      · exact hl
    have h2 := List.take_add_one (l := H.set k l) (i := m)
    rw [h1, List.take_of_length_le (by rw [List.length_set]; omega)] at h2
    exact h2
  have h3 := cov_set l j hk
  rw [e, cov_append, cov, cov] at h3
  omega
theorem mem_drop {H : List Rn} {k m : Nat} {l s : Rn} (hl : H[m]? = some l) (hs : s ∈ (H.set k l).take m) : s ∈ H := by
  have h1 := List.mem_of_mem_take hs
  rcases List.mem_or_eq_of_mem_set h1 with h | h
  · exact h
  · subst h; exact List.mem_of_getElem? hl
theorem tot_one {A : List Rn} {n : Nat} (h1 : ∀ j, j < n → cov A j = 1) (h2 : ∀ r ∈ A, r.1 + r.2 ≤ n) : tot A = n := by
  rw [← tot_sum h2, sumTo_congr (g := fun _ => 1) (fun j hj => h1 j hj), sumTo_one]
end Sp
/-- rows of the statement's own stay -/
def KeepA (w w' : World) : Prop := ∀ (z : Nat) (C : Array Value) (f : Nat × Nat), w.heap[z]? = some (Obj.cells C 32 f) → w'.heap[z]? = some (Obj.cells C 32 f)
theorem KeepA.of_bw {w w' : World} (k : Bw w w') : KeepA w w' := fun z C f h => (k.block z (Array.getElem?_eq_some_iff.1 h).1).trans h
theorem KeepA.trans {a b c : World} (h : KeepA a b) (k : KeepA b c) : KeepA a c := fun z C f e => k z C f (h z C f e)
theorem KeepA.of_sp {w w' : World} {g n b c : Nat} {L : List Sp.Rn} (hs : SpAt w g n b c L) (k : Bx (fun y => y = g ∨ y = b) w w') : KeepA w w' := fun z C f h => by
  refine (k.block z (Array.getElem?_eq_some_iff.1 h).1 ?_).trans h
  rintro (rfl | rfl)
  · have h2 := hs.cells
    rw [h] at h2
    simp only [Option.some.injEq, Obj.cells.injEq] at h2
    exact absurd h2.2.1 (by decide)
  · obtain ⟨cur, h2, _⟩ := hs.row
    rw [h] at h2
    simp only [Option.some.injEq, Obj.cells.injEq] at h2
    exact absurd h2.2.1 (by decide)
/-- what is held -/
def Hd16 (B : Nat) (w : World) (v : Value) (H : List Sp.Rn) : Prop := w.ownsRow B 32 2 v H.length (Sp.cellsR H)
theorem Hd16.keepA {B : Nat} {w w' : World} {v : Value} {H : List Sp.Rn} (h : Hd16 B w v H) (k : KeepA w w') : Hd16 B w' v H := by
  rcases h.2 with h1 | ⟨g, cap, cur, e, h0, h1, h2⟩
  · exact ⟨h.1, .inl h1⟩
  · exact ⟨h.1, .inr ⟨g, cap, cur, e, h0, k _ _ _ h1, h2⟩⟩
theorem Hd16.keep {B : Nat} {w w' : World} {v : Value} {H : List Sp.Rn} (h : Hd16 B w v H) (k : Bw w w') : Hd16 B w' v H := h.keepA (KeepA.of_bw k)
theorem Hd16.rb {B : Nat} {w : World} {v : Value} {H : List Sp.Rn} (h : Hd16 B w v H) (h0 : H ≠ []) : ∃ b c, v = .slice (some ⟨b, 0, none⟩) H.length c ∧ RB w 32 b c H ∧ B ≤ b := by
  rcases h.2 with ⟨h1, h2⟩ | ⟨g, cap, cur, e, hb, h1, h2, h3, h4, h5⟩
  · exact absurd (List.eq_nil_of_length_eq_zero h2) h0
  · exact ⟨g, cap, e, ⟨cur, h1, h4, h2, h3, h5⟩, hb⟩
theorem Hd16.src {B : Nat} {w : World} {v : Value} {H : List Sp.Rn} (h : Hd16 B w v H) : ∃ A c, v = .slice A H.length c ∧ RsAt w A H ∧ (A = none → c = 0) ∧ H.length ≤ c := by
  rcases h.2 with ⟨h1, h2⟩ | ⟨g, cap, cur, e, hb, h1, h2, h3, h4, h5⟩
  · exact ⟨none, 0, by rw [h2]; exact h1, .inl (List.eq_nil_of_length_eq_zero h2), fun _ => rfl, by omega⟩
  · exact ⟨_, cap, e, (show RB w 32 g cap H from ⟨cur, h1, h4, h2, h3, h5⟩).src0, (fun e => by cases e), h2⟩
theorem SpAt.grown {w w' : World} {g n b c B : Nat} {L H : List Sp.Rn} {v : Value} (hs : SpAt w g n b c L) (hh : Hd16 B w v H) (k : w.grownBy w' v.ownBlock) : SpAt w' g n b c L := by
  refine hs.keepx (S := fun y => v.ownBlock = some y) ⟨k.os, k.tape, k.output, k.size, fun x hx hne => k.block x hx (fun e => hne e.symm)⟩ ?_ ?_
  · intro e
    rcases hh.2 with ⟨h1, _⟩ | ⟨g', cap, cur, e', _, h1, _⟩
    · rw [h1] at e; cases e
    · rw [e'] at e
      simp only [Value.ownBlock, Option.some.injEq] at e
      subst e
      have h2 := hs.cells
      rw [h1] at h2
      simp only [Option.some.injEq, Obj.cells.injEq] at h2
      exact absurd h2.2.1 (by decide)
  · intro e
    rcases hh.2 with ⟨h1, _⟩ | ⟨g', cap, cur, e', _, h1, _⟩
    · rw [h1] at e; cases e
    · rw [e'] at e
      simp only [Value.ownBlock, Option.some.injEq] at e
      subst e
      obtain ⟨cur', h2, _⟩ := hs.row
      rw [h1] at h2
      simp only [Option.some.injEq, Obj.cells.injEq] at h2
      exact absurd h2.2.1 (by decide)
/-- an append of runs of the statement's own -/
theorem wpList_app16 {w : World} {ops : Array Oper} {rest : List Oper} {o : Oper} {a : Act} {Q : Exit → Act → World → Prop} (hgd : o.guard = none) (s x : Operand)
    (ho : o.op = .call { callee := .builtin .append, args := #[s, x], argTypes := #[40, 40] }) (B : Nat) (v : Value) (H V : List Sp.Rn) (m : Nat) (hm : V.length = m) (hs : a.eval s = v)
    (hown : Hd16 B w v H) (A : Option Addr) (mc : Nat) (hx : a.eval x = .slice A m mc) (hnil : A = none → mc = 0) (hA : RsAt w A V) (hlen : H.length + m ≤ 1000000) (hB : B ≤ w.heap.size)
    (h : ∀ v' w', Hd16 B w' v' (H ++ V) → w.grownBy w' v.ownBlock → wpList Try.prog ops Q rest (a.put o.dst v') w') : wpList Try.prog ops Q (o :: rest) a w := by
  obtain ⟨i0, hi0, hz0, hz1, hz2⟩ := info_parts infoA
  cases A with
  | none =>
    have hV : V = [] := by
      rcases hA with h0 | ⟨b, o', e, _⟩
      · exact h0
      · cases e
    subst hV
    obtain rfl := hnil rfl
    obtain rfl : m = 0 := hm.symm
    refine wpList_append_own_none hgd s x 40 ho B 32 i0 2 Try.underlying40 hi0 v H.length (Sp.cellsR H) hs hown hx ?_
    exact h v w (by rw [List.append_nil]; exact hown) (World.grownBy.refl _ _)
  | some ad =>
    refine wpList_append_own w hgd s x _ ho B 32 i0 _ 2 16 Try.underlying40 hi0 hz0 hz1 hz2 rfl (by decide) v H.length (Sp.cellsR H) hs hown ad m mc (Sp.cellsR V) hx (by rw [Sp.cellsR_len, hm]) (fun j u hu => ?_) (Sp.cellsR_one V) (by unfold maxLen; omega) (by omega) hB ?_
    · rcases hA with h0 | ⟨b', o', e, hA⟩
      · rw [h0] at hu; simp [Sp.cellsR] at hu
      · cases e
        rw [Addr.add_lit]
        exact hA j u hu
    · intro v' w' h1 h2 _
      refine h v' w' ?_ h2
      unfold Hd16
      rw [Sp.cellsR_append, List.length_append, hm]
      exact h1
/-- each cell is held once, or free once -/
structure Apt (w0 w : World) (g n : Nat) (v : Value) (H L : List Sp.Rn) : Prop where
  sp : Sps w0 g n L w
  held : Hd16 w0.heap.size w v H
  ok : ∀ r ∈ H, 1 ≤ r.2 ∧ r.1 + r.2 ≤ n
  one : ∀ j, j < n → Sp.cov H j + Sp.cov L j = 1
/-- .. but for a run that was just taken -/
structure Apt1 (w0 w : World) (g n : Nat) (v : Value) (H L : List Sp.Rn) (r : Sp.Rn) : Prop where
  sp : Sps w0 g n L w
  held : Hd16 w0.heap.size w v H
  ok : ∀ r ∈ H, 1 ≤ r.2 ∧ r.1 + r.2 ≤ n
  rok : 1 ≤ r.2 ∧ r.1 + r.2 ≤ n
  one : ∀ j, j < n → Sp.cov H j + Sp.inr r j + Sp.cov L j = 1
theorem Apt.keep {w0 w w' : World} {g n : Nat} {v : Value} {H L : List Sp.Rn} (h : Apt w0 w g n v H L) (k : Bw w w') : Apt w0 w' g n v H L := ⟨h.sp.keep k, h.held.keep k, h.ok, h.one⟩
theorem Apt1.keep {w0 w w' : World} {g n : Nat} {v : Value} {H L : List Sp.Rn} {r : Sp.Rn} (h : Apt1 w0 w g n v H L r) (k : Bw w w') : Apt1 w0 w' g n v H L r := ⟨h.sp.keep k, h.held.keep k, h.ok, h.rok, h.one⟩
theorem Sps.grown {w0 w w' : World} {g n : Nat} {v : Value} {H L : List Sp.Rn} (h : Sps w0 g n L w) (hh : Hd16 w0.heap.size w v H) (k : w.grownBy w' v.ownBlock) : Sps w0 g n L w' := by
  obtain ⟨b, c, h1, h2, h3, h4⟩ := h
  exact ⟨b, c, h1.grown hh k, h2, h3, bw_grow k h4 h4.size hh⟩
theorem Apt1.put {w0 w w' : World} {g n : Nat} {v v' : Value} {H L : List Sp.Rn} {r : Sp.Rn} (h : Apt1 w0 w g n v H L r) (hh : Hd16 w0.heap.size w' v' (H ++ [r])) (k : w.grownBy w' v.ownBlock) : Apt w0 w' g n v' (H ++ [r]) L :=
  ⟨h.sp.grown h.held k, hh, fun s hs => by
    rcases List.mem_append.1 hs with hs | hs
    · exact h.ok s hs
    · simp at hs; subst hs; exact h.rok, fun j hj => by have := h.one j hj; rw [Sp.cov_append, Sp.cov, Sp.cov]; omega⟩
theorem ap_new {w w' : World} {g N b c : Nat} (h : SpAt w' g N b c (Sp.wc [(0, N)])) (hg : w.heap.size ≤ g) (hb : w.heap.size ≤ b) (k : Bw w w') : Apt w w' g N (.slice none 0 0) [] (Sp.wc [(0, N)]) :=
  ⟨sps_new h hg hb k, ⟨rfl, .inl ⟨rfl, rfl⟩⟩, fun r hr => by simp at hr, fun j hj => by
    rw [Sp.wc_cov, Sp.cov, Sp.cov, Sp.cov, Sp.inr_yes (r := (0, N)) ⟨Nat.zero_le _, by show j < 0 + N; omega⟩]⟩
/-- Take: nothing comes of it -/
theorem ap_take_no {w0 w : World} {g n : Nat} {v : Value} {H L : List Sp.Rn} (h : Apt w0 w g n v H L) {k : Int} (hk : k < 1 ∨ ∀ x, ¬ Sp.Place L k.toNat x) : Calls Try.prog 10 #[.pointer (some ⟨g, 0, none⟩), .int .i64 k] w fun e w' => ∃ c : Int, e = .returned (.tuple #[.int .i64 0, .int .i64 c]) ∧ (c == 0) = false ∧ Hid (Apt w0 w' g n v H L) := by
  obtain ⟨b, c, hs⟩ := h.sp
  refine (stake_any hs.sp k).mono ?_
  rintro e w' (⟨h1, h2, h3⟩ | ⟨K', h1, h2, h3, h4, h5⟩ | ⟨K', x', M', h1, h2, h3, _⟩)
  · exact ⟨1, h2, rfl, h.keep h3⟩
  · exact ⟨3, h4, rfl, h.keep h5⟩
  · rcases hk with hk | hk
    · omega
    · subst h1
      exact absurd h3 (hk x')
theorem ap_take_yes {w0 w : World} {g n : Nat} {v : Value} {H L : List Sp.Rn} (h : Apt w0 w g n v H L) {K x : Nat} (hK : 1 ≤ K) (hp : Sp.Place L K x) : Calls Try.prog 10 #[.pointer (some ⟨g, 0, none⟩), .int .i64 (K : Int)] w fun e w' => e = .returned (.tuple #[.int .i64 (x : Int), .int .i64 0]) ∧ ∃ M, Hid (Apt1 w0 w' g n v H M (x, K)) ∧ Hid (KeepA w w') := by
  obtain ⟨b, c, hs⟩ := h.sp
  refine (stake_any hs.sp (K : Int)).mono ?_
  rintro e w' (⟨h1, h2, h3⟩ | ⟨K', h1, h2, h3, h4, h5⟩ | ⟨K', x', M', h1, h2, h3, h4, h5, h6, h7⟩)
  · omega
  · obtain rfl : K = K' := by omega
    exact absurd hp.here (h3 x)
  · obtain rfl : K = K' := by omega
    obtain rfl := Sp.place_uniq hp h3
    obtain ⟨b', c', _, _, hx⟩ := id h6
    have ka := KeepA.of_sp hs.sp hx
    exact ⟨h5, M', ⟨Sps.after hs h6, h.held.keepA ka, h.ok, ⟨hK, h4⟩, fun j hj => by have := h.one j hj; have := h7 j; omega⟩, ka⟩
theorem ap_hold_no {w0 w : World} {g n : Nat} {v : Value} {H L : List Sp.Rn} (h : Apt w0 w g n v H L) {x k : Int} (x0 : -9223372036854775808 ≤ x ∧ x < 9223372036854775808) (k0 : -9223372036854775808 ≤ k ∧ k < 9223372036854775808) (hk : ¬ (Sp.Right n x k ∧ Sp.AllFree L x.toNat k.toNat)) : Calls Try.prog 12 #[.pointer (some ⟨g, 0, none⟩), .agg #[.int .i64 x, .int .i64 k]] w fun e w' => ∃ c : Int, e = .returned (.int .i64 c) ∧ (c == 0) = false ∧ Hid (Apt w0 w' g n v H L) := by
  obtain ⟨b, c, hs⟩ := h.sp
  refine (shold_any hs.sp x k x0 k0).mono ?_
  rintro e w' (⟨h1, h2, h3⟩ | ⟨X', K', h1, h2, h3, h4, (⟨h5, h6, h7⟩ | ⟨h5, h6, M', h7, h8⟩)⟩)
  · exact ⟨1, h2, rfl, h.keep h3⟩
  · exact ⟨5, h6, rfl, h.keep h7⟩
  · subst h1 h2
    exact absurd ⟨by unfold Sp.Right; omega, h5⟩ hk
theorem ap_hold_yes {w0 w : World} {g n : Nat} {v : Value} {H L : List Sp.Rn} (h : Apt w0 w g n v H L) {x k : Nat} (hr : Sp.Right n (x : Int) (k : Int)) (ha : Sp.AllFree L x k) : Calls Try.prog 12 #[.pointer (some ⟨g, 0, none⟩), .agg #[.int .i64 (x : Int), .int .i64 (k : Int)]] w fun e w' => e = .returned (.int .i64 0) ∧ ∃ M, Hid (Apt1 w0 w' g n v H M (x, k)) ∧ Hid (KeepA w w') := by
  obtain ⟨b, c, hs⟩ := h.sp
  have hn1 := hs.sp.n1
  have hr' := hr
  unfold Sp.Right at hr'
  refine (shold_any hs.sp (x : Int) (k : Int) (by omega) (by omega)).mono ?_
  rintro e w' (⟨h1, h2, h3⟩ | ⟨X', K', h1, h2, h3, h4, (⟨h5, h6, h7⟩ | ⟨h5, h6, M', h7, h8⟩)⟩)
  · exact absurd hr h1
  · obtain rfl : x = X' := by omega
    obtain rfl : k = K' := by omega
    exact absurd ha h5
  · obtain rfl : x = X' := by omega
    obtain rfl : k = K' := by omega
    obtain ⟨b', c', _, _, hx⟩ := id h7
    have ka := KeepA.of_sp hs.sp hx
    exact ⟨h6, M', ⟨Sps.after hs h7, h.held.keepA ka, h.ok, ⟨h3, h4⟩, fun j hj => by have := h.one j hj; have := h8 j; omega⟩, ka⟩
/-- Give of what is held: then it is to be taken out of the list -/
theorem ap_give {w0 w : World} {g n k m : Nat} {v : Value} {H L : List Sp.Rn} {r l : Sp.Rn} (h : Apt w0 w g n v H L) (hk : H[k]? = some r) (hl : H[m]? = some l) (hm : H.length = m + 1) : Calls Try.prog 14 #[.pointer (some ⟨g, 0, none⟩), .agg #[.int .i64 (r.1 : Int), .int .i64 (r.2 : Int)]] w fun e w' => e = .returned (.int .i64 0) ∧ Hid (KeepA w w') ∧ Hid (∃ M, Sps w0 g n M w' ∧ Hd16 w0.heap.size w' v H ∧ (∀ s ∈ (H.set k l).take m, 1 ≤ s.2 ∧ s.1 + s.2 ≤ n) ∧ ∀ j, j < n → Sp.cov ((H.set k l).take m) j + Sp.cov M j = 1) := by
  obtain ⟨b, c, hs⟩ := h.sp
  have hn1 := hs.sp.n1
  have hr := h.ok r (List.mem_of_getElem? hk)
  have hnf : Sp.NoneFree L r.1 r.2 := fun j h1 h2 => by
    have h3 := h.one j (by omega)
    have h4 := Sp.cov_mem (List.mem_of_getElem? hk) (i := j) ⟨h1, h2⟩
    omega
  refine (sgive_any hs.sp (r.1 : Int) (r.2 : Int) (by omega) (by omega)).mono ?_
  rintro e w' (⟨h1, _⟩ | ⟨X', K', h1, h2, h3, h4, (⟨h5, _⟩ | ⟨h5, h6, M', h7, h8⟩)⟩)
  · exact absurd (show Sp.Right n (r.1 : Int) (r.2 : Int) by unfold Sp.Right; omega) h1
  · obtain rfl : r.1 = X' := by omega
    obtain rfl : r.2 = K' := by omega
    exact absurd hnf h5
  · obtain rfl : r.1 = X' := by omega
    obtain rfl : r.2 = K' := by omega
    obtain ⟨b', c', _, _, hx⟩ := id h7
    have ka := KeepA.of_sp hs.sp hx
    refine ⟨h6, ka, M', Sps.after hs h7, h.held.keepA ka, fun s hs => h.ok s (Sp.mem_drop hl hs), fun j hj => ?_⟩
    have h9 := h.one j hj
    have h10 := h8 j
    have h11 := Sp.cov_drop hk hl hm j
    have e : Sp.inr (r.1, r.2) j = Sp.inr r j := rfl
    omega
theorem ap_runs {w0 w : World} {g n : Nat} {v : Value} {H L : List Sp.Rn} (h : Apt w0 w g n v H L) : Calls Try.prog 19 #[.pointer (some ⟨g, 0, none⟩)] w fun e w' => ∃ b2, e = .returned (.slice (some ⟨b2, 0, none⟩) L.length L.length) ∧ Hid (RB w' 32 b2 L.length L) ∧ Bw w w' := by
  obtain ⟨b, c, hs⟩ := h.sp
  refine (sruns_any hs.sp).mono ?_
  rintro e w' ⟨b2, h1, h2, h3, h4⟩
  exact ⟨b2, h1, h2, h4⟩
set_option maxRecDepth 100000 in
set_option maxHeartbeats 1000000 in
theorem over16_any (r s : Sp.Rn) (hr : r.1 + r.2 ≤ 65536) (hs : s.1 + s.2 ≤ 65536) (hno : r.1 + r.2 ≤ s.1 ∨ s.1 + s.2 ≤ r.1) (w : World) :
    Calls Try.prog 21 #[.agg #[.int .i64 (r.1 : Int), .int .i64 (r.2 : Int)], .agg #[.int .i64 (s.1 : Int), .int .i64 (s.2 : Int)]] w fun e w' => e = .returned (.bool false) ∧ Bw w w' := by
  obtain ⟨a, c⟩ := r
  obtain ⟨b, d⟩ := s
  dsimp only at hr hs hno ⊢
  have k0 := (Bw.alloc16x w (.cells #[.int .i64 (a : Int), .int .i64 (c : Int)] 32)).trans (Bw.alloc16x _ (.cells #[.int .i64 (b : Int), .int .i64 (d : Int)] 32))
  have p1 : (0 : Int) ≤ (a : Int) + (c : Int) := by omega
  have p2 : (a : Int) + (c : Int) ≤ 65536 := by omega
  have p3 : (0 : Int) ≤ (b : Int) + (d : Int) := by omega
  have p4 : (b : Int) + (d : Int) ≤ 65536 := by omega
  obtain ⟨W, hW⟩ : ∃ W, W = (w.alloc (.cells #[.int .i64 (a : Int), .int .i64 (c : Int)] 32)).alloc (.cells #[.int .i64 (b : Int), .int .i64 (d : Int)] 32) := ⟨_, rfl⟩
  obtain ⟨x0, x1, y0, y1⟩ : Box2 W w.heap.size (w.heap.size + 1) (a, c) (b, d) := by rw [hW]; exact box2_new w (a, c) (b, d) _ _
  dsimp only at x0 x1 y0 y1
  rw [← hW] at k0
  by_cases h1 : a < b + d
  · have d1 : decide ((a : Int) < (b : Int) + (d : Int)) = true := by rw [decide_eq_true_eq]; omega
    have d2 : decide ((b : Int) < (a : Int) + (c : Int)) = false := by rw [decide_eq_false_iff_not]; omega
    clear h1 hno hr hs
    go_enter Try.func21, Try.ntmps21
    go_upto_region 1 with fail
    rw [← hW]
    clear hW
    go_wp2
    go_ret
    exact ⟨rfl, k0⟩
  · have d1 : decide ((a : Int) < (b : Int) + (d : Int)) = false := by rw [decide_eq_false_iff_not]; omega
    clear h1 hno hr hs
    go_enter Try.func21, Try.ntmps21
    go_upto_region 1 with fail
    rw [← hW]
    clear hW
    go_wp2
    go_ret
    exact ⟨rfl, k0⟩
end Go.Proofs.Ytfdfkhmaeeonpaa
