/- A range over a text's pieces: the program's own iterator. -/
import Derived.Test.YtpkdnockbbppiaaNX
import Derived.RangeFuncNested
import Derived.RangeFuncBound
import Derived.RangeFuncCalls
import Derived.RangeFuncLeaves
import Derived.Shelf.Abstract
import Derived.Shelf.RegionOpen
import Derived.OwnWalkIn
import Derived.TacticsInMore
import Derived.LoopNIn
import Derived.LoopIn
namespace Go.Proofs.Ytpkdnockbbppiaa
open Go.RowKit Go.Deep Go.Shelf
set_option linter.unusedVariables false
set_option linter.unusedSimpArgs false
attribute [local go_sem] Oper.semAt_some

theorem cell_drewN8 (w : World) (n : Nat) (a : Addr) : (w.drewN n).cell? a = w.cell? a := by
  induction n with
  | zero => rfl
  | succ n ih => exact ih
theorem grown_drewN8 (w : World) (n : Nat) (row : Option Nat) : w.grownBy (w.drewN n) row := ⟨rfl, rfl, rfl, Nat.le_refl _, fun _ _ _ => rfl⟩
set_option maxRecDepth 100000 in
set_option maxHeartbeats 2000000 in
theorem each1_in (n : Nat) (hn : 3 ≤ n) (l g : Nat) (s : ByteArray) (hs : s.size ≤ 4611686018427387904) (Kp : World → World → Prop) (hKg : ∀ W W', Kp W W' → W.cell? ⟨g, 0, none⟩ = some (.string s) → W'.cell? ⟨g, 0, none⟩ = some (.string s)) (J Jx : List (Nat × Nm.B) → World → Prop)
    (hJd : ∀ pre W m, J pre W → J pre (W.drewN m))
    (hY : ∀ pre x W, J pre W → pre.length < (Nm.all s.toList).length → pre ++ [x] <+: Nm.all s.toList → YieldAt Fence.wide (n - 1) Try.prog l (encP x) W fun e W' =>
      (e = .returned (.bool true) ∧ J (pre ++ [x]) W' ∧ Kp W W') ∨ (e = .returned (.bool false) ∧ Jx (pre ++ [x]) W'))
    (W : World) (hbox : W.cell? ⟨g, 0, none⟩ = some (.string s)) (h0 : J [] W) :
    CallsIn Fence.wide n Try.prog 29 #[.func (.yield l) #[] #[], .pointer (some ⟨g, 0, none⟩)] W fun e W' => (∃ v, e = .returned v) ∧
      ((∃ ys, ys = Nm.all s.toList ∧ J ys W') ∨ (∃ pre, pre <+: Nm.all s.toList ∧ Jx pre W')) := by
  have HSZ : Hid (s.toList.length = s.size) := Nm.size_toList s
  have h1 : 1 ≤ n := by omega
  refine callsIn_of_wp Try.func29 rfl trivial ?_ rfl
  simp only [Try.ntmps29, List.size_toArray, List.length_cons, List.length_nil, Nat.reduceAdd, Nat.reduceSub, Array.replicate_succ, Array.replicate_zero, List.push_toArray, List.append_toArray, List.nil_append, List.cons_append]
  gi_wp2
  gi_loopw [3] (fun f wr => ∃ (q : Nat) (out : List Nm.B), q ≤ s.size ∧ f = .int .i64 (q : Int) ∧ Hid (Nm.Past s.toList q out) ∧ wr.cell? ⟨g, 0, none⟩ = some (.string s) ∧ J (Nm.ats 0 out) wr) (fun f _ => s.size - (intOf f).toNat)
  case atStart => exact ⟨0, [], Nat.zero_le _, rfl, Nm.past_start _, hbox, h0⟩
  case round =>
    obtain ⟨q, out, hq, rfl, hpast, hb, hJ⟩ := hrel
    have q0 : (0 : Int) ≤ (q : Int) := Int.natCast_nonneg _
    have q1 : (q : Int) ≤ (s.size : Int) := by omega
    have hqt : Hid (q = Nm.tot out) := hpast.out.2.1
    have hfr := Nm.past_front hpast.out
    obtain ⟨P, hP⟩ : ∃ P, Hid (Nm.fst (s.toList.drop q) = P) := ⟨_, rfl⟩
    rw [hP.out] at hfr
    have hpf : Hid ((Nm.ats 0 out ++ [(q, P)]) <+: Nm.all s.toList) := hfr.2.2
    have hlt : Hid ((Nm.ats 0 out).length < (Nm.all s.toList).length) := hfr.2.1
    clear hfr
    have hex : Hid ((s.extract q s.size).toList = s.toList.drop q) := by show _ = _; rw [Nm.extract_from, Nm.toList_S]
    have hes : Hid ((s.extract q s.size).size ≤ 4611686018427387904) := by show _ ≤ _; rw [← Nm.size_toList, hex.out, List.length_drop, HSZ.out]; omega
    have hPl : (Nm.S P).size = P.length := Nm.size_S P
    have p0 : (0 : Int) ≤ (P.length : Int) := Int.natCast_nonneg _
    have hPq : q + P.length ≤ s.size := by
      have := Nm.fst_len (s.toList.drop q)
      rw [hP.out, List.length_drop, HSZ.out] at this
      omega
    by_cases hm : (47 : UInt8) ∈ s.toList.drop q
    · have hmd : Hid (decide ((47 : UInt8) ∈ (s.extract q s.size).toList) = true) := by show _ = _; rw [hex.out]; exact decide_eq_true hm
      have hnx : Hid (Nm.Past s.toList (q + (P.length + 1)) (out ++ [P])) := by have := Nm.past_next hpast.out hm; rw [hP.out] at this; exact this
      have hle : q + (P.length + 1) ≤ s.size := by have := hnx.out.1; rw [HSZ.out] at this; exact this
      clear hm
      gi_wp2_with (refine ⟨trivial, ?_⟩; gi_at_call 30; refine (callsIn_wide.2 (fpiece_any (s.extract q s.size) _ hes.out)).mono ?_; rintro e w1 ⟨rfl, m, hw1⟩; rw [hmd.out, hex.out, hP.out]; have hJ1 : J (Nm.ats 0 out) w1 := (by rw [hw1]; exact hJd _ _ m hJ); have hb1 : w1.cell? ⟨g, 0, none⟩ = some (.string s) := (by rw [hw1, cell_drewN8]; exact hb); clear hw1; obtain ⟨fn, tmps, assign, body, hy, hR⟩ := hY (Nm.ats 0 out) (q, P) w1 hJ1 hlt.out hpf.out; unfold encP at hy; dsimp only at hy)
      refine hR.mono ?_
      rintro e W3 (⟨rfl, hJ3, hk3⟩ | ⟨rfl, hJx3⟩)
      · have hb3 : W3.cell? ⟨g, 0, none⟩ = some (.string s) := hKg _ _ hk3 hb1
        have hJ4 : J (Nm.ats 0 (out ++ [P])) W3 := by rw [Nm.ats_snoc, ← hqt.out]; exact hJ3
        gi_wp2
        go_roundw
        case rel => exact ⟨q + (P.length + 1), _, hle, by go_num, hnx, hb3, hJ4⟩
        case measure => simp [intOf]; omega
      · gi_wp2
        refine bodyPost_ret (results_none rfl _ _ _) rfl ?_
        exact ⟨⟨_, rfl⟩, .inr ⟨_, hpf.out, hJx3⟩⟩
    · have hmd : Hid (decide ((47 : UInt8) ∈ (s.extract q s.size).toList) = false) := by show _ = _; rw [hex.out]; exact decide_eq_false hm
      have hall : Hid (Nm.ats 0 out ++ [(q, P)] = Nm.all s.toList) := by
        show _ = _
        unfold Nm.all
        rw [Nm.past_end hpast.out hm, hP.out, Nm.ats_snoc, ← hqt.out]
      clear hm
      gi_wp2_with (refine ⟨trivial, ?_⟩; gi_at_call 30; refine (callsIn_wide.2 (fpiece_any (s.extract q s.size) _ hes.out)).mono ?_; rintro e w1 ⟨rfl, m, hw1⟩; rw [hmd.out, hex.out, hP.out]; have hJ1 : J (Nm.ats 0 out) w1 := (by rw [hw1]; exact hJd _ _ m hJ); have hb1 : w1.cell? ⟨g, 0, none⟩ = some (.string s) := (by rw [hw1, cell_drewN8]; exact hb); clear hw1; obtain ⟨fn, tmps, assign, body, hy, hR⟩ := hY (Nm.ats 0 out) (q, P) w1 hJ1 hlt.out hpf.out; unfold encP at hy; dsimp only at hy)
      refine hR.mono ?_
      rintro e W3 (⟨rfl, hJ3, hk3⟩ | ⟨rfl, hJx3⟩)
      · gi_wp2
        refine bodyPost_ret (results_none rfl _ _ _) rfl ?_
        exact ⟨⟨_, rfl⟩, .inl ⟨_, hall.out, hJ3⟩⟩
      · gi_wp2
        refine bodyPost_ret (results_none rfl _ _ _) rfl ?_
        exact ⟨⟨_, rfl⟩, .inr ⟨_, hpf.out, hJx3⟩⟩
theorem each_stops (n : Nat) (hn : 3 ≤ n) (g n₀ : Nat) (s : ByteArray) (hs : s.size ≤ 4611686018427387904) (hg : g < n₀) (w : World) (hbox : w.cell? ⟨g, 0, none⟩ = some (.string s)) :
    SeqStopsK Fence.wide n Try.prog 29 #[.pointer (some ⟨g, 0, none⟩)] encP (Below n₀) (fun xs => xs = Nm.all s.toList) (fun pre => pre <+: Nm.all s.toList) (Nm.all s.toList).length w :=
  fun l J Jx W hW hJ hJx hY h0 => each1_in n hn l g s hs (Below n₀) (fun W1 W2 hk hb => (hk.cell (p := ⟨g, 0, none⟩) hg).trans hb) J Jx (fun pre W' m h => hJ pre W' _ none h (grown_drewN8 W' m none) (fun r e => by cases e)) (fun pre x W1 h1 h2 _ => hY pre x W1 h1 h2) W ((hW.cell (p := ⟨g, 0, none⟩) (block_lt_of_cell hbox)).trans hbox) h0
/-- a piece of a text, with its place -/
abbrev Px (l : Nm.B) := { x : Nat × Nm.B // x ∈ Nm.all l }
theorem each_stopsK (n : Nat) (hn : 3 ≤ n) (g : Nat) (s : ByteArray) (hs : s.size ≤ 4611686018427387904) (Kp : World → World → Prop) (hKg : ∀ W W', Kp W W' → W.cell? ⟨g, 0, none⟩ = some (.string s) → W'.cell? ⟨g, 0, none⟩ = some (.string s)) (w : World) (hbox : w.cell? ⟨g, 0, none⟩ = some (.string s)) :
    SeqStopsK Fence.wide n Try.prog 29 #[.pointer (some ⟨g, 0, none⟩)] (fun x : Px s.toList => encP x.1) Kp (fun xs => xs.map (fun x => x.1) = Nm.all s.toList) (fun pre => pre.map (fun x => x.1) <+: Nm.all s.toList) (Nm.all s.toList).length w := by
  intro l J Jx W hW hJ hJx hY h0
  refine (each1_in n hn l g s hs Kp hKg (fun pre W' => ∃ xs : List (Px s.toList), xs.map (fun x => x.1) = pre ∧ J xs W') (fun pre W' => ∃ xs : List (Px s.toList), xs.map (fun x => x.1) = pre ∧ Jx xs W') ?_ ?_ W ((hW.cell (p := ⟨g, 0, none⟩) (block_lt_of_cell hbox)).trans hbox) ⟨[], rfl, h0⟩).mono ?_
  · rintro pre W' m ⟨xs, hx, h⟩
    exact ⟨xs, hx, hJ xs W' _ none h (grown_drewN8 W' m none) (fun r e => by cases e)⟩
  · rintro pre x W1 ⟨xs, rfl, h1⟩ h2 h3
    rw [List.length_map] at h2
    have hx : x ∈ Nm.all s.toList := h3.mem (by simp)
    obtain ⟨fn, tmps, assign, body, hy, hR⟩ := hY xs ⟨x, hx⟩ W1 h1 h2
    refine ⟨fn, tmps, assign, body, hy, hR.mono ?_⟩
    rintro e W3 (⟨rfl, hJ3, hk3⟩ | ⟨rfl, hJx3⟩)
    · exact .inl ⟨rfl, ⟨xs ++ [⟨x, hx⟩], by simp, hJ3⟩, hk3⟩
    · exact .inr ⟨rfl, ⟨xs ++ [⟨x, hx⟩], by simp, hJx3⟩⟩
  · rintro e W3 ⟨hv, ⟨ys, rfl, xs, hx, h⟩ | ⟨pre, hp, xs, rfl, h⟩⟩
    · exact ⟨hv, .inl ⟨xs, hx, h⟩⟩
    · exact ⟨hv, .inr ⟨xs, hp, h⟩⟩
theorem each_stopsX (n : Nat) (hn : 3 ≤ n) (g n₀ : Nat) (s : ByteArray) (hs : s.size ≤ 4611686018427387904) (hg : g < n₀) (w : World) (hbox : w.cell? ⟨g, 0, none⟩ = some (.string s)) :
    SeqStopsK Fence.wide n Try.prog 29 #[.pointer (some ⟨g, 0, none⟩)] (fun x : Px s.toList => encP x.1) (Below n₀) (fun xs => xs.map (fun x => x.1) = Nm.all s.toList) (fun pre => pre.map (fun x => x.1) <+: Nm.all s.toList) (Nm.all s.toList).length w :=
  each_stopsK n hn g s hs (Below n₀) (fun W1 W2 hk hb => (hk.cell (p := ⟨g, 0, none⟩) hg).trans hb) w hbox
theorem neach_any (s : ByteArray) (w : World) :
    Calls Try.prog 16 #[.string s] w fun e w' => e = .returned (.func (.func 29) #[] #[.pointer (some ⟨w.heap.size, 0, none⟩)]) ∧ w'.cell? ⟨w.heap.size, 0, none⟩ = some (.string s) ∧ Bw w w' := by
  go_enter Try.func16, Try.ntmps16
  go_wp2
  go_ret
  exact ⟨rfl, by rw [World.cell?_alloc_at _ _ _ 0 rfl]; rfl, Below.alloc (Bw.refl _) (Nat.le_refl _) _⟩
end Go.Proofs.Ytpkdnockbbppiaa
