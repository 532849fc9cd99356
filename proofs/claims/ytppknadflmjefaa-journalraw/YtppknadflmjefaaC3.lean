/- Layer 14: the sectors that wait, collected and sorted (the program's rising). -/
import Derived.Test.YtppknadflmjefaaC2
import Derived.Test.YtppknadflmjefaaCL
import Derived.Sort.OwnSortedInts
import Derived.Sort.KeysCollected
namespace Go.Proofs.Ytppknadflmjefaa
open Go.RowKit Go.Deep Go.Maps Go.Sort
set_option linter.unusedVariables false
set_option linter.unusedSimpArgs false

namespace Dsk
/-- the sectors that wait, rising -/
def ris (is : Nat → Bool) (n : Nat) : List Nat := (List.range n).filter is
theorem ris_succ (is : Nat → Bool) (n : Nat) : ris is (n + 1) = ris is n ++ (if is n then [n] else []) := by
  unfold ris
  rw [List.range_succ, List.filter_append]
  congr 1
  cases h : is n <;> simp [h]
theorem ris_len (is : Nat → Bool) : ∀ n, (ris is n).length = cnt is n
  | 0 => rfl
  | n + 1 => by rw [ris_succ, List.length_append, ris_len is n, cnt]; cases is n <;> rfl
theorem ris_get (is : Nat → Bool) : ∀ (n i s : Nat), (ris is n)[i]? = some s → s < n ∧ is s = true ∧ cnt is s = i
  | 0, i, s, h => by simp [ris] at h
  | n + 1, i, s, h => by
    rw [ris_succ] at h
    by_cases hi : i < (ris is n).length
    · rw [List.getElem?_append_left hi] at h
      have := ris_get is n i s h
      exact ⟨by omega, this.2⟩
    · rw [List.getElem?_append_right (by omega)] at h
      cases hn : is n
      · rw [hn] at h; simp at h
      · rw [hn] at h
        simp only [if_true] at h
        have h0 : i - (ris is n).length = 0 := by
          rcases Nat.eq_zero_or_pos (i - (ris is n).length) with h0 | h0
          · exact h0
          · rw [List.getElem?_eq_none (by simp; omega)] at h; cases h
        rw [h0] at h
        simp only [List.getElem?_cons_zero, Option.some.injEq] at h
        subst h
        rw [ris_len] at hi h0
        exact ⟨by omega, hn, by omega⟩
theorem ris_mem (is : Nat → Bool) (n s : Nat) : s ∈ ris is n ↔ s < n ∧ is s = true := by
  unfold ris; rw [List.mem_filter, List.mem_range]
theorem ris_sorted (is : Nat → Bool) (n : Nat) : (ris is n).Pairwise (· < ·) := List.Pairwise.filter _ List.pairwise_lt_range
theorem cnt_mono (is : Nat → Bool) {s t : Nat} (h : s ≤ t) : cnt is s ≤ cnt is t := by
  induction t with
  | zero => rw [show s = 0 by omega]; exact Nat.le_refl _
  | succ t ih =>
    by_cases e : s = t + 1
    · rw [e]; exact Nat.le_refl _
    · have := ih (by omega)
      rw [cnt]; split <;> omega
theorem cnt_lt (is : Nat → Bool) {s t : Nat} (h : s < t) (hi : is s = true) : cnt is s < cnt is t := by
  have h1 := cnt_mono is (show s + 1 ≤ t from h)
  rw [cnt, hi] at h1
  simp only [if_true] at h1
  omega
end Dsk

/-- the keys met so far -/
def CollI (D : DataW Unit) (left : Lit → Bool) (ss : List Int) : Prop := ss.Nodup ∧ ∀ x : Int, x ∈ ss ↔ (Maps.has D (.int .i64 x) = true ∧ left (.int .i64 x) = false)
theorem CollI.start (D : DataW Unit) : CollI D (Maps.has D) [] := ⟨List.nodup_nil, fun x => by cases Maps.has D (.int .i64 x) <;> simp⟩
theorem CollI.step {D : DataW Unit} {left : Lit → Bool} {ss : List Int} (h : CollI D left ss) {x : Int} {y : DataW Unit} (hlk : left (.int .i64 x) = true) (hat : ∀ zd, D.atKey (.int .i64 x) zd = y) : CollI D (fun z => left z && !z.sameKey (.int .i64 x)) (ss ++ [x]) := by
  have hhas : Maps.has D (.int .i64 x) = true := has_true_of_atKey hat
  have hnew : x ∉ ss := fun hx => by have := ((h.2 x).1 hx).2; rw [hlk] at this; cases this
  refine ⟨List.nodup_append.2 ⟨h.1, by simp, fun a ha b hb => by simp at hb; subst hb; exact fun e => hnew (e ▸ ha)⟩, fun y => ?_⟩
  by_cases hy : y = x
  · subst hy; simp [hhas, Lit.sameKey]
  · simp [h.2 y, hy, Lit.sameKey]
theorem CollI.sorted {D : DataW Unit} {left : Lit → Bool} {ss : List Int} {n : Nat} {is : Nat → Bool} {f : Nat → Int} (h : CollI D left ss) (hD : MapIs D n is f) (hl : ∀ k, left k = false) : ss.mergeSort (fun x y => decide (x ≤ y)) = (Dsk.ris is n).map fun s : Nat => (s : Int) := by
  have hm : ∀ x : Int, x ∈ ss ↔ x ∈ (Dsk.ris is n).map fun s : Nat => (s : Int) := fun x => by
    rw [h.2 x, hl, hD.has, List.mem_map]
    constructor
    · rintro ⟨⟨s, h1, h2, e⟩, _⟩
      simp only [Lit.int.injEq, true_and] at e
      exact ⟨s, (Dsk.ris_mem is n s).2 ⟨h1, h2⟩, e.symm⟩
    · rintro ⟨s, hs, rfl⟩
      have := (Dsk.ris_mem is n s).1 hs
      exact ⟨⟨s, this.1, this.2, rfl⟩, rfl⟩
  have hps : ((Dsk.ris is n).map fun s : Nat => (s : Int)).Pairwise (· < ·) := List.pairwise_map.2 ((Dsk.ris_sorted is n).imp (fun h => by omega))
  have hnd : ((Dsk.ris is n).map fun s : Nat => (s : Int)).Nodup := hps.imp (fun h => by omega)
  have hperm : ss.Perm ((Dsk.ris is n).map fun s : Nat => (s : Int)) := (List.perm_ext_iff_of_nodup h.1 hnd).2 hm
  have tr : ∀ a b c : Int, decide (a ≤ b) = true → decide (b ≤ c) = true → decide (a ≤ c) = true := fun a b c h1 h2 => by simp only [decide_eq_true_eq] at *; omega
  have to : ∀ a b : Int, (decide (a ≤ b) || decide (b ≤ a)) = true := fun a b => by simp only [Bool.or_eq_true, decide_eq_true_eq]; omega
  refine List.Perm.eq_of_pairwise (le := fun a b => decide (a ≤ b) = true) (fun a b _ _ h1 h2 => by simp only [decide_eq_true_eq] at h1 h2; omega) (List.pairwise_mergeSort tr to ss) (hps.imp (fun h => by simp only [decide_eq_true_eq]; omega)) ((List.mergeSort_perm ss _).trans hperm)

theorem info_int14 : (Try.prog.info? 3).map (fun i => (i.zero, i.size, i.bytes)) = some (some (.int .i64 0), 1, 8) := by kernel_rfl
theorem made_ints (n : Nat) (h : n ≤ 1000000) : ∃ M : Array Value, M.size = n * 1 ∧
    ∀ w, (Instr.makeSlice 36 (.int .i64 0) (.int .i64 (n : Int))).run Try.prog w = .ok (.slice (some ⟨w.heap.size, 0, none⟩) 0 n) (w.alloc (.cells M 3)) := by
  obtain ⟨i0, hi0, hz0, hz1, hz2⟩ := info_parts info_int14
  refine ⟨madeCells #[.int .i64 0] n, by simp [madeCells], fun w => ?_⟩
  have hr := run_make (P := Try.prog) w 36 3 i0 _ Try.underlying36 hi0 hz0 .i64 .i64 0 (n : Int) (by omega) (by omega) (by rw [hz2]; omega) (by omega)
  rw [hz1, Nat.mul_one, Int.toNat_natCast] at hr
  exact hr
/-- one more number -/
theorem wpList_append_int {w : World} {ops : Array Oper} {rest : List Oper} {o : Oper} {a : Act} {Q : Exit → Act → World → Prop} (hgd : o.guard = none) (s x : Operand) (ho : o.op = .call { callee := .builtin .append, args := #[s, x], argTypes := #[36, 36] })
    (B : Nat) (v : Value) (l : List Int) (hs : a.eval s = v) (hown : w.ownsRow B 3 1 v l.length (l.map (Value.int .i64))) (hnil : v ≠ .slice none 0 0) (g : Nat) (c : Int) (hx : a.eval x = .slice (some ⟨g, 0, none⟩) 1 1) (hg : w.heap[g]? = some (.cells #[.int .i64 c] 3 (0, 0)))
    (hl : l.length ≤ 1000000) (hB : B ≤ w.heap.size)
    (hK : ∀ v' w', w'.ownsRow B 3 1 v' (l ++ [c]).length ((l ++ [c]).map (Value.int .i64)) → v' ≠ .slice none 0 0 → w.grownBy w' v.ownBlock → wpList Try.prog ops Q rest (a.put o.dst v') w') : wpList Try.prog ops Q (o :: rest) a w := by
  obtain ⟨i0, hi0, hz0, hz1, hz2⟩ := info_parts info_int14
  refine wpList_append_own w hgd s x _ ho B 3 i0 _ 1 8 Try.underlying36 hi0 hz0 hz1 hz2 rfl (by decide) v l.length (l.map (Value.int .i64)) hs hown ⟨g, 0, none⟩ 1 1 [.int .i64 c] hx rfl (World.news_of_block (cs := #[_]) hg) (by simp [Value.oneCell']) (by unfold maxLen; omega) (by omega) hB ?_
  intro v' w' h1 h2 h3
  refine hK v' w' ?_ (fun e => hnil (h3.1 e).1) h2
  rw [List.length_append, List.map_append]
  exact h1
/-- these numbers lie in a block of the call's own -/
def RisAt (w : World) (base : Nat) (A : Option Addr) (L : List Nat) : Prop := L = [] ∨ ∃ b, A = some ⟨b, 0, none⟩ ∧ base ≤ b ∧ (∃ cur, w.heap[b]? = some (.cells cur 3 (0, 0))) ∧ ∀ (i s : Nat), L[i]? = some s → w.cell? ⟨b, i, none⟩ = some (.int .i64 (s : Int))
theorem RisAt.kept {w w' : World} {base : Nat} {A : Option Addr} {L : List Nat} (h : RisAt w base A L) {S : Nat → Prop} (k : Bx S w w') (hS : ∀ b, S b → b < base ∨ ∀ cur, w.heap[b]? ≠ some (.cells cur 3 (0, 0))) : RisAt w' base A L := by
  rcases h with h | ⟨b, e, hb, ⟨cur, hc⟩, hl⟩
  · exact .inl h
  · have hk := k.block b (Array.getElem?_eq_some_iff.1 hc).1 (fun hs => by
      rcases hS b hs with h1 | h1
      · omega
      · exact h1 cur hc)
    exact .inr ⟨b, e, hb, ⟨cur, hk.trans hc⟩, fun i s hi => by rw [World.cell?_of_block (w := w) hk]; exact hl i s hi⟩
theorem sort14 (bg cap : Nat) (ss : List Int) (w : World) (hH : Holds (Value.int .i64) w bg 0 ss.toArray) (hb : bg < w.heap.size) (hl : ss.length < 4611686018427387904) :
    Calls Try.prog 63 #[.slice (some ⟨bg, 0, none⟩) ss.length cap] w fun e w' => e = .returned (.tuple #[]) ∧ ∃ n os, w' = grow (putRow (Value.int .i64) (Sort.ahead w n) bg 0 (ss.mergeSort fun x y => decide (x ≤ y)).toArray) os := by
  have h := Any.slices_Sort_int sx189 bg 0 cap ss w hH hb hl
  have e : sx189_ren.f 189 = 63 := rfl
  rw [e] at h
  exact h
set_option maxRecDepth 100000 in
set_option maxHeartbeats 2000000 in
theorem rising_any {w : World} {g lb gm : Nat} {S : Dsk} (h : DiskAt w g lb gm S) :
    Calls Try.prog 38 #[.pointer (some ⟨g, 0, none⟩)] w fun e w' => ∃ A cap, e = .returned (.slice A (Dsk.ris S.is S.n).length cap) ∧ RisAt w' w.heap.size A (Dsk.ris S.is S.n) ∧ Bw w w' := by
  have c := h.c1
  have hlen := h.map.len
  have hn1 := h.ok.n1
  obtain ⟨D, hown, hD⟩ := h.map
  have hcn := Dsk.cnt_le S.is S.n
  obtain ⟨m, hm⟩ : ∃ m, Hid (Dsk.cnt S.is S.n = m) := ⟨_, rfl⟩
  have hszD : Hid (Maps.size D = m) := by show _ = _; rw [hD.size]; exact hm.out
  rw [hm.out] at hlen hcn
  obtain ⟨M, hM1, hmk⟩ := made_ints m (by omega)
  obtain ⟨W0, hW0⟩ : ∃ W, Hid (w.alloc (.cells M 3) = W) := ⟨_, rfl⟩
  have hb0 : Bw w W0 := by rw [← hW0.out]; exact Below.alloc (Below.refl _ _) (Nat.le_refl _) _
  have hrow0 : W0.ownsRow w.heap.size 3 1 (.slice (some ⟨w.heap.size, 0, none⟩) 0 m) 0 [] := by
    rw [← hW0.out]
    exact ⟨rfl, .inr ⟨w.heap.size, m, M, rfl, Nat.le_refl _, (Go.MapKept.heap_alloc _ _).1, Nat.zero_le _, by unfold maxLen; omega, hM1, by simp⟩⟩
  have hown0 : W0.ownsMap Try.prog 3 secElem gm (Maps.size D) D := by rw [← hW0.out]; exact hown.alloc _
  have c' : (w.alloc (.cells M 3)).cell? ⟨g, 1, none⟩ = some (.map (some gm)) := by rw [hW0.out, hb0.cell (p := ⟨g, 1, none⟩) (block_lt_of_cell c)]; exact c
  have hlow : w.heap.size ≤ W0.heap.size := hb0.size
  have hgm : gm < w.heap.size := hown.lt
  clear h
  go_enter Try.func38, Try.ntmps38
  go_wp2_with (first
    | (at_range; rw [hW0.out]; refine wpList_range_own _ rfl _ 61 rfl 3 77 key14 Try.underlying61 secElem gm _ D rfl hown0 ?_; intro w0 hrg0 hg0 hs0)
    | go_in)
  go_frame
  have hb1 : Bw w w0 := hb0.trans ⟨hg0.os, hg0.tape, hg0.output, hg0.size, fun b hb => hg0.block b hb (by simp)⟩
  go_loopw [3] (fun v wr => ∃ (left : Lit → Bool) (cnt : Nat) (ss : List Int), wr.ranges Try.prog 3 secElem gm W0.heap.size (Maps.size D) D left cnt ∧ ss.length + cnt ≤ m ∧ CollI D left ss ∧ wr.ownsRow w.heap.size 3 1 v ss.length (ss.map (Value.int .i64)) ∧ v ≠ .slice none 0 0 ∧ Bw w wr)
    (fun _ wr => wr.rangeLeft gm W0.heap.size)
  case atStart =>
    exact ⟨_, _, [], hrg0, by rw [hszD.out]; exact Nat.le_of_eq (Nat.zero_add _), CollI.start _, hrow0.kept hg0 (.inr (by simp [Value.ownBlock])), (fun e => by cases e), hb1⟩
  case round =>
    obtain ⟨left, cnt, ss, hrg, hcs, hC, hrow, hnil, hb⟩ := hrel
    have hrs := hb.size
    go_wp2_with (first
      | (at_next; refine wpList_next_ranges _ rfl _ rfl 3 key14 secElem (Value.int .i64) (fun v : Value => v) (fun key kl hk => by obtain ⟨x, hx, _⟩ := Maps.keyOf_int_inv Try.underlying3 hk; exact ⟨x, hx⟩) (fun v y hv => ⟨v, rfl⟩) gm W0.heap.size _ _ _ _ rfl hrg ?_ ?_)
      | go_in)
    · intro hc0 hl0
      obtain ⟨bg, cap, cur, hv, hbase, hbg, h1, h2, h3, h4⟩ := hrow.2.resolve_left (fun e => hnil e.1)
      subst hv
      have hsrt : Hid (ss.mergeSort (fun x y => decide (x ≤ y)) = (Dsk.ris S.is S.n).map fun s : Nat => (s : Int)) := hC.sorted hD hl0
      have hsl : Hid (ss.length = (Dsk.ris S.is S.n).length) := by have := congrArg List.length hsrt.out; rw [List.length_mergeSort, List.length_map] at this; exact this
      clear hl0 hc0
      have HS := sort14 bg cap ss wr (holds_of_blockI hbg (by rw [Nat.mul_one] at h4; exact h4)) (Array.getElem?_eq_some_iff.1 hbg).1 (by omega)
      go_wp2_with (go_at_call 63; refine HS.mono ?_; rintro e w1 ⟨rfl, q, os, hw1x⟩; have hw1 : Hid (w1 = grow (putRow (Value.int .i64) (Sort.ahead wr q) bg 0 (ss.mergeSort fun x y => decide (x ≤ y)).toArray) os) := hw1x; clear hw1x)
      go_ret
      have hown1 : w1.ownsRow w.heap.size 3 1 (.slice (some ⟨bg, 0, none⟩) ss.length cap) ss.length ((ss.mergeSort fun x y => decide (x ≤ y)).map (Value.int .i64)) := by
        rw [hw1.out]; exact ownsRow_sortedI (by rw [List.length_mergeSort]) hbase hbg h1 h2 h3
      have hgr : wr.grownBy w1 (some bg) := by rw [hw1.out]; exact grownBy_sortedI _
      have hbw : Bw w w1 := hb.grown hgr hrs (fun k hk => by cases hk; exact hbase)
      rw [hsrt.out] at hown1
      refine ⟨some ⟨bg, 0, none⟩, cap, congrArg (fun k => Ending.returned (.slice (some ⟨bg, 0, none⟩) k cap)) hsl.out, ?_, hbw⟩
      refine .inr ⟨bg, rfl, hbase, ?_, fun i s hi => ?_⟩
      · rcases hown1.2 with ⟨e, _⟩ | ⟨b', cap', cur', e, _, hx, _⟩
        · cases e
        · cases e; exact ⟨cur', hx⟩
      · have hlt : i < (Dsk.ris S.is S.n).length := (List.getElem?_eq_some_iff.1 hi).1
        rw [hown1.cellAt i (by have := hsl.out; omega), List.map_map, List.getElem?_map, hi]; rfl
    · intro x cv kl yd yp w2 cnt2 hkey hlk hv hat hrg2 hlt hg2 hs2 hen
      obtain ⟨x', ex, rfl, hwf⟩ := Maps.keyOf_int_inv Try.underlying3 hkey
      cases ex
      have hbw2 : Bw w w2 := hb.grown hg2 hrs (fun k hk => by cases hk; exact hlow)
      have hrow2 := hrow.kept hg2 (.inr (fun e => row_ne_iter hrow hrg e.symm))
      have hrow2a := hrow2.alloc (.cells #[.int .i64 x] 3)
      have hrg2a := hrg2.alloc (.cells #[.int .i64 x] 3)
      have hbw2a : Bw w (w2.alloc (.cells #[.int .i64 x] 3)) := hbw2.trans (Below.alloc (Below.refl _ _) (Nat.le_refl _) _)
      have hs2a : w.heap.size ≤ (w2.alloc (.cells #[.int .i64 x] 3)).heap.size := hbw2a.size
      have hnw : (w2.alloc (.cells #[.int .i64 x] 3)).heap[w2.heap.size]? = some (.cells #[.int .i64 x] 3 (0, 0)) := (Go.MapKept.heap_alloc _ _).1
      have hC2 := hC.step hlk hat
      clear hs2 hv hat hlk hkey
      go_wp2_with (at_builtin; refine wpList_append_int (by rfl) _ _ (by rfl) w.heap.size _ ss (by rfl) hrow2a hnil _ x (by rfl) hnw (by omega) hs2a ?_; intro v3 w3 hrow3 hnil3 hg3)
      have hrg3 := hrg2a.kept hg3 (row_ne_low hrow2a hgm) (row_ne_iter hrow2a hrg2a)
      have hbw3 : Bw w w3 := hbw2a.grown hg3 hs2a (fun k hk => (hrow2a.lt k hk).1)
      go_roundw
      case rel => exact ⟨_, cnt2, ss ++ [x], hrg3, by rw [List.length_append]; simp only [List.length_cons, List.length_nil]; omega, hC2, hrow3, hnil3, hbw3⟩
      case measure => rw [hrg3.left_eq, hrg.left_eq]; exact hlt
end Go.Proofs.Ytppknadflmjefaa
