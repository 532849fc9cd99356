/- Layer 19: wakes. -/
import Derived.Test.YtjjnbpbbjaabeaaTl
import Derived.Lib.SlBytesConst
namespace Go.Proofs.Ytjjnbpbbjaabeaa
open Go.RowKit Go.Deep
set_option linter.unusedVariables false
set_option linter.unusedSimpArgs false

/-- a datagram in a block of its own, made now -/
theorem dg_box (w1 : World) (x y : Int) {v : Value} (ho : v.oneCell' = true) : ∃ z W2 W3, Hid (w1.heap.size = z) ∧ Hid (w1.alloc (.cells #[.int .i64 0, .int .i64 0, .slice none 0 0] 35) = W2) ∧ Hid (DgAt W2 z 0 0 (.slice none 0 0)) ∧ Hid (W2.setRow z (dcs x y v) = W3) ∧ Hid (v.oneCell' = true) ∧ Hid (DgAt W3 z x y v) ∧ Hid (Bw w1 W3) := by
  have h1 : DgAt (w1.alloc (.cells #[.int .i64 0, .int .i64 0, .slice none 0 0] 35)) w1.heap.size 0 0 (.slice none 0 0) := heap_alloc_new _ _
  exact ⟨_, _, _, rfl, rfl, h1, rfl, ho, setRow_heap _ _ _ _ _ _ h1, bw_setRow (bw_allocx (Bw.refl _)) (Nat.le_refl _) _⟩
theorem lit_row (w1 : World) (x : Nat) (hx : x < 256) (fr : Nat × Nat) : RowV (w1.alloc (.cells #[.int .u8 (x : Int)] 5 fr)) (.slice (some ⟨w1.heap.size, 0, none⟩) 1 1) [x] :=
  ⟨_, 1, rfl, Nat.le_refl _, fun e => (by cases e), ⟨by simp, by decide⟩, .inr ⟨w1.heap.size, 0, rfl, fun i hi => by
    have : i = 0 := by simpa using hi
    subst this
    exact cell_of_row _ _ 0 _ _ _ (Go.MapKept.heap_alloc w1 _).1⟩, fun i => by
    unfold rowL
    cases i with
    | zero => exact ⟨by simp, by simp; omega⟩
    | succ i => exact ⟨by simp, by simp⟩⟩
theorem conv_one {w : World} {v : Value} {x : Nat} (h : RowV w v [x]) : (convert 33 9 v).run Try.prog w = .ok (.string (str (rowL [x]) 1)) w := by
  obtain ⟨A, c, rfl, _, _, _, h4⟩ := h
  exact conv_row h4
theorem str_one (x : Nat) (hx : x < 256) : str (rowL [x]) 1 = ⟨#[UInt8.ofNat x]⟩ := by
  unfold str
  rfl
/-- an air made since a world -/
def AirIn (w W : World) (g : Nat) (S : Ai.St) : Prop := (∃ P, AirAt W P g S ∧ ∀ b, P b → w.heap.size ≤ b) ∧ Bw w W
theorem AirIn.keep {w W W' : World} {g : Nat} {S : Ai.St} (h : AirIn w W g S) (k : Bw W W') : AirIn w W' g S := by
  obtain ⟨⟨P, h1, h2⟩, h3⟩ := h
  exact ⟨⟨P, h1.keep k, h2⟩, h3.trans k⟩
theorem AirIn.gr {w W W' : World} {P : Nat → Prop} {g : Nat} {S : Ai.St} (h2 : ∀ b, P b → w.heap.size ≤ b) (h3 : Bw w W) (k : AirAt W' (Gr P W W') g S) (kx : Bx P W W') : AirIn w W' g S :=
  ⟨⟨_, k, fun b hb => by rcases hb with hb | hb; exact h2 b hb; exact Nat.le_trans h3.size hb.1⟩, Below.trans h3 (kx.below h3.size h2)⟩
theorem new_in {w : World} (m : Nat) (h1 : 1 ≤ m) (h2 : m ≤ 64) : Calls Try.prog 9 #[.int .i64 (m : Int)] w fun e w' => ∃ g, e = .returned (.tuple #[.pointer (some ⟨g, 0, none⟩), .int .i64 0]) ∧ AirIn w w' g (Ai.new m) := by
  refine (new_at m h1 h2 w).mono ?_
  rintro e w' ⟨g, rfl, h, k⟩
  exact ⟨g, rfl, ⟨_, h, fun b hb => by rcases hb with hb | hb; exact hb.elim; exact hb.1⟩, k⟩
theorem send_in {w W : World} {g : Nat} {S : Ai.St} (h : AirIn w W g S) {d : Ai.Dg} {u : Value} (hs : In64 d.src) (ht : In64 d.dst) (hu : RowV W u d.b) :
    Calls Try.prog 15 #[.pointer (some ⟨g, 0, none⟩), .agg #[.int .i64 d.src, .int .i64 d.dst, u]] W fun e w' => e = .returned (.int .i64 (S.sendE d)) ∧ AirIn w w' g (S.send d) := by
  obtain ⟨⟨P, h1, h2⟩, h3⟩ := h
  refine (send_at h1 hs ht hu).mono ?_
  rintro e w' ⟨rfl, k, kx⟩
  exact ⟨rfl, AirIn.gr h2 h3 k kx⟩
theorem twice_in {w W : World} {g : Nat} {S : Ai.St} (h : AirIn w W g S) (i : Int) :
    Calls Try.prog 19 #[.pointer (some ⟨g, 0, none⟩), .int .i64 i] W fun e w' => e = .returned (.bool (S.dbl i)) ∧ AirIn w w' g (S.twice i) := by
  obtain ⟨⟨P, h1, h2⟩, h3⟩ := h
  refine (twice_at h1 i).mono ?_
  rintro e w' ⟨rfl, k, kx⟩
  exact ⟨rfl, AirIn.gr h2 h3 k kx⟩
theorem hold_in {w W : World} {g : Nat} {S : Ai.St} (h : AirIn w W g S) (i : Int) :
    Calls Try.prog 20 #[.pointer (some ⟨g, 0, none⟩), .int .i64 i] W fun e w' => e = .returned (.bool (S.has i)) ∧ AirIn w w' g (S.hold i) := by
  obtain ⟨⟨P, h1, h2⟩, h3⟩ := h
  refine (hold_at h1 i).mono ?_
  rintro e w' ⟨rfl, k, kx⟩
  exact ⟨rfl, ⟨P, k, h2⟩, Below.trans h3 (kx.below h3.size h2)⟩
/-- an air, and what else stays as it is -/
def AirWith (w W : World) (g : Nat) (S : Ai.St) (R : World → Prop) : Prop := ∃ P, AirAt W P g S ∧ (∀ b, P b → w.heap.size ≤ b) ∧ Bw w W ∧ R W ∧ ∀ W', Bx P W W' → R W'
theorem AirIn.with {w W : World} {g : Nat} {S : Ai.St} (h : AirIn w W g S) : AirWith w W g S (fun _ => True) := by
  obtain ⟨⟨P, h1, h2⟩, h3⟩ := h
  exact ⟨P, h1, h2, h3, trivial, fun _ _ => trivial⟩
/-- what Carry answers, kept in a block of its own -/
theorem carry_with {w W : World} {g : Nat} {S : Ai.St} {R : World → Prop} (h : AirWith w W g S R) (i : Int) :
    Calls Try.prog 14 #[.pointer (some ⟨g, 0, none⟩), .int .i64 i] W fun e w' => ∃ v z W2 W3, e = .returned (.tuple #[.agg #[.int .i64 (S.giv i).src, .int .i64 (S.giv i).dst, v], .bool (S.has i)]) ∧
      Hid (w'.heap.size = z) ∧ Hid (w'.alloc (.cells #[.int .i64 0, .int .i64 0, .slice none 0 0] 35) = W2) ∧ Hid (DgAt W2 z 0 0 (.slice none 0 0)) ∧ Hid (W2.setRow z (dcs (S.giv i).src (S.giv i).dst v) = W3) ∧ Hid (v.oneCell' = true) ∧
      Hid (AirWith w W3 g (S.lose i) (fun u => R u ∧ DgAt u z (S.giv i).src (S.giv i).dst v ∧ RowV u v (S.giv i).b)) := by
  obtain ⟨P, h1, h2, h3, h4, h5⟩ := h
  refine (carry_at h1 i).mono ?_
  rintro e w' ⟨⟨v, rfl, hr, hv⟩, hA, hx⟩
  obtain ⟨z, W2, W3, q1, q2, q3, q4, q5, q6, q7⟩ := dg_box w' (S.giv i).src (S.giv i).dst (dg_oneCell hr)
  have hlow := h1.low
  have hs := hx.size
  refine ⟨v, z, W2, W3, rfl, q1, q2, q3, q4, q5, (?_ : AirWith _ _ _ _ _)⟩
  have kx : Bx P W W3 := hx.trans (Bx.of_bw q7.out)
  refine ⟨P, hA.keep q7.out, h2, Below.trans h3 (kx.below h3.size h2), ⟨h5 W3 kx, q6.out, hr.keep q7.out⟩, fun W' kx' => ⟨h5 W' (kx.trans kx'), ?_, ?_⟩⟩
  · have hzl := (Array.getElem?_eq_some_iff.1 q6.out).1
    have hz := q1.out
    exact (kx'.block z hzl (fun hb => by have := hlow z hb; omega)).trans q6.out
  · exact (hr.keep q7.out).keepx kx' (hv.mono (fun b hb e => by have := hlow b e; omega))
def dgA : Ai.Dg := ⟨0, 1, [97]⟩
def dgB : Ai.Dg := ⟨0, 1, [98]⟩
def St0 : Ai.St := Ai.new 3
def St1 : Ai.St := St0.send dgA
def St2 : Ai.St := St1.send dgB
def St3 : Ai.St := St2.twice 0
def St4 : Ai.St := St3.hold 1
def St5 : Ai.St := St4.lose 0
def St6 : Ai.St := St5.lose 0
def St7 : Ai.St := St6.lose 0
theorem e1 : St0.sendE dgA = 0 := by decide +kernel
theorem e2 : St1.sendE dgB = 0 := by decide +kernel
theorem e3 : St2.dbl 0 = true := by decide +kernel
theorem e4 : St3.has 1 = true := by decide +kernel
theorem e5 : St4.has 0 = true ∧ (St4.giv 0).src = 0 ∧ (St4.giv 0).dst = 1 ∧ (St4.giv 0).b = [97] := by decide +kernel
theorem e6 : St5.has 0 = true ∧ (St5.giv 0).src = 0 ∧ (St5.giv 0).dst = 1 ∧ (St5.giv 0).b = [97] := by decide +kernel
theorem e7 : St6.has 0 = true ∧ (St6.giv 0).src = 0 ∧ (St6.giv 0).dst = 1 ∧ (St6.giv 0).b = [98] := by decide +kernel
theorem e8 : St7.L.length = 0 ∧ St7.cutE 0 3 = 1 ∧ St7.m ≤ 1000000 := by decide +kernel
theorem row97 (w1 : World) (fr : Nat × Nat) : RowV (w1.alloc (.cells #[.int .u8 97] 5 fr)) (.slice (some ⟨w1.heap.size, 0, none⟩) 1 1) [97] := lit_row w1 97 (by decide) fr
theorem row98 (w1 : World) (fr : Nat × Nat) : RowV (w1.alloc (.cells #[.int .u8 98] 5 fr)) (.slice (some ⟨w1.heap.size, 0, none⟩) 1 1) [98] := lit_row w1 98 (by decide) fr
theorem send_lit {w W : World} {g : Nat} {S : Ai.St} (h : AirIn w W g S) {x : Nat} {u : Value} (hu : RowV W u [x]) (hE : S.sendE ⟨0, 1, [x]⟩ = 0) :
    Calls Try.prog 15 #[.pointer (some ⟨g, 0, none⟩), .agg #[.int .i64 0, .int .i64 1, u]] W fun e w' => e = .returned (.int .i64 0) ∧ Hid (AirIn w w' g (S.send ⟨0, 1, [x]⟩)) := by
  have := send_in h (d := ⟨0, 1, [x]⟩) (by unfold In64; dsimp only; omega) (by unfold In64; dsimp only; omega) hu
  rw [hE] at this
  exact this
theorem carry_lit {w W : World} {g : Nat} {S : Ai.St} {R : World → Prop} (h : AirWith w W g S R) {i x y : Int} {l : List Nat} (he : S.has i = true ∧ (S.giv i).src = x ∧ (S.giv i).dst = y ∧ (S.giv i).b = l) :
    Calls Try.prog 14 #[.pointer (some ⟨g, 0, none⟩), .int .i64 i] W fun e w' => ∃ v z W2 W3, e = .returned (.tuple #[.agg #[.int .i64 x, .int .i64 y, v], .bool true]) ∧
      Hid (w'.heap.size = z) ∧ Hid (w'.alloc (.cells #[.int .i64 0, .int .i64 0, .slice none 0 0] 35) = W2) ∧ Hid (DgAt W2 z 0 0 (.slice none 0 0)) ∧ Hid (W2.setRow z (dcs x y v) = W3) ∧ Hid (v.oneCell' = true) ∧
      Hid (AirWith w W3 g (S.lose i) (fun u => R u ∧ DgAt u z x y v ∧ RowV u v l)) := by
  obtain ⟨h1, rfl, rfl, rfl⟩ := he
  have := carry_with h i
  rw [h1] at this
  exact this
/-- a text out of a kept datagram's body -/
theorem conv97 {w : World} {v : Value} (h : RowV w v [97]) : (convert 33 9 v).run Try.prog w = .ok (.string ⟨#[97]⟩) w := conv_one h
theorem conv98 {w : World} {v : Value} (h : RowV w v [98]) : (convert 33 9 v).run Try.prog w = .ok (.string ⟨#[98]⟩) w := conv_one h
set_option maxRecDepth 100000 in
set_option maxHeartbeats 8000000 in
theorem wakes19_any (w : World) : Calls Try.prog 8 #[] w fun e w' => e = .returned (.bool true) ∧ Bw w w' := by
  have HN : Hid (Calls Try.prog 9 #[.int .i64 3] w fun e w' => ∃ g, e = .returned (.tuple #[.pointer (some ⟨g, 0, none⟩), .int .i64 0]) ∧ Hid (AirIn w w' g St0)) := new_in 3 (by decide) (by decide)
  have kc := fun (w : World) (C : Array Value) (n c : Nat) => Lib.run_convert_bytes_const (P := Try.prog) w 33 5 C n c Try.underlying33 Try.underlying5
  go_enter Try.func8, Try.ntmps8
  go_upto_region 4 with (go_at_call 9; refine HN.out.mono ?_; rintro e w1 ⟨g, rfl, hA1⟩)
  clear HN
  go_upto_region 5 with (go_at_call 15; refine (send_lit (hA1.out.keep (bw_allocx (Bw.refl _))) (row97 _ _) e1).mono ?_; rintro e w2 ⟨rfl, hA2⟩)
  clear hA1
  go_upto_region 6 with (go_at_call 15; refine (send_lit (hA2.out.keep (bw_allocx (Bw.refl _))) (row98 _ _) e2).mono ?_; rintro e w3 ⟨rfl, hA3⟩)
  clear hA2
  have H3 : Hid (Calls Try.prog 19 #[.pointer (some ⟨g, 0, none⟩), .int .i64 0] w3 fun e w' => e = .returned (.bool true) ∧ Hid (AirIn w w' g St3)) := by
    have h1 := twice_in hA3.out 0
    have h2 : ((St0.send ⟨0, 1, [97]⟩).send ⟨0, 1, [98]⟩).dbl 0 = true := e3
    rw [h2] at h1
    exact h1
  have H4 : Hid (∀ W, AirIn w W g St3 → Calls Try.prog 20 #[.pointer (some ⟨g, 0, none⟩), .int .i64 1] W fun e w' => e = .returned (.bool true) ∧ Hid (AirIn w w' g St4)) := fun W hW => by
    have h1 := hold_in hW 1
    rw [e4] at h1
    exact h1
  clear hA3
  go_upto_region 8 with (first
    | (go_at_call 19; refine H3.out.mono ?_; rintro e w4 ⟨rfl, hA4⟩)
    | (go_at_call 20; refine (H4.out _ hA4.out).mono ?_; rintro e w5 ⟨rfl, hA5⟩))
  clear H3 H4 hA4
  go_upto_region 9 with (first
    | (go_at_call 14; refine (carry_lit hA5.out.with e5).mono ?_; rintro e w6 ⟨v6, z6, W6, X6, rfl, hz6, hW6, hD6, hX6, ho6, hA6⟩)
    | (rw [hW6.out, hz6.out]; refine wpList_store_row rfl 35 _ _ rfl z6 (dcs 0 1 v6) rfl rfl 35 _ hD6.out (dg_info _ _ _) rfl (dg_all _ _ ho6.out).out ?_; rw [hX6.out]))
  clear hA5 hW6 hz6 hX6 hD6
  go_upto_region 10 with (first
    | (go_at_call 14; refine (carry_lit hA6.out e6).mono ?_; rintro e w7 ⟨v7, z7, W7, X7, rfl, hz7, hW7, hD7, hX7, ho7, hA7⟩)
    | (rw [hW7.out, hz7.out]; refine wpList_store_row rfl 35 _ _ rfl z7 (dcs 0 1 v7) rfl rfl 35 _ hD7.out (dg_info _ _ _) rfl (dg_all _ _ ho7.out).out ?_; rw [hX7.out]))
  clear hA6 hW7 hz7 hX7 hD7
  go_upto_region 11 with (first
    | (go_at_call 14; refine (carry_lit hA7.out e7).mono ?_; rintro e w8 ⟨v8, z8, W8, X8, rfl, hz8, hW8, hD8, hX8, ho8, hA8⟩)
    | (rw [hW8.out, hz8.out]; refine wpList_store_row rfl 35 _ _ rfl z8 (dcs 0 1 v8) rfl rfl 35 _ hD8.out (dg_info _ _ _) rfl (dg_all _ _ ho8.out).out ?_; rw [hX8.out]))
  clear hA7 hW8 hz8 hX8 hD8
  obtain ⟨P, hP, hlow, hbw, ⟨⟨⟨-, hd6, hr6⟩, hd7, hr7⟩, hd8, hr8⟩, hk⟩ := hA8.out
  have c6 : X8.cell? ⟨z6, 2, none⟩ = some v6 := cell_of_row X8 z6 2 _ _ _ hd6
  have c7 : X8.cell? ⟨z7, 2, none⟩ = some v7 := cell_of_row X8 z7 2 _ _ _ hd7
  have c8 : X8.cell? ⟨z8, 2, none⟩ = some v8 := cell_of_row X8 z8 2 _ _ _ hd8
  have k6 := conv97 hr6
  have k7 := conv97 hr7
  have k8 := conv98 hr8
  have HCt : Hid (Calls Try.prog 16 #[.pointer (some ⟨g, 0, none⟩)] X8 fun e w' => e = .returned (.int .i64 0) ∧ w' = X8) := by
    have h1 := count_at hP
    have h2 : (((St4.lose 0).lose 0).lose 0).L.length = 0 := e8.1
    rw [h2] at h1
    exact h1
  have HCu : Hid (Calls Try.prog 21 #[.pointer (some ⟨g, 0, none⟩), .int .i64 0, .int .i64 3, .bool true] X8 fun e w' => e = .returned (.int .i64 1) ∧ Hid (Bw w w')) := by
    have h1 := cut_at hP (p := 0) (q := 3) (by unfold In64; omega) (by unfold In64; omega) true e8.2.2
    have h2 : (((St4.lose 0).lose 0).lose 0).cutE 0 3 = 1 := e8.2.1
    rw [h2] at h1
    refine (?_ : Calls _ _ _ _ _)
    refine h1.mono ?_
    rintro e w' ⟨rfl, -, hx⟩
    exact ⟨rfl, Below.trans hbw (hx.below hbw.size hlow)⟩
  clear hA8 hP hlow hbw hd6 hr6 hd7 hr7 hd8 hr8 hk
  go_wp2_with (first
    | (go_at_call 16; refine HCt.out.mono ?_; rintro e w9 ⟨rfl, hw⟩; subst w9)
    | (go_at_call 21; refine HCu.out.mono ?_; rintro e w10 ⟨rfl, hb10⟩))
  go_ret
  exact ⟨rfl, hb10.out⟩
end Go.Proofs.Ytjjnbpbbjaabeaa
