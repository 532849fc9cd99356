/- Layer 14: the document's own disk in memory; its small calls. -/
import Derived.Test.YtppknadflmjefaaCX
import Derived.Laws.CopyOwn
namespace Go.Proofs.Ytppknadflmjefaa
open Go.RowKit Go.Deep Go.Maps
set_option linter.unusedVariables false
set_option linter.unusedSimpArgs false

/-- a row of 64 bytes in a block of bytes -/
def RowU (w : World) (v : Value) (f : Nat → Int) : Prop := ∃ b c, v = .slice (some ⟨b, 0, none⟩) 64 c ∧ 64 ≤ c ∧ c ≤ maxLen ∧ Own w b 64 f
theorem RowU.keep {w w' : World} {v : Value} {f : Nat → Int} (h : RowU w v f) (k : Bw w w') : RowU w' v f := by
  obtain ⟨b, c, e, h1, h2, h3⟩ := h
  exact ⟨b, c, e, h1, h2, h3.keep k⟩
/-- none of these blocks is one of bytes -/
def NoU (w : World) (P : Nat → Prop) : Prop := ∀ b, P b → ∀ cur fr, w.heap[b]? ≠ some (.cells cur 5 fr)
theorem Own.keepx {P : Nat → Prop} {w w' : World} {b n : Nat} {f : Nat → Int} (h : Own w b n f) (k : Bx P w w') (hP : ¬ P b) : Own w' b n f := by
  obtain ⟨cur, h1, h2⟩ := h
  exact ⟨cur, (k.block b (Array.getElem?_eq_some_iff.1 h1).1 hP).trans h1, h2⟩
theorem RowU.keepn {P : Nat → Prop} {w w' : World} {v : Value} {f : Nat → Int} (h : RowU w v f) (k : Bx P w w') (hP : NoU w P) : RowU w' v f := by
  obtain ⟨b, c, e, h1, h2, h3⟩ := h
  exact ⟨b, c, e, h1, h2, h3.keepx k (fun hb => by obtain ⟨cur, h4, _⟩ := h3; exact hP b hb cur _ h4)⟩
/-- the document's disk in block g, its cells in block cb -/
structure RefAt (w : World) (g cb cap : Nat) (LV WV : Nat → Value) (S : Dsk) : Prop where
  top : w.heap[g]? = some (.cells #[.slice (some ⟨cb, 0, none⟩) S.n cap, .bool S.dead, .int .i64 S.fuse] 66 (0, 0))
  blk : ∃ cur, w.heap[cb]? = some (.cells cur 68 (0, 0))
  c0 : ∀ s, s < S.n → w.cell? ⟨cb, s * 3, none⟩ = some (LV s)
  c1 : ∀ s, s < S.n → w.cell? ⟨cb, s * 3 + 1, none⟩ = some (WV s)
  c2 : ∀ s, s < S.n → w.cell? ⟨cb, s * 3 + 2, none⟩ = some (.bool (S.is s))
  last : ∀ s, s < S.n → RowU w (LV s) (fun c => S.last (64 * s + c))
  wait : ∀ s, s < S.n → S.is s = true → RowU w (WV s) (fun c => S.wait (64 * s + c))
  sl : ∀ s, s < S.n → ∃ A l c, WV s = .slice A l c
  ok : S.Ok
def rIn (g cb : Nat) (b : Nat) : Prop := b = g ∨ b = cb
namespace RefAt
variable {w w' : World} {g cb cap : Nat} {LV WV : Nat → Value} {S : Dsk}
theorem lt (h : RefAt w g cb cap LV WV S) : g < w.heap.size := (Array.getElem?_eq_some_iff.1 h.top).1
theorem ltc (h : RefAt w g cb cap LV WV S) : cb < w.heap.size := by obtain ⟨cur, h1⟩ := h.blk; exact (Array.getElem?_eq_some_iff.1 h1).1
theorem ne (h : RefAt w g cb cap LV WV S) : g ≠ cb := fun e => by
  obtain ⟨cur, h1⟩ := h.blk
  have h2 := h.top
  rw [e, h1] at h2
  simp only [Option.some.injEq, Obj.cells.injEq] at h2
  exact absurd h2.2.1 (by decide)
theorem nou (h : RefAt w g cb cap LV WV S) : NoU w (rIn g cb) := fun b hb cur fr e => by
  rcases hb with rfl | rfl
  · rw [h.top] at e
    simp only [Option.some.injEq, Obj.cells.injEq] at e
    exact absurd e.2.1 (by decide)
  · obtain ⟨cur', h1⟩ := h.blk
    rw [h1] at e
    simp only [Option.some.injEq, Obj.cells.injEq] at e
    exact absurd e.2.1 (by decide)
theorem low (h : RefAt w g cb cap LV WV S) : ∀ b, rIn g cb b → b < w.heap.size := fun b hb => by
  rcases hb with rfl | rfl
  · exact h.lt
  · exact h.ltc
theorem cellk {p : Addr} {v : Value} (k : w'.heap[p.block]? = w.heap[p.block]?) (h : w.cell? p = some v) : w'.cell? p = some v := by
  rw [World.cell?_of_block (w := w) k]; exact h
theorem keep (h : RefAt w g cb cap LV WV S) (k : Bw w w') : RefAt w' g cb cap LV WV S := by
  have kb := k.block cb h.ltc
  obtain ⟨cur, h1⟩ := h.blk
  exact ⟨(k.block g h.lt).trans h.top, ⟨cur, kb.trans h1⟩, fun s hs => cellk (p := ⟨cb, s * 3, none⟩) kb (h.c0 s hs), fun s hs => cellk (p := ⟨cb, s * 3 + 1, none⟩) kb (h.c1 s hs), fun s hs => cellk (p := ⟨cb, s * 3 + 2, none⟩) kb (h.c2 s hs), fun s hs => (h.last s hs).keep k, fun s hs hi => (h.wait s hs hi).keep k, h.sl, h.ok⟩
theorem keepn {P : Nat → Prop} (h : RefAt w g cb cap LV WV S) (k : Bx P w w') (hP : NoU w P) (h1 : ¬ P g) (h2 : ¬ P cb) : RefAt w' g cb cap LV WV S := by
  have kb := k.block cb h.ltc h2
  obtain ⟨cur, h3⟩ := h.blk
  exact ⟨(k.block g h.lt h1).trans h.top, ⟨cur, kb.trans h3⟩, fun s hs => cellk (p := ⟨cb, s * 3, none⟩) kb (h.c0 s hs), fun s hs => cellk (p := ⟨cb, s * 3 + 1, none⟩) kb (h.c1 s hs), fun s hs => cellk (p := ⟨cb, s * 3 + 2, none⟩) kb (h.c2 s hs), fun s hs => (h.last s hs).keepn k hP, fun s hs hi => (h.wait s hs hi).keepn k hP, h.sl, h.ok⟩
theorem t0 (h : RefAt w g cb cap LV WV S) : w.cell? ⟨g, 0, none⟩ = some (.slice (some ⟨cb, 0, none⟩) S.n cap) := cell_of_row w g 0 _ _ _ h.top
theorem t1 (h : RefAt w g cb cap LV WV S) : w.cell? ⟨g, 1, none⟩ = some (.bool S.dead) := cell_of_row w g 1 _ _ _ h.top
theorem t2 (h : RefAt w g cb cap LV WV S) : w.cell? ⟨g, 2, none⟩ = some (.int .i64 S.fuse) := cell_of_row w g 2 _ _ _ h.top
theorem f1 (h : RefAt w g cb cap LV WV S) : w.frozen? ⟨g, 1, none⟩ = false := frozen_of_row w g 1 _ _ h.top
theorem f2 (h : RefAt w g cb cap LV WV S) : w.frozen? ⟨g, 2, none⟩ = false := frozen_of_row w g 2 _ _ h.top
theorem fc (h : RefAt w g cb cap LV WV S) (j : Nat) : w.frozen? ⟨cb, j, none⟩ = false := by obtain ⟨cur, h1⟩ := h.blk; exact frozen_of_row w cb j _ _ h1
theorem topset (h : RefAt w g cb cap LV WV S) (k : Bx (· = g) w w') {S' : Dsk} (ht : w'.heap[g]? = some (.cells #[.slice (some ⟨cb, 0, none⟩) S.n cap, .bool S'.dead, .int .i64 S'.fuse] 66 (0, 0))) (e1 : S'.n = S.n) (e2 : S'.last = S.last) (e3 : S'.is = S.is) (e4 : S'.wait = S.wait) (h0 : -1 ≤ S'.fuse) (h1 : S'.fuse < 9223372036854775808) : RefAt w' g cb cap LV WV S' := by
  have kb := k.block cb h.ltc (fun e => h.ne e.symm)
  have hN : NoU w (· = g) := fun b hb => h.nou b (.inl hb)
  obtain ⟨cur, h3⟩ := h.blk
  refine ⟨by rw [e1]; exact ht, ⟨cur, kb.trans h3⟩, ?_, ?_, ?_, ?_, ?_, ?_, ⟨e1 ▸ h.ok.n0, e1 ▸ h.ok.n1, e2 ▸ h.ok.lb, e4 ▸ h.ok.wb, h0, h1⟩⟩
  · rw [e1]; exact fun s hs => cellk (p := ⟨cb, s * 3, none⟩) kb (h.c0 s hs)
  · rw [e1]; exact fun s hs => cellk (p := ⟨cb, s * 3 + 1, none⟩) kb (h.c1 s hs)
  · rw [e1, e3]; exact fun s hs => cellk (p := ⟨cb, s * 3 + 2, none⟩) kb (h.c2 s hs)
  · rw [e1, e2]; exact fun s hs => (h.last s hs).keepn k hN
  · rw [e1, e3, e4]; exact fun s hs hi => (h.wait s hs hi).keepn k hN
  · rw [e1]; exact h.sl
theorem setFuse (h : RefAt w g cb cap LV WV S) {x : Int} (h0 : -1 ≤ x) (h1 : x < 9223372036854775808) : RefAt (w.setCell ⟨g, 2, none⟩ (.int .i64 x)) g cb cap LV WV { S with fuse := x } :=
  h.topset ((Bx.refl (· = g) w).put rfl) (heap_setCell_same w g 2 _ _ _ h.top) rfl rfl rfl rfl h0 h1
theorem setDead (h : RefAt w g cb cap LV WV S) (x : Bool) : RefAt (w.setCell ⟨g, 1, none⟩ (.bool x)) g cb cap LV WV { S with dead := x } :=
  h.topset ((Bx.refl (· = g) w).put rfl) (heap_setCell_same w g 1 _ _ _ h.top) rfl rfl rfl rfl h.ok.f0 h.ok.f1
end RefAt
theorem rburn_no {w : World} {g cb cap : Nat} {LV WV : Nat → Value} {S : Dsk} (h : RefAt w g cb cap LV WV S) (hf : S.fuse = 0) :
    Calls Try.prog 46 #[.pointer (some ⟨g, 0, none⟩)] w fun e w' => e = .returned (.bool false) ∧ RefAt w' g cb cap LV WV S.killed ∧ Bx (rIn g cb) w w' := by
  have c := h.t2
  rw [hf] at c
  have c1 := h.t1
  have f1 := h.f1
  have f2 := h.f2
  have hd := (h.setDead true).setFuse (x := -1) (by decide) (by decide)
  go_enter Try.func46, Try.ntmps46
  go_wp2
  go_ret
  exact ⟨rfl, hd, ((Bx.refl (rIn g cb) w).put (.inl rfl)).put (.inl rfl)⟩
theorem rburn_yes {w : World} {g cb cap : Nat} {LV WV : Nat → Value} {S : Dsk} (h : RefAt w g cb cap LV WV S) (hf : S.fuse ≠ 0) :
    Calls Try.prog 46 #[.pointer (some ⟨g, 0, none⟩)] w fun e w' => e = .returned (.bool true) ∧ RefAt w' g cb cap LV WV S.burnt ∧ Bx (rIn g cb) w w' := by
  have c := h.t2
  have f2 := h.f2
  have h0 := h.ok.f0
  have h1 := h.ok.f1
  have e0 : (S.fuse == 0) = false := by simp [hf]
  unfold Dsk.burnt
  by_cases hm : 0 < S.fuse
  · rw [show max (S.fuse - 1) (-1) = S.fuse - 1 by omega]
    have hd := h.setFuse (x := S.fuse - 1) (by omega) (by omega)
    go_enter Try.func46, Try.ntmps46
    go_wp2
    go_ret
    exact ⟨rfl, hd, (Bx.refl _ w).put (.inl rfl)⟩
  · have hS : ({ S with fuse := max (S.fuse - 1) (-1) } : Dsk) = S := by rw [show max (S.fuse - 1) (-1) = S.fuse by omega]
    rw [hS]
    clear hS
    go_enter Try.func46, Try.ntmps46
    go_wp2
    go_ret
    exact ⟨rfl, h, Bx.refl _ w⟩
theorem rfuse_any {w : World} {g cb cap : Nat} {LV WV : Nat → Value} {S : Dsk} (h : RefAt w g cb cap LV WV S) (x : Int) (hx : x < 9223372036854775808) :
    Calls Try.prog 34 #[.pointer (some ⟨g, 0, none⟩), .int .i64 x] w fun e w' => e = .returned (.tuple #[]) ∧ RefAt w' g cb cap LV WV { S with fuse := max x (-1) } ∧ Bx (rIn g cb) w w' := by
  have c' := h.t2
  have f' := h.f2
  have hd := h.setFuse (x := max x (-1)) (by omega) (by omega)
  go_enter Try.func34, Try.ntmps34
  go_wp2
  go_end0
  exact ⟨rfl, hd, (Bx.refl _ w).put (.inl rfl)⟩
theorem rthere_yes {w : World} {g cb cap : Nat} {LV WV : Nat → Value} {S : Dsk} (h : RefAt w g cb cap LV WV S) (x y : Int) (hx : S.There x y) :
    Calls Try.prog 43 #[.pointer (some ⟨g, 0, none⟩), .int .i64 x, .int .i64 y] w fun e w' => e = .returned (.bool true) ∧ w' = w := by
  have c := h.t0
  have hn := h.ok.n1
  obtain ⟨h1, h2, h3⟩ := hx
  have h4 : y ≤ (S.n : Int) - x := by omega
  have h5 : x ≤ (S.n : Int) := by omega
  go_enter Try.func43, Try.ntmps43
  go_wp2
  go_ret
  exact ⟨rfl, rfl⟩
theorem rthere_no {w : World} {g cb cap : Nat} {LV WV : Nat → Value} {S : Dsk} (h : RefAt w g cb cap LV WV S) (x y : Int) (bx : x < 9223372036854775808) (hx : ¬ S.There x y) :
    Calls Try.prog 43 #[.pointer (some ⟨g, 0, none⟩), .int .i64 x, .int .i64 y] w fun e w' => e = .returned (.bool false) ∧ w' = w := by
  have c := h.t0
  have hn := h.ok.n1
  unfold Dsk.There at hx
  by_cases h1 : 0 ≤ x
  · by_cases h5 : x ≤ (S.n : Int)
    · by_cases h2 : 0 ≤ y
      · have h4 : ¬ y ≤ (S.n : Int) - x := by omega
        clear hx
        go_enter Try.func43, Try.ntmps43
        go_wp2
        go_ret
        exact ⟨rfl, rfl⟩
      · clear hx
        go_enter Try.func43, Try.ntmps43
        go_wp2
        go_ret
        exact ⟨rfl, rfl⟩
    · clear hx
      go_enter Try.func43, Try.ntmps43
      go_wp2
      go_ret
      exact ⟨rfl, rfl⟩
  · clear hx
    go_enter Try.func43, Try.ntmps43
    go_wp2
    go_ret
    exact ⟨rfl, rfl⟩
theorem rreads_any {w : World} {g cb cap : Nat} {LV WV : Nat → Value} {S : Dsk} (h : RefAt w g cb cap LV WV S) {s : Nat} (hs : s < S.n) :
    Calls Try.prog 44 #[.pointer (some ⟨g, 0, none⟩), .int .i64 (s : Int)] w fun e w' => ∃ v, e = .returned v ∧ RowU w v (fun c => S.read (64 * s + c)) ∧ w' = w := by
  have c := h.t0
  have k0 : (0 : Int) ≤ (s : Int) := Int.natCast_nonneg _
  have k1 : (s : Int) < (S.n : Int) := by omega
  have d0 := h.c0 s hs
  have d1 := h.c1 s hs
  have d2 := h.c2 s hs
  cases hi : S.is s
  · have hr : RowU w (LV s) (fun c => S.read (64 * s + c)) := by
      obtain ⟨b, k, e, h1, h2, h3⟩ := h.last s hs
      exact ⟨b, k, e, h1, h2, h3.congr (fun c hc => by unfold Dsk.read; rw [show (64 * s + c) / 64 = s by omega, hi]; rfl)⟩
    rw [hi] at d2
    go_enter Try.func44, Try.ntmps44
    go_wp2
    go_ret
    exact ⟨_, rfl, hr, rfl⟩
  · have hr : RowU w (WV s) (fun c => S.read (64 * s + c)) := by
      obtain ⟨b, k, e, h1, h2, h3⟩ := h.wait s hs hi
      exact ⟨b, k, e, h1, h2, h3.congr (fun c hc => by unfold Dsk.read; rw [show (64 * s + c) / 64 = s by omega, hi]; rfl)⟩
    rw [hi] at d2
    go_enter Try.func44, Try.ntmps44
    go_wp2
    go_ret
    exact ⟨_, rfl, hr, rfl⟩
theorem rwaiting_any {w : World} {g cb cap : Nat} {LV WV : Nat → Value} {S : Dsk} (h : RefAt w g cb cap LV WV S) :
    Calls Try.prog 37 #[.pointer (some ⟨g, 0, none⟩)] w fun e w' => e = .returned (.int .i64 ((Dsk.cnt S.is S.n : Nat) : Int)) ∧ w' = w := by
  have c := h.t0
  have hn := h.ok.n1
  have H : Hid (RefAt w g cb cap LV WV S) := h
  clear h
  go_enter Try.func37, Try.ntmps37
  go_wp2
  go_loop [3, 4] (fun m i => ∃ q : Nat, q ≤ S.n ∧ m = .int .i64 ((Dsk.cnt S.is q : Nat) : Int) ∧ i = .int .i64 (q : Int)) (fun _ i => S.n - (intOf i).toNat)
  case atStart => exact ⟨0, Nat.zero_le _, rfl, rfl⟩
  case round =>
    obtain ⟨q, hq, rfl, rfl⟩ := hrel
    have q0 : (0 : Int) ≤ (q : Int) := Int.natCast_nonneg _
    have hcq := Dsk.cnt_le S.is q
    obtain ⟨m, hm⟩ : ∃ m, Hid (Dsk.cnt S.is q = m) := ⟨_, rfl⟩
    rw [hm.out] at hcq ⊢
    have m0 : (0 : Int) ≤ (m : Int) := Int.natCast_nonneg _
    have m1 : (m : Int) ≤ 65536 := by omega
    by_cases hlt : q < S.n
    · have q1 : (q : Int) < (S.n : Int) := by omega
      have d2 := H.out.c2 q hlt
      cases hi : S.is q
      · rw [hi] at d2
        have hfin : Hid ((∃ q' : Nat, q' ≤ S.n ∧ Value.int .i64 (m : Int) = .int .i64 ((Dsk.cnt S.is q' : Nat) : Int) ∧ Value.int .i64 ((q : Int) + 1) = .int .i64 (q' : Int)) ∧ S.n - (intOf (.int .i64 ((q : Int) + 1))).toNat < S.n - (intOf (.int .i64 (q : Int))).toNat) := ⟨⟨q + 1, hlt, by rw [Dsk.cnt, hi, hm.out]; rfl, rfl⟩, by simp only [intOf]; omega⟩
        go_wp2
        exact hfin.out
      · rw [hi] at d2
        have hfin : Hid ((∃ q' : Nat, q' ≤ S.n ∧ Value.int .i64 ((m : Int) + 1) = .int .i64 ((Dsk.cnt S.is q' : Nat) : Int) ∧ Value.int .i64 ((q : Int) + 1) = .int .i64 (q' : Int)) ∧ S.n - (intOf (.int .i64 ((q : Int) + 1))).toNat < S.n - (intOf (.int .i64 (q : Int))).toNat) := ⟨⟨q + 1, hlt, by rw [Dsk.cnt, hi, hm.out]; rfl, rfl⟩, by simp only [intOf]; omega⟩
        go_wp2
        exact hfin.out
    · obtain rfl : q = S.n := by omega
      go_wp2
      go_ret
      exact ⟨by rw [hm.out]; rfl, rfl⟩
end Go.Proofs.Ytppknadflmjefaa
