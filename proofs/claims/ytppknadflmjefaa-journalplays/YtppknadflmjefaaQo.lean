/- Layer 15: records that were lent to an Add, and written over behind it. -/
import Derived.Test.YtppknadflmjefaaQm
namespace Go.Proofs.Ytppknadflmjefaa
open Go.RowKit Go.Deep Go.Maps
set_option linter.unusedVariables false
set_option linter.unusedSimpArgs false

theorem d_ty15 {w : World} {g lb gm : Nat} {S : Dsk} (h : DiskAt w g lb gm S) {b : Nat} (hb : dIn g lb gm b) {cur : Array Value} {t : TypeId} {fr : Nat × Nat} (e : w.heap[b]? = some (.cells cur t fr)) : t = 63 ∨ t = 77 := by
  rcases hb with rfl | rfl | rfl
  · rw [h.cells] at e
    simp only [Option.some.injEq, Obj.cells.injEq] at e
    exact .inl e.2.1.symm
  · obtain ⟨cur', h1, _⟩ := h.rows
    rw [h1] at e
    simp only [Option.some.injEq, Obj.cells.injEq] at e
    exact .inr e.2.1.symm
  · obtain ⟨es, c, h1⟩ := h.map.block
    rw [h1] at e
    cases e
/-- the blocks of the two disks are apart -/
theorem dr_ne15 {w : World} {g lb gm g' cb cap : Nat} {LV WV : Nat → Value} {S T : Dsk} (h : DiskAt w g lb gm S) (k : RefAt w g' cb cap LV WV T) : ∀ b, rIn g' cb b → ¬ dIn g lb gm b := fun b hb hd => by
  obtain ⟨cur, t, h1, ht⟩ := rd_ty k hb
  rcases d_ty15 h hd h1 with rfl | rfl <;> rcases ht with ht | ht <;> exact absurd ht (by decide)
theorem rjd_ne15 {w : World} {base gk gd g lb gm : Nat} {R : Nat → Prop} {v : Value} {J : Jl.Jn} {S : Dsk} (h : RjAt w base gk gd R v J) (k : DiskAt w g lb gm S) : ∀ b, jIn gk v b → ¬ dIn g lb gm b := fun b hb hd => by
  obtain ⟨cur, t, h1, ht⟩ := rj_ty h hb
  rcases d_ty15 k hd h1 with rfl | rfl <;> rcases ht with ht | ht <;> exact absurd ht (by decide)
theorem jrd_ne15 {w : World} {base gj g gd cb cap : Nat} {R : Nat → Prop} {v : Value} {J : Jl.Jn} {LV WV : Nat → Value} {S : Dsk} (h : JrAt w base gj g R v J) (k : RefAt w gd cb cap LV WV S) : ∀ b, jIn gj v b → ¬ rIn gd cb b := fun b hb hd => by
  obtain ⟨cur, t, h1, ht⟩ := jr_ty h hb
  obtain ⟨cur2, t2, h2, ht2⟩ := rd_ty k hd
  rw [h1] at h2
  simp only [Option.some.injEq, Obj.cells.injEq] at h2
  obtain ⟨_, rfl, _⟩ := h2
  rcases ht with rfl | rfl <;> rcases ht2 with ht | ht <;> exact absurd ht (by decide)
/-- the blocks of the two journals are apart -/
theorem jj_ne15 {w : World} {base gj g gk gd : Nat} {R R' : Nat → Prop} {v v' : Value} {J J' : Jl.Jn} (h : JrAt w base gj g R v J) (k : RjAt w base gk gd R' v' J') (hv : ∀ b, v.ownBlock = some b → v'.ownBlock ≠ some b) : ∀ b, jIn gj v b → ¬ jIn gk v' b := fun b hb hd => by
  rcases hb with rfl | hb
  · obtain ⟨cur, t, h1, ht⟩ := rj_ty k hd
    rw [h.cells] at h1
    simp only [Option.some.injEq, Obj.cells.injEq] at h1
    obtain ⟨_, rfl, _⟩ := h1
    rcases ht with ht | ht <;> exact absurd ht (by decide)
  · rcases hd with rfl | hd
    · obtain ⟨cur, t, h1, ht⟩ := jr_ty h (.inr hb)
      rw [k.cells] at h1
      simp only [Option.some.injEq, Obj.cells.injEq] at h1
      obtain ⟨_, rfl, _⟩ := h1
      rcases ht with ht | ht <;> exact absurd ht (by decide)
    · exact hv b hb hd
/-- two journals that tell the same, each on its disk -/
structure Jj (base g lb gm gd cb cap gj : Nat) (v1 : Value) (gk : Nat) (v2 : Value) (R1 R2 : Nat → Prop) (J : Jl.Jn) (S : Dsk) (w : World) : Prop where
  d : DiskAt w g lb gm S
  r : ∃ LV WV, RefAt w gd cb cap LV WV S
  a : JrAt w base gj g R1 v1 J
  b : RjAt w base gk gd R2 v2 J
  s1 : ∀ b, R1 b → b < w.heap.size ∧ ¬ dIn g lb gm b ∧ ¬ rIn gd cb b ∧ ¬ jIn gk v2 b
  s2 : ∀ b, R2 b → b < w.heap.size ∧ ¬ dIn g lb gm b ∧ ¬ rIn gd cb b ∧ ¬ jIn gj v1 b
  s3 : ∀ b, v1.ownBlock = some b → v2.ownBlock ≠ some b
  inn : J.r0 + J.rc ≤ S.n
  few : J.Few
theorem Jj.keep {base g lb gm gd cb cap gj gk : Nat} {v1 v2 : Value} {R1 R2 : Nat → Prop} {J : Jl.Jn} {S : Dsk} {w w' : World} (h : Jj base g lb gm gd cb cap gj v1 gk v2 R1 R2 J S w) (k : Bw w w') : Jj base g lb gm gd cb cap gj v1 gk v2 R1 R2 J S w' := by
  obtain ⟨LV, WV, hr⟩ := h.r
  exact ⟨h.d.keep k, ⟨LV, WV, hr.keep k⟩, h.a.keep k, h.b.keep k, fun b hb => ⟨Nat.lt_of_lt_of_le (h.s1 b hb).1 k.size, (h.s1 b hb).2⟩, fun b hb => ⟨Nat.lt_of_lt_of_le (h.s2 b hb).1 k.size, (h.s2 b hb).2⟩, h.s3, h.inn, h.few⟩
theorem Jj.jns {base g lb gm gd cb cap gj gk : Nat} {v1 v2 : Value} {R1 R2 : Nat → Prop} {J : Jl.Jn} {S : Dsk} {w : World} (h : Jj base g lb gm gd cb cap gj v1 gk v2 R1 R2 J S w) : Jns w base g gd (fun b => dIn g lb gm b ∨ rIn gd cb b) (.pointer (some ⟨gj, 0, none⟩)) (.pointer (some ⟨gk, 0, none⟩)) (some J) :=
  ⟨gj, v1, gk, v2, R1, R2, rfl, rfl, h.a, h.b, fun b hb e => by
    have := h.s1 b hb
    rcases e with (e | e) | e
    · exact this.2.1 e
    · exact this.2.2.1 e
    · exact this.2.2.2 e, fun b hb e => by
    have := h.s2 b hb
    rcases e with (e | e) | e
    · exact this.2.1 e
    · exact this.2.2.1 e
    · exact this.2.2.2 e, h.s3⟩
/-- the document's both stay while the program's turn -/
theorem Jj.mid {base g lb gm gd cb cap gj gk : Nat} {v1 v2 : Value} {R1 R2 : Nat → Prop} {J : Jl.Jn} {S : Dsk} {w w' : World} (h : Jj base g lb gm gd cb cap gj v1 gk v2 R1 R2 J S w) (k : Bx (fun b => dIn g lb gm b ∨ jIn gj v1 b) w w') : (∃ LV WV, RefAt w' gd cb cap LV WV S) ∧ RjAt w' base gk gd R2 v2 J := by
  obtain ⟨LV, WV, hr⟩ := h.r
  refine ⟨⟨LV, WV, hr.keepn k (fun b hb => hb.elim (h.d.nou15 b) (h.a.nou b)) (fun e => ?_) (fun e => ?_)⟩, h.b.keepx k (fun e => ?_) (fun b hb e => ?_) (fun b hb e => ?_)⟩
  · exact e.elim (dr_ne15 h.d hr _ (.inl rfl)) (fun e => jrd_ne15 h.a hr _ e (.inl rfl))
  · exact e.elim (dr_ne15 h.d hr _ (.inr rfl)) (fun e => jrd_ne15 h.a hr _ e (.inr rfl))
  · exact e.elim (rjd_ne15 h.b h.d _ (.inl rfl)) (fun e => jj_ne15 h.a h.b h.s3 _ e (.inl rfl))
  · exact e.elim (rjd_ne15 h.b h.d _ (.inr hb)) (fun e => jj_ne15 h.a h.b h.s3 _ e (.inr hb))
  · exact e.elim (h.s2 b hb).2.1 (h.s2 b hb).2.2.2
/-- both disks turn alike -/
theorem Jj.disks {base g lb gm gd cb cap gj gk : Nat} {v1 v2 : Value} {R1 R2 : Nat → Prop} {J : Jl.Jn} {S T : Dsk} {w w1 w2 : World} (h : Jj base g lb gm gd cb cap gj v1 gk v2 R1 R2 J S w) (k1 : Bx (dIn g lb gm) w w1) (d1 : DiskAt w1 g lb gm T) (k2 : Bx (rIn gd cb) w1 w2) (r2 : ∃ LV WV, RefAt w2 gd cb cap LV WV T) (hn : T.n = S.n) : Jj base g lb gm gd cb cap gj v1 gk v2 R1 R2 J T w2 := by
  obtain ⟨⟨LV, WV, hr1⟩, hb1⟩ := h.mid (k1.more (fun b e => .inl e))
  have ha1 := h.a.keepd h.d (fun b hb => (h.s1 b hb).2.1) k1
  have hsz : w.heap.size ≤ w2.heap.size := Nat.le_trans k1.size k2.size
  refine ⟨d1.keepx k2 (fun e => dr_ne15 d1 hr1 _ e (.inl rfl)) (fun e => dr_ne15 d1 hr1 _ e (.inr (.inl rfl))) (fun e => dr_ne15 d1 hr1 _ e (.inr (.inr rfl))), r2, ha1.keepx k2 (jrd_ne15 ha1 hr1 _ (.inl rfl)) (fun b hb => jrd_ne15 ha1 hr1 b (.inr hb)) (fun b hb => (h.s1 b hb).2.2.1), hb1.keepr hr1 (fun b hb => (h.s2 b hb).2.2.1) k2, fun b hb => ⟨Nat.lt_of_lt_of_le (h.s1 b hb).1 hsz, (h.s1 b hb).2⟩, fun b hb => ⟨Nat.lt_of_lt_of_le (h.s2 b hb).1 hsz, (h.s2 b hb).2⟩, h.s3, by rw [hn]; exact h.inn, h.few⟩
/-- what the program's Add or Rewrite leaves, the statement's own records written over behind it -/
theorem Jj.add1 {base g lb gm gd cb cap gj gk : Nat} {v1 v2 : Value} {R1 R2 : Nat → Prop} {J : Jl.Jn} {S : Dsk} {w w1 w2 w3 : World} {P : Int × Dsk × Jl.Jn} {e : Ending} (h : Jj base g lb gm gd cb cap gj v1 gk v2 R1 R2 J S w) (k0 : Bw w w1) (hA : AddV base gj g lb gm R1 v1 P w1 e w2) (k3 : Bx (fun b => w.heap.size ≤ b ∧ b < w1.heap.size) w2 w3) :
    Bx (fun b => dIn g lb gm b ∨ jIn gj v1 b) w w3 ∧ DiskAt w3 g lb gm P.2.1 ∧ ∃ v1', JrAt w3 base gj g (fun b => R1 b ∨ w1.heap.size ≤ b) v1' P.2.2 ∧ (∀ b, v1'.ownBlock = some b → v1.ownBlock = some b ∨ w1.heap.size ≤ b) := by
  obtain ⟨v', -, hd2, ha2, hx2, hv⟩ := hA
  have hx : Bx (fun b => dIn g lb gm b ∨ jIn gj v1 b) w w3 := ((Bx.of_bw k0).trans hx2).new k3 (fun b h1 h2 => by omega)
  have hs0 : w.heap.size ≤ w1.heap.size := k0.size
  have hdl : ∀ b, dIn g lb gm b → ¬ (w.heap.size ≤ b ∧ b < w1.heap.size) := fun b hb e => by have := h.d.low b hb; omega
  refine ⟨hx, hd2.keepx k3 (hdl _ (.inl rfl)) (hdl _ (.inr (.inl rfl))) (hdl _ (.inr (.inr rfl))), v', ha2.keepx k3 (fun e => ?_) (fun b hb e => ?_) (fun b hb e => ?_), hv⟩
  · have := h.a.lt; omega
  · rcases hv b hb with h1 | h1
    · have := h.a.jlow b (.inr h1); omega
    · omega
  · rcases hb with hb | hb
    · have := (h.s1 b hb).1; omega
    · have hb' : w1.heap.size ≤ b := hb; omega
/-- .. and the document's behind it -/
theorem Jj.add2 {base g lb gm gd cb cap gj gk : Nat} {v1 v2 : Value} {R1 R2 : Nat → Prop} {J : Jl.Jn} {S : Dsk} {w w1 w2 w3 w4 : World} {P : Int × Dsk × Jl.Jn} {e e' : Ending} (h : Jj base g lb gm gd cb cap gj v1 gk v2 R1 R2 J S w) (k0 : Bw w w1) (hA : AddV base gj g lb gm R1 v1 P w1 e w2) (k3 : Bx (fun b => w.heap.size ≤ b ∧ b < w1.heap.size) w2 w3) (hB : RAddV base gk gd cb cap R2 v2 P w3 e' w4) (hin : P.2.2.r0 + P.2.2.rc ≤ P.2.1.n) (hfw : P.2.2.Few) :
    (∃ v1' v2' R1' R2', Jj base g lb gm gd cb cap gj v1' gk v2' R1' R2' P.2.2 P.2.1 w4) ∧ Bx (fun b => dIn g lb gm b ∨ rIn gd cb b ∨ jIn gj v1 b ∨ jIn gk v2 b) w w4 := by
  obtain ⟨hx, hd3, v1', ha3, hv1⟩ := h.add1 k0 hA k3
  obtain ⟨⟨LV3, WV3, hr3⟩, hb3⟩ := h.mid hx
  obtain ⟨v2', -, hr4, hb4, hx4, hv2⟩ := hB
  have hs0 : w.heap.size ≤ w1.heap.size := k0.size
  have hs1 : w1.heap.size ≤ w3.heap.size := by
    obtain ⟨_, _, _, _, hx2, _⟩ := hA
    exact Nat.le_trans hx2.size k3.size
  have hs2 : w3.heap.size ≤ w4.heap.size := hx4.size
  obtain ⟨LV, WV, hr⟩ := h.r
  have hv2l : ∀ b, v2.ownBlock = some b → b < w.heap.size := fun b hb => h.b.jlow b (.inr hb)
  have hv1n : ∀ b, v1'.ownBlock = some b → v2.ownBlock ≠ some b := fun b hb e => by
    rcases hv1 b hb with h1 | h1
    · exact h.s3 b h1 e
    · have := hv2l b e; omega
  have hd4 : DiskAt w4 g lb gm P.2.1 := by
    have hn : ∀ b, dIn g lb gm b → ¬ (rIn gd cb b ∨ jIn gk v2 b) := fun b hb e => e.elim (fun e => dr_ne15 h.d hr b e hb) (fun e => rjd_ne15 h.b h.d b e hb)
    exact hd3.keepx hx4 (hn _ (.inl rfl)) (hn _ (.inr (.inl rfl))) (hn _ (.inr (.inr rfl)))
  have hjn : ∀ b, jIn gj v1' b → ¬ (rIn gd cb b ∨ jIn gk v2 b) := fun b hb e => e.elim (jrd_ne15 ha3 hr3 b hb) (jj_ne15 ha3 hb3 hv1n b hb)
  have ha4 : JrAt w4 base gj g (fun b => (R1 b ∨ w1.heap.size ≤ b) ∧ b < w3.heap.size) v1' P.2.2 := by
    refine ha3.low.keepx hx4 (hjn _ (.inl rfl)) (fun b hb => hjn b (.inr hb)) (fun b hb e => ?_)
    rcases hb.1 with h1 | h1
    · exact e.elim (h.s1 b h1).2.2.1 (h.s1 b h1).2.2.2
    · rcases e with e | e
      · have := hr.low b e; omega
      · have := h.b.jlow b e; omega
  refine ⟨⟨v1', v2', _, _, hd4, hr4, ha4, hb4.low, fun b hb => ⟨by omega, ?_, ?_, ?_⟩, fun b hb => ⟨hb.2, ?_, ?_, ?_⟩, fun b h1 h2 => ?_, hin, hfw⟩, (hx.more (fun b e => ?_)).trans (hx4.more (fun b e => ?_))⟩
  · rcases hb.1 with h1 | h1
    · exact (h.s1 b h1).2.1
    · intro e; have := h.d.low b e; omega
  · rcases hb.1 with h1 | h1
    · exact (h.s1 b h1).2.2.1
    · intro e; have := hr.low b e; omega
  · intro e
    have hl := hb.2
    rcases e with e | e
    · rcases hb.1 with h1 | h1
      · exact (h.s1 b h1).2.2.2 (.inl e)
      · have := h.b.lt; omega
    · rcases hv2 b e with h2 | h2
      · rcases hb.1 with h1 | h1
        · exact (h.s1 b h1).2.2.2 (.inr h2)
        · have := hv2l b h2; omega
      · omega
  · rcases hb.1 with h1 | h1
    · exact (h.s2 b h1).2.1
    · intro e; have := h.d.low b e; have h1' : w3.heap.size ≤ b := h1; omega
  · rcases hb.1 with h1 | h1
    · exact (h.s2 b h1).2.2.1
    · intro e; have := hr.low b e; have h1' : w3.heap.size ≤ b := h1; omega
  · intro e
    rcases hb.1 with h1 | h1
    · have hlt := (h.s2 b h1).1
      rcases e with e | e
      · exact (h.s2 b h1).2.2.2 (.inl e)
      · rcases hv1 b e with h2 | h2
        · exact (h.s2 b h1).2.2.2 (.inr h2)
        · omega
    · have h1' : w3.heap.size ≤ b := h1
      have := ha3.jlow b e
      omega
  · rcases hv2 b h2 with h3 | h3
    · exact hv1n b h1 h3
    · have := ha3.jlow b (.inr h1); omega
  · exact e.elim .inl (fun e => .inr (.inr (.inl e)))
  · exact e.elim (fun e => .inr (.inl e)) (fun e => .inr (.inr (.inr e)))
/-- both, with a journal or with none -/
def Tw (base g lb gm gd cb cap : Nat) (p1 p2 : Value) (O : Option Jl.Jn) (S : Dsk) (w : World) : Prop :=
  DiskAt w g lb gm S ∧ (∃ LV WV, RefAt w gd cb cap LV WV S) ∧ (match O with
    | none => p1 = .pointer none ∧ p2 = .pointer none
    | some J => ∃ gj v1 gk v2 R1 R2, p1 = .pointer (some ⟨gj, 0, none⟩) ∧ p2 = .pointer (some ⟨gk, 0, none⟩) ∧ Jj base g lb gm gd cb cap gj v1 gk v2 R1 R2 J S w)
theorem Tw.keep {base g lb gm gd cb cap : Nat} {p1 p2 : Value} {O : Option Jl.Jn} {S : Dsk} {w w' : World} (h : Tw base g lb gm gd cb cap p1 p2 O S w) (k : Bw w w') : Tw base g lb gm gd cb cap p1 p2 O S w' := by
  obtain ⟨h1, ⟨LV, WV, h2⟩, h3⟩ := h
  refine ⟨h1.keep k, ⟨LV, WV, h2.keep k⟩, ?_⟩
  cases O with
  | none => exact h3
  | some J =>
    obtain ⟨gj, v1, gk, v2, R1, R2, e1, e2, hj⟩ := h3
    exact ⟨gj, v1, gk, v2, R1, R2, e1, e2, hj.keep k⟩
theorem Tw.jns {base g lb gm gd cb cap : Nat} {p1 p2 : Value} {O : Option Jl.Jn} {S : Dsk} {w : World} (h : Tw base g lb gm gd cb cap p1 p2 O S w) : Jns w base g gd (fun b => dIn g lb gm b ∨ rIn gd cb b) p1 p2 O := by
  obtain ⟨h1, h2, h3⟩ := h
  cases O with
  | none => exact h3
  | some J =>
    obtain ⟨gj, v1, gk, v2, R1, R2, rfl, rfl, hj⟩ := h3
    exact hj.jns
theorem Tw.disks {base g lb gm gd cb cap : Nat} {p1 p2 : Value} {O : Option Jl.Jn} {S T : Dsk} {w w1 w2 : World} (h : Tw base g lb gm gd cb cap p1 p2 O S w) (k1 : Bx (dIn g lb gm) w w1) (d1 : DiskAt w1 g lb gm T) (k2 : Bx (rIn gd cb) w1 w2) (r2 : ∃ LV WV, RefAt w2 gd cb cap LV WV T) (hn : T.n = S.n) : Tw base g lb gm gd cb cap p1 p2 O T w2 := by
  obtain ⟨h1, ⟨LV, WV, h2⟩, h3⟩ := h
  have hr1 := h2.keepn k1 (h1.nou15) (dr_ne15 h1 h2 _ (.inl rfl)) (dr_ne15 h1 h2 _ (.inr rfl))
  refine ⟨d1.keepx k2 (fun e => dr_ne15 d1 hr1 _ e (.inl rfl)) (fun e => dr_ne15 d1 hr1 _ e (.inr (.inl rfl))) (fun e => dr_ne15 d1 hr1 _ e (.inr (.inr rfl))), r2, ?_⟩
  cases O with
  | none => exact h3
  | some J =>
    obtain ⟨gj, v1, gk, v2, R1, R2, e1, e2, hj⟩ := h3
    exact ⟨gj, v1, gk, v2, R1, R2, e1, e2, hj.disks k1 d1 k2 r2 hn⟩
/-- both opened -/
theorem tw_open {base g lb gm gd cb cap : Nat} {S : Dsk} {w w1 w2 : World} {x y : Int} {e1 e2 : Ending} (hd : DiskAt w g lb gm S) (hr : ∃ LV WV, RefAt w gd cb cap LV WV S) (hb : base ≤ w.heap.size) (h1 : OpenV w g (Jl.openE S x y) (Jl.openJ S x y) e1 w1) (h2 : ROpenV w1 gd (Jl.openE S x y) (Jl.openJ S x y) e2 w2) :
    ∃ p1 p2, e1 = .returned (.tuple #[p1, .int .i64 (Jl.openE S x y)]) ∧ e2 = .returned (.tuple #[p2, .int .i64 (Jl.openE S x y)]) ∧ Tw base g lb gm gd cb cap p1 p2 (Jl.openJ S x y) S w2 ∧ Bw w w1 ∧ Bw w1 w2 := by
  obtain ⟨k1, p1, v1, rfl, h1⟩ := h1
  obtain ⟨k2, p2, v2, rfl, h2⟩ := h2
  have k := k1.trans k2
  obtain ⟨LV, WV, hr⟩ := hr
  refine ⟨p1, p2, rfl, rfl, ⟨hd.keep k, ⟨LV, WV, hr.keep k⟩, ?_⟩, k1, k2⟩
  have hJ : ∀ J, Jl.openJ S x y = some J → J.r0 + J.rc ≤ S.n ∧ J.Few := fun J e => by
    unfold Jl.openJ at e
    split at e
    · rename_i h0
      refine ⟨?_, Jl.few_opn e⟩
      unfold Jl.opn at e
      obtain ⟨L, hL, rfl⟩ := Option.map_eq_some_iff.1 e
      unfold Jl.openE at h0
      split at h0
      · exact absurd h0 (by decide)
      · rename_i hng
        show x.toNat + y.toNat ≤ S.n
        omega
    · cases e
  revert h1 h2 hJ
  generalize Jl.openJ S x y = O
  intro h1 h2 hJ
  cases O with
  | none => exact ⟨h1.1, h2.1⟩
  | some J =>
    obtain ⟨gj, e1, ha⟩ := h1
    obtain ⟨gk, e2, hbj⟩ := h2
    have s0 : w.heap.size ≤ w1.heap.size := k1.size
    have s1 : w1.heap.size ≤ w2.heap.size := k2.size
    refine ⟨gj, v1, gk, v2, _, _, e1, e2, hd.keep k, ⟨LV, WV, hr.keep k⟩, (ha.low.keep k2).base_le hb, hbj.low.base_le (Nat.le_trans hb s0), fun b hb => ⟨by have := hb.2; omega, fun e => ?_, fun e => ?_, fun e => ?_⟩, fun b hb => ⟨hb.2, fun e => ?_, fun e => ?_, fun e => ?_⟩, fun b h3 h4 => ?_, (hJ J rfl).1, (hJ J rfl).2⟩
    · have := hd.low b e; have h5 : w.heap.size ≤ b := hb.1; omega
    · have := hr.low b e; have h5 : w.heap.size ≤ b := hb.1; omega
    · have := hbj.jge b e; have := hb.2; omega
    · have := hd.low b e; have h5 : w1.heap.size ≤ b := hb.1; omega
    · have := hr.low b e; have h5 : w1.heap.size ≤ b := hb.1; omega
    · have := ha.jlow b e; have h5 : w1.heap.size ≤ b := hb.1; omega
    · have := ha.jlow b (.inr h3); have := hbj.jge b (.inr h4); omega
/-- what Add and Rewrite leave stands in its region -/
theorem put_rn (J : Jl.Jn) (S : Dsk) (B : List Nat) (area at_ : Nat) : (Jl.put J S B area at_).2.1.n = S.n ∧ (Jl.put J S B area at_).2.2.r0 = J.r0 ∧ (Jl.put J S B area at_).2.2.rc = J.rc ∧ ((Jl.put J S B area at_).1 = 0 → (Jl.put J S B area at_).2.2.h.len = at_ + B.length) ∧ ((Jl.put J S B area at_).1 ≠ 0 → (Jl.put J S B area at_).2.2.h = J.h ∧ (Jl.put J S B area at_).2.2.L = J.L) := by
  have h1 : (Jl.put2 J (Jl.putB S J.r0 J.rc area at_ B) (Jl.next J area at_ B)).2.n = S.n := by
    unfold Jl.put2
    split
    · rw [Jl.last_n]; exact Jl.putB_n _ _ _ _ _ _
    · exact Jl.putB_n _ _ _ _ _ _
  unfold Jl.put Jl.put3
  refine ⟨h1, ?_, ?_, ?_, ?_⟩
  · dsimp only; split <;> rfl
  · dsimp only; split <;> rfl
  · intro h; dsimp only at h ⊢; rw [if_pos h]; rfl
  · intro h; dsimp only at h ⊢; rw [if_neg h]; exact ⟨rfl, rfl⟩
theorem add_inn {J : Jl.Jn} {S : Dsk} (l : List (List Nat)) (h : J.r0 + J.rc ≤ S.n) (hf : J.Few) : (Jl.add J S l).2.2.r0 + (Jl.add J S l).2.2.rc ≤ (Jl.add J S l).2.1.n ∧ (Jl.add J S l).2.2.Few ∧ (Jl.add J S l).2.1.n = S.n := by
  have hp := Jl.packed_len l
  unfold Jl.add
  split
  · exact ⟨h, hf, rfl⟩
  split
  · exact ⟨h, hf, rfl⟩
  obtain ⟨a1, a2, a3, a4, a5⟩ := put_rn J S (Jl.packed l) J.h.area J.h.len
  unfold Jl.withL
  dsimp only
  by_cases h0 : (Jl.put J S (Jl.packed l) J.h.area J.h.len).1 = 0
  · rw [if_pos h0]
    refine ⟨by rw [a1]; show _ + _ ≤ _; rw [a2, a3]; exact h, ?_, a1⟩
    unfold Jl.Jn.Few at *
    show (J.L ++ l).length ≤ (Jl.put J S (Jl.packed l) J.h.area J.h.len).2.2.h.len
    rw [a4 h0, List.length_append]; omega
  · rw [if_neg h0]
    obtain ⟨a6, a7⟩ := a5 h0
    refine ⟨by rw [a1, a2, a3]; exact h, ?_, a1⟩
    unfold Jl.Jn.Few at *
    rw [a6, a7]; exact hf
theorem rew_inn {J : Jl.Jn} {S : Dsk} (l : List (List Nat)) (h : J.r0 + J.rc ≤ S.n) (hf : J.Few) : (Jl.rew J S l).2.2.r0 + (Jl.rew J S l).2.2.rc ≤ (Jl.rew J S l).2.1.n ∧ (Jl.rew J S l).2.2.Few ∧ (Jl.rew J S l).2.1.n = S.n := by
  have hp := Jl.packed_len l
  unfold Jl.rew
  split
  · exact ⟨h, hf, rfl⟩
  obtain ⟨a1, a2, a3, a4, a5⟩ := put_rn J S (Jl.packed l) (1 - J.h.area) 0
  unfold Jl.withL
  dsimp only
  by_cases h0 : (Jl.put J S (Jl.packed l) (1 - J.h.area) 0).1 = 0
  · rw [if_pos h0]
    refine ⟨by rw [a1]; show _ + _ ≤ _; rw [a2, a3]; exact h, ?_, a1⟩
    unfold Jl.Jn.Few at *
    show l.length ≤ (Jl.put J S (Jl.packed l) (1 - J.h.area) 0).2.2.h.len
    rw [a4 h0]; omega
  · rw [if_neg h0]
    obtain ⟨a6, a7⟩ := a5 h0
    refine ⟨by rw [a1, a2, a3]; exact h, ?_, a1⟩
    unfold Jl.Jn.Few at *
    rw [a6, a7]; exact hf
end Go.Proofs.Ytppknadflmjefaa
namespace Go.Proofs.Ytppknadflmjefaa
open Go.RowKit Go.Deep Go.Maps
set_option linter.unusedVariables false
set_option linter.unusedSimpArgs false

theorem radd15_nil (w : World) (A : Option Addr) (n c : Nat) : Calls Try.prog 32 #[.pointer none, .slice A n c] w fun e w' => e = .returned (.int .i64 8) ∧ w' = w := by
  go_enter Try.func32, Try.ntmps32
  go_wp2
  go_ret
  exact ⟨rfl, rfl⟩
theorem rrew15_nil (w : World) (A : Option Addr) (n c : Nat) : Calls Try.prog 33 #[.pointer none, .slice A n c] w fun e w' => e = .returned (.int .i64 8) ∧ w' = w := by
  go_enter Try.func33, Try.ntmps33
  go_wp2
  go_ret
  exact ⟨rfl, rfl⟩
/-- the records as they are lent -/
structure Lend (base top : Nat) (w1 : World) (A : Option Addr) (n c : Nat) (vs : List Value) (L : List (List Nat)) : Prop where
  mat : MatV w1 A n vs L
  arg : ∀ b, ArgIn A n vs b → base ≤ b ∧ b < top
  own : w1.ownsRow base 37 1 (.slice A n c) vs.length vs
  rows : ∀ (i : Nat) (u : Value), vs[i]? = some u → ∃ (m : Nat) (f : Nat → Int), (∀ i, 0 ≤ f i ∧ f i < 256) ∧ w1.ownsRow base 5 1 u m (cellsU f m) ∧ m ≤ 1000000
theorem own_lt15 {w : World} {base e s n : Nat} {v : Value} {xs : List Value} (h : w.ownsRow base e s v n xs) : ∀ b, v.ownBlock = some b → b < w.heap.size := fun b hb => by
  rcases h.2 with ⟨rfl, _⟩ | ⟨g, cap, cur, rfl, _, hg, _⟩
  · cases hb
  · cases hb; exact (Array.getElem?_eq_some_iff.1 hg).1
theorem LentAt.lend {base : Nat} {w1 : World} {v : Value} {L : List (List Nat)} (h : LentAt base w1 v L) (hl : ∀ l ∈ L, l.length ≤ 1000000) : ∃ A c vs, v = .slice A L.length c ∧ Lend base w1.heap.size w1 A L.length c vs L := by
  obtain ⟨vs, h1, h2, h3⟩ := h
  have h4 : ∀ (i : Nat) (u : Value) (l : List Nat), vs[i]? = some u → L[i]? = some l → RowV w1 u l := fun i u l hu hl2 => by
    obtain ⟨hb, ho⟩ := h3 i u l hu hl2
    obtain ⟨q1, q2⟩ := rowv_of_own (Jl.rowL_bd hb) (by have := hl l (List.mem_of_getElem? hl2); omega) ho
    rw [Jl.data_rowL] at q1
    exact q1
  have hof : ∀ (i : Nat) (u : Value), vs[i]? = some u → ∃ l, L[i]? = some l := fun i u hu => by
    have hi := (List.getElem?_eq_some_iff.1 hu).1
    exact ⟨L[i]'(by omega), List.getElem?_eq_getElem (by omega)⟩
  obtain ⟨A, c, e, _, _, hM, hA⟩ := mat_of_own h1 ⟨h2, h4⟩
  subst e
  refine ⟨A, c, vs, rfl, hM, fun b hb => ?_, by rw [h2]; exact h1, fun i u hu => ?_⟩
  · rcases hb with ⟨o, e, h0⟩ | ⟨u, hu, o, m, c', e, h0⟩
    · exact hA _ e
    · obtain ⟨i, hi, rfl⟩ := List.getElem_of_mem hu
      have hu2 := List.getElem?_eq_getElem hi
      obtain ⟨l, hl2⟩ := hof i _ hu2
      obtain ⟨_, ho⟩ := h3 i _ l hu2 hl2
      have hb2 : (vs[i]).ownBlock = some b := by
        rcases ho.2 with ⟨e', _⟩ | ⟨g, cap, cur, e', _⟩
        · rw [e] at e'; cases e'
        · rw [e] at e'; cases e'; rw [e]; rfl
      exact ⟨own_ge ho b hb2, own_lt15 ho b hb2⟩
  · obtain ⟨l, hl2⟩ := hof i u hu
    obtain ⟨hb, ho⟩ := h3 i u l hu hl2
    exact ⟨l.length, _, Jl.rowL_bd hb, ho, hl l (List.mem_of_getElem? hl2)⟩
/-- .. and as they stand once the program has kept them -/
theorem Lend.spoil {base top : Nat} {w1 w2 : World} {A : Option Addr} {n c : Nat} {vs : List Value} {L : List (List Nat)} {P : Nat → Prop} (h : Lend base top w1 A n c vs L) (ht : w1.heap.size ≤ top) (k : Bx P w1 w2) (hP : NoU w1 P) (hlo : ∀ b, P b → b < base) : SpAt15 base top w2 (.slice A n c) vs w2 := by
  refine ⟨own_keepx15 h.own k (fun b hb e => ?_), fun i u hu => ?_, fun i u hu b hb => ?_, Bx.refl _ _⟩
  · have := own_ge h.own b hb; have := hlo b e; omega
  · obtain ⟨m, f, q1, q2, q3⟩ := h.rows i u hu
    exact ⟨m, f, q1, own_nou15 q2 k hP, q3⟩
  · obtain ⟨m, f, q1, q2, q3⟩ := h.rows i u hu
    exact ⟨own_ge q2 b hb, Nat.lt_of_lt_of_le (own_lt15 q2 b hb) ht⟩
/-- what a round of `played` stands on -/
structure PC (w W1 : World) (g lb gm gd cb z : Nat) (rx ry : Int) : Prop where
  dlt : ∀ b, dIn g lb gm b ∨ rIn gd cb b → b < w.heap.size
  k0 : Bw w W1
  zc : W1.heap[z]? = some (.cells #[.int .i64 rx, .int .i64 ry] 23 (0, 0))
  zw : w.heap.size ≤ z
/-- .. and keeps -/
def PSt (W1 : World) (g lb gm gd cb cap N : Nat) (p1 p2 : Value) (wr : World) : Prop := ∃ O S, Tw W1.heap.size g lb gm gd cb cap p1 p2 O S wr ∧ S.n = N ∧ Bx (fun b => dIn g lb gm b ∨ rIn gd cb b) W1 wr
theorem PC.bx {w W1 wr : World} {g lb gm gd cb z : Nat} {rx ry : Int} (h : PC w W1 g lb gm gd cb z rx ry) (k : Bx (fun b => dIn g lb gm b ∨ rIn gd cb b) W1 wr) : Bx (fun b => dIn g lb gm b ∨ rIn gd cb b) w wr := (Bx.of_bw h.k0).trans k
theorem PC.run {w W1 wr : World} {g lb gm gd cb z : Nat} {rx ry : Int} (h : PC w W1 g lb gm gd cb z rx ry) (k : Bx (fun b => dIn g lb gm b ∨ rIn gd cb b) W1 wr) : wr.cell? ⟨z, 0, none⟩ = some (.int .i64 rx) ∧ wr.cell? ⟨z, 1, none⟩ = some (.int .i64 ry) := by
  have hz := (k.block z (Array.getElem?_eq_some_iff.1 h.zc).1 (fun e => by have := h.dlt z e; have := h.zw; omega)).trans h.zc
  exact ⟨cell_of_row wr z 0 _ _ _ hz, cell_of_row wr z 1 _ _ _ hz⟩
theorem PSt.keep {W1 wr W : World} {g lb gm gd cb cap N : Nat} {p1 p2 : Value} (h : PSt W1 g lb gm gd cb cap N p1 p2 wr) (k : Bw wr W) : PSt W1 g lb gm gd cb cap N p1 p2 W := by
  obtain ⟨O, S, h1, h2, h3⟩ := h
  exact ⟨O, S, h1.keep k, h2, h3.trans (Bx.of_bw k)⟩
/-- how `played` ends -/
def PlayV (g lb gm gd cb cap N : Nat) (w : World) (e : Ending) (w' : World) : Prop := e = .returned (.bool true) ∧ ∃ S, DiskAt w' g lb gm S ∧ (∃ LV WV, RefAt w' gd cb cap LV WV S) ∧ S.n = N ∧ Bx (fun b => dIn g lb gm b ∨ rIn gd cb b) w w'
end Go.Proofs.Ytppknadflmjefaa
