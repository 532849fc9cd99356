/- Layer 19: the program's air beside the document's. -/
import Derived.Test.YtjjnbpbbjaabeaaUa2
namespace Go.Proofs.Ytjjnbpbbjaabeaa
open Go.RowKit Go.Deep
set_option linter.unusedVariables false
set_option linter.unusedSimpArgs false

/-- the document's air, all of whose blocks are in R -/
def RefAt (w : World) (R : Nat → Prop) (g : Nat) (S : Ai.St) : Prop := ∃ lv ov E Z, RefX w g lv ov E Z S ∧ (∀ b, rIn g lv ov b → R b) ∧ EIn R E ∧ (∀ b, R b → b < w.heap.size)
namespace RefAt
variable {w w' : World} {R : Nat → Prop} {g : Nat} {S : Ai.St}
theorem keep (h : RefAt w R g S) (k : Bw w w') : RefAt w' R g S := by
  obtain ⟨lv, ov, E, Z, h1, h2, h3, h4⟩ := h
  exact ⟨lv, ov, E, Z, h1.keep k, h2, h3, fun b hb => Nat.lt_of_lt_of_le (h4 b hb) k.size⟩
theorem keepx {Q : Nat → Prop} (h : RefAt w R g S) (k : Bx Q w w') (hQ : ∀ b, R b → ¬ Q b) : RefAt w' R g S := by
  obtain ⟨lv, ov, E, Z, h1, h2, h3, h4⟩ := h
  exact ⟨lv, ov, E, Z, h1.keepx k (fun b hb => hQ b (h2 b hb)) (h3.mono hQ), h2, h3, fun b hb => Nat.lt_of_lt_of_le (h4 b hb) k.size⟩
theorem low (h : RefAt w R g S) : ∀ b, R b → b < w.heap.size := by obtain ⟨lv, ov, E, Z, _, _, _, h4⟩ := h; exact h4
theorem more {Q : Nat → Prop} (h : RefAt w R g S) (k : ∀ b, R b → Q b) (kl : ∀ b, Q b → b < w.heap.size) : RefAt w Q g S := by
  obtain ⟨lv, ov, E, Z, h1, h2, h3, h4⟩ := h
  exact ⟨lv, ov, E, Z, h1, fun b hb => k b (h2 b hb), h3.mono k, kl⟩
end RefAt
theorem gr_lt {w w' : World} {P : Nat → Prop} (h : ∀ b, P b → b < w.heap.size) (k : w.heap.size ≤ w'.heap.size) : ∀ b, Gr P w w' b → b < w'.heap.size := fun b hb => by
  rcases hb with hb | hb
  · exact Nat.lt_of_lt_of_le (h b hb) k
  · exact hb.2
theorem RefX.gr {w w' : World} {R : Nat → Prop} {g : Nat} {lv ov lv' ov' : Value} {E' : List Raw} {Z' : List (Int × Int)} {S' : Ai.St} (h' : RefX w' g lv' ov' E' Z' S') (h2 : ∀ b, rIn g lv ov b → R b) (h4 : ∀ b, R b → b < w.heap.size) (hl : ∀ b, lv'.ownBlock = some b → lv.ownBlock = some b ∨ w.heap.size ≤ b) (ho : ∀ b, ov'.ownBlock = some b → ov.ownBlock = some b ∨ w.heap.size ≤ b)
    (hE : EIn (fun b => R b ∨ w.heap.size ≤ b) E') (hx : Bx (rIn g lv ov) w w') : RefAt w' (Gr R w w') g S' ∧ Bx R w w' := by
  have hlt := h'.inlt
  refine ⟨⟨lv', ov', E', Z', h', fun b hb => ?_, fun r hr b o n c e h0 => ?_, gr_lt h4 hx.size⟩, hx.more h2⟩
  · rcases hb with hb | hb | hb
    · exact .inl (h2 b (.inl hb))
    · rcases hl b hb with q | q
      · exact .inl (h2 b (.inr (.inl q)))
      · exact .inr ⟨q, hlt b (.inr (.inl hb))⟩
    · rcases ho b hb with q | q
      · exact .inl (h2 b (.inr (.inr q)))
      · exact .inr ⟨q, hlt b (.inr (.inr hb))⟩
  · exact (hE r hr b o n c e h0).imp id (fun q => ⟨q, h'.dgs.low r hr b o n c e h0⟩)
theorem rgr_same {w w' : World} {R : Nat → Prop} {g : Nat} {S : Ai.St} (h : RefAt w R g S) (k : Bw w w') : RefAt w' (Gr R w w') g S := (h.keep k).more (fun b hb => .inl hb) (gr_lt h.low k.size)
/-- what the document's At and Carry answer -/
def RGave (w' : World) (d : Ai.Dg) (b : Bool) (e : Ending) : Prop := ∃ v, e = .returned (.tuple #[.agg #[.int .i64 d.src, .int .i64 d.dst, v], .bool b]) ∧ RowV w' v d.b
theorem rsend_at {w : World} {R : Nat → Prop} {g : Nat} {S : Ai.St} (h : RefAt w R g S) (hm : S.m ≤ 1000000) {d : Ai.Dg} {u : Value} (hu : RowV w u d.b) :
    Calls Try.prog 24 #[.pointer (some ⟨g, 0, none⟩), .agg #[.int .i64 d.src, .int .i64 d.dst, u]] w fun e w' => e = .returned (.int .i64 (S.sendE d)) ∧ RefAt w' (Gr R w w') g (S.send d) ∧ Bx R w w' := by
  obtain ⟨lv, ov, E, Z, h1, h2, h3, h4⟩ := id h
  refine (rsend_any h1 hm hu).mono ?_
  rintro e w' ⟨rfl, ⟨hg, lv', r, q1, q2, q3, q4⟩ | ⟨hg, hb⟩⟩
  · have hs : S.send d = { S with L := S.L ++ [d] } := by unfold Ai.St.send; rw [if_pos hg]
    rw [hs]
    exact ⟨rfl, q1.gr h2 h4 q2 (fun b hb => .inl hb) (EIn.append (h3.mono (fun b hb => .inl hb)) (EIn.one (q3 R h3))) q4⟩
  · have hs : S.send d = S := by unfold Ai.St.send; rw [if_neg (by rw [hg]; decide)]
    rw [hs]
    exact ⟨rfl, rgr_same h hb, Bx.of_bw hb⟩
theorem rtwice_at {w : World} {R : Nat → Prop} {g : Nat} {S : Ai.St} (h : RefAt w R g S) (i : Int) :
    Calls Try.prog 27 #[.pointer (some ⟨g, 0, none⟩), .int .i64 i] w fun e w' => e = .returned (.bool (S.dbl i)) ∧ RefAt w' (Gr R w w') g (S.twice i) ∧ Bx R w w' := by
  obtain ⟨lv, ov, E, Z, h1, h2, h3, h4⟩ := id h
  refine (rdbl_any h1 i).mono ?_
  rintro e w' ⟨rfl, ⟨hg, lv', r, q1, q2, q3, q4⟩ | ⟨hg, hb⟩⟩
  · have hs : S.twice i = { S with L := S.L ++ [S.at i] } := by unfold Ai.St.twice; rw [if_pos hg]
    rw [hs]
    exact ⟨rfl, q1.gr h2 h4 q2 (fun b hb => .inl hb) (EIn.append (h3.mono (fun b hb => .inl hb)) (EIn.one (q3 R h3))) q4⟩
  · have hs : S.twice i = S := by unfold Ai.St.twice; rw [if_neg (by rw [hg]; decide)]
    rw [hs]
    exact ⟨rfl, rgr_same h hb, Bx.of_bw hb⟩
theorem rcut_at {w : World} {R : Nat → Prop} {g : Nat} {S : Ai.St} (h : RefAt w R g S) (p q : Int) (off : Bool) (hm : S.m ≤ 100000) :
    Calls Try.prog 29 #[.pointer (some ⟨g, 0, none⟩), .int .i64 p, .int .i64 q, .bool off] w fun e w' => e = .returned (.int .i64 (S.cutE p q)) ∧ RefAt w' (Gr R w w') g (S.cutW p q off) ∧ Bx R w w' := by
  obtain ⟨lv, ov, E, Z, h1, h2, h3, h4⟩ := id h
  refine (rcut_any h1 p q off hm).mono ?_
  rintro e w' ⟨rfl, ov', Z', q1, q2, q3⟩
  exact ⟨rfl, q1.gr h2 h4 (fun b hb => .inl hb) q2 (h3.mono (fun b hb => .inl hb)) q3⟩
theorem rcarry_at {w : World} {R : Nat → Prop} {g : Nat} {S : Ai.St} (h : RefAt w R g S) (i : Int) :
    ∃ x y v, v.oneCell' = true ∧ x = (S.giv i).src ∧ y = (S.giv i).dst ∧ Calls Try.prog 25 #[.pointer (some ⟨g, 0, none⟩), .int .i64 i] w fun e w' => e = .returned (.tuple #[.agg #[.int .i64 x, .int .i64 y, v], .bool (S.has i)]) ∧ RowV w' v (S.giv i).b ∧ RefAt w' (Gr R w w') g (S.lose i) ∧ Bx R w w' := by
  obtain ⟨lv, ov, E, Z, h1, h2, h3, h4⟩ := id h
  by_cases hi : S.has i = true
  · obtain ⟨k, rfl, hk⟩ := Ai.has_nat hi
    obtain ⟨r, d, hr, hd, e1, e2, hrow⟩ := h1.dgs.get hk
    have hre : r ∈ E := List.mem_of_getElem? hr
    have hat : S.giv (k : Int) = d := by unfold Ai.St.giv; rw [if_pos hi, Ai.at_of hk]; rw [List.getElem?_eq_getElem hk] at hd; exact Option.some.inj hd
    rw [hat, hi]
    refine ⟨r.src, r.dst, r.v, h1.dgs.cellOne r hre, e1, e2, (rcarry_yes h1 hr).mono ?_⟩
    rintro e w' ⟨rfl, lv', q1, q2, q3⟩
    exact ⟨rfl, hrow.keepx q3 (h1.sep r hre), q1.gr h2 h4 (fun b hb => .inr (q2 b hb)) (fun b hb => .inl hb) ((h3.erase k).mono (fun b hb => .inl hb)) q3⟩
  · have hi' : S.has i = false := by cases e : S.has i; rfl; exact absurd e hi
    have hg : S.giv i = Ai.zero := by unfold Ai.St.giv; rw [if_neg hi]
    have hl : S.lose i = S := by unfold Ai.St.lose; rw [if_neg hi]
    rw [hg, hi', hl]
    refine ⟨0, 0, .slice none 0 0, rfl, rfl, rfl, (rcarry_no h1 i hi').mono ?_⟩
    rintro e w' ⟨rfl, hb⟩
    exact ⟨rfl, RowV.nil _, rgr_same h hb, Bx.of_bw hb⟩
theorem rlose_at {w : World} {R : Nat → Prop} {g : Nat} {S : Ai.St} (h : RefAt w R g S) (i : Int) :
    Calls Try.prog 26 #[.pointer (some ⟨g, 0, none⟩), .int .i64 i] w fun e w' => e = .returned (.bool (S.has i)) ∧ RefAt w' (Gr R w w') g (S.lose i) ∧ Bx R w w' := by
  obtain ⟨x, y, v, ho, -, -, hc⟩ := rcarry_at h i
  refine rlose_gen i x y v (S.has i) (fun w' => RefAt w' (Gr R w w') g (S.lose i) ∧ Bx R w w') ho (fun u u' hu ku => ?_) (hc.mono ?_)
  · refine ⟨(hu.1.keep ku).more (fun b hb => hb.imp id (fun q => ⟨q.1, Nat.lt_of_lt_of_le q.2 ku.size⟩)) (gr_lt h.low (Nat.le_trans hu.2.size ku.size)), hu.2.trans (Bx.of_bw ku)⟩
  · rintro e w' ⟨rfl, -, q⟩
    exact ⟨rfl, q⟩
theorem rhold_at {w : World} {R : Nat → Prop} {g : Nat} {S : Ai.St} (h : RefAt w R g S) (i : Int) :
    Calls Try.prog 28 #[.pointer (some ⟨g, 0, none⟩), .int .i64 i] w fun e w' => e = .returned (.bool (S.has i)) ∧ RefAt w' (Gr R w w') g (S.hold i) ∧ Bx R w w' := by
  obtain ⟨lv, ov, E, Z, h1, h2, h3, h4⟩ := id h
  by_cases hi : S.has i = true
  · obtain ⟨k, rfl, hk⟩ := Ai.has_nat hi
    obtain ⟨r, d, hr, hd, e1, e2, hrow⟩ := h1.dgs.get hk
    have hre : r ∈ E := List.mem_of_getElem? hr
    rw [hi]
    refine (rhold_yes h1 hr).mono ?_
    rintro e w' ⟨rfl, lv', q1, q2, q3⟩
    exact ⟨rfl, q1.gr h2 h4 (fun b hb => .inr (q2 b hb)) (fun b hb => .inl hb) (EIn.append ((h3.erase k).mono (fun b hb => .inl hb)) (EIn.one ((h3 r hre).mono (fun b hb => .inl hb)))) q3⟩
  · have hi' : S.has i = false := by cases e : S.has i; rfl; exact absurd e hi
    have hl : S.hold i = S := by unfold Ai.St.hold; rw [if_neg hi]
    rw [hi', hl]
    refine (rhold_no i (rcarry_no h1 i hi')).mono ?_
    rintro e w' ⟨rfl, hb⟩
    exact ⟨rfl, rgr_same h hb, Bx.of_bw hb⟩
theorem rat_at {w : World} {R : Nat → Prop} {g : Nat} {S : Ai.St} (h : RefAt w R g S) (i : Int) :
    Calls Try.prog 31 #[.pointer (some ⟨g, 0, none⟩), .int .i64 i] w fun e w' => (∃ v, e = .returned (.tuple #[.agg #[.int .i64 (S.giv i).src, .int .i64 (S.giv i).dst, v], .bool (S.has i)]) ∧ RowV w' v (S.giv i).b ∧ VIn R v) ∧ Bw w w' := by
  obtain ⟨lv, ov, E, Z, h1, h2, h3, h4⟩ := id h
  by_cases hi : S.has i = true
  · obtain ⟨k, rfl, hk⟩ := Ai.has_nat hi
    obtain ⟨r, d, hr, hd, e1, e2, hrow⟩ := h1.dgs.get hk
    have hat : S.giv (k : Int) = d := by unfold Ai.St.giv; rw [if_pos hi, Ai.at_of hk]; rw [List.getElem?_eq_getElem hk] at hd; exact Option.some.inj hd
    rw [hat, hi, ← e1, ← e2]
    refine (rat_yes h1 hr).mono ?_
    rintro e w' ⟨rfl, hb⟩
    exact ⟨⟨r.v, rfl, hrow.keep hb, h3 r (List.mem_of_getElem? hr)⟩, hb⟩
  · have hi' : S.has i = false := by cases e : S.has i; rfl; exact absurd e hi
    have hg : S.giv i = Ai.zero := by unfold Ai.St.giv; rw [if_neg hi]
    rw [hg, hi']
    refine (rat_no h1 i hi').mono ?_
    rintro e w' ⟨rfl, hb⟩
    exact ⟨⟨_, rfl, RowV.nil _, VIn.nil _⟩, hb⟩
theorem rcount_at {w : World} {R : Nat → Prop} {g : Nat} {S : Ai.St} (h : RefAt w R g S) :
    Calls Try.prog 30 #[.pointer (some ⟨g, 0, none⟩)] w fun e w' => e = .returned (.int .i64 (S.L.length : Int)) ∧ w' = w := by
  obtain ⟨lv, ov, E, Z, h1, _⟩ := h
  exact rcount_any h1
theorem ris_at {w : World} {R : Nat → Prop} {g : Nat} {S : Ai.St} (h : RefAt w R g S) (hm : S.m ≤ 1000000) (p q : Int) :
    Calls Try.prog 32 #[.pointer (some ⟨g, 0, none⟩), .int .i64 p, .int .i64 q] w fun e w' => e = .returned (.bool (S.cut p q)) ∧ w' = w := by
  obtain ⟨lv, ov, E, Z, h1, _⟩ := h
  exact ris_any h1 hm p q
/-- both airs, apart, after changes of P0's, R0's and M's blocks and of new ones -/
def TwoF (P0 R0 M : Nat → Prop) (W0 W : World) (ga : Nat) (Sa : Ai.St) (gb : Nat) (Sb : Ai.St) : Prop := ∃ P R, AirAt W P ga Sa ∧ RefAt W R gb Sb ∧ (∀ b, P b → ¬ R b) ∧ (∀ b, P b → P0 b ∨ W0.heap.size ≤ b) ∧ (∀ b, R b → R0 b ∨ W0.heap.size ≤ b) ∧ Bx (fun b => P0 b ∨ R0 b ∨ M b) W0 W
namespace TwoF
variable {P0 R0 M : Nat → Prop} {W0 W W' : World} {ga gb : Nat} {Sa Sa' Sb Sb' : Ai.St}
theorem start {P0 R0 M : Nat → Prop} {W : World} {ga gb : Nat} {Sa Sb : Ai.St} (h1 : AirAt W P0 ga Sa) (h2 : RefAt W R0 gb Sb) (h3 : ∀ b, P0 b → ¬ R0 b) : TwoF P0 R0 M W W ga Sa gb Sb := ⟨P0, R0, h1, h2, h3, fun b hb => .inl hb, fun b hb => .inl hb, Bx.refl _ _⟩
theorem keep (h : TwoF P0 R0 M W0 W ga Sa gb Sb) (k : Bw W W') : TwoF P0 R0 M W0 W' ga Sa gb Sb := by
  obtain ⟨P, R, h1, h2, h3, h4, h5, h6⟩ := h
  exact ⟨P, R, h1.keep k, h2.keep k, h3, h4, h5, h6.trans (Bx.of_bw k)⟩
theorem bx (h : TwoF P0 R0 M W0 W ga Sa gb Sb) : Bx (fun b => P0 b ∨ R0 b ∨ M b) W0 W := by obtain ⟨P, R, h1, h2, h3, h4, h5, h6⟩ := h; exact h6
theorem keepm (h : TwoF P0 R0 M W0 W ga Sa gb Sb) (hM : ∀ b, M b → b < W0.heap.size ∧ ¬ P0 b ∧ ¬ R0 b) (k : Bx M W W') : TwoF P0 R0 M W0 W' ga Sa gb Sb := by
  obtain ⟨P, R, h1, h2, h3, h4, h5, h6⟩ := h
  refine ⟨P, R, h1.keepx k (fun b hb hm => ?_), h2.keepx k (fun b hb hm => ?_), h3, h4, h5, h6.trans (k.more (fun b hb => .inr (.inr hb)))⟩
  · obtain ⟨q1, q2, q3⟩ := hM b hm
    rcases h4 b hb with q | q
    · exact q2 q
    · omega
  · obtain ⟨q1, q2, q3⟩ := hM b hm
    rcases h5 b hb with q | q
    · exact q3 q
    · omega
theorem a (h : TwoF P0 R0 M W0 W ga Sa gb Sb) {f : FuncId} {args : Array Value} {φ : Ending → World → Prop} (HC : ∀ P, AirAt W P ga Sa → Calls Try.prog f args W fun e w' => φ e w' ∧ AirAt w' (Gr P W w') ga Sa' ∧ Bx P W w') : Calls Try.prog f args W fun e w' => φ e w' ∧ Hid (TwoF P0 R0 M W0 w' ga Sa' gb Sb) := by
  obtain ⟨P, R, h1, h2, h3, h4, h5, h6⟩ := h
  refine (HC P h1).mono ?_
  rintro e w' ⟨q, hA, hx⟩
  refine ⟨q, Gr P W w', R, hA, h2.keepx hx (fun b hb hp => h3 b hp hb), fun b hb hr => ?_, fun b hb => ?_, h5, h6.new hx (fun b hb hp => ?_)⟩
  · rcases hb with hb | hb
    · exact h3 b hb hr
    · have := h2.low b hr; omega
  · rcases hb with hb | hb
    · exact h4 b hb
    · exact .inr (Nat.le_trans h6.size hb.1)
  · rcases h4 b hp with q | q
    · exact .inl q
    · omega
theorem r (h : TwoF P0 R0 M W0 W ga Sa gb Sb) {f : FuncId} {args : Array Value} {φ : Ending → World → Prop} (HC : ∀ R, RefAt W R gb Sb → Calls Try.prog f args W fun e w' => φ e w' ∧ RefAt w' (Gr R W w') gb Sb' ∧ Bx R W w') : Calls Try.prog f args W fun e w' => φ e w' ∧ Hid (TwoF P0 R0 M W0 w' ga Sa gb Sb') := by
  obtain ⟨P, R, h1, h2, h3, h4, h5, h6⟩ := h
  refine (HC R h2).mono ?_
  rintro e w' ⟨q, hA, hx⟩
  refine ⟨q, P, Gr R W w', h1.keepx hx (fun b hb hp => h3 b hb hp), hA, fun b hb hr => ?_, h4, fun b hb => ?_, h6.new hx (fun b hb hp => ?_)⟩
  · rcases hr with hr | hr
    · exact h3 b hb hr
    · have := h1.low b hb; omega
  · rcases hb with hb | hb
    · exact h5 b hb
    · exact .inr (Nat.le_trans h6.size hb.1)
  · rcases h5 b hp with q | q
    · exact .inr (.inl q)
    · omega
end TwoF
theorem AirAt.gr {w w' : World} {P : Nat → Prop} {g : Nat} {S' : Ai.St} (hl : ∀ b, P b → b < w.heap.size) (h' : AirAt w' P g S') (k : Bx P w w') : AirAt w' (Gr P w w') g S' := h'.more (fun b hb => .inl hb) (gr_lt hl k.size)
end Go.Proofs.Ytjjnbpbbjaabeaa
