/- Layer 19: the program's calls over an air all of whose blocks are in P. -/
import Derived.Test.YtjjnbpbbjaabeaaTk
namespace Go.Proofs.Ytjjnbpbbjaabeaa
open Go.RowKit Go.Deep
set_option linter.unusedVariables false
set_option linter.unusedSimpArgs false

/-- P's blocks and those made since -/
def Gr (P : Nat → Prop) (w w' : World) (b : Nat) : Prop := P b ∨ (w.heap.size ≤ b ∧ b < w'.heap.size)
theorem AirX.at {w : World} {P : Nat → Prop} {g gm : Nat} {v : Value} {E : List Raw} {S : Ai.St} (h : AirX w g v gm E S) (h1 : ∀ b, aIn g v gm b → P b) (h2 : EIn P E) (h3 : ∀ b, P b → b < w.heap.size) : AirAt w P g S := ⟨v, gm, E, h, h1, h2, h3⟩
theorem push_at {w w' : World} {P : Nat → Prop} {g gm : Nat} {v : Value} {E : List Raw} {S : Ai.St} {d : Ai.Dg} (h1 : ∀ b, aIn g v gm b → P b) (h2 : EIn P E) (h3 : ∀ b, P b → b < w.heap.size) (h : PushEnds w g v gm E S d w') :
    AirAt w' (Gr P w w') g { S with L := S.L ++ [d] } ∧ Bx P w w' := by
  obtain ⟨v', r, hA, hv, hr, hx⟩ := h
  have hs := hx.size
  refine ⟨⟨v', gm, E ++ [r], hA, fun b hb => ?_, EIn.append (h2.mono (fun b hb => .inl hb)) (EIn.one (fun b o n c e h0 => ?_)), fun b hb => ?_⟩, hx.more h1⟩
  · rcases hb with hb | hb | hb
    · exact .inl (h1 b (.inl hb))
    · exact .inl (h1 b (.inr (.inl hb)))
    · rcases hv b hb with h4 | h4
      · exact .inl (h1 b (.inr (.inr h4)))
      · exact .inr ⟨h4, hA.inlt b (.inr (.inr hb))⟩
  · have hl : b < w'.heap.size := hA.dgs.low r (List.mem_append_right _ (List.mem_singleton.2 rfl)) b o n c e h0
    exact (hr P h2 b o n c e h0).imp id (fun h4 => ⟨h4, hl⟩)
  · rcases hb with hb | hb
    · exact Nat.lt_of_lt_of_le (h3 b hb) hs
    · exact hb.2
theorem gr_same {w w' : World} {P : Nat → Prop} {g : Nat} {S : Ai.St} (h : AirAt w P g S) (k : Bw w w') : AirAt w' (Gr P w w') g S := (h.keep k).more (fun b hb => .inl hb) (fun b hb => by
  rcases hb with hb | hb
  · exact Nat.lt_of_lt_of_le (h.low b hb) k.size
  · exact hb.2)
theorem send_at {w : World} {P : Nat → Prop} {g : Nat} {S : Ai.St} (h : AirAt w P g S) {d : Ai.Dg} {u : Value} (hs : In64 d.src) (ht : In64 d.dst) (hu : RowV w u d.b) :
    Calls Try.prog 15 #[.pointer (some ⟨g, 0, none⟩), .agg #[.int .i64 d.src, .int .i64 d.dst, u]] w fun e w' => e = .returned (.int .i64 (S.sendE d)) ∧ AirAt w' (Gr P w w') g (S.send d) ∧ Bx P w w' := by
  obtain ⟨v, gm, E, h1, h2, h3, h4⟩ := id h
  refine (send_any h1 hs ht hu).mono ?_
  rintro e w' ⟨rfl, ⟨hg, hp⟩ | ⟨hg, hb⟩⟩
  · obtain ⟨q1, q2⟩ := push_at h2 h3 h4 hp
    refine ⟨rfl, ?_, q2⟩
    unfold Ai.St.send
    rw [if_pos hg]; exact q1
  · refine ⟨rfl, ?_, Bx.of_bw hb⟩
    unfold Ai.St.send
    rw [if_neg (by rw [hg]; decide)]; exact gr_same h hb
theorem twice_at {w : World} {P : Nat → Prop} {g : Nat} {S : Ai.St} (h : AirAt w P g S) (i : Int) :
    Calls Try.prog 19 #[.pointer (some ⟨g, 0, none⟩), .int .i64 i] w fun e w' => e = .returned (.bool (S.dbl i)) ∧ AirAt w' (Gr P w w') g (S.twice i) ∧ Bx P w w' := by
  obtain ⟨v, gm, E, h1, h2, h3, h4⟩ := id h
  by_cases hi : S.has i = true
  · by_cases hf : S.L.length < 4096
    · have hd : S.dbl i = true := by unfold Ai.St.dbl; rw [hi, decide_eq_true hf]; rfl
      obtain ⟨k, rfl, hk⟩ := Ai.has_nat hi
      refine (dbl_yes h1 hk hf).mono ?_
      rintro e w' ⟨rfl, hp⟩
      obtain ⟨q1, q2⟩ := push_at h2 h3 h4 hp
      refine ⟨by rw [hd], ?_, q2⟩
      unfold Ai.St.twice
      rw [if_pos hd]; exact q1
    · have hd : S.dbl i = false := by unfold Ai.St.dbl; rw [decide_eq_false hf, Bool.and_false]
      refine (dbl_full h1 hi (by omega)).mono ?_
      rintro e w' ⟨rfl, rfl⟩
      refine ⟨by rw [hd], ?_, Bx.refl _ _⟩
      unfold Ai.St.twice
      rw [if_neg (by rw [hd]; decide)]; exact gr_same h (Bw.refl _)
  · have hi' : S.has i = false := by cases e : S.has i; rfl; exact absurd e hi
    have hd : S.dbl i = false := by unfold Ai.St.dbl; rw [hi', Bool.false_and]
    have HH := has_any h1 i
    rw [hi'] at HH
    refine (dbl_no (some ⟨g, 0, none⟩) i HH).mono ?_
    rintro e w' ⟨rfl, rfl⟩
    refine ⟨by rw [hd], ?_, Bx.refl _ _⟩
    unfold Ai.St.twice
    rw [if_neg (by rw [hd]; decide)]; exact gr_same h (Bw.refl _)
theorem hold_at {w : World} {P : Nat → Prop} {g : Nat} {S : Ai.St} (h : AirAt w P g S) (i : Int) :
    Calls Try.prog 20 #[.pointer (some ⟨g, 0, none⟩), .int .i64 i] w fun e w' => e = .returned (.bool (S.has i)) ∧ AirAt w' P g (S.hold i) ∧ Bx P w w' := by
  obtain ⟨v, gm, E, h1, h2, h3, h4⟩ := id h
  by_cases hi : S.has i = true
  · rw [hi]
    obtain ⟨k, rfl, hk⟩ := Ai.has_nat hi
    refine (hold_yes h1 hk).mono ?_
    rintro e w' ⟨E', rfl, hA, hQ, hx⟩
    exact ⟨rfl, hA.at h2 (hQ P h3) (fun b hb => Nat.lt_of_lt_of_le (h4 b hb) hx.size), hx.more (fun b hb => h2 b (.inr (.inr hb)))⟩
  · have hi' : S.has i = false := by cases e : S.has i; rfl; exact absurd e hi
    have HH := has_any h1 i
    rw [hi'] at HH ⊢
    refine (hold_no (some ⟨g, 0, none⟩) i HH).mono ?_
    rintro e w' ⟨rfl, rfl⟩
    refine ⟨rfl, ?_, Bx.refl _ _⟩
    unfold Ai.St.hold
    rw [if_neg hi]; exact h
theorem lose_at {w : World} {P : Nat → Prop} {g : Nat} {S : Ai.St} (h : AirAt w P g S) (i : Int) :
    Calls Try.prog 18 #[.pointer (some ⟨g, 0, none⟩), .int .i64 i] w fun e w' => e = .returned (.bool (S.has i)) ∧ AirAt w' P g (S.lose i) ∧ Bx P w w' := by
  obtain ⟨v, gm, E, h1, h2, h3, h4⟩ := id h
  by_cases hi : S.has i = true
  · rw [hi]
    obtain ⟨k, rfl, hk⟩ := Ai.has_nat hi
    refine (lose_yes h1 hk).mono ?_
    rintro e w' ⟨rfl, E', v', hA, hv, hQ, hx⟩
    refine ⟨rfl, hA.at (fun b hb => h2 b ?_) (hQ P h3) (fun b hb => Nat.lt_of_lt_of_le (h4 b hb) hx.size), hx.more (fun b hb => h2 b (hb.imp id .inr))⟩
    exact hb.imp id (fun h => h.imp id (fun h => by rw [← hv]; exact h))
  · have hi' : S.has i = false := by cases e : S.has i; rfl; exact absurd e hi
    have HH := has_any h1 i
    rw [hi'] at HH ⊢
    refine (lose_no (some ⟨g, 0, none⟩) i HH).mono ?_
    rintro e w' ⟨rfl, rfl⟩
    refine ⟨rfl, ?_, Bx.refl _ _⟩
    unfold Ai.St.lose
    rw [if_neg hi]; exact h
theorem at_at {w : World} {P : Nat → Prop} {g : Nat} {S : Ai.St} (h : AirAt w P g S) (i : Int) :
    Calls Try.prog 13 #[.pointer (some ⟨g, 0, none⟩), .int .i64 i] w fun e w' => Gave w w' (S.giv i) (S.has i) e ∧ Bw w w' := by
  obtain ⟨v, gm, E, h1, h2, h3, h4⟩ := h
  unfold Ai.St.giv
  by_cases hi : S.has i = true
  · rw [if_pos hi, hi]
    obtain ⟨k, rfl, hk⟩ := Ai.has_nat hi
    rw [Ai.at_of hk]
    refine (at_yes h1 hk).mono ?_
    rintro e w' ⟨v', rfl, hr, hv, hb⟩
    exact ⟨⟨v', rfl, hr, hv⟩, hb⟩
  · have hi' : S.has i = false := by cases e : S.has i; rfl; exact absurd e hi
    rw [if_neg hi, hi']
    refine (at_no (some ⟨g, 0, none⟩) i (fun u hu => by have HH := has_any (h1.keep hu) i; rw [hi'] at HH; exact HH)).mono ?_
    rintro e w' ⟨rfl, hb⟩
    exact ⟨⟨_, rfl, RowV.nil _, VIn.nil _⟩, hb⟩
theorem carry_at {w : World} {P : Nat → Prop} {g : Nat} {S : Ai.St} (h : AirAt w P g S) (i : Int) :
    Calls Try.prog 14 #[.pointer (some ⟨g, 0, none⟩), .int .i64 i] w fun e w' => Gave w w' (S.giv i) (S.has i) e ∧ AirAt w' P g (S.lose i) ∧ Bx P w w' :=
  carry_gen (some ⟨g, 0, none⟩) i (S.giv i) (S.has i) (S.has i) P (fun u => AirAt u P g (S.lose i)) h.low (fun u hu => at_at (h.keep hu) i) (fun u hu => lose_at (h.keep hu) i)
    (fun u u' hR hx => hR.keepx hx (fun b hb e => by have := h.low b hb; omega))
theorem count_at {w : World} {P : Nat → Prop} {g : Nat} {S : Ai.St} (h : AirAt w P g S) :
    Calls Try.prog 16 #[.pointer (some ⟨g, 0, none⟩)] w fun e w' => e = .returned (.int .i64 (S.L.length : Int)) ∧ w' = w := by
  obtain ⟨v, gm, E, h1, _⟩ := h
  exact count_any h1
theorem is_at {w : World} {P : Nat → Prop} {g : Nat} {S : Ai.St} (h : AirAt w P g S) {p q : Int} (hp : In64 p) (hq : In64 q) :
    Calls Try.prog 22 #[.pointer (some ⟨g, 0, none⟩), .int .i64 p, .int .i64 q] w fun e w' => e = .returned (.bool (S.cut p q)) ∧ Bw w w' := by
  obtain ⟨v, gm, E, h1, _⟩ := h
  exact is_any h1 hp hq
/-- what Cut answers -/
def Ai.St.cutE (S : Ai.St) (p q : Int) : Int := if (S.is p && S.is q) = true then 0 else 1
theorem cut_at {w : World} {P : Nat → Prop} {g : Nat} {S : Ai.St} (h : AirAt w P g S) {p q : Int} (hp : In64 p) (hq : In64 q) (off : Bool) (hm : S.m ≤ 1000000) :
    Calls Try.prog 21 #[.pointer (some ⟨g, 0, none⟩), .int .i64 p, .int .i64 q, .bool off] w fun e w' => e = .returned (.int .i64 (S.cutE p q)) ∧ AirAt w' P g (S.cutW p q off) ∧ Bx P w w' := by
  obtain ⟨v, gm, E, h1, h2, h3, h4⟩ := h
  refine (cut_any h1 hp hq off hm).mono ?_
  rintro e w' ⟨rfl, hA, hx⟩
  exact ⟨rfl, hA.at h2 h3 (fun b hb => Nat.lt_of_lt_of_le (h4 b hb) hx.size), hx.more (fun b hb => h2 b (.inr (.inl hb)))⟩
theorem new_at (m : Nat) (h1 : 1 ≤ m) (h2 : m ≤ 64) (w : World) :
    Calls Try.prog 9 #[.int .i64 (m : Int)] w fun e w' => ∃ g, e = .returned (.tuple #[.pointer (some ⟨g, 0, none⟩), .int .i64 0]) ∧ AirAt w' (Gr (fun _ => False) w w') g (Ai.new m) ∧ Bw w w' := by
  refine (new_any (m : Int) w).mono ?_
  rintro e w' (⟨h, _⟩ | ⟨h, _⟩ | ⟨m', g, gm, e1, _, _, rfl, hA, hg, hgm, hb⟩)
  · omega
  · omega
  · obtain rfl : m' = m := by omega
    refine ⟨g, rfl, hA.at (fun b hb => .inr ⟨?_, hA.inlt b hb⟩) (fun r hr => by cases hr) (fun b hb => by rcases hb with hb | hb; exact hb.elim; exact hb.2), hb⟩
    rcases hb with hb | hb | hb
    · rw [hb]; exact hg
    · rw [hb]; exact hgm
    · cases hb
end Go.Proofs.Ytjjnbpbbjaabeaa
