/- Layer 15: what Add and Rewrite make of a journal on a disk; wakes. -/
import Derived.Test.YtppknadflmjefaaWQ
import Derived.Lib.SlBytesConst
namespace Go.Proofs.Ytppknadflmjefaa
open Go.RowKit Go.Deep Go.Maps
set_option linter.unusedVariables false
set_option linter.unusedSimpArgs false

namespace Jl
theorem Inv.plen {J : Jn} {S : Dsk} (h : Inv J S) : (packed J.L).length = J.h.len := by rw [← h.dat, data_len]
theorem Inv.few {J : Jn} {S : Dsk} (h : Inv J S) : J.Few := by unfold Jn.Few; rw [← h.plen]; exact packed_len J.L
/-- how an Add or a Rewrite ends on a disk; L' : the records behind it -/
def AddEnds (J : Jn) (S : Dsk) (L' : List (List Nat)) (P : Int × Dsk × Jn) : Prop :=
  (P.1 = 0 ∧ Inv P.2.2 P.2.1 ∧ P.2.2.L = L' ∧ P.2.2.r0 = J.r0 ∧ P.2.2.rc = J.rc ∧ P.2.2.h.n ≤ J.h.n + 1 ∧ (S.fuse = -1 → P.2.1.fuse = -1) ∧ P.2.1.n = S.n ∧ ∀ p, Outs J p → P.2.1.last p = S.last p) ∨
  ((P.1 = 2 ∨ P.1 = 3) ∧ P.2.1 = S ∧ P.2.2 = J) ∨
  (P.1 = 140 ∧ S.fuse ≠ -1 ∧ P.2.1.n = S.n ∧ ∀ K m, ∃ J', Inv J' (P.2.1.again K m) ∧ (J'.L = J.L ∨ J'.L = L') ∧ J'.r0 = J.r0 ∧ J'.rc = J.rc ∧ J'.h.n ≤ J.h.n + 1 ∧ ∀ p, Outs J p → (P.2.1.again K m).last p = S.last p)
theorem may_not {J : Jn} {l : List (List Nat)} {rm : Nat} (hd : J.dead = false) : may J l rm = 0 ∨ may J l rm = 2 ∨ may J l rm = 3 := by
  unfold may
  rw [hd, if_neg (by decide)]
  split
  · exact .inr (.inl rfl)
  split
  · exact .inr (.inr rfl)
  · exact .inl rfl
theorem ends_of {J : Jn} {S : Dsk} {nx : Hed} {L' : List (List Nat)} {P : Int × Dsk × Jn} (h : Inv J S) (en : nx.n ≤ J.h.n + 1) (hp : PutEnds J S nx L' P) : AddEnds J S L' (withL J P L') := by
  rcases hp with ⟨h1, h2, h3, h4, h5, h6⟩ | ⟨h1, h2, h3, h4⟩
  · have e : withL J P L' = (0, P.2.1, ⟨J.r0, J.rc, nx, L', false⟩) := by
      unfold withL
      rw [if_pos h1, h1, h3]
      have := h.dead
      cases J
      simp only at this
      subst this
      rfl
    rw [e]
    exact .inl ⟨rfl, h2, rfl, rfl, rfl, en, h4, h5, h6⟩
  · have e : withL J P L' = P := by unfold withL; rw [if_neg (by rw [h1]; decide)]
    rw [e]
    refine .inr (.inr ⟨h1, h2, h3, fun K m => ?_⟩)
    obtain ⟨hi, ho⟩ := h4 K m
    rcases hi with hi | hi
    · exact ⟨J, hi, .inl rfl, rfl, rfl, by omega, ho⟩
    · exact ⟨_, hi, .inr rfl, rfl, rfl, en, ho⟩
theorem next_n {J : Jn} {area at_ : Nat} {B : List Nat} : (next J area at_ B).n ≤ J.h.n + 1 := Nat.mod_le _ _
theorem add_inv {J : Jn} {S : Dsk} {l : List (List Nat)} (h : Inv J S) (nb : J.h.n + 1 < 1000000) (hb : ∀ r ∈ l, Byt r) : AddEnds J S (J.L ++ l) (add J S l) := by
  unfold add
  rcases may_not (l := l) (rm := room J.rc - J.h.len) h.dead with hm | hm
  · rw [hm, if_neg (by decide)]
    obtain ⟨_, h65, hpl⟩ := may_ok hm
    have hlen := h.len
    by_cases h0 : l.length = 0
    · rw [if_pos h0]
      obtain rfl : l = [] := List.length_eq_zero_iff.1 h0
      rw [List.append_nil]
      exact .inl ⟨rfl, h, rfl, rfl, rfl, Nat.le_succ _, id, rfl, fun p _ => rfl⟩
    · rw [if_neg h0]
      refine ends_of h next_n (put_inv h nb h.area (by omega) (packed_byt l hb h65) (.inl ⟨rfl, Nat.le_refl _⟩) (fun r hr => ?_) ?_)
      · rcases List.mem_append.1 hr with hr | hr
        · exact h.lens r hr
        · exact h65 r hr
      · rw [h.dat, packed_append]
  · rw [if_pos (by rcases hm with hm | hm <;> rw [hm] <;> decide)]
    exact .inr (.inl ⟨hm, rfl, rfl⟩)
theorem rew_inv {J : Jn} {S : Dsk} {l : List (List Nat)} (h : Inv J S) (nb : J.h.n + 1 < 1000000) (hb : ∀ r ∈ l, Byt r) : AddEnds J S l (rew J S l) := by
  unfold rew
  rcases may_not (l := l) (rm := room J.rc) h.dead with hm | hm
  · rw [hm, if_neg (by decide)]
    obtain ⟨_, h65, hpl⟩ := may_ok hm
    have ha := h.area
    refine ends_of h next_n (put_inv h nb (by omega) (by omega) (packed_byt l hb h65) (.inr (by omega)) h65 ?_)
    rfl
  · rw [if_pos (by rcases hm with hm | hm <;> rw [hm] <;> decide)]
    exact .inr (.inl ⟨hm, rfl, rfl⟩)
theorem Inv.open_ {J : Jn} {S : Dsk} (h : Inv J S) : openE S (J.r0 : Int) (J.rc : Int) = 0 ∧ openJ S (J.r0 : Int) (J.rc : Int) = some J := by
  have h1 := h.opn
  have e : openE S (J.r0 : Int) (J.rc : Int) = 0 := by
    unfold openE
    have := h.rc4
    have := h.inR
    rw [if_neg (by omega), h.calm.alive, if_neg (by decide), Int.toNat_natCast, Int.toNat_natCast, h1, if_neg (by simp)]
  refine ⟨e, ?_⟩
  unfold openJ
  rw [e, if_pos rfl, Int.toNat_natCast, Int.toNat_natCast, h1]
def wl : List (List Nat) := [[97], [98, 99]]
theorem wl_byt : ∀ r ∈ wl, Byt r := by show ∀ r ∈ wl, ∀ b ∈ r, b < 256; decide
theorem wl_pb : Byt (packed wl) := by show ∀ b ∈ packed wl, b < 256; decide
theorem wl_may : may ⟨0, 10, no, [], false⟩ wl (room 10 - 0) = 0 := by decide
theorem wk_add : ∃ S1 J1, add ⟨0, 10, no, [], false⟩ (Dsk.new 10) wl = (0, S1, J1) ∧ Inv J1 S1 ∧ J1.L = wl ∧ J1.r0 = 0 ∧ J1.rc = 10 ∧ J1.h.n = 1 ∧ J1.h.len = 7 ∧ S1.n = 10 := by
  have h := inv_new 10 0 10 (by decide) (by decide) (by decide)
  have ha := add_inv (l := wl) h (by show 0 + 1 < 1000000; decide) wl_byt
  rcases ha with ⟨h1, h2, h3, h4, h5, h6, h7, h8, h9⟩ | ⟨h1, h2, h3⟩ | ⟨h1, h2, _⟩
  · refine ⟨_, _, by rw [← h1], h2, h3, h4, h5, ?_, ?_, h8⟩
    · have e : add ⟨0, 10, no, [], false⟩ (Dsk.new 10) wl = withL ⟨0, 10, no, [], false⟩ (put ⟨0, 10, no, [], false⟩ (Dsk.new 10) (packed wl) 0 0) wl := by
        unfold add
        show (if may ⟨0, 10, no, [], false⟩ wl (room 10 - 0) ≠ 0 then _ else _) = _
        rw [wl_may]
        rfl
      rw [e] at h1 ⊢
      have h1' : (put ⟨0, 10, no, [], false⟩ (Dsk.new 10) (packed wl) 0 0).1 = 0 := h1
      unfold withL
      rw [if_pos h1']
      show (put ⟨0, 10, no, [], false⟩ (Dsk.new 10) (packed wl) 0 0).2.2.h.n = 1
      unfold put put3 at h1' ⊢
      show (if _ then _ else _ : Jn).h.n = 1
      rw [if_pos h1']
      rfl
    · have := h2.plen
      rw [h3] at this
      rw [← this]
      rfl
  · exfalso
    unfold add at h1
    have e := wl_may
    change (if may ⟨0, 10, no, [], false⟩ wl (room 10 - 0) ≠ 0 then (may ⟨0, 10, no, [], false⟩ wl (room 10 - 0), Dsk.new 10, (⟨0, 10, no, [], false⟩ : Jn)) else _).1 = 2 ∨ (if may ⟨0, 10, no, [], false⟩ wl (room 10 - 0) ≠ 0 then (may ⟨0, 10, no, [], false⟩ wl (room 10 - 0), Dsk.new 10, (⟨0, 10, no, [], false⟩ : Jn)) else _).1 = 3 at h1
    rw [e] at h1
    rcases add_inv (l := wl) h (by show 0 + 1 < 1000000; decide) wl_byt with hh | hh | hh
    · have h5 := hh.2.2.1
      rw [h3] at h5
      cases h5
    · have : put ⟨0, 10, no, [], false⟩ (Dsk.new 10) (packed wl) 0 0 = put ⟨0, 10, no, [], false⟩ (Dsk.new 10) (packed wl) 0 0 := rfl
      have hp := put_inv (B := packed wl) (area := 0) (at_ := 0) (L' := wl) h (by show 0 + 1 < 1000000; decide) (by decide) (by decide) wl_pb (.inl ⟨rfl, Nat.le_refl _⟩) (by decide) rfl
      rcases hp with hp | hp
      · rcases h1 with h1 | h1
        · have : (put ⟨0, 10, no, [], false⟩ (Dsk.new 10) (packed wl) 0 0).1 = 2 := h1
          rw [hp.1] at this; cases this
        · have : (put ⟨0, 10, no, [], false⟩ (Dsk.new 10) (packed wl) 0 0).1 = 3 := h1
          rw [hp.1] at this; cases this
      · exact hp.2.1 rfl
    · exact hh.2.1 rfl
  · exact absurd rfl h2
end Jl
end Go.Proofs.Ytppknadflmjefaa
