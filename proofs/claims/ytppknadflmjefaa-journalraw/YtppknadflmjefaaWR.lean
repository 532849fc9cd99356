/- Layer 15: what Add and Rewrite make of a journal on a disk; wakes. -/
import Derived.Test.YtppknadflmjefaaWO
import Derived.Lib.SlBytesConst
namespace Go.Proofs.Ytppknadflmjefaa
set_option linter.unusedVariables false
set_option linter.unusedSimpArgs false
namespace Jl

theorem half_two (rc : Nat) (h : 4 ≤ rc) : 2 * half rc + 2 ≤ rc ∧ 1 ≤ half rc := by unfold half; omega
theorem start_area (r0 rc a b : Nat) (ha : a ≤ 1) (hb : b ≤ 1) (hne : a ≠ b) : start r0 rc a + half rc ≤ start r0 rc b ∨ start r0 rc b + half rc ≤ start r0 rc a := by
  unfold start
  rcases Nat.le_one_iff_eq_zero_or_eq_one.1 ha with rfl | rfl <;> rcases Nat.le_one_iff_eq_zero_or_eq_one.1 hb with rfl | rfl <;> omega
theorem start_le (r0 rc a : Nat) (h4 : 4 ≤ rc) (ha : a ≤ 1) : r0 + 2 ≤ start r0 rc a ∧ start r0 rc a + half rc ≤ r0 + rc := by
  have := half_two rc h4
  unfold start
  rcases Nat.le_one_iff_eq_zero_or_eq_one.1 ha with rfl | rfl <;> omega
theorem secs_le {rc n : Nat} (h : n ≤ room rc) : secs n ≤ half rc := by unfold secs room at *; omega
theorem rowB_bd {S : Dsk} (h : Calm S) (y c : Nat) {B : List Nat} (hB : Byt B) (i : Nat) : 0 ≤ rowB (fun i => S.read (y + i)) c B i ∧ rowB (fun i => S.read (y + i)) c B i < 256 := by
  unfold rowB
  split
  · show 0 ≤ S.read (y + i) ∧ S.read (y + i) < 256
    rw [h.read]; exact h.lb _
  · exact rowL_bd hB _
/-- what is outside of a region -/
def Outs (J : Jn) (p : Nat) : Prop := p / 64 < J.r0 ∨ J.r0 + J.rc ≤ p / 64
/-- where the data's write lies -/
structure Where (J : Jn) (S : Dsk) (B : List Nat) (area at_ : Nat) : Prop where
  ha : area ≤ 1
  hat : at_ + B.length ≤ room J.rc
  byt : Byt B
  sep : area = J.h.area ∧ J.h.len ≤ at_ ∨ area ≠ J.h.area
  pos : 0 < B.length
def wx (J : Jn) (area at_ : Nat) : Nat := start J.r0 J.rc area + at_ / 64
def wk (B : List Nat) (at_ : Nat) : Nat := secs (at_ % 64 + B.length)
def wf (J : Jn) (S : Dsk) (B : List Nat) (area at_ : Nat) : Nat → Int := rowB (fun i => S.read (64 * wx J area at_ + i)) (at_ % 64) B
theorem wx_in {J : Jn} {S : Dsk} {B : List Nat} {area at_ : Nat} (h : Inv J S) (w : Where J S B area at_) : start J.r0 J.rc area ≤ wx J area at_ ∧ wx J area at_ + wk B at_ ≤ start J.r0 J.rc area + half J.rc := by
  have h1 := secs_le w.hat
  unfold wx wk
  have h2 : at_ / 64 + secs (at_ % 64 + B.length) ≤ secs (at_ + B.length) := by unfold secs; omega
  omega
/-- what stood there stays, however much of the write was kept -/
theorem write_keeps {J : Jn} {S S' : Dsk} {B : List Nat} {area at_ : Nat} (h : Inv J S) (w : Where J S B area at_) (T : Nat → Prop) [DecidablePred T] (c : Calm S') (hn : S'.n = S.n)
    (hl : ∀ p, S'.last p = if (wx J area at_ ≤ p / 64 ∧ p / 64 < wx J area at_ + wk B at_) ∧ T p then wf J S B area at_ (p - 64 * wx J area at_) else S.last p) : Inv J S' := by
  have h1 := wx_in h w
  have h2 := start_le J.r0 J.rc area h.rc4 w.ha
  have h3 := start_le J.r0 J.rc J.h.area h.rc4 h.area
  have hlen := h.len
  refine h.congr c hn (fun p hp1 hp2 => ?_) (fun i hi => ?_)
  · rw [hl, if_neg (fun e => by omega)]
  · rw [hl]
    by_cases e : (wx J area at_ ≤ (64 * start J.r0 J.rc J.h.area + i) / 64 ∧ (64 * start J.r0 J.rc J.h.area + i) / 64 < wx J area at_ + wk B at_) ∧ T (64 * start J.r0 J.rc J.h.area + i)
    · rw [if_pos e]
      have e1 := e.1
      have hr : room J.rc = half J.rc * 64 := rfl
      rcases w.sep with ⟨ea, el⟩ | ea
      · have es : start J.r0 J.rc area = start J.r0 J.rc J.h.area := by rw [ea]
        have elt : 64 * start J.r0 J.rc J.h.area + i - 64 * wx J area at_ < at_ % 64 := by unfold wx at *; omega
        unfold wf rowB
        rw [if_pos elt]
        show S.read (64 * wx J area at_ + (64 * start J.r0 J.rc J.h.area + i - 64 * wx J area at_)) = _
        rw [h.calm.read]
        congr 1
        omega
      · exfalso
        rcases start_area J.r0 J.rc area J.h.area w.ha h.area ea with hh | hh <;> omega
    · rw [if_neg e]
theorem write_data {J : Jn} {S S' : Dsk} {B : List Nat} {area at_ : Nat} (h : Inv J S) (w : Where J S B area at_)
    (hl : ∀ p, S'.last p = if wx J area at_ ≤ p / 64 ∧ p / 64 < wx J area at_ + wk B at_ then wf J S B area at_ (p - 64 * wx J area at_) else S.last p) :
    data (fun i => S'.last (64 * start J.r0 J.rc area + i)) (at_ + B.length) = data (fun i => S.last (64 * start J.r0 J.rc area + i)) at_ ++ B := by
  have h1 := wx_in h w
  rw [data_add]
  congr 1
  · refine data_congr (fun i hi => ?_)
    rw [hl]
    by_cases e : wx J area at_ ≤ (64 * start J.r0 J.rc area + i) / 64 ∧ (64 * start J.r0 J.rc area + i) / 64 < wx J area at_ + wk B at_
    · rw [if_pos e]
      have elt : 64 * start J.r0 J.rc area + i - 64 * wx J area at_ < at_ % 64 := by unfold wx at *; omega
      unfold wf rowB
      rw [if_pos elt]
      show S.read (64 * wx J area at_ + (64 * start J.r0 J.rc area + i - 64 * wx J area at_)) = _
      rw [h.calm.read]
      congr 1
      omega
    · rw [if_neg e]
  · refine Eq.trans (data_congr (g := rowL B) (fun i hi => ?_)) (data_rowL B)
    show S'.last (64 * start J.r0 J.rc area + (at_ + i)) = _
    have e : wx J area at_ ≤ (64 * start J.r0 J.rc area + (at_ + i)) / 64 ∧ (64 * start J.r0 J.rc area + (at_ + i)) / 64 < wx J area at_ + wk B at_ := by unfold wx wk secs; omega
    rw [hl, if_pos e]
    unfold wf rowB
    have e2 : ¬ 64 * start J.r0 J.rc area + (at_ + i) - 64 * wx J area at_ < at_ % 64 := by unfold wx; omega
    rw [if_neg e2]
    congr 1
    unfold wx; omega
/-- how a put ends on a disk -/
def PutEnds (J : Jn) (S : Dsk) (nx : Hed) (L' : List (List Nat)) (P : Int × Dsk × Jn) : Prop :=
  (P.1 = 0 ∧ Inv ⟨J.r0, J.rc, nx, L', false⟩ P.2.1 ∧ P.2.2 = { J with h := nx } ∧ (S.fuse = -1 → P.2.1.fuse = -1) ∧ P.2.1.n = S.n ∧ ∀ p, Outs J p → P.2.1.last p = S.last p) ∨
  (P.1 = 140 ∧ S.fuse ≠ -1 ∧ P.2.1.n = S.n ∧ ∀ K m, (Inv J (P.2.1.again K m) ∨ Inv ⟨J.r0, J.rc, nx, L', false⟩ (P.2.1.again K m)) ∧ ∀ p, Outs J p → (P.2.1.again K m).last p = S.last p)
theorem head_put {J : Jn} {S S1 : Dsk} {B : List Nat} {area at_ : Nat} {L' : List (List Nat)} (h : Inv J S1) (hn1 : S1.n = S.n) (hfu : S.fuse = -1 → S1.fuse = -1) (hout : ∀ p, Outs J p → S1.last p = S.last p) (hB : putB S J.r0 J.rc area at_ B = (0, S1)) (nb : J.h.n + 1 < 1000000) (ha : area ≤ 1) (hat : at_ + B.length ≤ room J.rc) (hL : ∀ r ∈ L', r.length ≤ 65535)
    (hd : data (fun i => S1.last (64 * start J.r0 J.rc area + i)) (at_ + B.length) = packed L') : PutEnds J S (next J area at_ B) L' (put J S B area at_) := by
  have en : (next J area at_ B).n = J.h.n + 1 := by show (J.h.n + 1) % 18446744073709551616 = _; omega
  obtain ⟨nx, hnx⟩ : ∃ nx, next J area at_ B = nx := ⟨_, rfl⟩
  have na : nx.area = area := by rw [← hnx]; rfl
  have nl : nx.len = at_ + B.length := by rw [← hnx]; rfl
  rw [hnx] at en ⊢
  have h4 := h.rc4
  have hs := start_le J.r0 J.rc area h4 ha
  have hs2 := start_le J.r0 J.rc J.h.area h4 h.area
  have m2 : (J.h.n + 1) % 2 < 2 := Nat.mod_lt _ (by decide)
  have m1 : J.h.n % 2 < 2 := Nat.mod_lt _ (by decide)
  have hne : J.h.n % 2 ≠ (J.h.n + 1) % 2 := by omega
  rcases last_cases h.calm (J.r0 + nx.n % 2) 1 (hb nx) (hb_bd nx) with ⟨e1, e2, e3⟩ | ⟨e1, e2, e3⟩
  · obtain ⟨S2, hS2⟩ : ∃ S2, (last S1 (J.r0 + nx.n % 2) 1 (hb nx)).2 = S2 := ⟨_, rfl⟩
    have hP : put J S B area at_ = (0, S2, { J with h := nx }) := by
      rw [put_good hB (S2 := S2) (by rw [hnx]; exact Prod.ext e1 hS2), hnx]
    rw [hS2] at e2 e3
    rw [hP]
    refine .inl ⟨rfl, ?_, rfl, fun f => e3 (hfu f), e2.n.trans hn1, fun p hp => ?_⟩
    · refine h.nexts e2.calm e2.n nx L' en nb (by rw [na]; exact ha) (by rw [nl]; exact hat) hL (fun i hi => ?_) (fun i hi => ?_) ?_
      · show S2.last _ = _
        rw [e2.last, en, if_pos (by omega)]
        congr 1
        omega
      · show S2.last _ = S1.last _
        rw [e2.last, en, if_neg (by omega)]
      · rw [na, nl, ← hd]
        exact data_congr (fun i _ => by rw [e2.last, en, if_neg (by omega)])
    · show S2.last p = _
      rw [e2.last, en, if_neg (by unfold Outs at hp; omega), hout p hp]
  · obtain ⟨S2, hS2⟩ : ∃ S2, (last S1 (J.r0 + nx.n % 2) 1 (hb nx)).2 = S2 := ⟨_, rfl⟩
    have hP : put J S B area at_ = (140, S2, { J with dead := true }) := put_bad2 hB (S2 := S2) (by rw [hnx]; exact Prod.ext e1 hS2) (by decide)
    rw [hS2] at e3
    rw [hP]
    refine .inr ⟨rfl, fun f => e2 (hfu f), e3.n.trans hn1, fun K m => ?_⟩
    obtain ⟨cm, C, hC, hl⟩ := e3.back K m
    have hn3 : (S2.again K m).n = S1.n := e3.n
    rw [en] at hl
    refine ⟨?_, fun p hp => by show (S2.again K m).last p = _; rw [hl, if_neg (by unfold Outs at hp; omega), hout p hp]⟩
    by_cases hc : C (J.r0 + (J.h.n + 1) % 2) ≤ 63
    · left
      refine h.torn cm hn3 (hb nx) (by rw [← en]; exact ends_hb nx) _ hc (fun i hi => ?_) (fun i hi => ?_) (fun i hi => ?_)
      · show (S2.again K m).last _ = _
        rw [hl]
        unfold tear
        have e : (64 * (J.r0 + (J.h.n + 1) % 2) + i) / 64 = J.r0 + (J.h.n + 1) % 2 := by omega
        rw [e]
        by_cases hi2 : i < C (J.r0 + (J.h.n + 1) % 2)
        · rw [if_pos (by omega), if_pos hi2]; congr 1; omega
        · rw [if_neg (by omega), if_neg hi2]; rfl
      · show (S2.again K m).last _ = S1.last _
        rw [hl, if_neg (by omega)]
      · rw [hl, if_neg (by omega)]
    · right
      have hc64 : C (J.r0 + (J.h.n + 1) % 2) = 64 := by have := hC (J.r0 + (J.h.n + 1) % 2); omega
      refine h.nexts cm hn3 nx L' en nb (by rw [na]; exact ha) (by rw [nl]; exact hat) hL (fun i hi => ?_) (fun i hi => ?_) ?_
      · show (S2.again K m).last _ = _
        have e : (64 * (J.r0 + (J.h.n + 1) % 2) + i) / 64 = J.r0 + (J.h.n + 1) % 2 := by omega
        rw [hl, e, hc64, if_pos (by omega)]
        congr 1
        omega
      · show (S2.again K m).last _ = S1.last _
        rw [hl, if_neg (by omega)]
      · rw [na, nl, ← hd]
        exact data_congr (fun i _ => by rw [hl, if_neg (by omega)])
theorem put_inv {J : Jn} {S : Dsk} {B : List Nat} {area at_ : Nat} {L' : List (List Nat)} (h : Inv J S) (nb : J.h.n + 1 < 1000000) (ha : area ≤ 1) (hat : at_ + B.length ≤ room J.rc) (hByt : Byt B) (hsep : area = J.h.area ∧ J.h.len ≤ at_ ∨ area ≠ J.h.area) (hL : ∀ r ∈ L', r.length ≤ 65535)
    (hd : data (fun i => S.last (64 * start J.r0 J.rc area + i)) at_ ++ B = packed L') : PutEnds J S (next J area at_ B) L' (put J S B area at_) := by
  by_cases hB0 : B.length = 0
  · obtain rfl : B = [] := List.length_eq_zero_iff.1 hB0
    have hP : putB S J.r0 J.rc area at_ [] = (0, S) := by unfold putB; exact if_pos rfl
    refine head_put h rfl id (fun p _ => rfl) hP nb ha hat hL ?_
    rw [List.append_nil] at hd
    exact hd
  · have w : Where J S B area at_ := ⟨ha, hat, hByt, hsep, by omega⟩
    have hP : putB S J.r0 J.rc area at_ B = last S (wx J area at_) (wk B at_) (wf J S B area at_) := by
      unfold putB
      rw [if_neg hB0, h.calm.alive, if_neg (by decide)]
      rfl
    have h1 := wx_in h w
    have h2 := start_le J.r0 J.rc area h.rc4 ha
    rcases last_cases h.calm (wx J area at_) (wk B at_) (wf J S B area at_) (rowB_bd h.calm _ _ hByt) with ⟨e1, e2, e3⟩ | ⟨e1, e2, e3⟩
    · obtain ⟨S1, hS1⟩ : ∃ S1, (last S (wx J area at_) (wk B at_) (wf J S B area at_)).2 = S1 := ⟨_, rfl⟩
      rw [hS1] at e2 e3
      have hP2 : putB S J.r0 J.rc area at_ B = (0, S1) := by rw [hP]; exact Prod.ext e1 hS1
      refine head_put (write_keeps h w (fun _ => True) e2.calm e2.n (fun p => by rw [e2.last]; simp)) e2.n e3 (fun p hp => ?_) hP2 nb ha hat hL ?_
      · rw [e2.last, if_neg (by unfold Outs at hp; omega)]
      · rw [write_data h w e2.last, hd]
    · obtain ⟨S1, hS1⟩ : ∃ S1, (last S (wx J area at_) (wk B at_) (wf J S B area at_)).2 = S1 := ⟨_, rfl⟩
      rw [hS1] at e3
      have hP2 : putB S J.r0 J.rc area at_ B = (140, S1) := by rw [hP]; exact Prod.ext e1 hS1
      rw [put_bad hP2 (by decide)]
      refine .inr ⟨rfl, e2, e3.n, fun K m => ?_⟩
      obtain ⟨cm, C, hC, hl⟩ := e3.back K m
      refine ⟨.inl (write_keeps h w (fun p => p % 64 < C (p / 64)) cm e3.n hl), fun p hp => ?_⟩
      show (S1.again K m).last p = _
      rw [hl, if_neg (by unfold Outs at hp; omega)]
/-- a new disk -/
theorem inv_new (n r0 rc : Nat) (h4 : 4 ≤ rc) (hin : r0 + rc ≤ n) (hn : n ≤ 65536) : Inv ⟨r0, rc, no, [], false⟩ (Dsk.new n) := by
  have hz : ∀ k, num (fun _ => (0 : Int)) k = 0 := fun k => by
    induction k with
    | zero => rfl
    | succ k ih => rw [num, ih]; rfl
  have hs : ∀ s, sec (Dsk.new n) s = fun _ => (0 : Int) := fun s => rfl
  have hh : ∀ odd, odd = 0 → hed (fun _ => (0 : Int)) odd (room rc) = no := fun odd ho => by
    unfold hed
    rw [hz, hz, if_pos ⟨rfl, by rw [ho], by decide, Nat.zero_le _⟩]
    rfl
  refine ⟨⟨rfl, fun _ => rfl, fun _ => ⟨Int.le_refl _, by show (0 : Int) < 256; decide⟩, hn⟩, rfl, h4, hin, by show 0 < 1000000; decide, by show 0 ≤ 1; decide, Nat.zero_le _, fun r hr => (by cases hr), rfl, ?_, ?_, ?_, fun _ => rfl, ?_⟩
  · rw [hs]; exact hh _ rfl
  · rw [hs]; exact hz 8
  · rw [hs]; exact hz 8
  · rw [hs]
    exact weak_of (m := 0) (fun _ => ⟨Int.le_refl _, by show (0 : Int) < 256; decide⟩) (hz 8) (hz 8) (Nat.zero_le _) (by show 0 % 256 ≠ (0 + 1) % 256; decide) (by show 0 + 1 < 256 ^ 8; decide)
end Jl
end Go.Proofs.Ytppknadflmjefaa
namespace Go.Proofs.Ytppknadflmjefaa
open Go.RowKit Go.Deep Go.Maps
set_option linter.unusedVariables false
set_option linter.unusedSimpArgs false

namespace Jl
theorem Inv.plen {J : Jn} {S : Dsk} (h : Inv J S) : (packed J.L).length = J.h.len := by rw [← h.dat, data_len]
theorem Inv.few {J : Jn} {S : Dsk} (h : Inv J S) : J.Few := by unfold Jn.Few; rw [← h.plen]; exact packed_len J.L
/-- how an Add or a Rewrite ends on a disk; L' : the records behind it -/
def AddEnds (J : Jn) (S : Dsk) (L' : List (List Nat)) (P : Int × Dsk × Jn) : Prop :=
  (P.1 = 0 ∧ Inv P.2.2 P.2.1 ∧ P.2.2.L = L' ∧ P.2.2.r0 = J.r0 ∧ P.2.2.rc = J.rc ∧ P.2.2.h.n ≤ J.h.n + 1 ∧ (S.fuse = -1 → P.2.1.fuse = -1) ∧ P.2.1.n = S.n ∧ ∀ p, Outs J p → P.2.1.last p = S.last p) ∨
  ((P.1 = 2 ∨ P.1 = 3) ∧ P.2.1 = S ∧ P.2.2 = J) ∨
  (P.1 = 140 ∧ S.fuse ≠ -1 ∧ P.2.1.n = S.n ∧ ∀ K m, ∃ J', Inv J' (P.2.1.again K m) ∧ (J'.L = J.L ∨ J'.L = L') ∧ J'.r0 = J.r0 ∧ J'.rc = J.rc ∧ J'.h.n ≤ J.h.n + 1 ∧ ∀ p, Outs J p → (P.2.1.again K m).last p = S.last p)
theorem may_not {J : Jn} {l : List (List Nat)} {rm : Nat} (hd : J.dead = false) : may J l rm = 0 ∨ may J l rm = 2 ∨ may J l rm = 3 := by
  unfold may
  rw [hd, if_neg (by decide)]
  split
  · exact .inr (.inl rfl)
  split
  · exact .inr (.inr rfl)
  · exact .inl rfl
theorem ends_of {J : Jn} {S : Dsk} {nx : Hed} {L' : List (List Nat)} {P : Int × Dsk × Jn} (h : Inv J S) (en : nx.n ≤ J.h.n + 1) (hp : PutEnds J S nx L' P) : AddEnds J S L' (withL J P L') := by
  rcases hp with ⟨h1, h2, h3, h4, h5, h6⟩ | ⟨h1, h2, h3, h4⟩
  · have e : withL J P L' = (0, P.2.1, ⟨J.r0, J.rc, nx, L', false⟩) := by
      unfold withL
      rw [if_pos h1, h1, h3]
      have := h.dead
      cases J
      simp only at this
      subst this
      rfl
    rw [e]
    exact .inl ⟨rfl, h2, rfl, rfl, rfl, en, h4, h5, h6⟩
  · have e : withL J P L' = P := by unfold withL; rw [if_neg (by rw [h1]; decide)]
    rw [e]
    refine .inr (.inr ⟨h1, h2, h3, fun K m => ?_⟩)
    obtain ⟨hi, ho⟩ := h4 K m
    rcases hi with hi | hi
    · exact ⟨J, hi, .inl rfl, rfl, rfl, by omega, ho⟩
    · exact ⟨_, hi, .inr rfl, rfl, rfl, en, ho⟩
theorem next_n {J : Jn} {area at_ : Nat} {B : List Nat} : (next J area at_ B).n ≤ J.h.n + 1 := Nat.mod_le _ _
theorem add_inv {J : Jn} {S : Dsk} {l : List (List Nat)} (h : Inv J S) (nb : J.h.n + 1 < 1000000) (hb : ∀ r ∈ l, Byt r) : AddEnds J S (J.L ++ l) (add J S l) := by
  unfold add
  rcases may_not (l := l) (rm := room J.rc - J.h.len) h.dead with hm | hm
  · rw [hm, if_neg (by decide)]
    obtain ⟨_, h65, hpl⟩ := may_ok hm
    have hlen := h.len
    by_cases h0 : l.length = 0
    · rw [if_pos h0]
      obtain rfl : l = [] := List.length_eq_zero_iff.1 h0
      rw [List.append_nil]
      exact .inl ⟨rfl, h, rfl, rfl, rfl, Nat.le_succ _, id, rfl, fun p _ => rfl⟩
    · rw [if_neg h0]
      refine ends_of h next_n (put_inv h nb h.area (by omega) (packed_byt l hb h65) (.inl ⟨rfl, Nat.le_refl _⟩) (fun r hr => ?_) ?_)
      · rcases List.mem_append.1 hr with hr | hr
        · exact h.lens r hr
        · exact h65 r hr
      · rw [h.dat, packed_append]
  · rw [if_pos (by rcases hm with hm | hm <;> rw [hm] <;> decide)]
    exact .inr (.inl ⟨hm, rfl, rfl⟩)
theorem rew_inv {J : Jn} {S : Dsk} {l : List (List Nat)} (h : Inv J S) (nb : J.h.n + 1 < 1000000) (hb : ∀ r ∈ l, Byt r) : AddEnds J S l (rew J S l) := by
  unfold rew
  rcases may_not (l := l) (rm := room J.rc) h.dead with hm | hm
  · rw [hm, if_neg (by decide)]
    obtain ⟨_, h65, hpl⟩ := may_ok hm
    have ha := h.area
    refine ends_of h next_n (put_inv h nb (by omega) (by omega) (packed_byt l hb h65) (.inr (by omega)) h65 ?_)
    rfl
  · rw [if_pos (by rcases hm with hm | hm <;> rw [hm] <;> decide)]
    exact .inr (.inl ⟨hm, rfl, rfl⟩)
theorem Inv.open_ {J : Jn} {S : Dsk} (h : Inv J S) : openE S (J.r0 : Int) (J.rc : Int) = 0 ∧ openJ S (J.r0 : Int) (J.rc : Int) = some J := by
  have h1 := h.opn
  have e : openE S (J.r0 : Int) (J.rc : Int) = 0 := by
    unfold openE
    have := h.rc4
    have := h.inR
    rw [if_neg (by omega), h.calm.alive, if_neg (by decide), Int.toNat_natCast, Int.toNat_natCast, h1, if_neg (by simp)]
  refine ⟨e, ?_⟩
  unfold openJ
  rw [e, if_pos rfl, Int.toNat_natCast, Int.toNat_natCast, h1]
def wl : List (List Nat) := [[97], [98, 99]]
theorem wl_byt : ∀ r ∈ wl, Byt r := by show ∀ r ∈ wl, ∀ b ∈ r, b < 256; decide
theorem wl_pb : Byt (packed wl) := by show ∀ b ∈ packed wl, b < 256; decide
theorem wl_may : may ⟨0, 10, no, [], false⟩ wl (room 10 - 0) = 0 := by decide
theorem wk_add : ∃ S1 J1, add ⟨0, 10, no, [], false⟩ (Dsk.new 10) wl = (0, S1, J1) ∧ Inv J1 S1 ∧ J1.L = wl ∧ J1.r0 = 0 ∧ J1.rc = 10 ∧ J1.h.n = 1 ∧ J1.h.len = 7 ∧ S1.n = 10 := by
  have h := inv_new 10 0 10 (by decide) (by decide) (by decide)
  have ha := add_inv (l := wl) h (by show 0 + 1 < 1000000; decide) wl_byt
  rcases ha with ⟨h1, h2, h3, h4, h5, h6, h7, h8, h9⟩ | ⟨h1, h2, h3⟩ | ⟨h1, h2, _⟩
  · refine ⟨_, _, by rw [← h1], h2, h3, h4, h5, ?_, ?_, h8⟩
    · have e : add ⟨0, 10, no, [], false⟩ (Dsk.new 10) wl = withL ⟨0, 10, no, [], false⟩ (put ⟨0, 10, no, [], false⟩ (Dsk.new 10) (packed wl) 0 0) wl := by
        unfold add
        show (if may ⟨0, 10, no, [], false⟩ wl (room 10 - 0) ≠ 0 then _ else _) = _
        rw [wl_may]
        rfl
      rw [e] at h1 ⊢
      have h1' : (put ⟨0, 10, no, [], false⟩ (Dsk.new 10) (packed wl) 0 0).1 = 0 := h1
      unfold withL
      rw [if_pos h1']
      show (put ⟨0, 10, no, [], false⟩ (Dsk.new 10) (packed wl) 0 0).2.2.h.n = 1
      unfold put put3 at h1' ⊢
      show (if _ then _ else _ : Jn).h.n = 1
      rw [if_pos h1']
      rfl
    · have := h2.plen
      rw [h3] at this
      rw [← this]
      rfl
  · exfalso
    unfold add at h1
    have e := wl_may
    change (if may ⟨0, 10, no, [], false⟩ wl (room 10 - 0) ≠ 0 then (may ⟨0, 10, no, [], false⟩ wl (room 10 - 0), Dsk.new 10, (⟨0, 10, no, [], false⟩ : Jn)) else _).1 = 2 ∨ (if may ⟨0, 10, no, [], false⟩ wl (room 10 - 0) ≠ 0 then (may ⟨0, 10, no, [], false⟩ wl (room 10 - 0), Dsk.new 10, (⟨0, 10, no, [], false⟩ : Jn)) else _).1 = 3 at h1
    rw [e] at h1
    rcases add_inv (l := wl) h (by show 0 + 1 < 1000000; decide) wl_byt with hh | hh | hh
    · have h5 := hh.2.2.1
      rw [h3] at h5
      cases h5
    · have : put ⟨0, 10, no, [], false⟩ (Dsk.new 10) (packed wl) 0 0 = put ⟨0, 10, no, [], false⟩ (Dsk.new 10) (packed wl) 0 0 := rfl
      have hp := put_inv (B := packed wl) (area := 0) (at_ := 0) (L' := wl) h (by show 0 + 1 < 1000000; decide) (by decide) (by decide) wl_pb (.inl ⟨rfl, Nat.le_refl _⟩) (by decide) rfl
      rcases hp with hp | hp
      · rcases h1 with h1 | h1
        · have : (put ⟨0, 10, no, [], false⟩ (Dsk.new 10) (packed wl) 0 0).1 = 2 := h1
          rw [hp.1] at this; cases this
        · have : (put ⟨0, 10, no, [], false⟩ (Dsk.new 10) (packed wl) 0 0).1 = 3 := h1
          rw [hp.1] at this; cases this
      · exact hp.2.1 rfl
    · exact hh.2.1 rfl
  · exact absurd rfl h2
end Jl
end Go.Proofs.Ytppknadflmjefaa
