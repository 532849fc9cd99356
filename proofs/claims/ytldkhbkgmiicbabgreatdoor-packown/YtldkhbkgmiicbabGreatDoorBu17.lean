/- Texts of mine, put together. -/
import Derived.Test.YtldkhbkgmiicbabGreatDoorBu15
import Derived.Test.YtldkhbkgmiicbabGreatDoorBu16
import Derived.BigRegion
import Derived.Laws.BitsAllLaws
import Derived.WalkMore

/- Layer 12: an item's pieces and a list's volume, as lists of bytes. -/
namespace Go.Proofs.YtldkhbkgmiicbabGreatDoor
set_option linter.unusedVariables false
set_option linter.unusedSimpArgs false

namespace Pk
/-- the last place below n at which a path may be cut -/
def cutOf (l : B) : Nat → Option Nat
  | 0 => none
  | n + 1 => if l[n]? = some 47 ∧ n ≤ 155 ∧ l.length - n - 1 ≤ 100 then some n else cutOf l n
theorem cutOf_some (l : B) : ∀ n i, cutOf l n = some i → i < n ∧ Nm.CutAt l i ∧ ∀ j, i < j → j < n → ¬ Nm.CutAt l j
  | 0, i, h => by cases h
  | n + 1, i, h => by
    unfold cutOf at h
    split at h
    · rename_i hc
      obtain rfl : n = i := Option.some.inj h
      exact ⟨Nat.lt_succ_self _, hc, fun j h1 h2 => by omega⟩
    · rename_i hc
      obtain ⟨h1, h2, h3⟩ := cutOf_some l n i h
      refine ⟨by omega, h2, fun j hj hn => ?_⟩
      by_cases e : j = n
      · rw [e]; exact hc
      · exact h3 j hj (by omega)
theorem cutOf_none (l : B) : ∀ n, cutOf l n = none → ∀ j, j < n → ¬ Nm.CutAt l j
  | 0, _, j, hj => by omega
  | n + 1, h, j, hj => by
    unfold cutOf at h
    split at h
    · cases h
    · rename_i hc
      by_cases e : j = n
      · rw [e]; exact hc
      · exact cutOf_none l n h j (by omega)
/-- what Split answers -/
def spl (l : B) : B × B × Int :=
  if (Nm.check l).2 ≠ 0 then ([], [], (Nm.check l).2)
  else if l.length ≤ 100 then ([], l, 0)
  else match cutOf l l.length with
    | some i => (l.take i, l.drop (i + 1), 0)
    | none => ([], [], 2)
theorem spl_says (l : B) : Nm.SplitSays l (spl l).1 (spl l).2.1 (spl l).2.2 := by
  by_cases h : (Nm.check l).2 = 0
  · by_cases h1 : l.length ≤ 100
    · have e : spl l = ([], l, 0) := by unfold spl; rw [if_neg (fun k => k h), if_pos h1]
      rw [e]
      exact ⟨fun k => absurd h k, fun _ _ => ⟨rfl, rfl, rfl⟩, fun _ k => by omega, fun _ k => by omega⟩
    · cases hc : cutOf l l.length with
      | some i =>
        have e : spl l = (l.take i, l.drop (i + 1), 0) := by unfold spl; rw [if_neg (fun k => k h), if_neg h1, hc]
        obtain ⟨c1, c2, c3⟩ := cutOf_some l _ i hc
        rw [e]
        refine ⟨fun k => absurd h k, fun _ k => absurd k h1, fun _ _ j hj hjn => ?_, fun _ _ k => absurd c2 (k i)⟩
        have : i = j := by
          rcases Nat.lt_trichotomy i j with g | g | g
          · exact absurd hj (c3 j g (Nm.cut_lt hj))
          · exact g
          · exact absurd c2 (hjn i g)
        rw [this]; exact ⟨rfl, rfl, rfl⟩
      | none =>
        have e : spl l = ([], [], 2) := by unfold spl; rw [if_neg (fun k => k h), if_neg h1, hc]
        have c := cutOf_none l _ hc
        rw [e]
        exact ⟨fun k => absurd h k, fun _ k => absurd k h1, fun _ _ j hj => absurd hj (c j (Nm.cut_lt hj)), fun _ _ _ => ⟨rfl, rfl, rfl⟩⟩
  · have e : spl l = ([], [], (Nm.check l).2) := by unfold spl; rw [if_pos h]
    rw [e]
    exact ⟨fun _ => ⟨rfl, rfl, rfl⟩, fun k => absurd k h, fun k => absurd k h, fun k => absurd k h⟩
/-- the type of a kind's head -/
def typ (k : Nat) : UInt8 := if k = 3 then 49 else if k = 4 then 50 else if k = 2 then 53 else 48
/-- how many noughts fill so many bytes -/
def gap (n : Nat) : Nat := (512 - n % 512) % 512
def fill (b : B) : B := b ++ List.replicate (gap b.length) 0
theorem gap_lt (n : Nat) : gap n < 512 := Nat.mod_lt _ (by decide)
theorem fill_len (b : B) : (fill b).length = b.length + gap b.length := by unfold fill; rw [List.length_append, List.length_replicate]
theorem fill_nil : fill [] = [] := rfl
theorem fill_full {b : B} (h : b.length % 512 = 0) : fill b = b := by
  unfold fill
  rw [show gap b.length = 0 by unfold gap; omega]
  exact List.append_nil _
/-- a block of 512 bytes, and what is filled behind it -/
theorem fill_cons {a b : B} (h : a.length = 512) : fill (a ++ b) = a ++ fill b := by
  unfold fill
  rw [List.length_append, h, List.append_assoc, show gap (512 + b.length) = gap b.length by unfold gap; omega]
theorem fill_short {b : B} (h0 : b ≠ []) (h : b.length ≤ 512) : fill b = b ++ List.replicate (512 - b.length) 0 := by
  unfold fill
  have : 0 < b.length := List.length_pos_iff.2 h0
  rw [show gap b.length = 512 - b.length by unfold gap; omega]
/-- the head of records, and an item's own -/
def more (n : Nat) : Hd.Hdr := ⟨[109, 111, 114, 101], 0, n, 0, 120, [], []⟩
def hd (x : Tr.It) : Hd.Hdr := ⟨(spl x.path).2.1, x.mode, (x.body.length : Nat), x.time, typ x.kind, if x.to.length ≤ 100 then x.to else [], (spl x.path).1⟩
/-- the bytes that Put of a head answers -/
def hB (h : Hd.Hdr) : B := if Hd.may h = 0 then Hd.layB h else []
theorem hB_len (h : Hd.Hdr) : (hB h).length = 512 ∨ (hB h).length = 0 := by
  unfold hB
  split
  · rename_i e; exact .inl (Hd.lay_len (Hd.may_good e))
  · exact .inr rfl
theorem hB_le (h : Hd.Hdr) : (hB h).length ≤ 512 := by rcases hB_len h with e | e <;> rw [e] <;> decide
/-- an item's pairs and their records -/
def prsOf (x : Tr.It) : List Px.Pr := prs x (spl x.path).2.2
def recs (x : Tr.It) : B := (Px.putF (prsOf x)).1
def front (x : Tr.It) : B := if prsOf x = [] then [] else hB (more (recs x).length) ++ fill (recs x)
def pcs (x : Tr.It) : B := front x ++ (hB (hd x) ++ fill x.body)
theorem all9_len : ∀ (l : List Px.Pr), (∀ p ∈ l, Px.fits p = 0) → (Px.all9 l).length ≤ 1064 * l.length
  | [], _ => by simp [Px.all9]
  | p :: l, h => by
    have h1 := all9_len l (fun q hq => h q (List.mem_cons_of_mem _ hq))
    have h2 := Px.psize_le (h p (List.mem_cons_self ..))
    have h3 := Px.rcd_len p
    rw [Px.all9, List.length_append, List.length_cons]
    omega
theorem put_len (l : List Px.Pr) (h2 : l.length ≤ 2) : (Px.putF l).1.length ≤ 2128 := by
  by_cases h : (Px.putF l).2.2 = 0
  · have hk := (Px.put_ok l).1 h
    rw [Px.put_all hk]
    have := all9_len l hk.2.1
    show (Px.all9 l).length ≤ _
    omega
  · have : (Px.putF l).1 = [] := by
      unfold Px.putF at h ⊢
      split
      · rfl
      · rename_i hn
        rw [if_neg hn] at h
        split
        · rfl
        · rename_i h0
          rw [if_neg h0] at h
          exact absurd rfl h
    rw [this]; decide
theorem recs_len (x : Tr.It) : (recs x).length ≤ 2128 := put_len _ (prs_len _ _)
theorem front_len (x : Tr.It) : (front x).length ≤ 3200 := by
  unfold front
  split
  · decide
  · rw [List.length_append, fill_len]
    have := hB_le (more (recs x).length); have := recs_len x; have := gap_lt (recs x).length; omega
theorem pcs_len (x : Tr.It) : (pcs x).length ≤ 4224 + x.body.length := by
  unfold pcs
  rw [List.length_append, List.length_append, fill_len]
  have := front_len x; have := hB_le (hd x); have := gap_lt x.body.length; omega
theorem may_body {x : Tr.It} (h : Tr.mayE x = 0) : x.body.length ≤ 65536 := by
  unfold Tr.mayE at h
  repeat' split at h
  all_goals omega
/-- the pieces of some items -/
def flat (t : List Tr.It) : B := t.flatMap pcs
theorem flat_snoc (t : List Tr.It) (x : Tr.It) : flat (t ++ [x]) = flat t ++ pcs x := by unfold flat; rw [List.flatMap_append]; simp
theorem flat_take {t : List Tr.It} {k : Nat} {x : Tr.It} (h : t[k]? = some x) : flat (t.take (k + 1)) = flat (t.take k) ++ pcs x := by
  rw [List.take_add_one, h]; exact flat_snoc _ _
/-- going on with a volume behind k items -/
def wrF (out : B) (k : Nat) : List Tr.It → B × Nat × Int
  | [] => (out ++ List.replicate 1024 0, 0, 0)
  | x :: r => if 131072 < (out ++ pcs x).length + 1024 then ([], k, 2) else wrF (out ++ pcs x) (k + 1) r
/-- what Write answers -/
def wr (t : List Tr.It) : B × Nat × Int := if (Tr.chkE t).2 ≠ 0 then ([], (Tr.chkE t).1, (Tr.chkE t).2) else wrF [] 0 t
/-- the first k items have their room -/
def Upto (t : List Tr.It) (k : Nat) : Prop := k ≤ t.length ∧ wrF [] 0 t = wrF (flat (t.take k)) k (t.drop k) ∧ (flat (t.take k)).length + 1024 ≤ 131072
theorem upto_zero (t : List Tr.It) : Upto t 0 := ⟨Nat.zero_le _, rfl, by rw [List.take_zero]; exact of_decide_eq_true rfl⟩
theorem upto_next {t : List Tr.It} {k : Nat} {x : Tr.It} (h : Upto t k) (hx : t[k]? = some x) (hs : ¬ 131072 < (flat (t.take k) ++ pcs x).length + 1024) : Upto t (k + 1) := by
  obtain ⟨hk, hxe⟩ := List.getElem?_eq_some_iff.1 hx
  refine ⟨hk, ?_, ?_⟩
  · rw [h.2.1, List.drop_eq_getElem_cons hk, hxe]
    show (if _ then _ else _) = _
    rw [if_neg hs, flat_take hx]
  · rw [flat_take hx]; omega
theorem upto_stop {t : List Tr.It} {k : Nat} {x : Tr.It} (h : Upto t k) (hx : t[k]? = some x) (hs : 131072 < (flat (t.take k) ++ pcs x).length + 1024) : wrF [] 0 t = ([], k, 2) := by
  obtain ⟨hk, hxe⟩ := List.getElem?_eq_some_iff.1 hx
  rw [h.2.1, List.drop_eq_getElem_cons hk, hxe]
  show (if _ then _ else _) = _
  rw [if_pos hs]
theorem upto_end {t : List Tr.It} (h : Upto t t.length) : wrF [] 0 t = (flat t ++ List.replicate 1024 0, 0, 0) := by
  rw [h.2.1, List.take_length, List.drop_length]; rfl
theorem wr_bad {t : List Tr.It} (h : (Tr.chkE t).2 ≠ 0) : wr t = ([], (Tr.chkE t).1, (Tr.chkE t).2) := by unfold wr; rw [if_pos h]
theorem wr_good {t : List Tr.It} (h : (Tr.chkE t).2 = 0) : wr t = wrF [] 0 t := by unfold wr; rw [if_neg (fun k => k h)]
theorem upto_cases (t : List Tr.It) : ∀ k, k ≤ t.length → Upto t k ∨ ∃ i x, i < k ∧ t[i]? = some x ∧ Upto t i ∧ 131072 < (flat (t.take i) ++ pcs x).length + 1024
  | 0, _ => .inl (upto_zero t)
  | k + 1, hk => by
    rcases upto_cases t k (by omega) with h | ⟨i, x, h1, h2⟩
    · have hx : t[k]? = some t[k] := List.getElem?_eq_getElem (by omega)
      by_cases hs : 131072 < (flat (t.take k) ++ pcs t[k]).length + 1024
      · exact .inr ⟨k, t[k], Nat.lt_succ_self _, hx, h, hs⟩
      · exact .inl (upto_next h hx hs)
    · exact .inr ⟨i, x, by omega, h2⟩
/-- Write's ways -/
theorem wr_cases (t : List Tr.It) : ((Tr.chkE t).2 ≠ 0 ∧ wr t = ([], (Tr.chkE t).1, (Tr.chkE t).2)) ∨ ((Tr.chkE t).2 = 0 ∧ ∃ i, i < t.length ∧ wr t = ([], i, 2)) ∨ ((Tr.chkE t).2 = 0 ∧ Upto t t.length ∧ wr t = (flat t ++ List.replicate 1024 0, 0, 0)) := by
  by_cases h : (Tr.chkE t).2 = 0
  · rcases upto_cases t t.length (Nat.le_refl _) with g | ⟨i, x, h1, h2, h3, h4⟩
    · exact .inr (.inr ⟨h, g, by rw [wr_good h, upto_end g]⟩)
    · exact .inr (.inl ⟨h, i, h1, by rw [wr_good h, upto_stop h3 h2 h4]⟩)
  · exact .inl ⟨h, wr_bad h⟩
theorem wr_len (t : List Tr.It) : (wr t).1.length ≤ 131072 := by
  rcases wr_cases t with ⟨_, e⟩ | ⟨_, i, _, e⟩ | ⟨_, g, e⟩
  · rw [e]; exact Nat.zero_le _
  · rw [e]; exact Nat.zero_le _
  · rw [e]
    have := g.2.2
    rw [List.take_length] at this
    show (flat t ++ List.replicate 1024 0).length ≤ _
    rw [List.length_append, List.length_replicate]; exact this
end Pk
end Go.Proofs.YtldkhbkgmiicbabGreatDoor

/- The contract of the document's own Exact; of the statements' own same, of layer 7. -/
namespace Go.Proofs.YtldkhbkgmiicbabGreatDoor
open Go.RowKit Go.Deep
set_option linter.unusedVariables false
set_option linter.unusedSimpArgs false

/-- a call answers whether something holds -/
def TellsO (e : Ending) (P : Prop) : Prop := ∃ x : Bool, e = .returned (.bool x) ∧ (x = true ↔ P)
theorem TellsO.no {P : Prop} (h : ¬ P) : TellsO (.returned (.bool false)) P := ⟨false, rfl, ⟨fun e => Bool.noConfusion e, fun e => absurd e h⟩⟩
theorem TellsO.yes {P : Prop} (h : P) : TellsO (.returned (.bool true)) P := ⟨true, rfl, ⟨fun _ => h, fun _ => rfl⟩⟩

theorem drewN_add7 (w : World) (q : Nat) : ∀ n, (w.drewN q).drewN n = w.drewN (q + n)
  | 0 => rfl
  | n + 1 => by show ((w.drewN q).drewN n).drew = (w.drewN (q + n)).drew; rw [drewN_add7 w q n]
/-- the bytes are the form of n in as many bytes -/
def IsForm (L : Nat) (f : Nat → Int) (n : Nat) : Prop := (n < 8 ^ (L - 1) ∨ n < 256 ^ (L - 1)) ∧ ∀ i, i < L → Oct.formF n L i = f i
/-- what Exact answers, where Get answers n, a, er -/
structure ExactSays (L : Nat) (f : Nat → Int) (n er : Int) (e : Ending) : Prop where
  bad : er ≠ 0 → e = .returned (.tuple #[.int .i64 0, .int .i64 er])
  no : er = 0 → ¬ IsForm L f n.toNat → e = .returned (.tuple #[.int .i64 0, .int .i64 71])
  yes : er = 0 → IsForm L f n.toNat → e = .returned (.tuple #[.int .i64 n, .int .i64 0])
end Go.Proofs.YtldkhbkgmiicbabGreatDoor

/- Contracts of the statements' own lent and kept, of layer 7. -/
namespace Go.Proofs.YtldkhbkgmiicbabGreatDoor
open Go.RowKit Go.Deep
set_option linter.unusedVariables false
set_option linter.unusedSimpArgs false

/-- bytes, and two marks behind them -/
def lentF (f : Nat → Int) (L i : Nat) : Int := if i < L then f i else if i = L then 201 else 202
end Go.Proofs.YtldkhbkgmiicbabGreatDoor

/- Contracts of the program's isWidth, Most, number and of bytes.Equal, of layer 7. -/
namespace Go.Proofs.YtldkhbkgmiicbabGreatDoor
open Go.RowKit Go.Deep
set_option linter.unusedVariables false
set_option linter.unusedSimpArgs false

theorem isw_no (z : Int) (h : ¬ (2 ≤ z ∧ z ≤ 12)) (w : World) : Calls Tryz.prog 102 #[.int .i64 z] w fun e w' => e = .returned (.bool false) ∧ w' = w := by
  by_cases h1 : 2 ≤ z
  · have h2 : ¬ z ≤ 12 := fun h2 => h ⟨h1, h2⟩
    go_enter Tryz.func102, Tryz.ntmps102
    go_wp2
    go_ret
    exact ⟨rfl, rfl⟩
  · go_enter Tryz.func102, Tryz.ntmps102
    go_wp2
    go_ret
    exact ⟨rfl, rfl⟩
theorem isw_yes (z : Int) (h1 : 2 ≤ z) (h2 : z ≤ 12) (w : World) : Calls Tryz.prog 102 #[.int .i64 z] w fun e w' => e = .returned (.bool true) ∧ w' = w := by
  go_enter Tryz.func102, Tryz.ntmps102
  go_wp2
  go_ret
  exact ⟨rfl, rfl⟩
theorem most_yes (W : Nat) (h1 : 2 ≤ W) (h2 : W ≤ 12) (w : World) : Calls Tryz.prog 103 #[.int .i64 (W : Int)] w fun e w' => e = .returned (.int .i64 ((8 : Int) ^ (W - 1) - 1)) ∧ w' = w := by
  have h11 : W = 2 ∨ W = 3 ∨ W = 4 ∨ W = 5 ∨ W = 6 ∨ W = 7 ∨ W = 8 ∨ W = 9 ∨ W = 10 ∨ W = 11 ∨ W = 12 := by omega
  rcases h11 with rfl | rfl | rfl | rfl | rfl | rfl | rfl | rfl | rfl | rfl | rfl
  all_goals
    go_enter Tryz.func103, Tryz.ntmps103
    go_wp2_with (go_at_call 102; refine (isw_yes _ (by decide) (by decide) _).mono ?_; rintro e w' ⟨rfl, hw'⟩; subst w')
    go_ret
    exact ⟨rfl, rfl⟩
theorem i64_ofInt (a : Nat) (ha : a < 9223372036854775808) : (BitVec.ofInt 64 (a : Int)).toNat = a := by
  rw [BitVec.toNat_ofInt]; omega
theorem i64_and_nat (a b : Nat) (ha : a < 9223372036854775808) (hb : b < 9223372036854775808) : bits .and .i64 (a : Int) (b : Int) = ((a &&& b : Nat) : Int) := by
  have hlt : a &&& b < 2 ^ 63 := Nat.and_lt_two_pow _ (by omega)
  unfold bits
  show IntKind.i64.wrap ((BitVec.ofInt 64 (a : Int) &&& BitVec.ofInt 64 (b : Int)).toNat : Int) = _
  rw [BitVec.toNat_and, i64_ofInt a ha, i64_ofInt b hb, IntKind.wrap_i64]
  omega
end Go.Proofs.YtldkhbkgmiicbabGreatDoor

/- Contract of the program's lay: a number's digits laid into a row of the call's own. -/
namespace Go.Proofs.YtldkhbkgmiicbabGreatDoor
open Go.RowKit Go.Deep
set_option linter.unusedVariables false
set_option linter.unusedSimpArgs false

/-- a block with the digits of n in units of B laid over it at o, the highest first -/
def layF (F : Nat → Int) (o m n B : Nat) (z : Int) (c : Nat) : Int := if o ≤ c ∧ c < o + m then z + ((n / B ^ (o + m - 1 - c) % B : Nat) : Int) else F c
/-- the same when the last t digits are laid -/
def layP (F : Nat → Int) (o m n B : Nat) (z : Int) (t c : Nat) : Int := if o + (m - t) ≤ c ∧ c < o + m then z + ((n / B ^ (o + m - 1 - c) % B : Nat) : Int) else F c
theorem layP_all (F : Nat → Int) (o m n B : Nat) (z : Int) : layP F o m n B z m = layF F o m n B z := by
  funext c; unfold layP layF; rw [Nat.sub_self, Nat.add_zero]
theorem layP_none (F : Nat → Int) (o m n B : Nat) (z : Int) : layP F o m n B z 0 = F := by
  funext c; unfold layP; rw [Nat.sub_zero, if_neg (by omega)]

set_option maxHeartbeats 1000000 in
theorem lay3_any (g o m ca N n : Nat) (F : Nat → Int) (hm : m ≤ 12) (hN : o + m ≤ N) (ho : o ≤ 12) (hn : n ≤ 9223372036854775807) (w : World) (hown : BlockIs w g N F) :
    Calls Tryz.prog 104 #[.slice (some ⟨g, o, none⟩) m ca, .int .i64 (n : Int), .int .i64 3, .int .u8 48] w fun e w' => e = .returned (.tuple #[]) ∧ BlockIs w' g N (layF F o m n 8 48) ∧ Bx (· = g) w w' := by
  go_enter Tryz.func104, Tryz.ntmps104
  go_wp2
  go_loopw [1, 8] (fun x i wr => ∃ y t E : Nat, y + t = m ∧ i = .int .i64 ((y : Int) - 1) ∧ x = .int .i64 (E : Int) ∧ Hid (E = n / 8 ^ t) ∧ BlockIs wr g N (layP F o m n 8 48 t) ∧ Bx (· = g) w wr) (fun _ i _ => (intOf i + 1).toNat)
  case atStart => exact ⟨m, 0, n, rfl, by go_num, rfl, by show _ = _; rw [Nat.pow_zero, Nat.div_one], by rw [layP_none]; exact hown, Bx.refl _ _⟩
  case round =>
    obtain ⟨y, t, E, hyt, rfl, rfl, hE, ho1, hx⟩ := hrel
    rcases y with _ | y
    · have et : t = m := by omega
      subst et
      go_wp2
      refine bodyPost_end (results_none rfl _ _ _) rfl ?_
      exact ⟨rfl, by rw [← layP_all]; exact ho1, hx⟩
    · have ey : ((y + 1 : Nat) : Int) - 1 = (y : Int) := by omega
      rw [ey]
      clear ey
      have y0 : (0 : Int) ≤ (y : Int) := Int.natCast_nonneg _
      have y1 : (y : Int) < (m : Int) := by omega
      have hEn : E ≤ n := by rw [hE.out]; exact Nat.div_le_self _ _
      have e0 : (0 : Int) ≤ (E : Int) := Int.natCast_nonneg _
      obtain ⟨V, hV⟩ : ∃ V : Nat, Hid (V = E % 8) := ⟨E % 8, rfl⟩
      have hV8 : V < 8 := by rw [hV.out]; exact Nat.mod_lt _ (by decide)
      have ha : bits .and .i64 (E : Int) 7 = (V : Int) := by
        rw [show (7 : Int) = ((7 : Nat) : Int) from rfl, i64_and_nat E 7 (by omega) (by decide), nat_mask3, hV.out]
      obtain ⟨Q, hQ⟩ : ∃ Q : Nat, Hid (Q = E / 8) := ⟨E / 8, rfl⟩
      have hq : (E : Int) / 8 = (Q : Int) := by rw [hQ.out]; omega
      obtain ⟨c1, c2⟩ := ho1.cell (c := o + y) (by omega)
      have hQe : Hid (Q = n / 8 ^ (t + 1)) := by show _ = _; rw [hQ.out, hE.out, Nat.pow_succ, Nat.div_div_eq_div_mul]
      have hset : Hid (∀ W, BlockIs W g N (layP F o m n 8 48 t) → BlockIs (W.setCell ⟨g, o + y, none⟩ (.int .u8 (48 + (V : Int)))) g N (layP F o m n 8 48 (t + 1))) := fun W hW => hW.set (by omega) (by
        unfold layP
        rw [if_pos (by omega), show o + m - 1 - (o + y) = t by omega, ← hE.out, ← hV.out]) (fun c hc hne => by
        unfold layP
        by_cases h : o + (m - t) ≤ c ∧ c < o + m
        · rw [if_pos h, if_pos (by omega)]
        · rw [if_neg h, if_neg (by omega)])
      go_wp2
      go_roundw
      case rel => exact ⟨y, t + 1, Q, by omega, by go_num, by go_num, hQe, hset.out _ ho1, hx.put rfl⟩
      case measure => simp [intOf]
set_option maxHeartbeats 1000000 in
theorem lay8_any (g o m ca N n : Nat) (F : Nat → Int) (hm : m ≤ 12) (hN : o + m ≤ N) (ho : o ≤ 12) (hn : n ≤ 9223372036854775807) (w : World) (hown : BlockIs w g N F) :
    Calls Tryz.prog 104 #[.slice (some ⟨g, o, none⟩) m ca, .int .i64 (n : Int), .int .i64 8, .int .u8 0] w fun e w' => e = .returned (.tuple #[]) ∧ BlockIs w' g N (layF F o m n 256 0) ∧ Bx (· = g) w w' := by
  go_enter Tryz.func104, Tryz.ntmps104
  go_wp2
  go_loopw [1, 8] (fun x i wr => ∃ y t E : Nat, y + t = m ∧ i = .int .i64 ((y : Int) - 1) ∧ x = .int .i64 (E : Int) ∧ Hid (E = n / 256 ^ t) ∧ BlockIs wr g N (layP F o m n 256 0 t) ∧ Bx (· = g) w wr) (fun _ i _ => (intOf i + 1).toNat)
  case atStart => exact ⟨m, 0, n, rfl, by go_num, rfl, by show _ = _; rw [Nat.pow_zero, Nat.div_one], by rw [layP_none]; exact hown, Bx.refl _ _⟩
  case round =>
    obtain ⟨y, t, E, hyt, rfl, rfl, hE, ho1, hx⟩ := hrel
    rcases y with _ | y
    · have et : t = m := by omega
      subst et
      go_wp2
      refine bodyPost_end (results_none rfl _ _ _) rfl ?_
      exact ⟨rfl, by rw [← layP_all]; exact ho1, hx⟩
    · have ey : ((y + 1 : Nat) : Int) - 1 = (y : Int) := by omega
      rw [ey]
      clear ey
      have y0 : (0 : Int) ≤ (y : Int) := Int.natCast_nonneg _
      have y1 : (y : Int) < (m : Int) := by omega
      have hEn : E ≤ n := by rw [hE.out]; exact Nat.div_le_self _ _
      have e0 : (0 : Int) ≤ (E : Int) := Int.natCast_nonneg _
      obtain ⟨V, hV⟩ : ∃ V : Nat, Hid (V = E % 256) := ⟨E % 256, rfl⟩
      have hV8 : V < 256 := by rw [hV.out]; exact Nat.mod_lt _ (by decide)
      have ha : bits .and .i64 (E : Int) 255 = (V : Int) := by
        rw [show (255 : Int) = ((255 : Nat) : Int) from rfl, i64_and_nat E 255 (by omega) (by decide), nat_mask8, hV.out]
      obtain ⟨Q, hQ⟩ : ∃ Q : Nat, Hid (Q = E / 256) := ⟨E / 256, rfl⟩
      have hq : (E : Int) / 256 = (Q : Int) := by rw [hQ.out]; omega
      obtain ⟨c1, c2⟩ := ho1.cell (c := o + y) (by omega)
      have hQe : Hid (Q = n / 256 ^ (t + 1)) := by show _ = _; rw [hQ.out, hE.out, Nat.pow_succ, Nat.div_div_eq_div_mul]
      have hset : Hid (∀ W, BlockIs W g N (layP F o m n 256 0 t) → BlockIs (W.setCell ⟨g, o + y, none⟩ (.int .u8 (V : Int))) g N (layP F o m n 256 0 (t + 1))) := fun W hW => hW.set (by omega) (by
        unfold layP
        rw [if_pos (by omega), show o + m - 1 - (o + y) = t by omega, ← hE.out, ← hV.out, Int.zero_add]) (fun c hc hne => by
        unfold layP
        by_cases h : o + (m - t) ≤ c ∧ c < o + m
        · rw [if_pos h, if_pos (by omega)]
        · rw [if_neg h, if_neg (by omega)])
      go_wp2
      go_roundw
      case rel => exact ⟨y, t + 1, Q, by omega, by go_num, by go_num, hQe, hset.out _ ho1, hx.put rfl⟩
      case measure => simp [intOf]
end Go.Proofs.YtldkhbkgmiicbabGreatDoor

/- Contract of the program's spelled: the rows of a loose field of digits. -/
namespace Go.Proofs.YtldkhbkgmiicbabGreatDoor
open Go.RowKit Go.Deep
set_option linter.unusedVariables false
set_option linter.unusedSimpArgs false

/-- what spelled has seen when it stands at k: the row r, the number u -/
def SpellAt (f : Nat → Int) (L k : Nat) (r u : Int) : Prop :=
  (r = 0 ∧ u = 0 ∧ ∀ i, i < k → Oct.Blank (f i))
  ∨ (r = 1 ∧ ∃ p, p < k ∧ Oct.Run Oct.Blank f L 0 p ∧ (∀ i, p ≤ i → i < k → Oct.Digit (f i)) ∧ u = Oct.oct f p (k - p))
  ∨ (r = 2 ∧ ∃ p q, q < k ∧ Oct.Run Oct.Blank f L 0 p ∧ Oct.Run Oct.Digit f L p q ∧ (∀ i, q ≤ i → i < k → Oct.Tail (f i)) ∧ u = Oct.oct f p (q - p))
/-- what spelled answers -/
def SpellSays (f : Nat → Int) (L : Nat) (u a : Int) : Prop := ∃ p q r, Oct.Run Oct.Blank f L 0 p ∧ Oct.Run Oct.Digit f L p q ∧ Oct.Run Oct.Tail f L q r ∧ u = Oct.oct f p (q - p) ∧ a = (r : Int)

end Go.Proofs.YtldkhbkgmiicbabGreatDoor
