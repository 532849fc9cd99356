/- Layer 9: the calls of PaxKnown. -/
import Derived.Test.YtmbabfelnieagabDoorAJ
import Derived.Test.YtmbabfelnieagabDoorDB
import Derived.Great.BuildSlice
namespace Go.Proofs.YtmbabfelnieagabDoor
open Go.RowKit Go.Deep
set_option linter.unusedVariables false
set_option linter.unusedSimpArgs false

namespace Px
theorem get_err {b : B} {er : Nat} (hb : b ≠ []) (h : (oneF b).2.2 = er) (he : er ≠ 0) : getF b 0 [] = ([], 0, er) := by
  rw [getF_at hb, h, if_neg (by simp), if_pos he]
theorem nr1 : getF [53, 32, 97, 61, 98, 10] 0 [] = ([], 0, 90) := get_err (by simp) (by rw [one_bad1 (.inr (.inr (by decide)))]) (by decide)
theorem nr2 : getF [54, 32, 97, 61, 98, 99] 0 [] = ([], 0, 90) := get_err (by simp) (by rw [one_bad1 (.inr (.inr (by decide)))]) (by decide)
theorem nr3 : getF [49, 48, 48, 48, 48, 32, 97, 61, 98, 10] 0 [] = ([], 0, 90) := get_err (by simp) (by rw [one_bad1 (.inl (by decide))]) (by decide)
theorem nr4 : getF [53, 32, 97, 98, 10] 0 [] = ([], 0, 90) := get_err (by simp) (by
  rw [one_bad2 (n := 5) (d := 1) (by decide) (by decide) (by decide) (by decide) (fun i c h => by
    have hm : c ∈ ([97, 98] : B) := List.mem_of_getElem? (i := i) h
    simp at hm
    rcases hm with rfl | rfl <;> decide)]) (by decide)
theorem nr5 : getF [55, 32, 97, 61, 98, 10] 0 [] = ([], 0, 90) := get_err (by simp) (by rw [one_bad1 (.inr (.inl (by decide)))]) (by decide)
theorem nr6 : getF [48, 54, 32, 97, 61, 98, 10] 0 [] = ([], 0, 90) := get_err (by simp) (by rw [one_bad1 (.inl (by decide))]) (by decide)
theorem nr7 : getF [54, 32, 61, 98, 99, 10] 0 [] = ([], 0, 91) := get_err (by simp) (by
  rw [one_good (n := 6) (d := 1) (j := 0) (by decide) (by decide) (by decide) (by decide) (fun i c h => by omega) (by decide)]
  rw [if_pos (by decide)]
  decide) (by decide)
theorem rcd_ba : rcd ([98], [97]) = [54, 32, 98, 61, 97, 10] := by
  unfold rcd psize
  rw [size_lt10 (by decide), dec_one (by decide)]; rfl
theorem nr8 : getF [54, 32, 98, 61, 97, 10, 54, 32, 97, 61, 98, 10] 0 [] = ([], 6, 92) := by
  have h1 : oneF [54, 32, 98, 61, 97, 10, 54, 32, 97, 61, 98, 10] = (([98], [97]), 6, 0) := by
    have := one_rcd ([98], [97]) (by decide) [54, 32, 97, 61, 98, 10]
    rw [rcd_ba, show psize ([98], [97]) = 6 by unfold psize; exact size_lt10 (by decide)] at this
    exact this
  have h2 : oneF [54, 32, 97, 61, 98, 10] = (([97], [98]), 6, 0) := by
    have := one_rcd ([97], [98]) (by decide) []
    rw [List.append_nil, rcd_ab, show psize ([97], [98]) = 6 by unfold psize; exact size_lt10 (by decide)] at this
    exact this
  rw [getF_at (by simp), h1]
  rw [if_neg (by decide), if_neg (by decide), if_neg (by decide), if_neg (by decide)]
  show getF [54, 32, 97, 61, 98, 10] 6 [([98], [97])] = _
  rw [getF_at (by simp), h2]
  rw [if_neg (by decide), if_neg (by decide), if_pos (by decide)]
/-- so many bytes v -/
def vs (n : Nat) : B := List.replicate n 118
theorem vs_len (n : Nat) : (vs n).length = n := List.length_replicate
theorem ps (n r : Nat) (h : 4 + n = r) : psize ([97], vs n) = size r := by
  have e : ([97] : B).length = 1 := rfl
  have f : 3 + 1 + n = r := by omega
  unfold psize
  rw [vs_len, e, f]
theorem sz97 : size 95 = 97 := size_two (by decide) (by decide)
theorem sz98 : size 96 = 98 := size_two (by decide) (by decide)
theorem sz99 : size 97 = 99 := size_two (by decide) (by decide)
theorem sz101 : size 98 = 101 := by
  have a : dl 98 = 2 := dl_two (by decide) (by decide)
  have b : dl 100 = 3 := dl_three (by decide) (by decide)
  unfold size
  rw [a, show 98 + 2 = 100 from rfl, b]; rfl
theorem sz102 : size 99 = 102 := by
  have a : dl 99 = 2 := dl_two (by decide) (by decide)
  have b : dl 101 = 3 := dl_three (by decide) (by decide)
  unfold size
  rw [a, show 99 + 2 = 101 from rfl, b]; rfl
theorem put_ba : putF [([98], []), ([97], [])] = ([], 1, 92) := by decide
theorem put_aa : putF [([97], []), ([97], [])] = ([], 1, 92) := by decide
theorem over_lit : overF [([97], [49]), ([98], [50])] [([98], [51]), ([99], [52])] = ([([97], [49]), ([98], [51]), ([99], [52])], 0) := by
  have e : over [([97], [49]), ([98], [50])] [([98], [51]), ([99], [52])] = [([97], [49]), ([98], [51]), ([99], [52])] := by
    rw [over_less _ _ (by decide), over_same _ _ (by decide), over_nil_l]
  rw [overF_of (by decide) (by decide), e]
  rfl
theorem other_bad : getF ([49, 48, 48, 32, 97, 61] ++ (vs 93 ++ [10])) 0 [] = ([], 0, 90) := by
  refine get_err (by simp) ?_ (by decide)
  rw [one_good (n := 100) (d := 3) (j := 1) (by decide) (by decide) (by decide) (by decide) (fun i c hi h => by
    obtain rfl : i = 0 := by omega
    have hc : c = 97 := by
      have : (some (97 : UInt8)) = some c := h
      exact (Option.some.inj this).symm
    rw [hc]; decide) (by decide)]
  have hf : fits (((([49, 48, 48, 32, 97, 61] ++ (vs 93 ++ [10])).take (3 + 1 + 1)).drop (3 + 1)), ((([49, 48, 48, 32, 97, 61] ++ (vs 93 ++ [10])).take (100 - 1)).drop (3 + 1 + 1 + 1))) = 0 := by decide
  have hp : psize (((([49, 48, 48, 32, 97, 61] ++ (vs 93 ++ [10])).take (3 + 1 + 1)).drop (3 + 1)), ((([49, 48, 48, 32, 97, 61] ++ (vs 93 ++ [10])).take (100 - 1)).drop (3 + 1 + 1 + 1))) = 99 := by
    unfold psize
    exact sz99
  dsimp only
  rw [hf, hp, if_neg (by simp), if_pos (by decide)]
end Px
set_option maxHeartbeats 1000000 in
theorem refused9_any (s : ByteArray) (hs : s.size ≤ 140737488355328) (i er : Nat) (hi : i ≤ 4611686018427387904) (he : er ≤ 100) (h : Px.getF s.toList 0 [] = ([], i, er)) (w : World) (hk : KAt w) :
    Calls Tryd.prog 17 #[.string s, .int .i64 (i : Int), .int .i64 (er : Int)] w fun e w' => e = .returned (.bool true) ∧ Bw w w' := by
  have HG : Hid (∀ u A c, KAt u → RowAt u A s.size (Px.rowF s.toList) → s.size ≤ c → Calls Tryd.prog 15 #[.slice A s.size c] u fun e w' => (∃ v, e = .returned (.tuple #[v, .int .i64 (i : Int), .int .i64 (er : Int)]) ∧ PrsIs w' v []) ∧ Bw u w') := fun u A c hku hr hc => by
    have := pget_any A c s.toList (by rw [Nm.size_toList]; exact hs) (by rw [Nm.size_toList]; exact hc) u hku (by rw [Nm.size_toList]; exact hr)
    unfold GetSays at this
    rw [Nm.size_toList, h] at this
    exact this
  have HK : Hid (KAt w) := hk
  clear hk
  have hcv := conv_text w s
  have hb := textW_bw w s
  have hrow := textW_row w s
  have hcap := textCap_ge w s
  obtain ⟨W, hW⟩ : ∃ W, Hid (textW w s = W) := ⟨_, rfl⟩
  obtain ⟨C, hC⟩ : ∃ C, Hid (textCap w s = C) := ⟨_, rfl⟩
  rw [hW.out, hC.out] at hcv
  rw [hW.out] at hb hrow
  rw [hC.out] at hcap
  go_enter Tryd.func17, Tryd.ntmps17
  go_wp2_with (go_at_call 15; refine (HG.out _ _ C (HK.out.keep hb) hrow.row hcap).mono ?_; rintro e w1 ⟨⟨v, rfl, hv⟩, hw1⟩; obtain ⟨A, c, rfl, hc, hr⟩ := hv)
  go_ret
  exact ⟨by simp, hb.trans hw1⟩
end Go.Proofs.YtmbabfelnieagabDoor
namespace Go.Proofs.YtmbabfelnieagabDoor
open Go.RowKit Go.Deep
set_option linter.unusedVariables false
set_option linter.unusedSimpArgs false

theorem parts_evalV9 (a : Act) (parts : Array (Nat × Operand)) (vs : List Value) (hparts : parts.toList = (vs.zipIdx 0).map fun x => (x.2, Operand.const x.1)) :
    (parts.map fun (i, x) => (i, a.eval x)).toList = (vs.zipIdx 0).map fun x => (x.2, x.1) := by
  rw [Array.toList_map, hparts, List.map_map]
  rfl
/-- a written list of one-cell values -/
theorem wpList_litV9 {ops : Array Oper} {rest : List Oper} {o : Oper} {a : Act} {w : World} {Q : Exit → Act → World → Prop} (hgd : o.guard = none) (t e : TypeId) (i0 : TypeInfo) (z : Value) (ht : Tryd.prog.underlying t = some (.slice e)) (hi0 : Tryd.prog.info? e = some i0) (hz0 : i0.zero = some z) (hz1 : i0.size = 1)
    (len : Nat) (parts : Array (Nat × Operand)) (ho : o.op = .buildSlice t len parts)
    (vs : List Value) (hlen : len = vs.length) (hpos : 0 < len) (hsmall : len ≤ 2 ^ 24) (hone : ∀ v ∈ vs, v.cells = #[v])
    (hparts : parts.toList = (vs.zipIdx 0).map fun x => (x.2, Operand.const x.1))
    (h : wpList Tryd.prog ops Q rest (a.put o.dst (.slice (some ⟨w.heap.size, 0, none⟩) len len)) (w.alloc (.cells vs.toArray e))) : wpList Tryd.prog ops Q (o :: rest) a w := by
  refine wpList_buildSlice hgd t e len parts ho _ i0 z ht hi0 hz0 (by rw [hz1]; omega) (by rw [hz1]; omega) ?_ h
  rw [parts_evalV9 a parts vs hparts, hz1]
  exact Great.fill_flat _ _ hone (by simp [hlen])
theorem info_int9 : (Tryd.prog.info? 3).map (fun i => (i.zero, i.size, i.bytes)) = some (some (.int .i64 0), 1, 8) := by kernel_rfl
theorem lit_cells9 (W : World) (vs : List Value) (t : TypeId) (i : Nat) (v : Value) (h : vs[i]? = some v) : (W.alloc (.cells vs.toArray t)).cell? ⟨W.heap.size, i, none⟩ = some v := by
  rw [World.cell?_alloc_at _ _ _ i rfl, List.getElem?_toArray]; exact h
theorem cell_later9 {w w' : World} {a : Addr} {v : Value} (h : Bw w w') (hc : w.cell? a = some v) : w'.cell? a = some v := by
  rw [h.cell (p := a) (block_lt_of_cell hc)]; exact hc
theorem keep_c9 {w0 w1 w2 : World} {p : Addr} {v : Value} (h : w1.cell? p = some v ∧ Bw w0 w1) (k : Bw w1 w2) : w2.cell? p = some v ∧ Bw w0 w2 := ⟨cell_later9 k h.1, h.2.trans k⟩
theorem keep_f9 {w0 w1 w2 : World} {p q r t : Addr} {a b c d : Value} (h : w1.cell? p = some a ∧ w1.cell? q = some b ∧ w1.cell? r = some c ∧ w1.cell? t = some d ∧ Bw w0 w1) (k : Bw w1 w2) : w2.cell? p = some a ∧ w2.cell? q = some b ∧ w2.cell? r = some c ∧ w2.cell? t = some d ∧ Bw w0 w2 :=
  ⟨cell_later9 k h.1, cell_later9 k h.2.1, cell_later9 k h.2.2.1, cell_later9 k h.2.2.2.1, h.2.2.2.2.trans k⟩
/-- so many v, as a text -/
def Vs (n : Nat) : ByteArray := Nm.S (Px.vs n)
theorem Vs_size (n : Nat) : (Vs n).size = n := by unfold Vs; rw [Nm.size_S, Px.vs_len]
theorem Vs_list (n : Nat) : (Vs n).toList = Px.vs n := by unfold Vs; rw [Nm.toList_S]
theorem Vs_add (n : Nat) (h : n ≤ 1000) (u : World) : (Op.stringOp .add (Vs n) ⟨#[118]⟩).run Tryd.prog u = .ok (.string (Vs (n + 1))) u := by
  rw [run_string_add_sum _ _ _ (by rw [Vs_size, show (⟨#[118]⟩ : ByteArray).size = 1 from rfl]; omega)]
  unfold Vs
  rw [show (⟨#[118]⟩ : ByteArray) = Nm.S [118] from rfl, Nm.append_S]
  unfold Px.vs
  rw [← List.replicate_succ']
theorem Vs_cut {n m : Nat} (h : n ≤ m) : (Vs m).extract 0 n = Vs n := by
  rw [Nm.extract_to, Vs_list]
  unfold Vs Px.vs
  rw [List.take_replicate, Nat.min_eq_left h]
theorem ksize (k : Nat) (h : k ≤ 1000) (w : World) (hk : KAt w) : Calls Tryd.prog 8 #[.agg #[.string ⟨#[97]⟩, .string (Vs k)]] w fun e w' => e = .returned (.int .i64 ((Px.psize ([97], Px.vs k) : Nat) : Int)) ∧ Bw w w' := by
  have := psize_any ⟨#[97]⟩ (Vs k) (by decide) (by rw [Vs_size]; omega) w hk
  rw [show (⟨#[97]⟩ : ByteArray).toList = [97] from Nm.toList_S [97], Vs_list] at this
  exact this
theorem krec (a b : Px.B) (ha : a.length ≤ 1000) (hb : b.length ≤ 1000) (r : Px.B) (er : Nat) (h : Px.recF (a, b) = (r, er)) (w : World) (hk : KAt w) : Calls Tryd.prog 10 #[.agg #[.string (Nm.S a), .string (Nm.S b)]] w fun e w' => (∃ A c, e = .returned (.tuple #[.slice A r.length c, .int .i64 (er : Int)]) ∧ r.length ≤ c ∧ RowAt w' A r.length (Px.rowF r)) ∧ Bw w w' := by
  have := precord_any (Nm.S a) (Nm.S b) (by rw [Nm.size_S]; omega) (by rw [Nm.size_S]; omega) w hk
  unfold RecSays at this
  rw [Nm.toList_S, Nm.toList_S, h] at this
  refine this.mono ?_
  rintro e w' ⟨⟨v, rfl, A, c, rfl, h1, h2⟩, hb⟩
  exact ⟨⟨A, c, rfl, h1, h2⟩, hb⟩
theorem kput (A : Option Addr) (cap : Nat) (L : List Px.Pr) (n : Nat) (hn : L.length = n) (hn2 : n ≤ 64) (hnc : n ≤ cap) (hS : ∀ p ∈ L, p.1.length ≤ 140737488355328 ∧ p.2.length ≤ 140737488355328) (r : Px.B) (i er : Nat) (h : Px.putF L = (r, i, er)) (w : World) (ha : PrsAt w A L) (hk : KAt w) : Calls Tryd.prog 12 #[.slice A n cap] w fun e w' => (∃ A c, e = .returned (.tuple #[.slice A r.length c, .int .i64 (i : Int), .int .i64 (er : Int)])) ∧ Bw w w' := by
  have := pput_any A cap L (by omega) (by omega) hS w hk ha
  unfold PutSays at this
  rw [h, hn] at this
  refine this.mono ?_
  rintro e w' ⟨⟨v, rfl, A, c, rfl, h1, h2⟩, hb⟩
  exact ⟨⟨A, c, rfl⟩, hb⟩
theorem kover (A B : Option Addr) (w : World) (ha : PrsAt w A [([97], [49]), ([98], [50])]) (hb : PrsAt w B [([98], [51]), ([99], [52])]) (hk : KAt w) : Calls Tryd.prog 11 #[.slice A 2 2, .slice B 2 2] w fun e w' => (∃ A c, e = .returned (.tuple #[.slice A 3 c, .int .i64 0]) ∧ 3 ≤ c ∧ PrsAt w' A [([97], [49]), ([98], [51]), ([99], [52])]) ∧ Bw w w' := by
  have := pover_any A B 2 2 [([97], [49]), ([98], [50])] [([98], [51]), ([99], [52])] (by decide) (by decide) (by decide) (by decide) (by decide) (by decide) w hk ha hb
  unfold OverSays at this
  rw [Px.over_lit] at this
  refine this.mono ?_
  rintro e w' ⟨⟨v, rfl, A, c, rfl, h1, h2⟩, hb⟩
  exact ⟨⟨A, c, rfl, h1, h2⟩, hb⟩
theorem kpairs (A B : Option Addr) (ca cb : Nat) (w : World) (ha : PrsAt w A [([97], [49]), ([98], [51]), ([99], [52])]) (hb : PrsAt w B [([97], [49]), ([98], [51]), ([99], [52])]) : Calls Tryd.prog 13 #[.slice A 3 ca, .slice B 3 cb] w fun e w' => e = .returned (.bool true) ∧ Bw w w' := by
  have := pairs9_any A B ca cb _ _ (by decide) (by decide) w ha hb
  rw [decide_eq_true rfl] at this
  refine this.mono ?_
  rintro e w' ⟨rfl, q, hq⟩
  exact ⟨rfl, bw_of_drew hq⟩
theorem KAt.alloc {w : World} (h : KAt w) (o : Obj) : KAt (w.alloc o) := h.keep (Below.alloc (Bw.refl _) (Nat.le_refl _) _)
theorem hidE {α : Type} (x : α) : ∃ y, Hid (y = x) := ⟨x, rfl⟩
theorem prs_two (W : World) (n : Nat) (h : W.heap.size = n) (a b c d : Px.B) : PrsAt (W.alloc (.cells #[.string (Nm.S a), .string (Nm.S b), .string (Nm.S c), .string (Nm.S d)] 23)) (some ⟨n, 0, none⟩) [(a, b), (c, d)] := by
  subst h
  exact prs_new _ _ _ rfl
theorem prs_three (W : World) (n : Nat) (h : W.heap.size = n) (a b c d e f : Px.B) : PrsAt (W.alloc (.cells #[.string (Nm.S a), .string (Nm.S b), .string (Nm.S c), .string (Nm.S d), .string (Nm.S e), .string (Nm.S f)] 23)) (some ⟨n, 0, none⟩) [(a, b), (c, d), (e, f)] := by
  subst h
  exact prs_new _ _ _ rfl
theorem prs_two_on (W : World) (a b c d : Px.B) (o : Obj) : PrsAt ((W.alloc (.cells #[.string (Nm.S a), .string (Nm.S b), .string (Nm.S c), .string (Nm.S d)] 23)).alloc o) (some ⟨W.heap.size, 0, none⟩) [(a, b), (c, d)] :=
  (prs_two W _ rfl a b c d).keep (Below.alloc (Bw.refl _) (Nat.le_refl _) _)
/-- the key of the third loop -/
def Ky : Px.B := [107, 101, 121]
theorem kfits (n : Nat) (h : n ≤ 90) : Px.fits (Ky, Px.vs n) = 0 := by
  unfold Px.fits
  rw [if_neg (show ¬ Px.keyF Ky = false by decide), if_neg (by rw [Px.vs_len]; omega)]
theorem kget (n : Nat) (h : n ≤ 90) (A : Option Addr) (r : Px.B) (c z : Nat) (hr : Px.rcd (Ky, Px.vs n) = r) (hz : r.length = z) (hz2 : z ≤ 2000) (hc : z ≤ c) (w : World) (ha : RowAt w A z (Px.rowF r)) (hk : KAt w) : Calls Tryd.prog 15 #[.slice A z c] w fun e w' => (∃ A c, e = .returned (.tuple #[.slice A 1 c, .int .i64 0, .int .i64 0]) ∧ 1 ≤ c ∧ PrsAt w' A [(Ky, Px.vs n)]) ∧ Bw w w' := by
  subst hz
  have := pget_any A c r (by omega) hc w hk ha
  unfold GetSays at this
  have e : Px.getF r 0 [] = ([(Ky, Px.vs n)], 0, 0) := by
    have := Px.get_put [(Ky, Px.vs n)] [] 0 (by simp) (fun p hp => by rw [List.mem_singleton.1 hp]; exact kfits n h) (by simp [Px.Srt])
    rw [Px.all9, Px.all9, List.append_nil, hr] at this
    exact this
  rw [e] at this
  refine this.mono ?_
  rintro e w' ⟨⟨v, rfl, A, c, rfl, h1, h2⟩, hb⟩
  exact ⟨⟨A, c, rfl, h1, h2⟩, hb⟩
def Key32 : Px.B := [97, 98, 99, 100, 101, 102, 103, 104, 105, 106, 107, 108, 109, 110, 111, 112, 113, 114, 115, 116, 117, 118, 119, 120, 121, 122, 49, 50, 51, 52, 53, 54]
theorem kr1 : Px.recF ([], [98]) = ([], 91) := by decide
theorem kr2 : Px.recF ([97, 61, 98], []) = ([], 91) := by decide
theorem kr3 : Px.recF (Key32, []) = (Px.rcd (Key32, []), 0) := by unfold Px.recF; rw [if_neg (by decide)]
theorem kr4 : Px.recF (Key32 ++ [55], []) = ([], 91) := by decide
theorem kr5 (n : Nat) (h : n ≤ 90) : Px.recF (Ky, Px.vs n) = (Px.rcd (Ky, Px.vs n), 0) := by unfold Px.recF; rw [kfits n h, if_neg (by decide)]
theorem krecE (a b : Px.B) (ha : a.length ≤ 1000) (hb : b.length ≤ 1000) (er : Nat) (r : Px.B) (h : Px.recF (a, b) = (r, er)) (w : World) (hk : KAt w) : Calls Tryd.prog 10 #[.agg #[.string (Nm.S a), .string (Nm.S b)]] w fun e w' => (∃ (A : Option Addr) (m : Nat) (c : Nat), e = .returned (.tuple #[.slice A m c, .int .i64 (er : Int)])) ∧ Bw w w' :=
  (krec a b ha hb r er h w hk).mono fun e w' ⟨⟨A, c, h1, _⟩, h2⟩ => ⟨⟨A, _, c, h1⟩, h2⟩
theorem kref (s : Px.B) (hs : s.length ≤ 1000) (i er : Nat) (hi : i ≤ 100) (he : er ≤ 100) (h : Px.getF s 0 [] = ([], i, er)) (w : World) (hk : KAt w) : Calls Tryd.prog 17 #[.string (Nm.S s), .int .i64 (i : Int), .int .i64 (er : Int)] w fun e w' => e = .returned (.bool true) ∧ Bw w w' :=
  refused9_any (Nm.S s) (by rw [Nm.size_S]; omega) i er (by omega) he (by rw [Nm.toList_S]; exact h) w hk
end Go.Proofs.YtmbabfelnieagabDoor
