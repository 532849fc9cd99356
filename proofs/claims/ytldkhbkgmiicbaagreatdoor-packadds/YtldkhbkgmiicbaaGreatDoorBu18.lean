/- Texts of mine, put together. -/
import Derived.Test.YtldkhbkgmiicbaaGreatDoorBu17
import Derived.Laws.StructEq

/- The document's own Put (of tabularyref09). -/
namespace Go.Proofs.YtldkhbkgmiicbaaGreatDoor
open Go.RowKit Go.Deep
set_option linter.unusedVariables false
set_option linter.unusedSimpArgs false

namespace Px
/-- the cells of a row of bytes -/
def cellsB (l : B) : List Value := l.map fun c => .int .u8 (c.toNat : Int)
theorem cellsB_append (a b : B) : cellsB (a ++ b) = cellsB a ++ cellsB b := List.map_append
theorem cellsB_len (l : B) : (cellsB l).length = l.length := List.length_map _
theorem cellsU_rowF (l : B) : cellsU (rowF l) l.length = cellsB l := by
  unfold cellsU cellsB
  refine List.ext_getElem? fun i => ?_
  rw [List.getElem?_map, List.getElem?_map]
  rcases Nat.lt_or_ge i l.length with h | h
  · rw [List.getElem?_range h, List.getElem?_eq_getElem h]
    show some (Value.int .u8 (rowF l i)) = _
    unfold rowF
    rw [List.getD_eq_getElem?_getD, List.getElem?_eq_getElem h]; rfl
  · rw [List.getElem?_eq_none (by simpa using h), List.getElem?_eq_none h]; rfl
def lastK (l : List Pr) (k : Nat) : Option B := if k = 0 then none else (l[k - 1]?).map (·.1)
theorem putE_at {l : List Pr} {k : Nat} {p : Pr} (hp : l[k]? = some p) : putE (lastK l k) (l.drop k) k = if fits p ≠ 0 then (k, fits p) else if behind (lastK l k) p.1 = false then (k, 92) else putE (lastK l (k + 1)) (l.drop (k + 1)) (k + 1) := by
  obtain ⟨hk, e⟩ := List.getElem?_eq_some_iff.1 hp
  rw [List.drop_eq_getElem_cons hk, e]
  have h1 : lastK l (k + 1) = some p.1 := by
    unfold lastK
    rw [if_neg (by omega), Nat.add_sub_cancel, hp]; rfl
  rw [h1]
  rfl
theorem all9_take {l : List Pr} {k : Nat} {p : Pr} (hp : l[k]? = some p) : all9 (l.take (k + 1)) = all9 (l.take k) ++ rcd p := by
  rw [List.take_add_one, hp, all9_append]
  simp [all9]
theorem rcd_bd {p : Pr} (h : fits p = 0) : (rcd p).length ≤ 1064 := by rw [rcd_len]; exact psize_le h
theorem all9_bd : ∀ (l : List Pr), (∀ p ∈ l, fits p = 0) → (all9 l).length ≤ 1064 * l.length
  | [], _ => Nat.zero_le _
  | p :: l, h => by
    have h1 := rcd_bd (h p (by simp))
    have h2 := all9_bd l (fun q hq => h q (List.mem_cons_of_mem _ hq))
    rw [all9, List.length_append, List.length_cons]
    omega
end Px
/-- what Put answers -/
def PutEnds (base : Nat) (L : List Px.Pr) (e : Ending) (w' : World) : Prop :=
  ((Px.putF L).2.2 ≠ 0 ∧ e = .returned (.tuple #[.slice none 0 0, .int .i64 ((Px.putF L).2.1 : Int), .int .i64 ((Px.putF L).2.2 : Int)])) ∨
  ((Px.putF L).2.2 = 0 ∧ ∃ v, e = .returned (.tuple #[v, .int .i64 0, .int .i64 0]) ∧ w'.ownsRow base 5 1 v (Px.all9 L).length (Px.cellsB (Px.all9 L)))
theorem put_ends_bad {base : Nat} {L : List Px.Pr} {i er : Nat} {w' : World} (hn : L.length ≤ 64) (h : Px.putE none L 0 = (i, er)) (he : er ≠ 0) : PutEnds base L (.returned (.tuple #[.slice none 0 0, .int .i64 (i : Int), .int .i64 (er : Int)])) w' := by
  have e : Px.putF L = ([], i, er) := by unfold Px.putF; rw [if_neg (by omega), h, if_pos he]
  refine .inl ⟨by rw [e]; exact he, by rw [e]⟩
theorem put_ends_ok {base : Nat} {L : List Px.Pr} {v : Value} {w' : World} (hn : L.length ≤ 64) (h : Px.putE none L 0 = (0, 0)) (ho : w'.ownsRow base 5 1 v (Px.all9 L).length (Px.cellsB (Px.all9 L))) : PutEnds base L (.returned (.tuple #[v, .int .i64 0, .int .i64 0])) w' := by
  have e : Px.putF L = (Px.all9 L, 0, 0) := by unfold Px.putF; rw [if_neg (by omega), h, if_neg (by simp)]
  exact .inr ⟨by rw [e], v, rfl, ho⟩
set_option maxRecDepth 100000 in
set_option maxHeartbeats 1000000 in
theorem rput_any (A : Option Addr) (cap : Nat) (L : List Px.Pr) (hn : L.length ≤ 4611686018427387904) (hS : ∀ p ∈ L, p.1.length ≤ 140737488355328 ∧ p.2.length ≤ 140737488355328) (w : World) (ha : PrsAt w A L) :
    Calls Tryz.prog 50 #[.slice A L.length cap] w fun e w' => PutEnds w.heap.size L e w' ∧ Bw w w' := by
  obtain ⟨n, hnn⟩ : ∃ n, Hid (L.length = n) := ⟨_, rfl⟩
  rw [hnn.out] at hn ⊢
  have HA : Hid (PrsAt w A L) := ha
  have HS : Hid (∀ p ∈ L, p.1.length ≤ 140737488355328 ∧ p.2.length ≤ 140737488355328) := hS
  clear ha hS
  obtain ⟨i0, hi0, hz0, hz1, hz2⟩ := info_parts info_u8
  by_cases h64 : 64 < n
  · have hE : Hid (∀ w', PutEnds w.heap.size L (.returned (.tuple #[.slice none 0 0, .int .i64 64, .int .i64 3])) w') := fun w' => by
      have e : Px.putF L = ([], 64, 3) := by unfold Px.putF; rw [if_pos (by rw [hnn.out]; exact h64)]
      exact .inl ⟨by rw [e]; simp, by rw [e]; rfl⟩
    have t1 : (64 : Int) < (n : Int) := by omega
    go_enter Tryz.func50, Tryz.ntmps50
    go_wp2
    refine bodyPost_ret (results_tmp3 rfl _ _ _) rfl ?_
    exact ⟨hE.out _, Bw.refl _⟩
  · have hL64 : L.length ≤ 64 := by rw [hnn.out]; omega
    have HL64 : Hid (L.length ≤ 64) := hL64
    clear hL64
    have t1 : (n : Int) ≤ 64 := by omega
    go_enter Tryz.func50, Tryz.ntmps50
    go_wp2
    go_loopw [5, 6] (fun v i wr => ∃ k : Nat, k ≤ n ∧ i = .int .i64 (k : Int) ∧ Hid (Px.putE none L 0 = Px.putE (Px.lastK L k) (L.drop k) k) ∧ Hid (∀ p ∈ L.take k, Px.fits p = 0) ∧ wr.ownsRow w.heap.size 5 1 v (Px.all9 (L.take k)).length (Px.cellsB (Px.all9 (L.take k))) ∧ Bw w wr) (fun _ i _ => n - (intOf i).toNat)
    case atStart => exact ⟨0, Nat.zero_le _, rfl, by show _ = _; rfl, fun p hp => by simp at hp, World.ownsRow_nil _ _ _ _, Bw.refl _⟩
    case round =>
      obtain ⟨k, hk, rfl, hst, hfit, hown, hbw⟩ := hrel
      have k0 : (0 : Int) ≤ (k : Int) := Int.natCast_nonneg _
      have szr := hbw.size
      by_cases hlt : k < n
      · have k1 : (k : Int) < (n : Int) := by omega
        obtain ⟨p, hp⟩ : ∃ p, Hid (L[k]? = some p) := ⟨_, List.getElem?_eq_getElem (by rw [hnn.out]; exact hlt)⟩
        obtain ⟨b, off, rfl, hc⟩ := (HA.out.keep hbw).at (by rw [hnn.out]; omega)
        have HC : Hid (∀ (i : Nat) (p : Px.Pr), L[i]? = some p → wr.cell? ⟨b, off + i * 2, none⟩ = some (.string (Nm.S p.1)) ∧ wr.cell? ⟨b, off + i * 2 + 1, none⟩ = some (.string (Nm.S p.2))) := hc
        obtain ⟨c1, c2⟩ := hc k p hp.out
        clear hc
        have hsz := HS.out p (List.mem_of_getElem? hp.out)
        have hs1 : (Nm.S p.1).size ≤ 140737488355328 := by rw [Nm.size_S]; exact hsz.1
        have hs2 : (Nm.S p.2).size ≤ 140737488355328 := by rw [Nm.size_S]; exact hsz.2
        have hpp : Hid (((Nm.S p.1).toList, (Nm.S p.2).toList) = p) := by show _ = _; rw [Nm.toList_S, Nm.toList_S]
        have hstep := Px.putE_at hp.out
        obtain ⟨er, her⟩ : ∃ er, Hid (Px.fits p = er) := ⟨_, rfl⟩
        have herb : er ≤ 100 := by have := Px.fits_vals p; rw [her.out] at this; omega
        rw [her.out] at hstep
        by_cases h0 : er = 0
        · subst h0
          rw [if_neg (by simp)] at hstep
          have hown0 := fun (w1 : World) (h : Bw wr w1) => own_keep hown h
          have hown1 : Hid _ := hown0
          clear hown0
          have hfit2 : Hid (∀ q ∈ L.take (k + 1), Px.fits q = 0) := fun q hq => by
            rw [List.take_add_one, hp.out] at hq
            rcases List.mem_append.1 hq with hq | hq
            · exact hfit.out q hq
            · rw [List.mem_singleton.1 hq]; exact her.out
          have hlen : (Px.all9 (L.take k)).length ≤ 1064 * 64 := by
            have h1 := Px.all9_bd _ hfit.out
            have h2 : (L.take k).length ≤ 64 := by rw [List.length_take]; omega
            omega
          have hrl : (Px.rcd p).length ≤ 1064 := Px.rcd_bd her.out
          cases hbh : Px.behind (Px.lastK L k) p.1 with
          | false =>
            have hE : Hid (∀ w', PutEnds w.heap.size L (.returned (.tuple #[.slice none 0 0, .int .i64 (k : Int), .int .i64 92])) w') := fun w' => by
              rw [if_pos hbh] at hstep
              exact put_ends_bad (er := 92) HL64.out (hst.out.trans hstep) (by simp)
            clear hstep
            have hkp : 0 < k := by
              rcases Nat.eq_zero_or_pos k with h | h
              · subst h; cases hbh
              · exact h
            obtain ⟨q, rfl⟩ : ∃ q, k = q + 1 := ⟨k - 1, by omega⟩
            obtain ⟨p', hp'⟩ : ∃ p', Hid (L[q]? = some p') := ⟨_, List.getElem?_eq_getElem (by rw [hnn.out]; omega)⟩
            have hls : Hid (Op.bytesLess (Nm.S p'.1).toList (Nm.S p.1).toList = false) := by
              show _ = _
              unfold Px.lastK at hbh
              rw [if_neg (by omega), Nat.add_sub_cancel, hp'.out] at hbh
              rw [Nm.toList_S, Nm.toList_S]
              exact hbh
            clear hbh
            go_wp2_with (go_at_call 75; refine (rrecord_any (Nm.S p.1) (Nm.S p.2) hs1 hs2 _).mono ?_; rintro e w1 ⟨hw1, hor⟩; rw [hpp.out, her.out] at hor; rcases hor with ⟨h, -⟩ | ⟨-, B, cb, rfl, hcb, hrow⟩; exact absurd rfl h; have HC1 : Hid (∀ (i : Nat) (p : Px.Pr), L[i]? = some p → w1.cell? ⟨b, off + i * 2, none⟩ = some (.string (Nm.S p.1)) ∧ w1.cell? ⟨b, off + i * 2 + 1, none⟩ = some (.string (Nm.S p.2))) := (fun i p hp => by obtain ⟨g1, g2⟩ := HC.out i p hp; have hb := block_lt_of_cell g1; rw [hw1.cell (p := ⟨b, off + i * 2, none⟩) hb, hw1.cell (p := ⟨b, off + i * 2 + 1, none⟩) hb]; exact ⟨g1, g2⟩))
            obtain ⟨d1, d2⟩ := HC1.out (q + 1) p hp.out
            obtain ⟨d3, d4⟩ := HC1.out q p' hp'.out
            have hls2 := hls.out
            go_quiet (fail)
            go_wp2
            refine bodyPost_ret (results_tmp3 rfl _ _ _) rfl ?_
            exact ⟨hE.out _, hbw.trans (hw1.trans (Bw.drewN _ _))⟩
          | true =>
            rw [if_neg (by rw [hbh]; simp)] at hstep
            have hst2 : Hid (Px.putE none L 0 = Px.putE (Px.lastK L (k + 1)) (L.drop (k + 1)) (k + 1)) := hst.out.trans hstep
            clear hstep
            have hrp : 0 < (Px.rcd p).length := by rw [Px.rcd_len]; have := Px.psize_pos p; omega
            rcases Nat.eq_zero_or_pos k with hk0 | hkp
            · have kz : ¬ (0 < k) := by omega
              have kz2 : (0 < k) = False := by simp; omega
              clear hbh hk0
              go_wp2_with (go_at_call 75; refine (rrecord_any (Nm.S p.1) (Nm.S p.2) hs1 hs2 _).mono ?_; rintro e w1 ⟨hw1, hor⟩; rw [hpp.out, her.out] at hor; rcases hor with ⟨h, -⟩ | ⟨-, B, cb, rfl, hcb, hrow⟩; exact absurd rfl h; have HC1 : Hid (∀ (i : Nat) (p : Px.Pr), L[i]? = some p → w1.cell? ⟨b, off + i * 2, none⟩ = some (.string (Nm.S p.1)) ∧ w1.cell? ⟨b, off + i * 2 + 1, none⟩ = some (.string (Nm.S p.2))) := (fun i p hp => by obtain ⟨g1, g2⟩ := HC.out i p hp; have hb := block_lt_of_cell g1; rw [hw1.cell (p := ⟨b, off + i * 2, none⟩) hb, hw1.cell (p := ⟨b, off + i * 2 + 1, none⟩) hb]; exact ⟨g1, g2⟩))
              have hnil : B = none → cb = 0 := fun e => by
                obtain ⟨b', o', e', _⟩ := hrow.row.at hrp
                rw [e] at e'; cases e'
              go_quiet (fail)
              go_wp2_with (at_builtin; refine wpList_append_rowat _ (by rfl) (.tmp 48) (.tmp 49) _ (by rfl) w.heap.size 5 i0 _ 1 Tryz.underlying24 hi0 hz0 hz1 hz2 rfl _ _ _ (by rfl) (hown1.out _ (hw1.trans (Bw.drewN _ _))) B (Px.rcd p).length cb (Px.rowF (Px.rcd p)) (by rfl) (hrow.row.keep (Bw.drewN _ _)) hnil (by unfold maxLen; omega) (by omega) (Nat.le_trans szr (Nat.le_trans hw1.size (Bw.drewN _ _).size)) ?_; intro v3 w3 hown3 hgrow3)
              rw [Px.cellsU_rowF, ← Px.cellsB_append, ← List.length_append, ← Px.all9_take hp.out] at hown3
              have hb3 : Bw w w3 := bw_grow hgrow3 (hbw.trans (hw1.trans (Bw.drewN _ _))) (Nat.le_trans szr (Nat.le_trans hw1.size (Bw.drewN _ _).size)) (hown1.out _ (hw1.trans (Bw.drewN _ _)))
              clear hown hown1
              go_wp2
              go_roundw
              case rel => exact ⟨k + 1, by omega, by go_num, hst2, hfit2, hown3, hb3⟩
              case measure => simp [intOf]; omega
            · obtain ⟨q, rfl⟩ : ∃ q, k = q + 1 := ⟨k - 1, by omega⟩
              obtain ⟨p', hp'⟩ : ∃ p', Hid (L[q]? = some p') := ⟨_, List.getElem?_eq_getElem (by rw [hnn.out]; omega)⟩
              have hls : Hid (Op.bytesLess (Nm.S p'.1).toList (Nm.S p.1).toList = true) := by
                show _ = _
                unfold Px.lastK at hbh
                rw [if_neg (by omega), Nat.add_sub_cancel, hp'.out] at hbh
                rw [Nm.toList_S, Nm.toList_S]
                exact hbh
              clear hbh
              go_wp2_with (go_at_call 75; refine (rrecord_any (Nm.S p.1) (Nm.S p.2) hs1 hs2 _).mono ?_; rintro e w1 ⟨hw1, hor⟩; rw [hpp.out, her.out] at hor; rcases hor with ⟨h, -⟩ | ⟨-, B, cb, rfl, hcb, hrow⟩; exact absurd rfl h; have HC1 : Hid (∀ (i : Nat) (p : Px.Pr), L[i]? = some p → w1.cell? ⟨b, off + i * 2, none⟩ = some (.string (Nm.S p.1)) ∧ w1.cell? ⟨b, off + i * 2 + 1, none⟩ = some (.string (Nm.S p.2))) := (fun i p hp => by obtain ⟨g1, g2⟩ := HC.out i p hp; have hb := block_lt_of_cell g1; rw [hw1.cell (p := ⟨b, off + i * 2, none⟩) hb, hw1.cell (p := ⟨b, off + i * 2 + 1, none⟩) hb]; exact ⟨g1, g2⟩))
              obtain ⟨d1, d2⟩ := HC1.out (q + 1) p hp.out
              obtain ⟨d3, d4⟩ := HC1.out q p' hp'.out
              have hls2 := hls.out
              have hnil : B = none → cb = 0 := fun e => by
                obtain ⟨b', o', e', _⟩ := hrow.row.at hrp
                rw [e] at e'; cases e'
              go_quiet (fail)
              go_wp2_with (at_builtin; refine wpList_append_rowat _ (by rfl) (.tmp 48) (.tmp 49) _ (by rfl) w.heap.size 5 i0 _ 1 Tryz.underlying24 hi0 hz0 hz1 hz2 rfl _ _ _ (by rfl) (hown1.out _ (hw1.trans (Bw.drewN _ _))) B (Px.rcd p).length cb (Px.rowF (Px.rcd p)) (by rfl) (hrow.row.keep (Bw.drewN _ _)) hnil (by unfold maxLen; omega) (by omega) (Nat.le_trans szr (Nat.le_trans hw1.size (Bw.drewN _ _).size)) ?_; intro v3 w3 hown3 hgrow3)
              rw [Px.cellsU_rowF, ← Px.cellsB_append, ← List.length_append, ← Px.all9_take hp.out] at hown3
              have hb3 : Bw w w3 := bw_grow hgrow3 (hbw.trans (hw1.trans (Bw.drewN _ _))) (Nat.le_trans szr (Nat.le_trans hw1.size (Bw.drewN _ _).size)) (hown1.out _ (hw1.trans (Bw.drewN _ _)))
              clear hown hown1
              go_wp2
              go_roundw
              case rel => exact ⟨q + 1 + 1, by omega, by go_num, hst2, hfit2, hown3, hb3⟩
              case measure => simp [intOf]; omega
        · have e1 : ((er : Int) != 0) = true := by rw [bne_iff_ne]; omega
          have hE : Hid (∀ w', PutEnds w.heap.size L (.returned (.tuple #[.slice none 0 0, .int .i64 (k : Int), .int .i64 (er : Int)])) w') := fun w' => by
            rw [if_pos h0] at hstep
            exact put_ends_bad HL64.out (hst.out.trans hstep) h0
          clear hstep
          go_wp2_with (go_at_call 75; refine (rrecord_any (Nm.S p.1) (Nm.S p.2) hs1 hs2 _).mono ?_; rintro e w1 ⟨hw1, hor⟩; rw [hpp.out, her.out] at hor; rcases hor with ⟨-, rfl⟩ | ⟨h, -⟩; rotate_left; exact absurd h h0)
          refine bodyPost_ret (results_tmp3 rfl _ _ _) rfl ?_
          exact ⟨hE.out _, hbw.trans hw1⟩
      · have ek : k = n := by omega
        subst ek
        have htk : L.take k = L := List.take_of_length_le (by rw [hnn.out]; exact Nat.le_refl _)
        rw [htk] at hown
        have hE : Hid (Px.putE none L 0 = (0, 0)) := by
          show _ = _
          rw [hst.out, List.drop_of_length_le (by rw [hnn.out]; exact Nat.le_refl _)]; rfl
        go_wp2
        refine bodyPost_ret (results_tmp3 rfl _ _ _) rfl ?_
        exact ⟨put_ends_ok HL64.out hE.out hown, hbw⟩
end Go.Proofs.YtldkhbkgmiicbaaGreatDoor

/- The document's own long (of tabularyref09): the number that bytes begin with. -/
namespace Go.Proofs.YtldkhbkgmiicbaaGreatDoor
open Go.RowKit Go.Deep
set_option linter.unusedVariables false
set_option linter.unusedSimpArgs false

namespace Px
theorem take_snoc {b : B} {d : Nat} {c : UInt8} (h : b[d]? = some c) : b.take (d + 1) = b.take d ++ [c] := by rw [List.take_add_one, h]; rfl
theorem rowF_at {b : B} {i : Nat} {c : UInt8} (h : b[i]? = some c) : rowF b i = (c.toNat : Int) := by
  unfold rowF
  rw [List.getD_eq_getElem?_getD, h]; rfl
end Px
end Go.Proofs.YtldkhbkgmiicbaaGreatDoor

/- The document's own one (of tabularyref09): the record that bytes begin with. -/
namespace Go.Proofs.YtldkhbkgmiicbaaGreatDoor
open Go.RowKit Go.Deep
set_option linter.unusedVariables false
set_option linter.unusedSimpArgs false

namespace Px
end Px
namespace Px
end Px
/-- what one answers -/
def OneEnds (b : Px.B) (e : Ending) : Prop := e = .returned (.tuple #[.agg #[.string (Nm.S (Px.oneF b).1.1), .string (Nm.S (Px.oneF b).1.2)], .int .i64 ((Px.oneF b).2.1 : Int), .int .i64 ((Px.oneF b).2.2 : Int)])
end Go.Proofs.YtldkhbkgmiicbaaGreatDoor

/- The document's own Get (of tabularyref09). -/
namespace Go.Proofs.YtldkhbkgmiicbaaGreatDoor
open Go.RowKit Go.Deep
set_option linter.unusedVariables false
set_option linter.unusedSimpArgs false

namespace Px
/-- the cells of a list of pairs -/
def cellsPr : List Pr → List Value
  | [] => []
  | p :: l => .string (Nm.S p.1) :: .string (Nm.S p.2) :: cellsPr l
theorem cellsPr_len : ∀ a, (cellsPr a).length = a.length * 2
  | [] => rfl
  | p :: a => by simp only [cellsPr, List.length_cons, cellsPr_len a]; omega
theorem cellsPr_get : ∀ (a : List Pr) (j : Nat) (p : Pr), a[j]? = some p → (cellsPr a)[j * 2]? = some (.string (Nm.S p.1)) ∧ (cellsPr a)[j * 2 + 1]? = some (.string (Nm.S p.2))
  | [], j, p, h => by simp at h
  | q :: a, 0, p, h => by simp at h; subst h; exact ⟨rfl, rfl⟩
  | q :: a, j + 1, p, h => by
    have := cellsPr_get a j p (by simpa using h)
    rw [show (j + 1) * 2 = j * 2 + 1 + 1 by omega]
    exact this
end Px
theorem info_pair : (Tryz.prog.info? 130).map (fun i => (i.zero, i.size, i.bytes)) = some (some (.agg #[.string ⟨#[]⟩, .string ⟨#[]⟩]), 2, 32) := by kernel_rfl
/-- a list of pairs of the call's own lies in memory -/
theorem prs_of_own {w : World} {base : Nat} {v : Value} {L : List Px.Pr} (h : w.ownsRow base 130 2 v L.length (Px.cellsPr L)) : ∃ A cap, v = .slice A L.length cap ∧ L.length ≤ cap ∧ PrsAt w A L ∧ (A = none → cap = 0) := by
  rcases h.2 with ⟨h0, h1⟩ | ⟨g, cap, cur, hv, hb, hg, h1, h2, h3, h4⟩
  · have : L = [] := List.eq_nil_of_length_eq_zero h1
    subst this
    exact ⟨none, 0, h0, Nat.le_refl _, .inl rfl, fun _ => rfl⟩
  · refine ⟨some ⟨g, 0, none⟩, cap, hv, h1, .inr ⟨g, 0, rfl, fun i p hp => ?_⟩, fun e => by cases e⟩
    have hi := (List.getElem?_eq_some_iff.1 hp).1
    have hc := Px.cellsPr_get L i p hp
    have e : ∀ j, j < L.length * 2 → cur[j]? = (Px.cellsPr L)[j]? := fun j hj => by
      rw [← h4, List.getElem?_take, if_pos hj, Array.getElem?_toList]
    rw [Nat.zero_add, cell_of_row w g _ cur _ _ hg, cell_of_row w g _ cur _ _ hg, e _ (by omega), e _ (by omega)]
    exact hc
namespace Px
end Px
/-- what Get answers -/
def GetEnds (base : Nat) (b : Px.B) (e : Ending) (w' : World) : Prop :=
  ((Px.getF b 0 []).2.2 ≠ 0 ∧ e = .returned (.tuple #[.slice none 0 0, .int .i64 ((Px.getF b 0 []).2.1 : Int), .int .i64 ((Px.getF b 0 []).2.2 : Int)])) ∨
  ((Px.getF b 0 []).2.2 = 0 ∧ ∃ v, e = .returned (.tuple #[v, .int .i64 0, .int .i64 0]) ∧ w'.ownsRow base 130 2 v (Px.getF b 0 []).1.length (Px.cellsPr (Px.getF b 0 []).1))
end Go.Proofs.YtldkhbkgmiicbaaGreatDoor

/- The document's own Over (of tabularyref09). -/
namespace Go.Proofs.YtldkhbkgmiicbaaGreatDoor
open Go.RowKit Go.Deep
set_option linter.unusedVariables false
set_option linter.unusedSimpArgs false

namespace Px
/-- Over's answer -/
def overF (l m : List Pr) : List Pr × Nat := if (putF l).2.2 ≠ 0 then ([], (putF l).2.2) else if (putF m).2.2 ≠ 0 then ([], (putF m).2.2) else if 64 < (over l m).length then ([], 3) else (over l m, 0)
end Px
/-- what Over answers -/
def OverEnds (base : Nat) (L M : List Px.Pr) (e : Ending) (w' : World) : Prop :=
  ((Px.overF L M).2 ≠ 0 ∧ e = .returned (.tuple #[.slice none 0 0, .int .i64 ((Px.overF L M).2 : Int)])) ∨
  ((Px.overF L M).2 = 0 ∧ ∃ v, e = .returned (.tuple #[v, .int .i64 0]) ∧ w'.ownsRow base 130 2 v (Px.overF L M).1.length (Px.cellsPr (Px.overF L M).1))
end Go.Proofs.YtldkhbkgmiicbaaGreatDoor

/- The statements' helpers of layer 9: the same bytes, the same pairs. -/
namespace Go.Proofs.YtldkhbkgmiicbaaGreatDoor
open Go.RowKit Go.Deep
set_option linter.unusedVariables false
set_option linter.unusedSimpArgs false

end Go.Proofs.YtldkhbkgmiicbaaGreatDoor
