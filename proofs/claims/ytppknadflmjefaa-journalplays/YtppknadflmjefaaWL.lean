/- Layer 15: put. -/
import Derived.Test.YtppknadflmjefaaWK
namespace Go.Proofs.Ytppknadflmjefaa
open Go.RowKit Go.Deep Go.Maps
set_option linter.unusedVariables false
set_option linter.unusedSimpArgs false

namespace Jl
theorem packed_byt : ∀ (L : List (List Nat)), (∀ r ∈ L, Byt r) → (∀ r ∈ L, r.length ≤ 65535) → Byt (packed L)
  | [], _, _ => fun b hb => by cases hb
  | r :: L, h1, h2 => fun b hb => by
    have hr := h2 r List.mem_cons_self
    rw [packed] at hb
    rcases List.mem_cons.1 hb with rfl | hb
    · omega
    rcases List.mem_cons.1 hb with rfl | hb
    · omega
    rcases List.mem_append.1 hb with hb | hb
    · exact h1 r List.mem_cons_self b hb
    · exact packed_byt L (fun r hr => h1 r (List.mem_cons_of_mem _ hr)) (fun r hr => h2 r (List.mem_cons_of_mem _ hr)) b hb
theorem put_bad {J : Jn} {S : Dsk} {B : List Nat} {area at_ : Nat} {E : Int} {S1 : Dsk} (h : putB S J.r0 J.rc area at_ B = (E, S1)) (hE : E ≠ 0) : put J S B area at_ = (E, S1, { J with dead := true }) := by
  unfold put put3 put2
  rw [h]
  simp only [if_neg hE]
theorem put_bad2 {J : Jn} {S : Dsk} {B : List Nat} {area at_ : Nat} {E : Int} {S1 S2 : Dsk} (h : putB S J.r0 J.rc area at_ B = (0, S1)) (h2 : last S1 (J.r0 + (next J area at_ B).n % 2) 1 (hb (next J area at_ B)) = (E, S2)) (hE : E ≠ 0) : put J S B area at_ = (E, S2, { J with dead := true }) := by
  unfold put put3 put2
  rw [h]
  simp only [if_true, h2, if_neg hE]
theorem put_good {J : Jn} {S : Dsk} {B : List Nat} {area at_ : Nat} {S1 S2 : Dsk} (h : putB S J.r0 J.rc area at_ B = (0, S1)) (h2 : last S1 (J.r0 + (next J area at_ B).n % 2) 1 (hb (next J area at_ B)) = (0, S2)) : put J S B area at_ = (0, S2, { J with h := next J area at_ B }) := by
  unfold put put3 put2
  rw [h]
  simp only [if_true, h2]
theorem last_n (S : Dsk) (x k : Nat) (f : Nat → Int) : (last S x k f).2.n = S.n := by
  unfold last Dsk.syncs
  split
  · rfl
  split
  · rfl
  split
  · rfl
  split <;> rfl
theorem putB_n (S : Dsk) (r0 rc area at_ : Nat) (B : List Nat) : (putB S r0 rc area at_ B).2.n = S.n := by
  unfold putB
  split
  · rfl
  split
  · rfl
  · exact last_n _ _ _ _
end Jl
theorem JrAt.setDead {w : World} {base gj g : Nat} {R : Nat → Prop} {v : Value} {J : Jl.Jn} (h : JrAt w base gj g R v J) (hv : ∀ b, v.ownBlock = some b → b ≠ gj) : JrAt (w.setCell ⟨gj, 7, none⟩ (.bool true)) base gj g R v { J with dead := true } := by
  obtain ⟨vs, k1, k2, k3⟩ := h.recs
  have k : Bx (· = gj) w (w.setCell ⟨gj, 7, none⟩ (.bool true)) := (Bx.refl _ _).put rfl
  exact ⟨heap_setCell_same w gj 7 _ _ _ h.cells, ⟨vs, own_keepx15 k1 k (fun b hb e => hv b hb e), k2.keepx k (k3.2.mono (fun b hb e => hb (.inl e))), k3⟩, h.ge, ⟨h.ok.rc4, h.ok.rc, h.ok.r0, h.ok.fit, h.ok.few⟩⟩
theorem JrAt.setHed {w : World} {base gj g : Nat} {R : Nat → Prop} {v : Value} {J : Jl.Jn} (h : JrAt w base gj g R v J) (hv : ∀ b, v.ownBlock = some b → b ≠ gj) (nx : Jl.Hed) (hf : Jl.Fit nx (Jl.room J.rc)) :
    JrAt (((w.setCell ⟨gj, 3, none⟩ (.int .u64 (nx.n : Int))).setCell ⟨gj, 4, none⟩ (.int .i64 (nx.area : Int))).setCell ⟨gj, 5, none⟩ (.int .i64 (nx.len : Int))) base gj g R v { J with h := nx } := by
  obtain ⟨vs, k1, k2, k3⟩ := h.recs
  have k : Bx (· = gj) w (((w.setCell ⟨gj, 3, none⟩ (.int .u64 (nx.n : Int))).setCell ⟨gj, 4, none⟩ (.int .i64 (nx.area : Int))).setCell ⟨gj, 5, none⟩ (.int .i64 (nx.len : Int))) := (((Bx.refl (· = gj) w).put rfl).put rfl).put rfl
  exact ⟨heap_setCell_same _ gj 5 _ _ _ (heap_setCell_same _ gj 4 _ _ _ (heap_setCell_same w gj 3 _ _ _ h.cells)), ⟨vs, own_keepx15 k1 k (fun b hb e => hv b hb e), k2.keepx k (k3.2.mono (fun b hb e => hb (.inl e))), k3⟩, h.ge, ⟨h.ok.rc4, h.ok.rc, h.ok.r0, hf, h.ok.few⟩⟩
theorem wrap_two (r c x : Nat) (hr : r ≤ 65536) (h : r + c % 2 = x) : IntKind.i64.wrap ((r : Int) + IntKind.i64.wrap ((c : Int).tmod 2)) = (x : Int) := by
  obtain ⟨d, hd⟩ : ∃ d, c % 2 = d := ⟨_, rfl⟩
  have h2 : d < 2 := by rw [← hd]; exact Nat.mod_lt _ (by decide)
  have e1 : (c : Int).tmod 2 = (d : Int) := by rw [Int.tmod_eq_emod_of_nonneg (Int.natCast_nonneg _)]; omega
  rw [hd] at h
  have e2 : IntKind.i64.wrap (d : Int) = (d : Int) := by rw [IntKind.wrap_i64]; omega
  clear hd
  rw [e1, e2, ← h, IntKind.wrap_i64]
  omega
/-- how put ends -/
def PutV (base gj g lb gm : Nat) (R : Nat → Prop) (v : Value) (P : Int × Dsk × Jl.Jn) (w : World) (e : Ending) (w' : World) : Prop := e = .returned (.int .i64 P.1) ∧ DiskAt w' g lb gm P.2.1 ∧ JrAt w' base gj g R v P.2.2 ∧ Bx (fun b => dIn g lb gm b ∨ b = gj) w w'
theorem own_ne {w : World} {base gj g : Nat} {R : Nat → Prop} {v : Value} {J : Jl.Jn} (h : JrAt w base gj g R v J) : ∀ b, v.ownBlock = some b → b ≠ gj := fun b hb e => by
  obtain ⟨vs, k1, _⟩ := h.recs
  rcases k1.2 with ⟨rfl, _⟩ | ⟨g', cap, cur, rfl, _, hg, _⟩
  · cases hb
  · simp only [Value.ownBlock, Option.some.injEq] at hb
    subst hb
    rw [e, h.cells] at hg
    simp only [Option.some.injEq, Obj.cells.injEq] at hg
    exact absurd hg.2.1 (by decide)
set_option maxRecDepth 100000 in
set_option maxHeartbeats 4000000 in
theorem jput_any {w : World} {base gj g lb gm : Nat} {R : Nat → Prop} {v : Value} {J : Jl.Jn} {S : Dsk} (h : JrAt w base gj g R v J) (hd : DiskAt w g lb gm S) (hR : ∀ b, R b → ¬ dIn g lb gm b) (hin : J.r0 + J.rc ≤ S.n) {A : Option Addr} {n : Nat} (ca : Nat) {vs : List Value} {L : List (List Nat)} (hM : MatV w A n vs L) (hn : n ≤ 1000000) (hs : (Jl.packed L).length ≤ 1000000) (hl : ∀ r ∈ L, r.length ≤ 65535) (area at_ : Nat) (ha : area ≤ 1) (hat : at_ + (Jl.packed L).length ≤ Jl.room J.rc) :
    Calls Try.prog 53 #[.pointer (some ⟨gj, 0, none⟩), .slice A n ca, .int .i64 (area : Int), .int .i64 (at_ : Int)] w fun e w' => PutV base gj g lb gm R v (Jl.put J S (Jl.packed L) area at_) w e w' := by
  have HP : Calls Try.prog 71 #[.slice A n ca] w fun e w' => ∃ A1 c1, e = .returned (.slice A1 (Jl.packed L).length c1) ∧ Hid (RowAt w' A1 (Jl.packed L).length (Jl.rowL (Jl.packed L)) ∧ ∀ a, A1 = some a → w.heap.size ≤ a.block) ∧ Bw w w' := (jpacked_any ca hM hn hs hl).mono (fun e w' hh => by
    obtain ⟨v1, h1, h2, h3⟩ := hh
    rw [← cellsL_of] at h2
    obtain ⟨A1, c1, rfl, _, _, hr, hA⟩ := row_of_own (Jl.rowL_bd (Jl.packed_byt L hM.rows.byt hl)) h2
    exact ⟨A1, c1, h1, ⟨hr, fun a e => (hA a e).1⟩, h3⟩)
  have hrm := Jl.room_le h.ok.rc
  obtain ⟨B, hB⟩ : ∃ B, Hid (Jl.packed L = B) := ⟨_, rfl⟩
  rw [hB.out] at HP hat hs ⊢
  obtain ⟨nx, hnx⟩ : ∃ nx, Hid (Jl.next J area at_ B = nx) := ⟨_, rfl⟩
  obtain ⟨m, hm⟩ : ∃ m, Hid (B.length = m) := ⟨_, rfl⟩
  rw [hm.out] at HP hat hs
  have nn : nx.n = (J.h.n + 1) % 18446744073709551616 := by rw [← hnx.out]; rfl
  have na : nx.area = area := by rw [← hnx.out]; rfl
  have nl : nx.len = at_ + m := by rw [← hnx.out, ← hm.out]; rfl
  have hfit : Jl.Fit nx (Jl.room J.rc) := ⟨by rw [nn]; exact Nat.mod_lt _ (by decide), by rw [na]; exact ha, by rw [nl]; exact hat⟩
  have hJn := h.ok.fit.1
  obtain ⟨⟨E1, S1⟩, hP1⟩ : ∃ P, Hid (Jl.putB S J.r0 J.rc area at_ B = P) := ⟨_, rfl⟩
  have hS1n : S1.n = S.n := by have := Jl.putB_n S J.r0 J.rc area at_ B; rw [hP1.out] at this; exact this
  obtain ⟨cn, hcn⟩ : ∃ cn, Hid (nx.n = cn) := ⟨_, rfl⟩
  obtain ⟨cl, hcl⟩ : ∃ cl, Hid (nx.len = cl) := ⟨_, rfl⟩
  have i1 : IntKind.u64.wrap ((J.h.n : Int) + 1) = (cn : Int) := by rw [IntKind.wrap_u64, ← hcn.out, nn]; omega
  have i2 : (at_ : Int) + (m : Int) = (cl : Int) := by rw [← hcl.out, nl]; omega
  have cnb : cn < 18446744073709551616 := by rw [← hcn.out, nn]; exact Nat.mod_lt _ (by decide)
  have Hcell : Hid (hcell nx = #[.int .u64 (cn : Int), .int .i64 (area : Int), .int .i64 (cl : Int)]) := by show _ = _; unfold hcell; rw [hcn.out, na, hcl.out]
  have hr0b := h.ok.r0
  have atb : at_ ≤ 2097088 := by omega
  have mb : m ≤ 1000000 := hs
  have c3 : Hid (∀ W, Bw w W → W.cell? ⟨gj, 3, none⟩ = some (.int .u64 (J.h.n : Int))) := fun W k => (h.keep k).c3
  have HPB : Hid (∀ W A1 c1, Bw w W → RowAt W A1 m (Jl.rowL B) → (∀ a, A1 = some a → w.heap.size ≤ a.block) → Calls Try.prog 72 #[.pointer (some ⟨gj, 0, none⟩), .slice A1 m c1, .int .i64 (area : Int), .int .i64 (at_ : Int)] W fun e w' => e = .returned (.int .i64 E1) ∧ DiskAt w' g lb gm S1 ∧ Bx (dIn g lb gm) W w') := fun W A1 c1 k hr hA => by
    have := jputbytes_all (h.keep k) (hd.keep k) hin B A1 c1 (by rw [hm.out]; exact hr) (fun b o e _ hb => by have h1 := hA _ e; have h2 := hd.low b hb; have h3 : w.heap.size ≤ b := h1; omega) area at_ ha (by rw [hm.out]; exact hat)
    rw [hP1.out, hm.out] at this
    exact this
  have HKeep : Hid (∀ W W', Bw w W → Bx (dIn g lb gm) W W' → JrAt W' base gj g R v J) := fun W W' k k2 => (h.keep k).keepd (hd.keep k) hR k2
  have Hlow : Hid (∀ b, dIn g lb gm b → b < w.heap.size) := hd.low
  have hzero : ∀ w, (zeroValue 85).run Try.prog w = .ok (.agg #[.int .u64 0, .int .i64 0, .int .i64 0]) w := zero_head15
  by_cases hE1 : E1 = 0
  · subst hE1
    have hx : J.r0 + cn % 2 + 1 ≤ S1.n := by rw [hS1n]; have h1 := h.ok.rc4; have : cn % 2 < 2 := Nat.mod_lt _ (by decide); omega
    obtain ⟨⟨E2, S2⟩, hP2⟩ : ∃ P, Hid (Jl.last S1 (J.r0 + nx.n % 2) 1 (Jl.hb nx) = P) := ⟨_, rfl⟩
    obtain ⟨x, hxe⟩ : ∃ x, Hid (J.r0 + cn % 2 = x) := ⟨_, rfl⟩
    rw [hxe.out] at hx
    have i3 : (J.r0 : Int) + (cn : Int) % 2 = (x : Int) := by have := hxe.out; omega
    have i6 : Hid (IntKind.i64.wrap ((J.r0 : Int) + IntKind.i64.wrap ((cn : Int).tmod 2)) = (x : Int)) := wrap_two J.r0 cn x hr0b hxe.out
    have HSe : Hid (∀ W, Calls Try.prog 74 #[.agg #[.int .u64 (cn : Int), .int .i64 (area : Int), .int .i64 (cl : Int)]] W fun e w' => ∃ b, e = .returned (.slice (some ⟨b, 0, none⟩) 64 64) ∧ W.heap.size ≤ b ∧ BlockIs w' b 64 (Jl.hb nx) ∧ Bw W w') := fun W => by
      rw [← Hcell.out]
      exact jsector_any nx (by rw [hcn.out]; exact cnb) (by rw [na]; exact ha) (by rw [nl]; omega) W
    have HLa : Hid (∀ W b, DiskAt W g lb gm S1 → JrAt W base gj g R v J → w.heap.size ≤ b → BlockIs W b 64 (Jl.hb nx) → Calls Try.prog 73 #[.pointer (some ⟨gj, 0, none⟩), .int .i64 (x : Int), .slice (some ⟨b, 0, none⟩) 64 64] W fun e w' => e = .returned (.int .i64 E2) ∧ DiskAt w' g lb gm S2 ∧ Bx (dIn g lb gm) W w') := fun W b hdW hJW hb hBW => by
      have := jlast_any hdW hJW.c0 (jd_ne hJW hdW gj (.inl rfl)) x 1 (by omega) (some ⟨b, 0, none⟩) 64 (Jl.hb nx) (hBW.row (Jl.hb_bd nx)) (fun b' o e _ hin => by cases e; have := Hlow.out b hin; omega) (Nat.le_refl _)
      rw [← hxe.out, ← hcn.out, hP2.out] at this
      rw [← hxe.out, ← hcn.out]
      exact this
    clear h hd hM
    go_enter Try.func53, Try.ntmps53
    go_wp2_with (first
      | (go_at_call 71; refine HP.mono ?_; rintro e w1 ⟨A1, c1, rfl, hrA, hb1⟩; clear HP; have d3 := c3.out w1 hb1; obtain ⟨W2, hW2⟩ : ∃ W, Hid (w1.alloc (.cells #[.int .u64 (cn : Int), .int .i64 (area : Int), .int .i64 (cl : Int)] 85) = W) := ⟨_, rfl⟩; obtain ⟨z, hz⟩ : ∃ z, Hid (w1.heap.size = z) := ⟨_, rfl⟩; have hbw2 : Bw w W2 := hb1.trans (by rw [← hW2.out]; exact Below.alloc (Bw.refl _) (Nat.le_refl _) _); have hA2 : HedAt W2 z nx := (by unfold HedAt; rw [← hW2.out, ← hz.out, Hcell.out]; exact heap_alloc_new _ _); have hrA2 := hrA.out.1.keep (show Bw w1 W2 by rw [← hW2.out]; exact Below.alloc (Bw.refl _) (Nat.le_refl _) _); have hzw : Hid (w.heap.size ≤ z) := (by rw [← hz.out]; exact hb1.size); have tok1 : Hid (z = z) := rfl)
      | (clear tok1; refine wpList_store_row rfl 85 _ _ rfl w1.heap.size #[.int .u64 (cn : Int), .int .i64 (area : Int), .int .i64 (cl : Int)] rfl rfl 85 #[.int .u64 0, .int .i64 0, .int .i64 0] (heap_alloc_new _ _) info_head15 rfl (by kernel_rfl) ?_; rw [setRow_alloc_new, hW2.out, hz.out])
      | (go_at_call 72; refine (HPB.out W2 A1 c1 hbw2 hrA2 hrA.out.2).mono ?_; rintro e w3 ⟨rfl, hd3, hx3⟩; have hJ3 := HKeep.out W2 w3 hbw2 hx3; have f7 := hJ3.fz 7; have g7 := hJ3.c7; have hA3 : HedAt w3 z nx := (hx3.block z (Array.getElem?_eq_some_iff.1 hA2).1 (fun e => by have h1 := Hlow.out z e; have h2 := hzw.out; omega)).trans hA2))
    have HC : Hid (∀ W, JrAt W base gj g R v J → HedAt W z nx → W.cell? ⟨gj, 1, none⟩ = some (.int .i64 (J.r0 : Int)) ∧ W.cell? ⟨z, 0, none⟩ = some (.int .u64 (cn : Int)) ∧ W.cell? ⟨z, 1, none⟩ = some (.int .i64 (area : Int)) ∧ W.cell? ⟨z, 2, none⟩ = some (.int .i64 (cl : Int))) := fun W k1 k2 => by
      unfold HedAt at k2
      rw [Hcell.out] at k2
      exact ⟨k1.c1, cell_of_row W z 0 _ _ _ k2, cell_of_row W z 1 _ _ _ k2, cell_of_row W z 2 _ _ _ k2⟩
    have hJ3d := hJ3.keep ((Bw.refl w3).drew)
    have hd3d := hd3.keep ((Bw.refl w3).drew)
    have hA3d := hA3.keep ((Bw.refl w3).drew)
    obtain ⟨y0, y1, y2, y3⟩ := HC.out w3.drew hJ3d hA3d
    clear hJ3 hd3 hA3 HPB c3 d3
    go_region_held3 (fun w' => w'.cell? ⟨gj, 1, none⟩ = some (.int .i64 (J.r0 : Int)) ∧ w'.cell? ⟨z, 0, none⟩ = some (.int .u64 (cn : Int)) ∧ w'.cell? ⟨z, 1, none⟩ = some (.int .i64 (area : Int)) ∧ w'.cell? ⟨z, 2, none⟩ = some (.int .i64 (cl : Int)))
      (first | exact ⟨y0, y1, y2, y3⟩ | exact HC.out _ hJ4 hA4 | exact HC.out _ hJ5 hA5 | assumption)
      (first
        | (go_at_call 74; refine (HSe.out _).mono ?_; rintro e w4 ⟨b4, rfl, hb4l, hB4, hb4⟩; have hJ4 := hJ3d.keep hb4; have hd4 := hd3d.keep hb4; have hA4 := hA3d.keep hb4)
        | (go_at_call 73; rw [i6.out]; refine (HLa.out _ b4 hd4 hJ4 (Nat.le_trans (Nat.le_trans hbw2.size hx3.size) hb4l) hB4).mono ?_; rintro e w5 ⟨rfl, hd5, hx5⟩; have hJ5 := hJ4.keepd hd4 hR hx5; have hA5 : HedAt w5 z nx := (hx5.block z (Array.getElem?_eq_some_iff.1 hA4).1 (fun e => by have h1 := Hlow.out z e; have h2 := hzw.out; omega)).trans hA4))
    clear y0 y1 y2 y3 hJ3d hd3d hA3d hJ4 hd4 hA4 HSe HLa hB4
    have hbx : Bx (dIn g lb gm) w w5 := ((Bx.of_bw hbw2).trans hx3).trans ((Bx.of_bw (((Bw.refl w3).drew).trans hb4)).trans hx5)
    obtain ⟨t0, t1, t2, t3⟩ := HC.out w5 hJ5 hA5
    have f3 := hJ5.fz 3
    have f4 := hJ5.fz 4
    have f5 := hJ5.fz 5
    have f7' := hJ5.fz 7
    have g3 := hJ5.c3
    have g4 := hJ5.c4
    have g5 := hJ5.c5
    have g7' := hJ5.c7
    by_cases hE2 : E2 = 0
    · subst hE2
      have hput := Jl.put_good (J := J) (S := S) (B := B) (area := area) (at_ := at_) hP1.out (by rw [hnx.out]; exact hP2.out)
      have hend : Hid (PutV base gj g lb gm R v (Jl.put J S B area at_) w (.returned (.int .i64 0)) (((w5.setCell ⟨gj, 3, none⟩ (.int .u64 (cn : Int))).setCell ⟨gj, 4, none⟩ (.int .i64 (area : Int))).setCell ⟨gj, 5, none⟩ (.int .i64 (cl : Int)))) := by
        rw [hput, hnx.out]
        have kk : Bx (· = gj) w5 (((w5.setCell ⟨gj, 3, none⟩ (.int .u64 (cn : Int))).setCell ⟨gj, 4, none⟩ (.int .i64 (area : Int))).setCell ⟨gj, 5, none⟩ (.int .i64 (cl : Int))) := (((Bx.refl (· = gj) w5).put rfl).put rfl).put rfl
        have hj := hJ5.setHed (own_ne hJ5) nx hfit
        rw [hcn.out, na, hcl.out] at hj
        exact ⟨rfl, hd5.keepj hJ5 (fun b e => .inl e) kk, hj, (hbx.more (fun b e => .inl e)).trans (kk.more (fun b e => .inr e))⟩
      clear hput hJ5 hd5 hA5 hbx hfit HC HKeep
      go_wp2
      go_ret
      exact hend.out
    · have hput := Jl.put_bad2 (J := J) (S := S) (B := B) (area := area) (at_ := at_) hP1.out (by rw [hnx.out]; exact hP2.out) hE2
      have q2 : (E2 != 0) = true := by simp [hE2]
      have hend : Hid (PutV base gj g lb gm R v (Jl.put J S B area at_) w (.returned (.int .i64 E2)) (w5.setCell ⟨gj, 7, none⟩ (.bool true))) := by
        rw [hput]
        have kk : Bx (· = gj) w5 (w5.setCell ⟨gj, 7, none⟩ (.bool true)) := (Bx.refl _ _).put rfl
        exact ⟨rfl, hd5.keepj hJ5 (fun b e => .inl e) kk, hJ5.setDead (own_ne hJ5), (hbx.more (fun b e => .inl e)).trans (kk.more (fun b e => .inr e))⟩
      clear hput hJ5 hd5 hA5 hbx hfit HC HKeep hE2
      go_wp2
      go_ret
      exact hend.out
  · have hput := Jl.put_bad hP1.out hE1
    have q1 : (E1 == 0) = false := by simp [hE1]
    have q2 : (E1 != 0) = true := by simp [hE1]
    have hend : Hid (∀ W2 w3, Bw w W2 → Bx (dIn g lb gm) W2 w3 → DiskAt w3 g lb gm S1 → JrAt w3 base gj g R v J → PutV base gj g lb gm R v (Jl.put J S B area at_) w (.returned (.int .i64 E1)) (w3.setCell ⟨gj, 7, none⟩ (.bool true))) := fun W2 w3 k1 k2 k3 k4 => by
      rw [hput]
      have kk : Bx (· = gj) w3 (w3.setCell ⟨gj, 7, none⟩ (.bool true)) := (Bx.refl _ _).put rfl
      exact ⟨rfl, k3.keepj k4 (fun b e => .inl e) kk, k4.setDead (own_ne k4), ((Bx.of_bw k1).trans (k2.more (fun b e => .inl e))).trans (kk.more (fun b e => .inr e))⟩
    clear hE1 hput h hd hM
    go_enter Try.func53, Try.ntmps53
    go_wp2_with (first
      | (go_at_call 71; refine HP.mono ?_; rintro e w1 ⟨A1, c1, rfl, hrA, hb1⟩; clear HP; have d3 := c3.out w1 hb1; obtain ⟨W2, hW2⟩ : ∃ W, Hid (w1.alloc (.cells #[.int .u64 (cn : Int), .int .i64 (area : Int), .int .i64 (cl : Int)] 85) = W) := ⟨_, rfl⟩; obtain ⟨z, hz⟩ : ∃ z, Hid (w1.heap.size = z) := ⟨_, rfl⟩; have hbw2 : Bw w W2 := hb1.trans (by rw [← hW2.out]; exact Below.alloc (Bw.refl _) (Nat.le_refl _) _); have hA2 : HedAt W2 z nx := (by unfold HedAt; rw [← hW2.out, ← hz.out, Hcell.out]; exact heap_alloc_new _ _); have hrA2 := hrA.out.1.keep (show Bw w1 W2 by rw [← hW2.out]; exact Below.alloc (Bw.refl _) (Nat.le_refl _) _); have hzw : Hid (w.heap.size ≤ z) := (by rw [← hz.out]; exact hb1.size); have tok1 : Hid (z = z) := rfl)
      | (clear tok1; refine wpList_store_row rfl 85 _ _ rfl w1.heap.size #[.int .u64 (cn : Int), .int .i64 (area : Int), .int .i64 (cl : Int)] rfl rfl 85 #[.int .u64 0, .int .i64 0, .int .i64 0] (heap_alloc_new _ _) info_head15 rfl (by kernel_rfl) ?_; rw [setRow_alloc_new, hW2.out, hz.out])
      | (go_at_call 72; refine (HPB.out W2 A1 c1 hbw2 hrA2 hrA.out.2).mono ?_; rintro e w3 ⟨rfl, hd3, hx3⟩; have hJ3 := HKeep.out W2 w3 hbw2 hx3; have f7 := hJ3.fz 7; have g7 := hJ3.c7; have hA3 : HedAt w3 z nx := (hx3.block z (Array.getElem?_eq_some_iff.1 hA2).1 (fun e => by have h1 := Hlow.out z e; have h2 := hzw.out; omega)).trans hA2))
    go_ret
    exact hend.out W2 w3 hbw2 hx3 hd3 hJ3
end Go.Proofs.Ytppknadflmjefaa
