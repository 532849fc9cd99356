/- Texts of mine, put together. -/
import Derived.Test.YtldkhbkgmiicbaaGreatDoorBu42
import Derived.Test.YtldkhbkgmiicbaaGreatDoorBu35
import Derived.Test.YtldkhbkgmiicbaaGreatDoorBu43
import Derived.Test.YtldkhbkgmiicbaaGreatDoorBu34
import Derived.Test.YtldkhbkgmiicbaaGreatDoorBu18
import Derived.Test.YtldkhbkgmiicbaaGreatDoorBu29

/- Layer 12: the document's own Pieces (written by mkzc.py). -/
namespace Go.Proofs.YtldkhbkgmiicbaaGreatDoor
open Go.RowKit Go.Deep
set_option linter.unusedVariables false
set_option linter.unusedSimpArgs false

theorem own_rowat12 {w : World} {base : Nat} {v : Value} {l : Pk.B} (h : w.ownsRow base 5 1 v l.length (Lib.byteCells l)) : ∃ A c, v = .slice A l.length c ∧ RowAt w A l.length (Hd.rowF l) ∧ (A = none → c = 0) := by
  rcases h.2 with ⟨rfl, h0⟩ | ⟨g, cap, cur, rfl, _, hc, hn, _, hs, ht⟩
  · exact ⟨none, 0, by rw [h0], ⟨.inl h0, Hd.rowF_bd _⟩, fun _ => rfl⟩
  · refine ⟨some ⟨g, 0, none⟩, cap, rfl, ⟨.inr ⟨g, 0, rfl, fun i hi => ?_⟩, Hd.rowF_bd _⟩, fun e => by cases e⟩
    have e : (Lib.byteCells l)[i]? = cur.toList[i]? := by rw [← ht, List.getElem?_take, if_pos (by omega)]
    rw [Nat.zero_add, cell_of_row w g i _ _ _ hc, ← Hd.arr_row hi, show (Hd.arr l)[i]? = (Lib.byteCells l)[i]? from by unfold Hd.arr; rw [List.getElem?_toArray], e, Array.getElem?_toList]
theorem wpList_append_by {w : World} {ops : Array Oper} {rest : List Oper} {o : Oper} {a : Act} {Q : Exit → Act → World → Prop} (hgd : o.guard = none) (s x : Operand)
    (ho : o.op = .call { callee := .builtin .append, args := #[s, x], argTypes := #[24, 24] })
    (base : Nat) (v : Value) (X : Pk.B) (n : Nat) (hn : X.length = n) (hs : a.eval s = v) (hown : w.ownsRow base 5 1 v n (Lib.byteCells X))
    (A : Option Addr) (L C : Nat) (l : Pk.B) (hl : l.length = L) (hx : a.eval x = .slice A L C) (hr : RowAt w A L (Hd.rowF l)) (hC : A = none → C = 0) (hb : n + L ≤ 1099511627776) (hbase : base ≤ w.heap.size)
    (h : ∀ A' c' w', w'.ownsRow base 5 1 (.slice A' (n + L) c') (n + L) (Lib.byteCells (X ++ l)) → w.grownBy w' v.ownBlock → wpList Tryz.prog ops Q rest (a.put o.dst (.slice A' (n + L) c')) w') : wpList Tryz.prog ops Q (o :: rest) a w := by
  obtain ⟨i0, hi0, hz0, hz1, hz2⟩ := info_parts info_u8
  refine wpList_append_rowat w hgd s x _ ho base 5 i0 _ 1 Tryz.underlying24 hi0 hz0 hz1 hz2 rfl v n _ hs hown A L C (Hd.rowF l) hx hr hC (by unfold maxLen; omega) (by omega) hbase ?_
  intro v' w' h1 h2
  have hcr := Hd.cells_row l
  rw [hl] at hcr
  rw [hcr, ← byteCells_app12] at h1
  obtain ⟨A', c', rfl⟩ := own_slice12 h1
  exact h A' c' w' h1 h2
theorem Pk.spl_err {l : Pk.B} (h : (Pk.spl l).2.2 ≠ 0) : (Pk.spl l).1 = [] ∧ (Pk.spl l).2.1 = [] := by
  unfold Pk.spl at h ⊢
  split
  · exact ⟨rfl, rfl⟩
  · rename_i h1
    rw [if_neg h1] at h
    split
    · rename_i h2
      rw [if_pos h2] at h
      exact absurd rfl h
    · rename_i h2
      rw [if_neg h2] at h
      split
      · rename_i i hc
        rw [hc] at h
        exact absurd rfl h
      · exact ⟨rfl, rfl⟩
theorem Pk.put_err {L : List Px.Pr} (h : (Px.putF L).2.2 ≠ 0) : (Px.putF L).1 = [] := by
  unfold Px.putF at h ⊢
  split
  · rfl
  · rename_i h1
    rw [if_neg h1] at h
    split
    · rfl
    · rename_i h2
      rw [if_neg h2] at h
      exact absurd rfl h
theorem rhput_any (h : Hd.Hdr) (hsm : Hd.Small h) (u : World) : Calls Tryz.prog 51 #[.agg (Hd.hv h)] u fun e w' => (∃ A c er, e = .returned (.tuple #[.slice A (Pk.hB h).length c, .int .i64 er]) ∧ RowAt w' A (Pk.hB h).length (Hd.rowF (Pk.hB h)) ∧ (A = none → c = 0)) ∧ Bw u w' := by
  refine (rPut_any h hsm u).mono fun e w' ⟨h1, h2, h3⟩ => ⟨?_, h3⟩
  by_cases hm : Hd.may h = 0
  · obtain ⟨v, e1, hg⟩ := h2 hm
    have e2 : Pk.hB h = Hd.layB h := by unfold Pk.hB; rw [if_pos hm]
    obtain ⟨A, c, rfl, hr, hn⟩ := own_rowat12 hg
    rw [e2]
    exact ⟨A, c, _, e1, hr, hn⟩
  · have e2 : Pk.hB h = [] := by unfold Pk.hB; rw [if_neg hm]
    rw [e2]
    exact ⟨none, 0, _, h1 hm, ⟨.inl rfl, Hd.rowF_bd _⟩, fun _ => rfl⟩
theorem rrput_any (A : Option Addr) (cap : Nat) (L : List Px.Pr) (hn : L.length ≤ 4611686018427387904) (hS : ∀ p ∈ L, p.1.length ≤ 140737488355328 ∧ p.2.length ≤ 140737488355328) (u : World) (ha : PrsAt u A L) :
    Calls Tryz.prog 50 #[.slice A L.length cap] u fun e w' => (∃ Ar cr pi er, e = .returned (.tuple #[.slice Ar (Px.putF L).1.length cr, .int .i64 pi, .int .i64 er]) ∧ RowAt w' Ar (Px.putF L).1.length (Hd.rowF (Px.putF L).1) ∧ (Ar = none → cr = 0)) ∧ Bw u w' := by
  refine (rput_any A cap L hn hS u ha).mono fun e w' ⟨h1, h3⟩ => ⟨?_, h3⟩
  rcases h1 with ⟨hb, e1⟩ | ⟨hb, v, e1, ho⟩
  · rw [Pk.put_err hb]
    exact ⟨none, 0, _, _, e1, ⟨.inl rfl, Hd.rowF_bd _⟩, fun _ => rfl⟩
  · have e2 : (Px.putF L).1 = Px.all9 L := by rw [Px.put_all ((Px.put_ok L).1 hb)]
    rw [e2]
    obtain ⟨A', c', rfl, hr, hn'⟩ := own_rowat12 (l := Px.all9 L) ho
    exact ⟨A', c', _, _, e1, hr, hn'⟩
theorem Pk.spl_small {l a b : Pk.B} {e : Int} (h : Pk.spl l = (a, b, e)) (hl : l.length ≤ 4611686018427387904) : a.length ≤ 4611686018427387904 ∧ b.length ≤ 4611686018427387904 := by
  unfold Pk.spl at h
  split at h
  · cases h; exact ⟨Nat.zero_le _, Nat.zero_le _⟩
  · split at h
    · cases h; exact ⟨Nat.zero_le _, hl⟩
    · split at h
      · cases h; exact ⟨by rw [List.length_take]; omega, by rw [List.length_drop]; omega⟩
      · cases h; exact ⟨Nat.zero_le _, Nat.zero_le _⟩
set_option maxRecDepth 100000 in
set_option maxHeartbeats 8000000 in
theorem rpcs_any (y : Tr.Iv) (hm : Tr.mayE y.it = 0) (w : World) (hy : BodyAt w y) : Calls Tryz.prog 31 #[.agg y.arr] w fun e w' => (∃ u, e = .returned u ∧ w'.ownsRow w.heap.size 5 1 u (Pk.pcs y.it).length (Lib.byteCells (Pk.pcs y.it))) ∧ Bw w w' := by
  have hfit := hy.fit
  have hkind := Tr.may_kind hm
  have hbody := Pk.may_body hm
  have hrl := Pk.recs_len y.it
  have hnil := hy.nil
  have hiI := info_it y
  obtain ⟨kk, hkk⟩ : ∃ k : Nat, y.it.kind = k := ⟨_, rfl⟩
  have hk256 : kk < 256 := by rw [← hkk]; omega
  obtain ⟨pa, pb, pe, hP⟩ : ∃ a b e, Hid (Pk.spl y.it.path = (a, b, e)) := ⟨_, _, _, show Pk.spl y.it.path = _ from rfl⟩
  have hSS : Nm.SplitSays y.it.path pa pb pe := by have := Pk.spl_says y.it.path; rw [hP.out] at this; exact this
  have HSp : Hid (∀ u, Calls Tryz.prog 55 #[.string (Nm.S y.it.path)] u fun e w' => e = .returned (.tuple #[.string (Nm.S pa), .string (Nm.S pb), .int .i64 pe]) ∧ Bw u w') := fun u => rsplitL hSS (by have := hfit.path; omega) u
  have HCu : Hid (∀ u, Calls Tryz.prog 54 #[.string (Nm.S y.it.path)] u fun e w' => e = .returned (.bool (pe == 0)) ∧ Bw u w') := fun u => rcut_any hSS (by have := hfit.path; omega) u
  have HTy : Hid (∀ u, Calls Tryz.prog 53 #[.int .u8 (kk : Int)] u fun e w' => e = .returned (.int .u8 ((Pk.typ kk).toNat : Int)) ∧ w' = u) := fun u => rtyped_any kk hk256 u
  obtain ⟨L, hL⟩ : ∃ L, Hid (Pk.prsOf y.it = L) := ⟨_, rfl⟩
  obtain ⟨nL, hnL⟩ : ∃ n, Hid (L.length = n) := ⟨_, rfl⟩
  have hnL2 : nL ≤ 2 := by rw [← hnL.out, ← hL.out]; exact Pk.prs_len _ _
  have HPr : Hid (∀ u, Calls Tryz.prog 49 #[.agg y.arr] u fun e w' => (∃ vp, e = .returned (.tuple #[vp, .int .i64 0]) ∧ w'.ownsRow u.heap.size 130 2 vp nL (Px.cellsPr L)) ∧ Bw u w') := fun u => by
    refine (rpairs_any y hfit (Pk.spl_says y.it.path) u).mono fun e w' ⟨⟨_, h2⟩, h3⟩ => ⟨?_, h3⟩
    obtain ⟨vp, e1, ho⟩ := h2 hm
    rw [show Pk.prs y.it (Pk.spl y.it.path).2.2 = L from hL.out, hnL.out] at ho
    exact ⟨vp, e1, ho⟩
  obtain ⟨RR, hRR⟩ : ∃ r, Hid (Pk.recs y.it = r) := ⟨_, rfl⟩
  obtain ⟨nr, hnr⟩ : ∃ n, Hid (RR.length = n) := ⟨_, rfl⟩
  rw [hRR.out, hnr.out] at hrl
  have HPP : Hid (∀ u A cap, PrsAt u A L → Calls Tryz.prog 50 #[.slice A nL cap] u fun e w' => (∃ Ar cr pi er, e = .returned (.tuple #[.slice Ar nr cr, .int .i64 pi, .int .i64 er]) ∧ RowAt w' Ar nr (Hd.rowF RR) ∧ (Ar = none → cr = 0)) ∧ Bw u w') := fun u A cap hpa => by
    have hS : ∀ p ∈ L, p.1.length ≤ 140737488355328 ∧ p.2.length ≤ 140737488355328 := fun p hp => by
      rw [← hL.out] at hp
      unfold Pk.prsOf Pk.prs at hp
      have h1 := hfit.path
      have h2 := hfit.to
      rcases List.mem_append.1 hp with h | h
      · split at h
        · rw [List.mem_singleton] at h; rw [h]; exact ⟨by show (8 : Nat) ≤ _; omega, by show y.it.to.length ≤ _; omega⟩
        · cases h
      · split at h
        · rw [List.mem_singleton] at h; rw [h]; exact ⟨by show (4 : Nat) ≤ _; omega, by show y.it.path.length ≤ _; omega⟩
        · cases h
    have := rrput_any A cap L (by rw [hnL.out]; omega) hS u hpa
    rw [show (Px.putF L).1 = RR by rw [← hL.out]; exact hRR.out, hnr.out, hnL.out] at this
    exact this
  obtain ⟨D, HD0⟩ : ∃ D, Hid (D = Pk.hd y.it) := ⟨_, rfl⟩
  have hDl := Pk.hB_le D
  obtain ⟨nD, hnD⟩ : ∃ n, Hid ((Pk.hB D).length = n) := ⟨_, rfl⟩
  rw [hnD.out] at hDl
  have hsplen : pa.length ≤ 4611686018427387904 ∧ pb.length ≤ 4611686018427387904 := Pk.spl_small (by rw [← hP.out]) (by have := hfit.path; omega)
  have HPD : Hid (∀ u, Calls Tryz.prog 51 #[.agg (Hd.hv D)] u fun e w' => (∃ A c er, e = .returned (.tuple #[.slice A nD c, .int .i64 er]) ∧ RowAt w' A nD (Hd.rowF (Pk.hB D)) ∧ (A = none → c = 0)) ∧ Bw u w') := fun u => by
    have := rhput_any D (by rw [HD0.out]; unfold Pk.hd; rw [hP.out]; exact ⟨hsplen.2, by have := hfit.to; dsimp only; split <;> first | omega | exact Nat.zero_le _, hsplen.1⟩) u
    rwa [hnD.out] at this
  obtain ⟨nB, hnB⟩ : ∃ n, Hid (y.it.body.length = n) := ⟨_, rfl⟩
  have hnBb : nB ≤ 65536 := by rw [← hnB.out]; exact hbody
  obtain ⟨nFl, hnFl⟩ : ∃ n, Hid ((Pk.fill y.it.body).length = n) := ⟨_, rfl⟩
  have hnFb : nFl ≤ 66048 := by rw [← hnFl.out, Pk.fill_len]; have := Pk.gap_lt y.it.body.length; omega
  have hz := zero_head
  obtain ⟨Z, hZ⟩ : ∃ Z, Hid (Z = Hd.none7) := ⟨_, rfl⟩
  rw [← hZ.out] at hz
  obtain ⟨W, hW⟩ : ∃ W, W = w.alloc (.cells y.arr 47) := ⟨_, rfl⟩
  have HX : Hid (BoxAt W w.heap.size y) := by rw [hW]; exact BoxAt.new _ _
  have hbW : Bw w W := by rw [hW]; exact bw_alloc7 (Bw.refl _) _
  have HBo : Hid (RowAt W y.ad nB (Hd.rowF y.it.body)) := by rw [← hnB.out]; exact hy.row.keep hbW
  have HC1 : Hid (∀ u, Bw W u → u.cell? ⟨w.heap.size, 1, none⟩ = some (.int .u8 (kk : Int))) := fun u h => by rw [← hkk]; exact cell_of_row u w.heap.size 1 _ _ _ (HX.out.keep h)
  have HC2 : Hid (∀ u, Bw W u → u.cell? ⟨w.heap.size, 2, none⟩ = some (.int .i64 y.it.mode)) := fun u h => cell_of_row u w.heap.size 2 _ _ _ (HX.out.keep h)
  have HC3 : Hid (∀ u, Bw W u → u.cell? ⟨w.heap.size, 3, none⟩ = some (.int .i64 y.it.time)) := fun u h => cell_of_row u w.heap.size 3 _ _ _ (HX.out.keep h)
  have HC4 : Hid (∀ u, Bw W u → u.cell? ⟨w.heap.size, 4, none⟩ = some (.slice y.ad nB y.cp)) := fun u h => by rw [← hnB.out]; exact cell_of_row u w.heap.size 4 _ _ _ (HX.out.keep h)
  have HC5 : Hid (∀ u, Bw W u → u.cell? ⟨w.heap.size, 5, none⟩ = some (.string (Nm.S y.it.to))) := fun u h => cell_of_row u w.heap.size 5 _ _ _ (HX.out.keep h)
  have HC0 : Hid (∀ u, Bw W u → u.cell? ⟨w.heap.size, 0, none⟩ = some (.string (Nm.S y.it.path))) := fun u h => cell_of_row u w.heap.size 0 _ _ _ (HX.out.keep h)
  obtain ⟨h0, hh0⟩ : ∃ h, Hid (h = (⟨[], y.it.mode, (nB : Nat), y.it.time, Pk.typ kk, [], []⟩ : Hd.Hdr)) := ⟨_, rfl⟩
  have hsz : (Nm.S y.it.to).size = y.it.to.length := Nm.size_S _
  clear hy hSS hkind
  by_cases hto : y.it.to.length ≤ 100
  · by_cases hpe : pe = 0
    · have t1 : (y.it.to.length : Int) ≤ 100 := by omega
      have t2 : (pe == 0) = true := by rw [hpe]; rfl
      have HD : Hid (D = ⟨pb, y.it.mode, (nB : Nat), y.it.time, Pk.typ kk, y.it.to, pa⟩) := by show _ = _; rw [HD0.out]; unfold Pk.hd; rw [hP.out, hkk, hnB.out, if_pos hto]
      have hn0 : nL = 0 := by rw [← hnL.out, ← hL.out]; unfold Pk.prsOf Pk.prs; rw [hP.out, if_neg (show ¬ 100 < y.it.to.length by omega), if_neg (fun h => h hpe)]; rfl
      have t0 : ¬ (0 : Int) < (nL : Int) := by omega
      have HFr : Hid (Pk.front y.it = []) := by show _ = _; unfold Pk.front; rw [hL.out, if_pos (List.eq_nil_of_length_eq_zero (by rw [hnL.out]; exact hn0))]
      go_enter Tryz.func31, Tryz.ntmps31
      go_upto_region 1 with fail
      rw [← hW]
      clear hW
      go_upto_region 8 with (first
        | (refine wpList_load_row rfl 47 _ rfl w.heap.size rfl 47 y.arr (0, 0) _ HX.out Tryz.underlying47 rfl hiI ?_)
        | (go_at_call 49; refine (HPr.out _).mono ?_; rintro e w1 ⟨⟨vp, rfl, hop⟩, hw1⟩; rw [← hnL.out] at hop; obtain ⟨Ap, cp, rfl, hcp, hPrs, hAn⟩ := prs_of_own hop; rw [hnL.out] at hcp ⊢))
      have hbP := hw1
      obtain ⟨wP, hwP⟩ : ∃ V, V = w1 := ⟨_, rfl⟩
      rw [← hwP] at hbP ⊢
      clear hwP
      have HC1 : Hid (∀ u, Bw wP u → u.cell? ⟨w.heap.size, 1, none⟩ = some (.int .u8 (kk : Int))) := fun u h => HC1.out u (hbP.trans h)
      have HC2 : Hid (∀ u, Bw wP u → u.cell? ⟨w.heap.size, 2, none⟩ = some (.int .i64 y.it.mode)) := fun u h => HC2.out u (hbP.trans h)
      have HC3 : Hid (∀ u, Bw wP u → u.cell? ⟨w.heap.size, 3, none⟩ = some (.int .i64 y.it.time)) := fun u h => HC3.out u (hbP.trans h)
      have HC4p := HC4
      have HC4 : Hid (∀ u, Bw wP u → u.cell? ⟨w.heap.size, 4, none⟩ = some (.slice y.ad nB y.cp)) := fun u h => HC4p.out u (hbP.trans h)
      refine wp_region_held_drew (S := fun w' => Bw wP w') (by kernel_rfl) ((Below.refl _ _).drew) (fun hHeld => ?_)
      generalize wP.drew = wV at *
      have hwV := hHeld
      refine wpAnyH_take (i := 0) (v := ?_) rfl (by kernel_rfl) (by kernel_rfl) (by kernel_rfl) (fun _ _ _ h => h) (Or.inl ⟨by rfl, ?_⟩) (by assumption) ?_
      rotate_left
      · intro w hSw; (try dsimp only at hSw); go_simp; all_goals (with_reducible rfl)
      try simp only [Act.put, List.setIfInBounds_toArray, List.set_cons_zero, List.set_cons_succ, List.getElem_toArray, List.getElem_cons_succ, List.getElem_cons_zero]
      refine wpAnyH_take (i := 1) (v := ?_) rfl (by kernel_rfl) (by kernel_rfl) (by kernel_rfl) (fun _ _ _ h => h) (Or.inl ⟨by rfl, ?_⟩) (by assumption) ?_
      rotate_left
      · intro w hSw; (try dsimp only at hSw); have e := HC1.out _ hSw; go_simp; all_goals (with_reducible rfl)
      try simp only [Act.put, List.setIfInBounds_toArray, List.set_cons_zero, List.set_cons_succ, List.getElem_toArray, List.getElem_cons_succ, List.getElem_cons_zero]
      refine wpAnyH_take (i := 3) (v := ?_) rfl (by kernel_rfl) (by kernel_rfl) (by kernel_rfl) (fun _ _ _ h => h) (Or.inl ⟨by rfl, ?_⟩) (by assumption) ?_
      rotate_left
      · intro w hSw; (try dsimp only at hSw); go_simp; all_goals (with_reducible rfl)
      try simp only [Act.put, List.setIfInBounds_toArray, List.set_cons_zero, List.set_cons_succ, List.getElem_toArray, List.getElem_cons_succ, List.getElem_cons_zero]
      refine wpAnyH_take (i := 4) (v := ?_) rfl (by kernel_rfl) (by kernel_rfl) (by kernel_rfl) (fun _ _ _ h => h) (Or.inl ⟨by rfl, ?_⟩) (by assumption) ?_
      rotate_left
      · intro w hSw; (try dsimp only at hSw); have e := HC2.out _ hSw; go_simp; all_goals (with_reducible rfl)
      try simp only [Act.put, List.setIfInBounds_toArray, List.set_cons_zero, List.set_cons_succ, List.getElem_toArray, List.getElem_cons_succ, List.getElem_cons_zero]
      refine wpAnyH_take (i := 5) (v := ?_) rfl (by kernel_rfl) (by kernel_rfl) (by kernel_rfl) (fun _ _ _ h => h) (Or.inl ⟨by rfl, ?_⟩) (by assumption) ?_
      rotate_left
      · intro w hSw; (try dsimp only at hSw); go_simp; all_goals (with_reducible rfl)
      try simp only [Act.put, List.setIfInBounds_toArray, List.set_cons_zero, List.set_cons_succ, List.getElem_toArray, List.getElem_cons_succ, List.getElem_cons_zero]
      refine wpAnyH_take (i := 6) (v := ?_) rfl (by kernel_rfl) (by kernel_rfl) (by kernel_rfl) (fun _ _ _ h => h) (Or.inl ⟨by rfl, ?_⟩) (by assumption) ?_
      rotate_left
      · intro w hSw; (try dsimp only at hSw); have e := HC3.out _ hSw; go_simp; all_goals (with_reducible rfl)
      try simp only [Act.put, List.setIfInBounds_toArray, List.set_cons_zero, List.set_cons_succ, List.getElem_toArray, List.getElem_cons_succ, List.getElem_cons_zero]
      refine wpAnyH_take (i := 7) (v := ?_) rfl (by kernel_rfl) (by kernel_rfl) (by kernel_rfl) (fun _ _ _ h => h) (Or.inl ⟨by rfl, ?_⟩) (by assumption) ?_
      rotate_left
      · intro w hSw; (try dsimp only at hSw); go_simp; all_goals (with_reducible rfl)
      try simp only [Act.put, List.setIfInBounds_toArray, List.set_cons_zero, List.set_cons_succ, List.getElem_toArray, List.getElem_cons_succ, List.getElem_cons_zero]
      refine wpAnyH_take (i := 8) (v := ?_) rfl (by kernel_rfl) (by kernel_rfl) (by kernel_rfl) (fun _ _ _ h => h) (Or.inl ⟨by rfl, ?_⟩) (by assumption) ?_
      rotate_left
      · intro w hSw; (try dsimp only at hSw); have e := HC4.out _ hSw; go_simp; all_goals (with_reducible rfl)
      try simp only [Act.put, List.setIfInBounds_toArray, List.set_cons_zero, List.set_cons_succ, List.getElem_toArray, List.getElem_cons_succ, List.getElem_cons_zero]
      refine wpAnyH_take (i := 9) (v := ?_) rfl (by kernel_rfl) (by kernel_rfl) (by kernel_rfl) (fun _ _ _ h => h) (Or.inl ⟨by rfl, ?_⟩) (by assumption) ?_
      rotate_left
      · intro w hSw; (try dsimp only at hSw); go_simp; all_goals (with_reducible rfl)
      try simp only [Act.put, List.setIfInBounds_toArray, List.set_cons_zero, List.set_cons_succ, List.getElem_toArray, List.getElem_cons_succ, List.getElem_cons_zero]
      refine wpAnyH_ready (rs := [2, 11]) (by kernel_rfl) (by simp) ?_
      refine AllReadyH.cons rfl (fun K hK => ?_) (AllReadyH.cons rfl (fun K hK => ?_) AllReadyH.nil)
      · go_simp
        refine (HTy.out _).mono ?_
        rintro e w7 ⟨rfl, hw7⟩
        subst w7
        refine hK.out _ _ (hHeld) (fun hHeld => ?_)
        clear hK K
        try simp only [Act.put, List.setIfInBounds_toArray, List.set_cons_zero, List.set_cons_succ, List.getElem_toArray, List.getElem_cons_succ, List.getElem_cons_zero]
        refine wpAnyH_take (i := 10) rfl (by kernel_rfl) (by kernel_rfl) (by kernel_rfl) (fun _ _ _ h => h) (yieldsIf_built12 (by rfl) 61 _ (by rfl) (Hd.hv h0) (by rw [hh0.out]; kernel_rfl)) (by assumption) ?_
        try simp only [Act.put, List.setIfInBounds_toArray, List.set_cons_zero, List.set_cons_succ, List.getElem_toArray, List.getElem_cons_succ, List.getElem_cons_zero]
        refine wpAnyH_ready (rs := [11]) (by kernel_rfl) (by simp) ?_
        refine AllReadyH.cons rfl (fun K hK => ?_) AllReadyH.nil
        go_simp
        refine hK.out _ _ (bw_alloc7 hHeld _) (fun hHeld => ?_)
        clear hK K
        try simp only [Act.put, List.setIfInBounds_toArray, List.set_cons_zero, List.set_cons_succ, List.getElem_toArray, List.getElem_cons_succ, List.getElem_cons_zero]
        refine wpAnyH_ready (rs := [12]) (by kernel_rfl) (by simp) ?_
        refine AllReadyH.cons rfl (fun K hK => ?_) AllReadyH.nil
        refine step_store_row (by rfl) 61 _ _ (by rfl) wV.heap.size (Hd.hv h0) (by rfl) (by rfl) 61 Z (heap_alloc_new _ _) (info_head h0) (by rw [hZ.out]; rfl) (Hd.hv_one h0) ?_
        rw [setRow_alloc_new]
        have hb5 : Bw wP (wV.alloc (.cells (Hd.hv h0) 61)) := bw_alloc7 hwV _
        refine hK.out _ _ (hb5) (fun hHeld => ?_)
        clear hK K
        try simp only [Act.put, List.setIfInBounds_toArray, List.set_cons_zero, List.set_cons_succ, List.getElem_toArray, List.getElem_cons_succ, List.getElem_cons_zero]
        refine wpAnyH_done (by kernel_rfl) ?_ _
        obtain ⟨w5, hw5⟩ : ∃ V, V = wV.alloc (.cells (Hd.hv h0) 61) := ⟨_, rfl⟩
        have hA5 : HeadAt w5 wV.heap.size h0 := by rw [hw5]; exact heap_alloc_new _ _
        rw [← hw5] at hb5 ⊢
        clear hw5
        obtain ⟨N, hN⟩ : ∃ N, Hid (wV.heap.size = N) := ⟨_, rfl⟩
        have hNw : W.heap.size ≤ N := by rw [← hN.out]; exact Nat.le_trans hbP.size hwV.size
        have hNP : wP.heap.size ≤ N := by rw [← hN.out]; exact hwV.size
        rw [hN.out] at hA5 ⊢
        have hb6 := hbP.trans hb5
        clear hHeld hwV
        have c5 : w5.cell? ⟨w.heap.size, 5, none⟩ = some (.string (Nm.S y.it.to)) := HC5.out _ hb6
        have cN : w5.cell? ⟨N, 6, none⟩ = some (.string (Hd.S h0.link)) := cell_of_row w5 N 6 _ _ _ hA5
        have fN : w5.frozen? ⟨N, 6, none⟩ = false := frozen_of_row w5 N 6 _ _ hA5
        go_upto_region 11 with fail
        have hA6 : HeadAt (w5.setCell ⟨N, 6, none⟩ (.string (Nm.S y.it.to))) N ⟨[], y.it.mode, (nB : Nat), y.it.time, Pk.typ kk, y.it.to, []⟩ := by
          have := heap_setCell_same w5 N 6 _ _ (.string (Nm.S y.it.to)) hA5
          rw [hh0.out] at this
          exact this
        have hp7 : Bw wP (w5.setCell ⟨N, 6, none⟩ (.string (Nm.S y.it.to))) := hb5.setCell (by show _ ≤ N; omega) _
        generalize w5.setCell ⟨N, 6, none⟩ (.string (Nm.S y.it.to)) = w6 at hA6 hp7 ⊢
        have hb7 := hbP.trans hp7
        clear cN fN
        have c0 : w6.cell? ⟨w.heap.size, 0, none⟩ = some (.string (Nm.S y.it.path)) := HC0.out _ hb7
        clear c5 hA5
        go_upto_region 13 with (first
          | (go_at_call 54; refine (HCu.out _).mono ?_; rintro e w7 ⟨rfl, hw7⟩; have c07 := keep_cell11 c0 hw7; clear c0)
          | (go_at_call 55; refine (HSp.out _).mono ?_; rintro e w8 ⟨rfl, hw8⟩; have hA8 : HeadAt w8 N ⟨[], y.it.mode, (nB : Nat), y.it.time, Pk.typ kk, y.it.to, []⟩ := hA6.keep (hw7.trans hw8); have cA1 : w8.cell? ⟨N, 1, none⟩ = some (.string (Hd.S [])) := cell_of_row w8 N 1 _ _ _ hA8; have fA1 : w8.frozen? ⟨N, 1, none⟩ = false := frozen_of_row w8 N 1 _ _ hA8; have hA9 := heap_setCell_same w8 N 1 _ _ (.string (Nm.S pa)) hA8; have cA0 : (w8.setCell ⟨N, 1, none⟩ (.string (Nm.S pa))).cell? ⟨N, 0, none⟩ = some (.string (Hd.S [])) := cell_of_row _ N 0 _ _ _ hA9; have fA0 : (w8.setCell ⟨N, 1, none⟩ (.string (Nm.S pa))).frozen? ⟨N, 0, none⟩ = false := frozen_of_row _ N 0 _ _ hA9))
        have hAD : HeadAt ((w8.setCell ⟨N, 1, none⟩ (.string (Nm.S pa))).setCell ⟨N, 0, none⟩ (.string (Nm.S pb))) N D := by
          have := heap_setCell_same _ N 0 _ _ (.string (Nm.S pb)) hA9
          rw [HD.out]
          exact this
        have hPD : Bw wP ((w8.setCell ⟨N, 1, none⟩ (.string (Nm.S pa))).setCell ⟨N, 0, none⟩ (.string (Nm.S pb))) := (((hp7.trans hw7).trans hw8).setCell (by show _ ≤ N; omega) _).setCell (by show _ ≤ N; omega) _
        generalize (w8.setCell ⟨N, 1, none⟩ (.string (Nm.S pa))).setCell ⟨N, 0, none⟩ (.string (Nm.S pb)) = wD at hAD hPD ⊢
        have hbD := hbP.trans hPD
        clear cA1 fA1 cA0 fA0 hA9 hA8
        go_wp2_with (first
          | (refine wpList_load_row rfl 61 _ rfl N rfl 61 (Hd.hv D) (0, 0) _ hAD Tryz.underlying61 rfl (info_head D) ?_)
          | (go_at_call 51; refine (HPD.out _).mono ?_; rintro e wE ⟨⟨AE, cE, erE, rfl, hrE, hnE⟩, hwE⟩)
          | (at_builtin; refine wpList_append_by (by rfl) (.tmp 77) (.tmp 78) (by rfl) W.heap.size (.slice none 0 0) (([] : Pk.B)) 0 rfl (by rfl) (World.ownsRow_nil _ W.heap.size 5 1) AE nD cE (Pk.hB D) hnD.out (by rfl) hrE hnE (by omega) (Nat.le_trans hbD.size hwE.size) ?_; intro A9 c9 w9 ho9 hg9; rw [Nat.zero_add] at ho9; rw [Nat.zero_add]; have hb9 : Bw W w9 := bw_grow12 (hbD.trans hwE) hg9 (World.ownsRow_nil _ W.heap.size 5 1); have c4 := HC4p.out _ hb9)
          | (go_at_call 52; refine (rfilled_any y.ad nB y.cp y.it.body hnB.out (by omega) hnil _ (HBo.out.keep hb9)).mono ?_; rintro e wF ⟨⟨uF, rfl, hoF⟩, hwF⟩; obtain ⟨AF, cF, rfl, hrF, hnF⟩ := own_rowat12 hoF; rw [hnFl.out] at hrF ⊢)
          | (at_builtin; refine wpList_append_by (by rfl) (.tmp 80) (.tmp 83) (by rfl) W.heap.size _ (([] : Pk.B) ++ Pk.hB D) (nD) (by rw [List.nil_append]; exact hnD.out) (by rfl) (own_keep ho9 hwF) AF nFl cF (Pk.fill y.it.body) hnFl.out (by rfl) hrF hnF (by omega) (Nat.le_trans hb9.size hwF.size) ?_; intro AG cG wG hoG hgG; have hbG : Bw W wG := bw_grow12 (hb9.trans hwF) hgG (own_keep ho9 hwF)))
        go_ret
        refine ⟨⟨_, rfl, ?_⟩, hbW.trans hbG⟩
        have hlen : (([] : Pk.B) ++ Pk.hB D ++ Pk.fill y.it.body).length = nD + nFl := by rw [List.length_append, List.nil_append, hnD.out, hnFl.out]
        have hpc : Pk.pcs y.it = ([] : Pk.B) ++ Pk.hB D ++ Pk.fill y.it.body := by unfold Pk.pcs; rw [HFr.out, ← HD0.out]; simp only [List.append_assoc, List.nil_append]
        rw [hpc, hlen]
        exact own_lower9 hoG hbW.size
      · go_simp
        refine hK.out _ _ (bw_alloc7 hHeld _) (fun hHeld => ?_)
        clear hK K
        try simp only [Act.put, List.setIfInBounds_toArray, List.set_cons_zero, List.set_cons_succ, List.getElem_toArray, List.getElem_cons_succ, List.getElem_cons_zero]
        refine wpAnyH_ready (rs := [2]) (by kernel_rfl) (by simp) ?_
        refine AllReadyH.cons rfl (fun K hK => ?_) AllReadyH.nil
        go_simp
        refine (HTy.out _).mono ?_
        rintro e w7 ⟨rfl, hw7⟩
        subst w7
        refine hK.out _ _ (hHeld) (fun hHeld => ?_)
        clear hK K
        try simp only [Act.put, List.setIfInBounds_toArray, List.set_cons_zero, List.set_cons_succ, List.getElem_toArray, List.getElem_cons_succ, List.getElem_cons_zero]
        refine wpAnyH_take (i := 10) rfl (by kernel_rfl) (by kernel_rfl) (by kernel_rfl) (fun _ _ _ h => h) (yieldsIf_built12 (by rfl) 61 _ (by rfl) (Hd.hv h0) (by rw [hh0.out]; kernel_rfl)) (by assumption) ?_
        try simp only [Act.put, List.setIfInBounds_toArray, List.set_cons_zero, List.set_cons_succ, List.getElem_toArray, List.getElem_cons_succ, List.getElem_cons_zero]
        refine wpAnyH_ready (rs := [12]) (by kernel_rfl) (by simp) ?_
        refine AllReadyH.cons rfl (fun K hK => ?_) AllReadyH.nil
        refine step_store_row (by rfl) 61 _ _ (by rfl) wV.heap.size (Hd.hv h0) (by rfl) (by rfl) 61 Z (heap_alloc_new _ _) (info_head h0) (by rw [hZ.out]; rfl) (Hd.hv_one h0) ?_
        rw [setRow_alloc_new]
        have hb5 : Bw wP (wV.alloc (.cells (Hd.hv h0) 61)) := bw_alloc7 hwV _
        refine hK.out _ _ (hb5) (fun hHeld => ?_)
        clear hK K
        try simp only [Act.put, List.setIfInBounds_toArray, List.set_cons_zero, List.set_cons_succ, List.getElem_toArray, List.getElem_cons_succ, List.getElem_cons_zero]
        refine wpAnyH_done (by kernel_rfl) ?_ _
        obtain ⟨w5, hw5⟩ : ∃ V, V = wV.alloc (.cells (Hd.hv h0) 61) := ⟨_, rfl⟩
        have hA5 : HeadAt w5 wV.heap.size h0 := by rw [hw5]; exact heap_alloc_new _ _
        rw [← hw5] at hb5 ⊢
        clear hw5
        obtain ⟨N, hN⟩ : ∃ N, Hid (wV.heap.size = N) := ⟨_, rfl⟩
        have hNw : W.heap.size ≤ N := by rw [← hN.out]; exact Nat.le_trans hbP.size hwV.size
        have hNP : wP.heap.size ≤ N := by rw [← hN.out]; exact hwV.size
        rw [hN.out] at hA5 ⊢
        have hb6 := hbP.trans hb5
        clear hHeld hwV
        have c5 : w5.cell? ⟨w.heap.size, 5, none⟩ = some (.string (Nm.S y.it.to)) := HC5.out _ hb6
        have cN : w5.cell? ⟨N, 6, none⟩ = some (.string (Hd.S h0.link)) := cell_of_row w5 N 6 _ _ _ hA5
        have fN : w5.frozen? ⟨N, 6, none⟩ = false := frozen_of_row w5 N 6 _ _ hA5
        go_upto_region 11 with fail
        have hA6 : HeadAt (w5.setCell ⟨N, 6, none⟩ (.string (Nm.S y.it.to))) N ⟨[], y.it.mode, (nB : Nat), y.it.time, Pk.typ kk, y.it.to, []⟩ := by
          have := heap_setCell_same w5 N 6 _ _ (.string (Nm.S y.it.to)) hA5
          rw [hh0.out] at this
          exact this
        have hp7 : Bw wP (w5.setCell ⟨N, 6, none⟩ (.string (Nm.S y.it.to))) := hb5.setCell (by show _ ≤ N; omega) _
        generalize w5.setCell ⟨N, 6, none⟩ (.string (Nm.S y.it.to)) = w6 at hA6 hp7 ⊢
        have hb7 := hbP.trans hp7
        clear cN fN
        have c0 : w6.cell? ⟨w.heap.size, 0, none⟩ = some (.string (Nm.S y.it.path)) := HC0.out _ hb7
        clear c5 hA5
        go_upto_region 13 with (first
          | (go_at_call 54; refine (HCu.out _).mono ?_; rintro e w7 ⟨rfl, hw7⟩; have c07 := keep_cell11 c0 hw7; clear c0)
          | (go_at_call 55; refine (HSp.out _).mono ?_; rintro e w8 ⟨rfl, hw8⟩; have hA8 : HeadAt w8 N ⟨[], y.it.mode, (nB : Nat), y.it.time, Pk.typ kk, y.it.to, []⟩ := hA6.keep (hw7.trans hw8); have cA1 : w8.cell? ⟨N, 1, none⟩ = some (.string (Hd.S [])) := cell_of_row w8 N 1 _ _ _ hA8; have fA1 : w8.frozen? ⟨N, 1, none⟩ = false := frozen_of_row w8 N 1 _ _ hA8; have hA9 := heap_setCell_same w8 N 1 _ _ (.string (Nm.S pa)) hA8; have cA0 : (w8.setCell ⟨N, 1, none⟩ (.string (Nm.S pa))).cell? ⟨N, 0, none⟩ = some (.string (Hd.S [])) := cell_of_row _ N 0 _ _ _ hA9; have fA0 : (w8.setCell ⟨N, 1, none⟩ (.string (Nm.S pa))).frozen? ⟨N, 0, none⟩ = false := frozen_of_row _ N 0 _ _ hA9))
        have hAD : HeadAt ((w8.setCell ⟨N, 1, none⟩ (.string (Nm.S pa))).setCell ⟨N, 0, none⟩ (.string (Nm.S pb))) N D := by
          have := heap_setCell_same _ N 0 _ _ (.string (Nm.S pb)) hA9
          rw [HD.out]
          exact this
        have hPD : Bw wP ((w8.setCell ⟨N, 1, none⟩ (.string (Nm.S pa))).setCell ⟨N, 0, none⟩ (.string (Nm.S pb))) := (((hp7.trans hw7).trans hw8).setCell (by show _ ≤ N; omega) _).setCell (by show _ ≤ N; omega) _
        generalize (w8.setCell ⟨N, 1, none⟩ (.string (Nm.S pa))).setCell ⟨N, 0, none⟩ (.string (Nm.S pb)) = wD at hAD hPD ⊢
        have hbD := hbP.trans hPD
        clear cA1 fA1 cA0 fA0 hA9 hA8
        go_wp2_with (first
          | (refine wpList_load_row rfl 61 _ rfl N rfl 61 (Hd.hv D) (0, 0) _ hAD Tryz.underlying61 rfl (info_head D) ?_)
          | (go_at_call 51; refine (HPD.out _).mono ?_; rintro e wE ⟨⟨AE, cE, erE, rfl, hrE, hnE⟩, hwE⟩)
          | (at_builtin; refine wpList_append_by (by rfl) (.tmp 77) (.tmp 78) (by rfl) W.heap.size (.slice none 0 0) (([] : Pk.B)) 0 rfl (by rfl) (World.ownsRow_nil _ W.heap.size 5 1) AE nD cE (Pk.hB D) hnD.out (by rfl) hrE hnE (by omega) (Nat.le_trans hbD.size hwE.size) ?_; intro A9 c9 w9 ho9 hg9; rw [Nat.zero_add] at ho9; rw [Nat.zero_add]; have hb9 : Bw W w9 := bw_grow12 (hbD.trans hwE) hg9 (World.ownsRow_nil _ W.heap.size 5 1); have c4 := HC4p.out _ hb9)
          | (go_at_call 52; refine (rfilled_any y.ad nB y.cp y.it.body hnB.out (by omega) hnil _ (HBo.out.keep hb9)).mono ?_; rintro e wF ⟨⟨uF, rfl, hoF⟩, hwF⟩; obtain ⟨AF, cF, rfl, hrF, hnF⟩ := own_rowat12 hoF; rw [hnFl.out] at hrF ⊢)
          | (at_builtin; refine wpList_append_by (by rfl) (.tmp 80) (.tmp 83) (by rfl) W.heap.size _ (([] : Pk.B) ++ Pk.hB D) (nD) (by rw [List.nil_append]; exact hnD.out) (by rfl) (own_keep ho9 hwF) AF nFl cF (Pk.fill y.it.body) hnFl.out (by rfl) hrF hnF (by omega) (Nat.le_trans hb9.size hwF.size) ?_; intro AG cG wG hoG hgG; have hbG : Bw W wG := bw_grow12 (hb9.trans hwF) hgG (own_keep ho9 hwF)))
        go_ret
        refine ⟨⟨_, rfl, ?_⟩, hbW.trans hbG⟩
        have hlen : (([] : Pk.B) ++ Pk.hB D ++ Pk.fill y.it.body).length = nD + nFl := by rw [List.length_append, List.nil_append, hnD.out, hnFl.out]
        have hpc : Pk.pcs y.it = ([] : Pk.B) ++ Pk.hB D ++ Pk.fill y.it.body := by unfold Pk.pcs; rw [HFr.out, ← HD0.out]; simp only [List.append_assoc, List.nil_append]
        rw [hpc, hlen]
        exact own_lower9 hoG hbW.size
    · have t1 : (y.it.to.length : Int) ≤ 100 := by omega
      have t2 : (pe == 0) = false := by rw [beq_eq_false_iff_ne]; exact hpe
      have HD : Hid (D = ⟨[], y.it.mode, (nB : Nat), y.it.time, Pk.typ kk, y.it.to, []⟩) := by show _ = _; rw [HD0.out]; unfold Pk.hd; rw [hP.out, hkk, hnB.out, if_pos hto]; have := Pk.spl_err (l := y.it.path) (by rw [hP.out]; exact hpe); rw [hP.out] at this; dsimp only at this ⊢; rw [this.1, this.2]
      have hn0 : 0 < nL := by rw [← hnL.out, ← hL.out]; unfold Pk.prsOf Pk.prs; rw [hP.out, List.length_append]; rw [if_pos hpe]; simp
      have t0 : (0 : Int) < (nL : Int) := by omega
      obtain ⟨E, hE⟩ : ∃ E, Hid (E = Pk.more nr) := ⟨_, rfl⟩
      have HFr : Hid (Pk.front y.it = Pk.hB E ++ Pk.fill RR) := by show _ = _; unfold Pk.front; rw [hL.out, if_neg (fun e => by rw [← hnL.out, e] at hn0; exact absurd hn0 (by decide)), hRR.out, hnr.out, hE.out]
      have hEl := Pk.hB_le E
      obtain ⟨nE, hnE0⟩ : ∃ n, Hid ((Pk.hB E).length = n) := ⟨_, rfl⟩
      rw [hnE0.out] at hEl
      have HPE : Hid (∀ u, Calls Tryz.prog 51 #[.agg (Hd.hv E)] u fun e w' => (∃ A c er, e = .returned (.tuple #[.slice A nE c, .int .i64 er]) ∧ RowAt w' A nE (Hd.rowF (Pk.hB E)) ∧ (A = none → c = 0)) ∧ Bw u w') := fun u => by
        have := rhput_any E (by rw [hE.out]; exact ⟨by show (4 : Nat) ≤ _; omega, Nat.zero_le _, Nat.zero_le _⟩) u
        rwa [hnE0.out] at this
      obtain ⟨nfr, hnfr⟩ : ∃ n, Hid ((Pk.fill RR).length = n) := ⟨_, rfl⟩
      have hnfb : nfr ≤ 3000 := by rw [← hnfr.out, Pk.fill_len, hnr.out]; have := Pk.gap_lt nr; omega
      go_enter Tryz.func31, Tryz.ntmps31
      go_upto_region 1 with fail
      rw [← hW]
      clear hW
      go_upto_region 8 with (first
        | (refine wpList_load_row rfl 47 _ rfl w.heap.size rfl 47 y.arr (0, 0) _ HX.out Tryz.underlying47 rfl hiI ?_)
        | (go_at_call 49; refine (HPr.out _).mono ?_; rintro e w1 ⟨⟨vp, rfl, hop⟩, hw1⟩; rw [← hnL.out] at hop; obtain ⟨Ap, cp, rfl, hcp, hPrs, hAn⟩ := prs_of_own hop; rw [hnL.out] at hcp ⊢)
        | (go_at_call 50; refine (HPP.out _ _ _ hPrs).mono ?_; rintro e w2 ⟨⟨Ar, cr, pi, er, rfl, hrow2, hnr2⟩, hw2⟩)
        | (refine wpList_built_g10 (by rfl) 61 _ rfl (Hd.hv E) (by rw [hE.out]; kernel_rfl) ?_)
        | (go_at_call 51; refine (HPE.out _).mono ?_; rintro e w3 ⟨⟨A3, c3, er3, rfl, hrow3, hn3⟩, hw3⟩)
        | (at_builtin; refine wpList_append_by (by rfl) (.tmp 35) (.tmp 36) (by rfl) W.heap.size _ [] 0 rfl (by rfl) (World.ownsRow_nil w3 _ _ _) A3 nE c3 (Pk.hB E) hnE0.out (by rfl) hrow3 hn3 (by omega) ((hw1.trans hw2).trans hw3).size ?_; intro A4 c4 w4 ho4 hg4; have hb4 : Bw W w4 := bw_grow12 ((hw1.trans hw2).trans hw3) hg4 (World.ownsRow_nil w3 W.heap.size 5 1); rw [List.nil_append, Nat.zero_add] at ho4; rw [Nat.zero_add]; have hrow4 : RowAt w4 Ar nr (Hd.rowF RR) := hrow2.keep (hw3.trans (bw_grow12 (Bw.refl _) hg4 (World.ownsRow_nil w3 w3.heap.size 5 1))))
        | (go_at_call 52; refine (rfilled_any Ar nr cr RR hnr.out (by omega) hnr2 _ hrow4).mono ?_; rintro e w5 ⟨⟨u5, rfl, ho5⟩, hw5⟩; obtain ⟨A5, c5, rfl, hrow5, hn5⟩ := own_rowat12 ho5; rw [hnfr.out] at hrow5 ⊢)
        | (at_builtin; refine wpList_append_by (by rfl) (.tmp 38) (.tmp 40) (by rfl) W.heap.size _ (Pk.hB E) nE hnE0.out (by rfl) (own_keep ho4 hw5) A5 nfr c5 (Pk.fill RR) hnfr.out (by rfl) hrow5 hn5 (by omega) (hb4.trans hw5).size ?_; intro A6 c6 wP ho6 hg6; have hbP : Bw W wP := bw_grow12 (hb4.trans hw5) hg6 (own_keep ho4 hw5)))
      obtain ⟨nX, hnX0⟩ : ∃ n, Hid (nE + nfr = n) := ⟨_, rfl⟩
      have hnXb : nX ≤ 4000 := by rw [← hnX0.out]; omega
      have hnX : Hid ((Pk.hB E ++ Pk.fill RR).length = nX) := by show _ = _; rw [List.length_append, hnE0.out, hnfr.out, ← hnX0.out]
      rw [hnX0.out] at ho6 ⊢
      have HOX : Hid (wP.ownsRow W.heap.size 5 1 (.slice A6 nX c6) nX (Lib.byteCells (Pk.hB E ++ Pk.fill RR))) := ho6
      have HC1 : Hid (∀ u, Bw wP u → u.cell? ⟨w.heap.size, 1, none⟩ = some (.int .u8 (kk : Int))) := fun u h => HC1.out u (hbP.trans h)
      have HC2 : Hid (∀ u, Bw wP u → u.cell? ⟨w.heap.size, 2, none⟩ = some (.int .i64 y.it.mode)) := fun u h => HC2.out u (hbP.trans h)
      have HC3 : Hid (∀ u, Bw wP u → u.cell? ⟨w.heap.size, 3, none⟩ = some (.int .i64 y.it.time)) := fun u h => HC3.out u (hbP.trans h)
      have HC4p := HC4
      have HC4 : Hid (∀ u, Bw wP u → u.cell? ⟨w.heap.size, 4, none⟩ = some (.slice y.ad nB y.cp)) := fun u h => HC4p.out u (hbP.trans h)
      refine wp_region_held_drew (S := fun w' => Bw wP w') (by kernel_rfl) ((Below.refl _ _).drew) (fun hHeld => ?_)
      generalize wP.drew = wV at *
      have hwV := hHeld
      refine wpAnyH_take (i := 0) (v := ?_) rfl (by kernel_rfl) (by kernel_rfl) (by kernel_rfl) (fun _ _ _ h => h) (Or.inl ⟨by rfl, ?_⟩) (by assumption) ?_
      rotate_left
      · intro w hSw; (try dsimp only at hSw); go_simp; all_goals (with_reducible rfl)
      try simp only [Act.put, List.setIfInBounds_toArray, List.set_cons_zero, List.set_cons_succ, List.getElem_toArray, List.getElem_cons_succ, List.getElem_cons_zero]
      refine wpAnyH_take (i := 1) (v := ?_) rfl (by kernel_rfl) (by kernel_rfl) (by kernel_rfl) (fun _ _ _ h => h) (Or.inl ⟨by rfl, ?_⟩) (by assumption) ?_
      rotate_left
      · intro w hSw; (try dsimp only at hSw); have e := HC1.out _ hSw; go_simp; all_goals (with_reducible rfl)
      try simp only [Act.put, List.setIfInBounds_toArray, List.set_cons_zero, List.set_cons_succ, List.getElem_toArray, List.getElem_cons_succ, List.getElem_cons_zero]
      refine wpAnyH_take (i := 3) (v := ?_) rfl (by kernel_rfl) (by kernel_rfl) (by kernel_rfl) (fun _ _ _ h => h) (Or.inl ⟨by rfl, ?_⟩) (by assumption) ?_
      rotate_left
      · intro w hSw; (try dsimp only at hSw); go_simp; all_goals (with_reducible rfl)
      try simp only [Act.put, List.setIfInBounds_toArray, List.set_cons_zero, List.set_cons_succ, List.getElem_toArray, List.getElem_cons_succ, List.getElem_cons_zero]
      refine wpAnyH_take (i := 4) (v := ?_) rfl (by kernel_rfl) (by kernel_rfl) (by kernel_rfl) (fun _ _ _ h => h) (Or.inl ⟨by rfl, ?_⟩) (by assumption) ?_
      rotate_left
      · intro w hSw; (try dsimp only at hSw); have e := HC2.out _ hSw; go_simp; all_goals (with_reducible rfl)
      try simp only [Act.put, List.setIfInBounds_toArray, List.set_cons_zero, List.set_cons_succ, List.getElem_toArray, List.getElem_cons_succ, List.getElem_cons_zero]
      refine wpAnyH_take (i := 5) (v := ?_) rfl (by kernel_rfl) (by kernel_rfl) (by kernel_rfl) (fun _ _ _ h => h) (Or.inl ⟨by rfl, ?_⟩) (by assumption) ?_
      rotate_left
      · intro w hSw; (try dsimp only at hSw); go_simp; all_goals (with_reducible rfl)
      try simp only [Act.put, List.setIfInBounds_toArray, List.set_cons_zero, List.set_cons_succ, List.getElem_toArray, List.getElem_cons_succ, List.getElem_cons_zero]
      refine wpAnyH_take (i := 6) (v := ?_) rfl (by kernel_rfl) (by kernel_rfl) (by kernel_rfl) (fun _ _ _ h => h) (Or.inl ⟨by rfl, ?_⟩) (by assumption) ?_
      rotate_left
      · intro w hSw; (try dsimp only at hSw); have e := HC3.out _ hSw; go_simp; all_goals (with_reducible rfl)
      try simp only [Act.put, List.setIfInBounds_toArray, List.set_cons_zero, List.set_cons_succ, List.getElem_toArray, List.getElem_cons_succ, List.getElem_cons_zero]
      refine wpAnyH_take (i := 7) (v := ?_) rfl (by kernel_rfl) (by kernel_rfl) (by kernel_rfl) (fun _ _ _ h => h) (Or.inl ⟨by rfl, ?_⟩) (by assumption) ?_
      rotate_left
      · intro w hSw; (try dsimp only at hSw); go_simp; all_goals (with_reducible rfl)
      try simp only [Act.put, List.setIfInBounds_toArray, List.set_cons_zero, List.set_cons_succ, List.getElem_toArray, List.getElem_cons_succ, List.getElem_cons_zero]
      refine wpAnyH_take (i := 8) (v := ?_) rfl (by kernel_rfl) (by kernel_rfl) (by kernel_rfl) (fun _ _ _ h => h) (Or.inl ⟨by rfl, ?_⟩) (by assumption) ?_
      rotate_left
      · intro w hSw; (try dsimp only at hSw); have e := HC4.out _ hSw; go_simp; all_goals (with_reducible rfl)
      try simp only [Act.put, List.setIfInBounds_toArray, List.set_cons_zero, List.set_cons_succ, List.getElem_toArray, List.getElem_cons_succ, List.getElem_cons_zero]
      refine wpAnyH_take (i := 9) (v := ?_) rfl (by kernel_rfl) (by kernel_rfl) (by kernel_rfl) (fun _ _ _ h => h) (Or.inl ⟨by rfl, ?_⟩) (by assumption) ?_
      rotate_left
      · intro w hSw; (try dsimp only at hSw); go_simp; all_goals (with_reducible rfl)
      try simp only [Act.put, List.setIfInBounds_toArray, List.set_cons_zero, List.set_cons_succ, List.getElem_toArray, List.getElem_cons_succ, List.getElem_cons_zero]
      refine wpAnyH_ready (rs := [2, 11]) (by kernel_rfl) (by simp) ?_
      refine AllReadyH.cons rfl (fun K hK => ?_) (AllReadyH.cons rfl (fun K hK => ?_) AllReadyH.nil)
      · go_simp
        refine (HTy.out _).mono ?_
        rintro e w7 ⟨rfl, hw7⟩
        subst w7
        refine hK.out _ _ (hHeld) (fun hHeld => ?_)
        clear hK K
        try simp only [Act.put, List.setIfInBounds_toArray, List.set_cons_zero, List.set_cons_succ, List.getElem_toArray, List.getElem_cons_succ, List.getElem_cons_zero]
        refine wpAnyH_take (i := 10) rfl (by kernel_rfl) (by kernel_rfl) (by kernel_rfl) (fun _ _ _ h => h) (yieldsIf_built12 (by rfl) 61 _ (by rfl) (Hd.hv h0) (by rw [hh0.out]; kernel_rfl)) (by assumption) ?_
        try simp only [Act.put, List.setIfInBounds_toArray, List.set_cons_zero, List.set_cons_succ, List.getElem_toArray, List.getElem_cons_succ, List.getElem_cons_zero]
        refine wpAnyH_ready (rs := [11]) (by kernel_rfl) (by simp) ?_
        refine AllReadyH.cons rfl (fun K hK => ?_) AllReadyH.nil
        go_simp
        refine hK.out _ _ (bw_alloc7 hHeld _) (fun hHeld => ?_)
        clear hK K
        try simp only [Act.put, List.setIfInBounds_toArray, List.set_cons_zero, List.set_cons_succ, List.getElem_toArray, List.getElem_cons_succ, List.getElem_cons_zero]
        refine wpAnyH_ready (rs := [12]) (by kernel_rfl) (by simp) ?_
        refine AllReadyH.cons rfl (fun K hK => ?_) AllReadyH.nil
        refine step_store_row (by rfl) 61 _ _ (by rfl) wV.heap.size (Hd.hv h0) (by rfl) (by rfl) 61 Z (heap_alloc_new _ _) (info_head h0) (by rw [hZ.out]; rfl) (Hd.hv_one h0) ?_
        rw [setRow_alloc_new]
        have hb5 : Bw wP (wV.alloc (.cells (Hd.hv h0) 61)) := bw_alloc7 hwV _
        refine hK.out _ _ (hb5) (fun hHeld => ?_)
        clear hK K
        try simp only [Act.put, List.setIfInBounds_toArray, List.set_cons_zero, List.set_cons_succ, List.getElem_toArray, List.getElem_cons_succ, List.getElem_cons_zero]
        refine wpAnyH_done (by kernel_rfl) ?_ _
        obtain ⟨w5, hw5⟩ : ∃ V, V = wV.alloc (.cells (Hd.hv h0) 61) := ⟨_, rfl⟩
        have hA5 : HeadAt w5 wV.heap.size h0 := by rw [hw5]; exact heap_alloc_new _ _
        rw [← hw5] at hb5 ⊢
        clear hw5
        obtain ⟨N, hN⟩ : ∃ N, Hid (wV.heap.size = N) := ⟨_, rfl⟩
        have hNw : W.heap.size ≤ N := by rw [← hN.out]; exact Nat.le_trans hbP.size hwV.size
        have hNP : wP.heap.size ≤ N := by rw [← hN.out]; exact hwV.size
        rw [hN.out] at hA5 ⊢
        have hb6 := hbP.trans hb5
        clear hHeld hwV
        have c5 : w5.cell? ⟨w.heap.size, 5, none⟩ = some (.string (Nm.S y.it.to)) := HC5.out _ hb6
        have cN : w5.cell? ⟨N, 6, none⟩ = some (.string (Hd.S h0.link)) := cell_of_row w5 N 6 _ _ _ hA5
        have fN : w5.frozen? ⟨N, 6, none⟩ = false := frozen_of_row w5 N 6 _ _ hA5
        go_upto_region 11 with fail
        have hA6 : HeadAt (w5.setCell ⟨N, 6, none⟩ (.string (Nm.S y.it.to))) N ⟨[], y.it.mode, (nB : Nat), y.it.time, Pk.typ kk, y.it.to, []⟩ := by
          have := heap_setCell_same w5 N 6 _ _ (.string (Nm.S y.it.to)) hA5
          rw [hh0.out] at this
          exact this
        have hp7 : Bw wP (w5.setCell ⟨N, 6, none⟩ (.string (Nm.S y.it.to))) := hb5.setCell (by show _ ≤ N; omega) _
        generalize w5.setCell ⟨N, 6, none⟩ (.string (Nm.S y.it.to)) = w6 at hA6 hp7 ⊢
        have hb7 := hbP.trans hp7
        clear cN fN
        have c0 : w6.cell? ⟨w.heap.size, 0, none⟩ = some (.string (Nm.S y.it.path)) := HC0.out _ hb7
        clear c5 hA5
        go_upto_region 13 with (go_at_call 54; refine (HCu.out _).mono ?_; rintro e w7 ⟨rfl, hw7⟩)
        have hAD : HeadAt w7 N D := by rw [HD.out]; exact hA6.keep hw7
        have hbD := hb7.trans hw7
        have hPD := hp7.trans hw7
        obtain ⟨wD, hwD⟩ : ∃ V, V = w7 := ⟨_, rfl⟩
        rw [← hwD] at hAD hbD hPD ⊢
        clear hwD
        go_wp2_with (first
          | (refine wpList_load_row rfl 61 _ rfl N rfl 61 (Hd.hv D) (0, 0) _ hAD Tryz.underlying61 rfl (info_head D) ?_)
          | (go_at_call 51; refine (HPD.out _).mono ?_; rintro e wE ⟨⟨AE, cE, erE, rfl, hrE, hnE⟩, hwE⟩)
          | (at_builtin; refine wpList_append_by (by rfl) (.tmp 77) (.tmp 78) (by rfl) W.heap.size (.slice A6 nX c6) (Pk.hB E ++ Pk.fill RR) nX hnX.out (by rfl) (own_keep HOX.out (hPD.trans hwE)) AE nD cE (Pk.hB D) hnD.out (by rfl) hrE hnE (by omega) (Nat.le_trans hbD.size hwE.size) ?_; intro A9 c9 w9 ho9 hg9; have hb9 : Bw W w9 := bw_grow12 (hbD.trans hwE) hg9 (own_keep HOX.out (hPD.trans hwE)); have c4 := HC4p.out _ hb9)
          | (go_at_call 52; refine (rfilled_any y.ad nB y.cp y.it.body hnB.out (by omega) hnil _ (HBo.out.keep hb9)).mono ?_; rintro e wF ⟨⟨uF, rfl, hoF⟩, hwF⟩; obtain ⟨AF, cF, rfl, hrF, hnF⟩ := own_rowat12 hoF; rw [hnFl.out] at hrF ⊢)
          | (at_builtin; refine wpList_append_by (by rfl) (.tmp 80) (.tmp 83) (by rfl) W.heap.size _ (Pk.hB E ++ Pk.fill RR ++ Pk.hB D) (nX + nD) (by rw [List.length_append, hnD.out]; rw [hnX.out]) (by rfl) (own_keep ho9 hwF) AF nFl cF (Pk.fill y.it.body) hnFl.out (by rfl) hrF hnF (by omega) (Nat.le_trans hb9.size hwF.size) ?_; intro AG cG wG hoG hgG; have hbG : Bw W wG := bw_grow12 (hb9.trans hwF) hgG (own_keep ho9 hwF)))
        go_ret
        refine ⟨⟨_, rfl, ?_⟩, hbW.trans hbG⟩
        have hlen : (Pk.hB E ++ Pk.fill RR ++ Pk.hB D ++ Pk.fill y.it.body).length = nX + nD + nFl := by rw [List.length_append, List.length_append, hnD.out, hnFl.out]; rw [hnX.out]
        have hpc : Pk.pcs y.it = Pk.hB E ++ Pk.fill RR ++ Pk.hB D ++ Pk.fill y.it.body := by unfold Pk.pcs; rw [HFr.out, ← HD0.out]; simp only [List.append_assoc, List.nil_append]
        rw [hpc, hlen]
        exact own_lower9 hoG hbW.size
      · go_simp
        refine hK.out _ _ (bw_alloc7 hHeld _) (fun hHeld => ?_)
        clear hK K
        try simp only [Act.put, List.setIfInBounds_toArray, List.set_cons_zero, List.set_cons_succ, List.getElem_toArray, List.getElem_cons_succ, List.getElem_cons_zero]
        refine wpAnyH_ready (rs := [2]) (by kernel_rfl) (by simp) ?_
        refine AllReadyH.cons rfl (fun K hK => ?_) AllReadyH.nil
        go_simp
        refine (HTy.out _).mono ?_
        rintro e w7 ⟨rfl, hw7⟩
        subst w7
        refine hK.out _ _ (hHeld) (fun hHeld => ?_)
        clear hK K
        try simp only [Act.put, List.setIfInBounds_toArray, List.set_cons_zero, List.set_cons_succ, List.getElem_toArray, List.getElem_cons_succ, List.getElem_cons_zero]
        refine wpAnyH_take (i := 10) rfl (by kernel_rfl) (by kernel_rfl) (by kernel_rfl) (fun _ _ _ h => h) (yieldsIf_built12 (by rfl) 61 _ (by rfl) (Hd.hv h0) (by rw [hh0.out]; kernel_rfl)) (by assumption) ?_
        try simp only [Act.put, List.setIfInBounds_toArray, List.set_cons_zero, List.set_cons_succ, List.getElem_toArray, List.getElem_cons_succ, List.getElem_cons_zero]
        refine wpAnyH_ready (rs := [12]) (by kernel_rfl) (by simp) ?_
        refine AllReadyH.cons rfl (fun K hK => ?_) AllReadyH.nil
        refine step_store_row (by rfl) 61 _ _ (by rfl) wV.heap.size (Hd.hv h0) (by rfl) (by rfl) 61 Z (heap_alloc_new _ _) (info_head h0) (by rw [hZ.out]; rfl) (Hd.hv_one h0) ?_
        rw [setRow_alloc_new]
        have hb5 : Bw wP (wV.alloc (.cells (Hd.hv h0) 61)) := bw_alloc7 hwV _
        refine hK.out _ _ (hb5) (fun hHeld => ?_)
        clear hK K
        try simp only [Act.put, List.setIfInBounds_toArray, List.set_cons_zero, List.set_cons_succ, List.getElem_toArray, List.getElem_cons_succ, List.getElem_cons_zero]
        refine wpAnyH_done (by kernel_rfl) ?_ _
        obtain ⟨w5, hw5⟩ : ∃ V, V = wV.alloc (.cells (Hd.hv h0) 61) := ⟨_, rfl⟩
        have hA5 : HeadAt w5 wV.heap.size h0 := by rw [hw5]; exact heap_alloc_new _ _
        rw [← hw5] at hb5 ⊢
        clear hw5
        obtain ⟨N, hN⟩ : ∃ N, Hid (wV.heap.size = N) := ⟨_, rfl⟩
        have hNw : W.heap.size ≤ N := by rw [← hN.out]; exact Nat.le_trans hbP.size hwV.size
        have hNP : wP.heap.size ≤ N := by rw [← hN.out]; exact hwV.size
        rw [hN.out] at hA5 ⊢
        have hb6 := hbP.trans hb5
        clear hHeld hwV
        have c5 : w5.cell? ⟨w.heap.size, 5, none⟩ = some (.string (Nm.S y.it.to)) := HC5.out _ hb6
        have cN : w5.cell? ⟨N, 6, none⟩ = some (.string (Hd.S h0.link)) := cell_of_row w5 N 6 _ _ _ hA5
        have fN : w5.frozen? ⟨N, 6, none⟩ = false := frozen_of_row w5 N 6 _ _ hA5
        go_upto_region 11 with fail
        have hA6 : HeadAt (w5.setCell ⟨N, 6, none⟩ (.string (Nm.S y.it.to))) N ⟨[], y.it.mode, (nB : Nat), y.it.time, Pk.typ kk, y.it.to, []⟩ := by
          have := heap_setCell_same w5 N 6 _ _ (.string (Nm.S y.it.to)) hA5
          rw [hh0.out] at this
          exact this
        have hp7 : Bw wP (w5.setCell ⟨N, 6, none⟩ (.string (Nm.S y.it.to))) := hb5.setCell (by show _ ≤ N; omega) _
        generalize w5.setCell ⟨N, 6, none⟩ (.string (Nm.S y.it.to)) = w6 at hA6 hp7 ⊢
        have hb7 := hbP.trans hp7
        clear cN fN
        have c0 : w6.cell? ⟨w.heap.size, 0, none⟩ = some (.string (Nm.S y.it.path)) := HC0.out _ hb7
        clear c5 hA5
        go_upto_region 13 with (go_at_call 54; refine (HCu.out _).mono ?_; rintro e w7 ⟨rfl, hw7⟩)
        have hAD : HeadAt w7 N D := by rw [HD.out]; exact hA6.keep hw7
        have hbD := hb7.trans hw7
        have hPD := hp7.trans hw7
        obtain ⟨wD, hwD⟩ : ∃ V, V = w7 := ⟨_, rfl⟩
        rw [← hwD] at hAD hbD hPD ⊢
        clear hwD
        go_wp2_with (first
          | (refine wpList_load_row rfl 61 _ rfl N rfl 61 (Hd.hv D) (0, 0) _ hAD Tryz.underlying61 rfl (info_head D) ?_)
          | (go_at_call 51; refine (HPD.out _).mono ?_; rintro e wE ⟨⟨AE, cE, erE, rfl, hrE, hnE⟩, hwE⟩)
          | (at_builtin; refine wpList_append_by (by rfl) (.tmp 77) (.tmp 78) (by rfl) W.heap.size (.slice A6 nX c6) (Pk.hB E ++ Pk.fill RR) nX hnX.out (by rfl) (own_keep HOX.out (hPD.trans hwE)) AE nD cE (Pk.hB D) hnD.out (by rfl) hrE hnE (by omega) (Nat.le_trans hbD.size hwE.size) ?_; intro A9 c9 w9 ho9 hg9; have hb9 : Bw W w9 := bw_grow12 (hbD.trans hwE) hg9 (own_keep HOX.out (hPD.trans hwE)); have c4 := HC4p.out _ hb9)
          | (go_at_call 52; refine (rfilled_any y.ad nB y.cp y.it.body hnB.out (by omega) hnil _ (HBo.out.keep hb9)).mono ?_; rintro e wF ⟨⟨uF, rfl, hoF⟩, hwF⟩; obtain ⟨AF, cF, rfl, hrF, hnF⟩ := own_rowat12 hoF; rw [hnFl.out] at hrF ⊢)
          | (at_builtin; refine wpList_append_by (by rfl) (.tmp 80) (.tmp 83) (by rfl) W.heap.size _ (Pk.hB E ++ Pk.fill RR ++ Pk.hB D) (nX + nD) (by rw [List.length_append, hnD.out]; rw [hnX.out]) (by rfl) (own_keep ho9 hwF) AF nFl cF (Pk.fill y.it.body) hnFl.out (by rfl) hrF hnF (by omega) (Nat.le_trans hb9.size hwF.size) ?_; intro AG cG wG hoG hgG; have hbG : Bw W wG := bw_grow12 (hb9.trans hwF) hgG (own_keep ho9 hwF)))
        go_ret
        refine ⟨⟨_, rfl, ?_⟩, hbW.trans hbG⟩
        have hlen : (Pk.hB E ++ Pk.fill RR ++ Pk.hB D ++ Pk.fill y.it.body).length = nX + nD + nFl := by rw [List.length_append, List.length_append, hnD.out, hnFl.out]; rw [hnX.out]
        have hpc : Pk.pcs y.it = Pk.hB E ++ Pk.fill RR ++ Pk.hB D ++ Pk.fill y.it.body := by unfold Pk.pcs; rw [HFr.out, ← HD0.out]; simp only [List.append_assoc, List.nil_append]
        rw [hpc, hlen]
        exact own_lower9 hoG hbW.size
  · by_cases hpe : pe = 0
    · have t1 : ¬ (y.it.to.length : Int) ≤ 100 := by omega
      have t2 : (pe == 0) = true := by rw [hpe]; rfl
      have HD : Hid (D = ⟨pb, y.it.mode, (nB : Nat), y.it.time, Pk.typ kk, [], pa⟩) := by show _ = _; rw [HD0.out]; unfold Pk.hd; rw [hP.out, hkk, hnB.out, if_neg hto]
      have hn0 : 0 < nL := by rw [← hnL.out, ← hL.out]; unfold Pk.prsOf Pk.prs; rw [hP.out, List.length_append]; rw [if_pos (show 100 < y.it.to.length by omega)]; simp; omega
      have t0 : (0 : Int) < (nL : Int) := by omega
      obtain ⟨E, hE⟩ : ∃ E, Hid (E = Pk.more nr) := ⟨_, rfl⟩
      have HFr : Hid (Pk.front y.it = Pk.hB E ++ Pk.fill RR) := by show _ = _; unfold Pk.front; rw [hL.out, if_neg (fun e => by rw [← hnL.out, e] at hn0; exact absurd hn0 (by decide)), hRR.out, hnr.out, hE.out]
      have hEl := Pk.hB_le E
      obtain ⟨nE, hnE0⟩ : ∃ n, Hid ((Pk.hB E).length = n) := ⟨_, rfl⟩
      rw [hnE0.out] at hEl
      have HPE : Hid (∀ u, Calls Tryz.prog 51 #[.agg (Hd.hv E)] u fun e w' => (∃ A c er, e = .returned (.tuple #[.slice A nE c, .int .i64 er]) ∧ RowAt w' A nE (Hd.rowF (Pk.hB E)) ∧ (A = none → c = 0)) ∧ Bw u w') := fun u => by
        have := rhput_any E (by rw [hE.out]; exact ⟨by show (4 : Nat) ≤ _; omega, Nat.zero_le _, Nat.zero_le _⟩) u
        rwa [hnE0.out] at this
      obtain ⟨nfr, hnfr⟩ : ∃ n, Hid ((Pk.fill RR).length = n) := ⟨_, rfl⟩
      have hnfb : nfr ≤ 3000 := by rw [← hnfr.out, Pk.fill_len, hnr.out]; have := Pk.gap_lt nr; omega
      go_enter Tryz.func31, Tryz.ntmps31
      go_upto_region 1 with fail
      rw [← hW]
      clear hW
      go_upto_region 8 with (first
        | (refine wpList_load_row rfl 47 _ rfl w.heap.size rfl 47 y.arr (0, 0) _ HX.out Tryz.underlying47 rfl hiI ?_)
        | (go_at_call 49; refine (HPr.out _).mono ?_; rintro e w1 ⟨⟨vp, rfl, hop⟩, hw1⟩; rw [← hnL.out] at hop; obtain ⟨Ap, cp, rfl, hcp, hPrs, hAn⟩ := prs_of_own hop; rw [hnL.out] at hcp ⊢)
        | (go_at_call 50; refine (HPP.out _ _ _ hPrs).mono ?_; rintro e w2 ⟨⟨Ar, cr, pi, er, rfl, hrow2, hnr2⟩, hw2⟩)
        | (refine wpList_built_g10 (by rfl) 61 _ rfl (Hd.hv E) (by rw [hE.out]; kernel_rfl) ?_)
        | (go_at_call 51; refine (HPE.out _).mono ?_; rintro e w3 ⟨⟨A3, c3, er3, rfl, hrow3, hn3⟩, hw3⟩)
        | (at_builtin; refine wpList_append_by (by rfl) (.tmp 35) (.tmp 36) (by rfl) W.heap.size _ [] 0 rfl (by rfl) (World.ownsRow_nil w3 _ _ _) A3 nE c3 (Pk.hB E) hnE0.out (by rfl) hrow3 hn3 (by omega) ((hw1.trans hw2).trans hw3).size ?_; intro A4 c4 w4 ho4 hg4; have hb4 : Bw W w4 := bw_grow12 ((hw1.trans hw2).trans hw3) hg4 (World.ownsRow_nil w3 W.heap.size 5 1); rw [List.nil_append, Nat.zero_add] at ho4; rw [Nat.zero_add]; have hrow4 : RowAt w4 Ar nr (Hd.rowF RR) := hrow2.keep (hw3.trans (bw_grow12 (Bw.refl _) hg4 (World.ownsRow_nil w3 w3.heap.size 5 1))))
        | (go_at_call 52; refine (rfilled_any Ar nr cr RR hnr.out (by omega) hnr2 _ hrow4).mono ?_; rintro e w5 ⟨⟨u5, rfl, ho5⟩, hw5⟩; obtain ⟨A5, c5, rfl, hrow5, hn5⟩ := own_rowat12 ho5; rw [hnfr.out] at hrow5 ⊢)
        | (at_builtin; refine wpList_append_by (by rfl) (.tmp 38) (.tmp 40) (by rfl) W.heap.size _ (Pk.hB E) nE hnE0.out (by rfl) (own_keep ho4 hw5) A5 nfr c5 (Pk.fill RR) hnfr.out (by rfl) hrow5 hn5 (by omega) (hb4.trans hw5).size ?_; intro A6 c6 wP ho6 hg6; have hbP : Bw W wP := bw_grow12 (hb4.trans hw5) hg6 (own_keep ho4 hw5)))
      obtain ⟨nX, hnX0⟩ : ∃ n, Hid (nE + nfr = n) := ⟨_, rfl⟩
      have hnXb : nX ≤ 4000 := by rw [← hnX0.out]; omega
      have hnX : Hid ((Pk.hB E ++ Pk.fill RR).length = nX) := by show _ = _; rw [List.length_append, hnE0.out, hnfr.out, ← hnX0.out]
      rw [hnX0.out] at ho6 ⊢
      have HOX : Hid (wP.ownsRow W.heap.size 5 1 (.slice A6 nX c6) nX (Lib.byteCells (Pk.hB E ++ Pk.fill RR))) := ho6
      have HC1 : Hid (∀ u, Bw wP u → u.cell? ⟨w.heap.size, 1, none⟩ = some (.int .u8 (kk : Int))) := fun u h => HC1.out u (hbP.trans h)
      have HC2 : Hid (∀ u, Bw wP u → u.cell? ⟨w.heap.size, 2, none⟩ = some (.int .i64 y.it.mode)) := fun u h => HC2.out u (hbP.trans h)
      have HC3 : Hid (∀ u, Bw wP u → u.cell? ⟨w.heap.size, 3, none⟩ = some (.int .i64 y.it.time)) := fun u h => HC3.out u (hbP.trans h)
      have HC4p := HC4
      have HC4 : Hid (∀ u, Bw wP u → u.cell? ⟨w.heap.size, 4, none⟩ = some (.slice y.ad nB y.cp)) := fun u h => HC4p.out u (hbP.trans h)
      refine wp_region_held_drew (S := fun w' => Bw wP w') (by kernel_rfl) ((Below.refl _ _).drew) (fun hHeld => ?_)
      generalize wP.drew = wV at *
      have hwV := hHeld
      refine wpAnyH_take (i := 0) (v := ?_) rfl (by kernel_rfl) (by kernel_rfl) (by kernel_rfl) (fun _ _ _ h => h) (Or.inl ⟨by rfl, ?_⟩) (by assumption) ?_
      rotate_left
      · intro w hSw; (try dsimp only at hSw); go_simp; all_goals (with_reducible rfl)
      try simp only [Act.put, List.setIfInBounds_toArray, List.set_cons_zero, List.set_cons_succ, List.getElem_toArray, List.getElem_cons_succ, List.getElem_cons_zero]
      refine wpAnyH_take (i := 1) (v := ?_) rfl (by kernel_rfl) (by kernel_rfl) (by kernel_rfl) (fun _ _ _ h => h) (Or.inl ⟨by rfl, ?_⟩) (by assumption) ?_
      rotate_left
      · intro w hSw; (try dsimp only at hSw); have e := HC1.out _ hSw; go_simp; all_goals (with_reducible rfl)
      try simp only [Act.put, List.setIfInBounds_toArray, List.set_cons_zero, List.set_cons_succ, List.getElem_toArray, List.getElem_cons_succ, List.getElem_cons_zero]
      refine wpAnyH_take (i := 3) (v := ?_) rfl (by kernel_rfl) (by kernel_rfl) (by kernel_rfl) (fun _ _ _ h => h) (Or.inl ⟨by rfl, ?_⟩) (by assumption) ?_
      rotate_left
      · intro w hSw; (try dsimp only at hSw); go_simp; all_goals (with_reducible rfl)
      try simp only [Act.put, List.setIfInBounds_toArray, List.set_cons_zero, List.set_cons_succ, List.getElem_toArray, List.getElem_cons_succ, List.getElem_cons_zero]
      refine wpAnyH_take (i := 4) (v := ?_) rfl (by kernel_rfl) (by kernel_rfl) (by kernel_rfl) (fun _ _ _ h => h) (Or.inl ⟨by rfl, ?_⟩) (by assumption) ?_
      rotate_left
      · intro w hSw; (try dsimp only at hSw); have e := HC2.out _ hSw; go_simp; all_goals (with_reducible rfl)
      try simp only [Act.put, List.setIfInBounds_toArray, List.set_cons_zero, List.set_cons_succ, List.getElem_toArray, List.getElem_cons_succ, List.getElem_cons_zero]
      refine wpAnyH_take (i := 5) (v := ?_) rfl (by kernel_rfl) (by kernel_rfl) (by kernel_rfl) (fun _ _ _ h => h) (Or.inl ⟨by rfl, ?_⟩) (by assumption) ?_
      rotate_left
      · intro w hSw; (try dsimp only at hSw); go_simp; all_goals (with_reducible rfl)
      try simp only [Act.put, List.setIfInBounds_toArray, List.set_cons_zero, List.set_cons_succ, List.getElem_toArray, List.getElem_cons_succ, List.getElem_cons_zero]
      refine wpAnyH_take (i := 6) (v := ?_) rfl (by kernel_rfl) (by kernel_rfl) (by kernel_rfl) (fun _ _ _ h => h) (Or.inl ⟨by rfl, ?_⟩) (by assumption) ?_
      rotate_left
      · intro w hSw; (try dsimp only at hSw); have e := HC3.out _ hSw; go_simp; all_goals (with_reducible rfl)
      try simp only [Act.put, List.setIfInBounds_toArray, List.set_cons_zero, List.set_cons_succ, List.getElem_toArray, List.getElem_cons_succ, List.getElem_cons_zero]
      refine wpAnyH_take (i := 7) (v := ?_) rfl (by kernel_rfl) (by kernel_rfl) (by kernel_rfl) (fun _ _ _ h => h) (Or.inl ⟨by rfl, ?_⟩) (by assumption) ?_
      rotate_left
      · intro w hSw; (try dsimp only at hSw); go_simp; all_goals (with_reducible rfl)
      try simp only [Act.put, List.setIfInBounds_toArray, List.set_cons_zero, List.set_cons_succ, List.getElem_toArray, List.getElem_cons_succ, List.getElem_cons_zero]
      refine wpAnyH_take (i := 8) (v := ?_) rfl (by kernel_rfl) (by kernel_rfl) (by kernel_rfl) (fun _ _ _ h => h) (Or.inl ⟨by rfl, ?_⟩) (by assumption) ?_
      rotate_left
      · intro w hSw; (try dsimp only at hSw); have e := HC4.out _ hSw; go_simp; all_goals (with_reducible rfl)
      try simp only [Act.put, List.setIfInBounds_toArray, List.set_cons_zero, List.set_cons_succ, List.getElem_toArray, List.getElem_cons_succ, List.getElem_cons_zero]
      refine wpAnyH_take (i := 9) (v := ?_) rfl (by kernel_rfl) (by kernel_rfl) (by kernel_rfl) (fun _ _ _ h => h) (Or.inl ⟨by rfl, ?_⟩) (by assumption) ?_
      rotate_left
      · intro w hSw; (try dsimp only at hSw); go_simp; all_goals (with_reducible rfl)
      try simp only [Act.put, List.setIfInBounds_toArray, List.set_cons_zero, List.set_cons_succ, List.getElem_toArray, List.getElem_cons_succ, List.getElem_cons_zero]
      refine wpAnyH_ready (rs := [2, 11]) (by kernel_rfl) (by simp) ?_
      refine AllReadyH.cons rfl (fun K hK => ?_) (AllReadyH.cons rfl (fun K hK => ?_) AllReadyH.nil)
      · go_simp
        refine (HTy.out _).mono ?_
        rintro e w7 ⟨rfl, hw7⟩
        subst w7
        refine hK.out _ _ (hHeld) (fun hHeld => ?_)
        clear hK K
        try simp only [Act.put, List.setIfInBounds_toArray, List.set_cons_zero, List.set_cons_succ, List.getElem_toArray, List.getElem_cons_succ, List.getElem_cons_zero]
        refine wpAnyH_take (i := 10) rfl (by kernel_rfl) (by kernel_rfl) (by kernel_rfl) (fun _ _ _ h => h) (yieldsIf_built12 (by rfl) 61 _ (by rfl) (Hd.hv h0) (by rw [hh0.out]; kernel_rfl)) (by assumption) ?_
        try simp only [Act.put, List.setIfInBounds_toArray, List.set_cons_zero, List.set_cons_succ, List.getElem_toArray, List.getElem_cons_succ, List.getElem_cons_zero]
        refine wpAnyH_ready (rs := [11]) (by kernel_rfl) (by simp) ?_
        refine AllReadyH.cons rfl (fun K hK => ?_) AllReadyH.nil
        go_simp
        refine hK.out _ _ (bw_alloc7 hHeld _) (fun hHeld => ?_)
        clear hK K
        try simp only [Act.put, List.setIfInBounds_toArray, List.set_cons_zero, List.set_cons_succ, List.getElem_toArray, List.getElem_cons_succ, List.getElem_cons_zero]
        refine wpAnyH_ready (rs := [12]) (by kernel_rfl) (by simp) ?_
        refine AllReadyH.cons rfl (fun K hK => ?_) AllReadyH.nil
        refine step_store_row (by rfl) 61 _ _ (by rfl) wV.heap.size (Hd.hv h0) (by rfl) (by rfl) 61 Z (heap_alloc_new _ _) (info_head h0) (by rw [hZ.out]; rfl) (Hd.hv_one h0) ?_
        rw [setRow_alloc_new]
        have hb5 : Bw wP (wV.alloc (.cells (Hd.hv h0) 61)) := bw_alloc7 hwV _
        refine hK.out _ _ (hb5) (fun hHeld => ?_)
        clear hK K
        try simp only [Act.put, List.setIfInBounds_toArray, List.set_cons_zero, List.set_cons_succ, List.getElem_toArray, List.getElem_cons_succ, List.getElem_cons_zero]
        refine wpAnyH_done (by kernel_rfl) ?_ _
        obtain ⟨w5, hw5⟩ : ∃ V, V = wV.alloc (.cells (Hd.hv h0) 61) := ⟨_, rfl⟩
        have hA5 : HeadAt w5 wV.heap.size h0 := by rw [hw5]; exact heap_alloc_new _ _
        rw [← hw5] at hb5 ⊢
        clear hw5
        obtain ⟨N, hN⟩ : ∃ N, Hid (wV.heap.size = N) := ⟨_, rfl⟩
        have hNw : W.heap.size ≤ N := by rw [← hN.out]; exact Nat.le_trans hbP.size hwV.size
        have hNP : wP.heap.size ≤ N := by rw [← hN.out]; exact hwV.size
        rw [hN.out] at hA5 ⊢
        have hb6 := hbP.trans hb5
        clear hHeld hwV
        have c5 : w5.cell? ⟨w.heap.size, 5, none⟩ = some (.string (Nm.S y.it.to)) := HC5.out _ hb6
        go_upto_region 11 with fail
        have hA6 : HeadAt w5 N ⟨[], y.it.mode, (nB : Nat), y.it.time, Pk.typ kk, [], []⟩ := by rw [hh0.out] at hA5; exact hA5
        have hb7 := hb6
        have hp7 := hb5
        obtain ⟨w6, hw6⟩ : ∃ V, V = w5 := ⟨_, rfl⟩
        rw [← hw6] at hA6 hb7 hp7 ⊢
        clear hw6
        have c0 : w6.cell? ⟨w.heap.size, 0, none⟩ = some (.string (Nm.S y.it.path)) := HC0.out _ hb7
        clear c5 hA5
        go_upto_region 13 with (first
          | (go_at_call 54; refine (HCu.out _).mono ?_; rintro e w7 ⟨rfl, hw7⟩; have c07 := keep_cell11 c0 hw7; clear c0)
          | (go_at_call 55; refine (HSp.out _).mono ?_; rintro e w8 ⟨rfl, hw8⟩; have hA8 : HeadAt w8 N ⟨[], y.it.mode, (nB : Nat), y.it.time, Pk.typ kk, [], []⟩ := hA6.keep (hw7.trans hw8); have cA1 : w8.cell? ⟨N, 1, none⟩ = some (.string (Hd.S [])) := cell_of_row w8 N 1 _ _ _ hA8; have fA1 : w8.frozen? ⟨N, 1, none⟩ = false := frozen_of_row w8 N 1 _ _ hA8; have hA9 := heap_setCell_same w8 N 1 _ _ (.string (Nm.S pa)) hA8; have cA0 : (w8.setCell ⟨N, 1, none⟩ (.string (Nm.S pa))).cell? ⟨N, 0, none⟩ = some (.string (Hd.S [])) := cell_of_row _ N 0 _ _ _ hA9; have fA0 : (w8.setCell ⟨N, 1, none⟩ (.string (Nm.S pa))).frozen? ⟨N, 0, none⟩ = false := frozen_of_row _ N 0 _ _ hA9))
        have hAD : HeadAt ((w8.setCell ⟨N, 1, none⟩ (.string (Nm.S pa))).setCell ⟨N, 0, none⟩ (.string (Nm.S pb))) N D := by
          have := heap_setCell_same _ N 0 _ _ (.string (Nm.S pb)) hA9
          rw [HD.out]
          exact this
        have hPD : Bw wP ((w8.setCell ⟨N, 1, none⟩ (.string (Nm.S pa))).setCell ⟨N, 0, none⟩ (.string (Nm.S pb))) := (((hp7.trans hw7).trans hw8).setCell (by show _ ≤ N; omega) _).setCell (by show _ ≤ N; omega) _
        generalize (w8.setCell ⟨N, 1, none⟩ (.string (Nm.S pa))).setCell ⟨N, 0, none⟩ (.string (Nm.S pb)) = wD at hAD hPD ⊢
        have hbD := hbP.trans hPD
        clear cA1 fA1 cA0 fA0 hA9 hA8
        go_wp2_with (first
          | (refine wpList_load_row rfl 61 _ rfl N rfl 61 (Hd.hv D) (0, 0) _ hAD Tryz.underlying61 rfl (info_head D) ?_)
          | (go_at_call 51; refine (HPD.out _).mono ?_; rintro e wE ⟨⟨AE, cE, erE, rfl, hrE, hnE⟩, hwE⟩)
          | (at_builtin; refine wpList_append_by (by rfl) (.tmp 77) (.tmp 78) (by rfl) W.heap.size (.slice A6 nX c6) (Pk.hB E ++ Pk.fill RR) nX hnX.out (by rfl) (own_keep HOX.out (hPD.trans hwE)) AE nD cE (Pk.hB D) hnD.out (by rfl) hrE hnE (by omega) (Nat.le_trans hbD.size hwE.size) ?_; intro A9 c9 w9 ho9 hg9; have hb9 : Bw W w9 := bw_grow12 (hbD.trans hwE) hg9 (own_keep HOX.out (hPD.trans hwE)); have c4 := HC4p.out _ hb9)
          | (go_at_call 52; refine (rfilled_any y.ad nB y.cp y.it.body hnB.out (by omega) hnil _ (HBo.out.keep hb9)).mono ?_; rintro e wF ⟨⟨uF, rfl, hoF⟩, hwF⟩; obtain ⟨AF, cF, rfl, hrF, hnF⟩ := own_rowat12 hoF; rw [hnFl.out] at hrF ⊢)
          | (at_builtin; refine wpList_append_by (by rfl) (.tmp 80) (.tmp 83) (by rfl) W.heap.size _ (Pk.hB E ++ Pk.fill RR ++ Pk.hB D) (nX + nD) (by rw [List.length_append, hnD.out]; rw [hnX.out]) (by rfl) (own_keep ho9 hwF) AF nFl cF (Pk.fill y.it.body) hnFl.out (by rfl) hrF hnF (by omega) (Nat.le_trans hb9.size hwF.size) ?_; intro AG cG wG hoG hgG; have hbG : Bw W wG := bw_grow12 (hb9.trans hwF) hgG (own_keep ho9 hwF)))
        go_ret
        refine ⟨⟨_, rfl, ?_⟩, hbW.trans hbG⟩
        have hlen : (Pk.hB E ++ Pk.fill RR ++ Pk.hB D ++ Pk.fill y.it.body).length = nX + nD + nFl := by rw [List.length_append, List.length_append, hnD.out, hnFl.out]; rw [hnX.out]
        have hpc : Pk.pcs y.it = Pk.hB E ++ Pk.fill RR ++ Pk.hB D ++ Pk.fill y.it.body := by unfold Pk.pcs; rw [HFr.out, ← HD0.out]; simp only [List.append_assoc, List.nil_append]
        rw [hpc, hlen]
        exact own_lower9 hoG hbW.size
      · go_simp
        refine hK.out _ _ (bw_alloc7 hHeld _) (fun hHeld => ?_)
        clear hK K
        try simp only [Act.put, List.setIfInBounds_toArray, List.set_cons_zero, List.set_cons_succ, List.getElem_toArray, List.getElem_cons_succ, List.getElem_cons_zero]
        refine wpAnyH_ready (rs := [2]) (by kernel_rfl) (by simp) ?_
        refine AllReadyH.cons rfl (fun K hK => ?_) AllReadyH.nil
        go_simp
        refine (HTy.out _).mono ?_
        rintro e w7 ⟨rfl, hw7⟩
        subst w7
        refine hK.out _ _ (hHeld) (fun hHeld => ?_)
        clear hK K
        try simp only [Act.put, List.setIfInBounds_toArray, List.set_cons_zero, List.set_cons_succ, List.getElem_toArray, List.getElem_cons_succ, List.getElem_cons_zero]
        refine wpAnyH_take (i := 10) rfl (by kernel_rfl) (by kernel_rfl) (by kernel_rfl) (fun _ _ _ h => h) (yieldsIf_built12 (by rfl) 61 _ (by rfl) (Hd.hv h0) (by rw [hh0.out]; kernel_rfl)) (by assumption) ?_
        try simp only [Act.put, List.setIfInBounds_toArray, List.set_cons_zero, List.set_cons_succ, List.getElem_toArray, List.getElem_cons_succ, List.getElem_cons_zero]
        refine wpAnyH_ready (rs := [12]) (by kernel_rfl) (by simp) ?_
        refine AllReadyH.cons rfl (fun K hK => ?_) AllReadyH.nil
        refine step_store_row (by rfl) 61 _ _ (by rfl) wV.heap.size (Hd.hv h0) (by rfl) (by rfl) 61 Z (heap_alloc_new _ _) (info_head h0) (by rw [hZ.out]; rfl) (Hd.hv_one h0) ?_
        rw [setRow_alloc_new]
        have hb5 : Bw wP (wV.alloc (.cells (Hd.hv h0) 61)) := bw_alloc7 hwV _
        refine hK.out _ _ (hb5) (fun hHeld => ?_)
        clear hK K
        try simp only [Act.put, List.setIfInBounds_toArray, List.set_cons_zero, List.set_cons_succ, List.getElem_toArray, List.getElem_cons_succ, List.getElem_cons_zero]
        refine wpAnyH_done (by kernel_rfl) ?_ _
        obtain ⟨w5, hw5⟩ : ∃ V, V = wV.alloc (.cells (Hd.hv h0) 61) := ⟨_, rfl⟩
        have hA5 : HeadAt w5 wV.heap.size h0 := by rw [hw5]; exact heap_alloc_new _ _
        rw [← hw5] at hb5 ⊢
        clear hw5
        obtain ⟨N, hN⟩ : ∃ N, Hid (wV.heap.size = N) := ⟨_, rfl⟩
        have hNw : W.heap.size ≤ N := by rw [← hN.out]; exact Nat.le_trans hbP.size hwV.size
        have hNP : wP.heap.size ≤ N := by rw [← hN.out]; exact hwV.size
        rw [hN.out] at hA5 ⊢
        have hb6 := hbP.trans hb5
        clear hHeld hwV
        have c5 : w5.cell? ⟨w.heap.size, 5, none⟩ = some (.string (Nm.S y.it.to)) := HC5.out _ hb6
        go_upto_region 11 with fail
        have hA6 : HeadAt w5 N ⟨[], y.it.mode, (nB : Nat), y.it.time, Pk.typ kk, [], []⟩ := by rw [hh0.out] at hA5; exact hA5
        have hb7 := hb6
        have hp7 := hb5
        obtain ⟨w6, hw6⟩ : ∃ V, V = w5 := ⟨_, rfl⟩
        rw [← hw6] at hA6 hb7 hp7 ⊢
        clear hw6
        have c0 : w6.cell? ⟨w.heap.size, 0, none⟩ = some (.string (Nm.S y.it.path)) := HC0.out _ hb7
        clear c5 hA5
        go_upto_region 13 with (first
          | (go_at_call 54; refine (HCu.out _).mono ?_; rintro e w7 ⟨rfl, hw7⟩; have c07 := keep_cell11 c0 hw7; clear c0)
          | (go_at_call 55; refine (HSp.out _).mono ?_; rintro e w8 ⟨rfl, hw8⟩; have hA8 : HeadAt w8 N ⟨[], y.it.mode, (nB : Nat), y.it.time, Pk.typ kk, [], []⟩ := hA6.keep (hw7.trans hw8); have cA1 : w8.cell? ⟨N, 1, none⟩ = some (.string (Hd.S [])) := cell_of_row w8 N 1 _ _ _ hA8; have fA1 : w8.frozen? ⟨N, 1, none⟩ = false := frozen_of_row w8 N 1 _ _ hA8; have hA9 := heap_setCell_same w8 N 1 _ _ (.string (Nm.S pa)) hA8; have cA0 : (w8.setCell ⟨N, 1, none⟩ (.string (Nm.S pa))).cell? ⟨N, 0, none⟩ = some (.string (Hd.S [])) := cell_of_row _ N 0 _ _ _ hA9; have fA0 : (w8.setCell ⟨N, 1, none⟩ (.string (Nm.S pa))).frozen? ⟨N, 0, none⟩ = false := frozen_of_row _ N 0 _ _ hA9))
        have hAD : HeadAt ((w8.setCell ⟨N, 1, none⟩ (.string (Nm.S pa))).setCell ⟨N, 0, none⟩ (.string (Nm.S pb))) N D := by
          have := heap_setCell_same _ N 0 _ _ (.string (Nm.S pb)) hA9
          rw [HD.out]
          exact this
        have hPD : Bw wP ((w8.setCell ⟨N, 1, none⟩ (.string (Nm.S pa))).setCell ⟨N, 0, none⟩ (.string (Nm.S pb))) := (((hp7.trans hw7).trans hw8).setCell (by show _ ≤ N; omega) _).setCell (by show _ ≤ N; omega) _
        generalize (w8.setCell ⟨N, 1, none⟩ (.string (Nm.S pa))).setCell ⟨N, 0, none⟩ (.string (Nm.S pb)) = wD at hAD hPD ⊢
        have hbD := hbP.trans hPD
        clear cA1 fA1 cA0 fA0 hA9 hA8
        go_wp2_with (first
          | (refine wpList_load_row rfl 61 _ rfl N rfl 61 (Hd.hv D) (0, 0) _ hAD Tryz.underlying61 rfl (info_head D) ?_)
          | (go_at_call 51; refine (HPD.out _).mono ?_; rintro e wE ⟨⟨AE, cE, erE, rfl, hrE, hnE⟩, hwE⟩)
          | (at_builtin; refine wpList_append_by (by rfl) (.tmp 77) (.tmp 78) (by rfl) W.heap.size (.slice A6 nX c6) (Pk.hB E ++ Pk.fill RR) nX hnX.out (by rfl) (own_keep HOX.out (hPD.trans hwE)) AE nD cE (Pk.hB D) hnD.out (by rfl) hrE hnE (by omega) (Nat.le_trans hbD.size hwE.size) ?_; intro A9 c9 w9 ho9 hg9; have hb9 : Bw W w9 := bw_grow12 (hbD.trans hwE) hg9 (own_keep HOX.out (hPD.trans hwE)); have c4 := HC4p.out _ hb9)
          | (go_at_call 52; refine (rfilled_any y.ad nB y.cp y.it.body hnB.out (by omega) hnil _ (HBo.out.keep hb9)).mono ?_; rintro e wF ⟨⟨uF, rfl, hoF⟩, hwF⟩; obtain ⟨AF, cF, rfl, hrF, hnF⟩ := own_rowat12 hoF; rw [hnFl.out] at hrF ⊢)
          | (at_builtin; refine wpList_append_by (by rfl) (.tmp 80) (.tmp 83) (by rfl) W.heap.size _ (Pk.hB E ++ Pk.fill RR ++ Pk.hB D) (nX + nD) (by rw [List.length_append, hnD.out]; rw [hnX.out]) (by rfl) (own_keep ho9 hwF) AF nFl cF (Pk.fill y.it.body) hnFl.out (by rfl) hrF hnF (by omega) (Nat.le_trans hb9.size hwF.size) ?_; intro AG cG wG hoG hgG; have hbG : Bw W wG := bw_grow12 (hb9.trans hwF) hgG (own_keep ho9 hwF)))
        go_ret
        refine ⟨⟨_, rfl, ?_⟩, hbW.trans hbG⟩
        have hlen : (Pk.hB E ++ Pk.fill RR ++ Pk.hB D ++ Pk.fill y.it.body).length = nX + nD + nFl := by rw [List.length_append, List.length_append, hnD.out, hnFl.out]; rw [hnX.out]
        have hpc : Pk.pcs y.it = Pk.hB E ++ Pk.fill RR ++ Pk.hB D ++ Pk.fill y.it.body := by unfold Pk.pcs; rw [HFr.out, ← HD0.out]; simp only [List.append_assoc, List.nil_append]
        rw [hpc, hlen]
        exact own_lower9 hoG hbW.size
    · have t1 : ¬ (y.it.to.length : Int) ≤ 100 := by omega
      have t2 : (pe == 0) = false := by rw [beq_eq_false_iff_ne]; exact hpe
      have HD : Hid (D = ⟨[], y.it.mode, (nB : Nat), y.it.time, Pk.typ kk, [], []⟩) := by show _ = _; rw [HD0.out]; unfold Pk.hd; rw [hP.out, hkk, hnB.out, if_neg hto]; have := Pk.spl_err (l := y.it.path) (by rw [hP.out]; exact hpe); rw [hP.out] at this; dsimp only at this ⊢; rw [this.1, this.2]
      have hn0 : 0 < nL := by rw [← hnL.out, ← hL.out]; unfold Pk.prsOf Pk.prs; rw [hP.out, List.length_append]; rw [if_pos (show 100 < y.it.to.length by omega)]; simp; omega
      have t0 : (0 : Int) < (nL : Int) := by omega
      obtain ⟨E, hE⟩ : ∃ E, Hid (E = Pk.more nr) := ⟨_, rfl⟩
      have HFr : Hid (Pk.front y.it = Pk.hB E ++ Pk.fill RR) := by show _ = _; unfold Pk.front; rw [hL.out, if_neg (fun e => by rw [← hnL.out, e] at hn0; exact absurd hn0 (by decide)), hRR.out, hnr.out, hE.out]
      have hEl := Pk.hB_le E
      obtain ⟨nE, hnE0⟩ : ∃ n, Hid ((Pk.hB E).length = n) := ⟨_, rfl⟩
      rw [hnE0.out] at hEl
      have HPE : Hid (∀ u, Calls Tryz.prog 51 #[.agg (Hd.hv E)] u fun e w' => (∃ A c er, e = .returned (.tuple #[.slice A nE c, .int .i64 er]) ∧ RowAt w' A nE (Hd.rowF (Pk.hB E)) ∧ (A = none → c = 0)) ∧ Bw u w') := fun u => by
        have := rhput_any E (by rw [hE.out]; exact ⟨by show (4 : Nat) ≤ _; omega, Nat.zero_le _, Nat.zero_le _⟩) u
        rwa [hnE0.out] at this
      obtain ⟨nfr, hnfr⟩ : ∃ n, Hid ((Pk.fill RR).length = n) := ⟨_, rfl⟩
      have hnfb : nfr ≤ 3000 := by rw [← hnfr.out, Pk.fill_len, hnr.out]; have := Pk.gap_lt nr; omega
      go_enter Tryz.func31, Tryz.ntmps31
      go_upto_region 1 with fail
      rw [← hW]
      clear hW
      go_upto_region 8 with (first
        | (refine wpList_load_row rfl 47 _ rfl w.heap.size rfl 47 y.arr (0, 0) _ HX.out Tryz.underlying47 rfl hiI ?_)
        | (go_at_call 49; refine (HPr.out _).mono ?_; rintro e w1 ⟨⟨vp, rfl, hop⟩, hw1⟩; rw [← hnL.out] at hop; obtain ⟨Ap, cp, rfl, hcp, hPrs, hAn⟩ := prs_of_own hop; rw [hnL.out] at hcp ⊢)
        | (go_at_call 50; refine (HPP.out _ _ _ hPrs).mono ?_; rintro e w2 ⟨⟨Ar, cr, pi, er, rfl, hrow2, hnr2⟩, hw2⟩)
        | (refine wpList_built_g10 (by rfl) 61 _ rfl (Hd.hv E) (by rw [hE.out]; kernel_rfl) ?_)
        | (go_at_call 51; refine (HPE.out _).mono ?_; rintro e w3 ⟨⟨A3, c3, er3, rfl, hrow3, hn3⟩, hw3⟩)
        | (at_builtin; refine wpList_append_by (by rfl) (.tmp 35) (.tmp 36) (by rfl) W.heap.size _ [] 0 rfl (by rfl) (World.ownsRow_nil w3 _ _ _) A3 nE c3 (Pk.hB E) hnE0.out (by rfl) hrow3 hn3 (by omega) ((hw1.trans hw2).trans hw3).size ?_; intro A4 c4 w4 ho4 hg4; have hb4 : Bw W w4 := bw_grow12 ((hw1.trans hw2).trans hw3) hg4 (World.ownsRow_nil w3 W.heap.size 5 1); rw [List.nil_append, Nat.zero_add] at ho4; rw [Nat.zero_add]; have hrow4 : RowAt w4 Ar nr (Hd.rowF RR) := hrow2.keep (hw3.trans (bw_grow12 (Bw.refl _) hg4 (World.ownsRow_nil w3 w3.heap.size 5 1))))
        | (go_at_call 52; refine (rfilled_any Ar nr cr RR hnr.out (by omega) hnr2 _ hrow4).mono ?_; rintro e w5 ⟨⟨u5, rfl, ho5⟩, hw5⟩; obtain ⟨A5, c5, rfl, hrow5, hn5⟩ := own_rowat12 ho5; rw [hnfr.out] at hrow5 ⊢)
        | (at_builtin; refine wpList_append_by (by rfl) (.tmp 38) (.tmp 40) (by rfl) W.heap.size _ (Pk.hB E) nE hnE0.out (by rfl) (own_keep ho4 hw5) A5 nfr c5 (Pk.fill RR) hnfr.out (by rfl) hrow5 hn5 (by omega) (hb4.trans hw5).size ?_; intro A6 c6 wP ho6 hg6; have hbP : Bw W wP := bw_grow12 (hb4.trans hw5) hg6 (own_keep ho4 hw5)))
      obtain ⟨nX, hnX0⟩ : ∃ n, Hid (nE + nfr = n) := ⟨_, rfl⟩
      have hnXb : nX ≤ 4000 := by rw [← hnX0.out]; omega
      have hnX : Hid ((Pk.hB E ++ Pk.fill RR).length = nX) := by show _ = _; rw [List.length_append, hnE0.out, hnfr.out, ← hnX0.out]
      rw [hnX0.out] at ho6 ⊢
      have HOX : Hid (wP.ownsRow W.heap.size 5 1 (.slice A6 nX c6) nX (Lib.byteCells (Pk.hB E ++ Pk.fill RR))) := ho6
      have HC1 : Hid (∀ u, Bw wP u → u.cell? ⟨w.heap.size, 1, none⟩ = some (.int .u8 (kk : Int))) := fun u h => HC1.out u (hbP.trans h)
      have HC2 : Hid (∀ u, Bw wP u → u.cell? ⟨w.heap.size, 2, none⟩ = some (.int .i64 y.it.mode)) := fun u h => HC2.out u (hbP.trans h)
      have HC3 : Hid (∀ u, Bw wP u → u.cell? ⟨w.heap.size, 3, none⟩ = some (.int .i64 y.it.time)) := fun u h => HC3.out u (hbP.trans h)
      have HC4p := HC4
      have HC4 : Hid (∀ u, Bw wP u → u.cell? ⟨w.heap.size, 4, none⟩ = some (.slice y.ad nB y.cp)) := fun u h => HC4p.out u (hbP.trans h)
      refine wp_region_held_drew (S := fun w' => Bw wP w') (by kernel_rfl) ((Below.refl _ _).drew) (fun hHeld => ?_)
      generalize wP.drew = wV at *
      have hwV := hHeld
      refine wpAnyH_take (i := 0) (v := ?_) rfl (by kernel_rfl) (by kernel_rfl) (by kernel_rfl) (fun _ _ _ h => h) (Or.inl ⟨by rfl, ?_⟩) (by assumption) ?_
      rotate_left
      · intro w hSw; (try dsimp only at hSw); go_simp; all_goals (with_reducible rfl)
      try simp only [Act.put, List.setIfInBounds_toArray, List.set_cons_zero, List.set_cons_succ, List.getElem_toArray, List.getElem_cons_succ, List.getElem_cons_zero]
      refine wpAnyH_take (i := 1) (v := ?_) rfl (by kernel_rfl) (by kernel_rfl) (by kernel_rfl) (fun _ _ _ h => h) (Or.inl ⟨by rfl, ?_⟩) (by assumption) ?_
      rotate_left
      · intro w hSw; (try dsimp only at hSw); have e := HC1.out _ hSw; go_simp; all_goals (with_reducible rfl)
      try simp only [Act.put, List.setIfInBounds_toArray, List.set_cons_zero, List.set_cons_succ, List.getElem_toArray, List.getElem_cons_succ, List.getElem_cons_zero]
      refine wpAnyH_take (i := 3) (v := ?_) rfl (by kernel_rfl) (by kernel_rfl) (by kernel_rfl) (fun _ _ _ h => h) (Or.inl ⟨by rfl, ?_⟩) (by assumption) ?_
      rotate_left
      · intro w hSw; (try dsimp only at hSw); go_simp; all_goals (with_reducible rfl)
      try simp only [Act.put, List.setIfInBounds_toArray, List.set_cons_zero, List.set_cons_succ, List.getElem_toArray, List.getElem_cons_succ, List.getElem_cons_zero]
      refine wpAnyH_take (i := 4) (v := ?_) rfl (by kernel_rfl) (by kernel_rfl) (by kernel_rfl) (fun _ _ _ h => h) (Or.inl ⟨by rfl, ?_⟩) (by assumption) ?_
      rotate_left
      · intro w hSw; (try dsimp only at hSw); have e := HC2.out _ hSw; go_simp; all_goals (with_reducible rfl)
      try simp only [Act.put, List.setIfInBounds_toArray, List.set_cons_zero, List.set_cons_succ, List.getElem_toArray, List.getElem_cons_succ, List.getElem_cons_zero]
      refine wpAnyH_take (i := 5) (v := ?_) rfl (by kernel_rfl) (by kernel_rfl) (by kernel_rfl) (fun _ _ _ h => h) (Or.inl ⟨by rfl, ?_⟩) (by assumption) ?_
      rotate_left
      · intro w hSw; (try dsimp only at hSw); go_simp; all_goals (with_reducible rfl)
      try simp only [Act.put, List.setIfInBounds_toArray, List.set_cons_zero, List.set_cons_succ, List.getElem_toArray, List.getElem_cons_succ, List.getElem_cons_zero]
      refine wpAnyH_take (i := 6) (v := ?_) rfl (by kernel_rfl) (by kernel_rfl) (by kernel_rfl) (fun _ _ _ h => h) (Or.inl ⟨by rfl, ?_⟩) (by assumption) ?_
      rotate_left
      · intro w hSw; (try dsimp only at hSw); have e := HC3.out _ hSw; go_simp; all_goals (with_reducible rfl)
      try simp only [Act.put, List.setIfInBounds_toArray, List.set_cons_zero, List.set_cons_succ, List.getElem_toArray, List.getElem_cons_succ, List.getElem_cons_zero]
      refine wpAnyH_take (i := 7) (v := ?_) rfl (by kernel_rfl) (by kernel_rfl) (by kernel_rfl) (fun _ _ _ h => h) (Or.inl ⟨by rfl, ?_⟩) (by assumption) ?_
      rotate_left
      · intro w hSw; (try dsimp only at hSw); go_simp; all_goals (with_reducible rfl)
      try simp only [Act.put, List.setIfInBounds_toArray, List.set_cons_zero, List.set_cons_succ, List.getElem_toArray, List.getElem_cons_succ, List.getElem_cons_zero]
      refine wpAnyH_take (i := 8) (v := ?_) rfl (by kernel_rfl) (by kernel_rfl) (by kernel_rfl) (fun _ _ _ h => h) (Or.inl ⟨by rfl, ?_⟩) (by assumption) ?_
      rotate_left
      · intro w hSw; (try dsimp only at hSw); have e := HC4.out _ hSw; go_simp; all_goals (with_reducible rfl)
      try simp only [Act.put, List.setIfInBounds_toArray, List.set_cons_zero, List.set_cons_succ, List.getElem_toArray, List.getElem_cons_succ, List.getElem_cons_zero]
      refine wpAnyH_take (i := 9) (v := ?_) rfl (by kernel_rfl) (by kernel_rfl) (by kernel_rfl) (fun _ _ _ h => h) (Or.inl ⟨by rfl, ?_⟩) (by assumption) ?_
      rotate_left
      · intro w hSw; (try dsimp only at hSw); go_simp; all_goals (with_reducible rfl)
      try simp only [Act.put, List.setIfInBounds_toArray, List.set_cons_zero, List.set_cons_succ, List.getElem_toArray, List.getElem_cons_succ, List.getElem_cons_zero]
      refine wpAnyH_ready (rs := [2, 11]) (by kernel_rfl) (by simp) ?_
      refine AllReadyH.cons rfl (fun K hK => ?_) (AllReadyH.cons rfl (fun K hK => ?_) AllReadyH.nil)
      · go_simp
        refine (HTy.out _).mono ?_
        rintro e w7 ⟨rfl, hw7⟩
        subst w7
        refine hK.out _ _ (hHeld) (fun hHeld => ?_)
        clear hK K
        try simp only [Act.put, List.setIfInBounds_toArray, List.set_cons_zero, List.set_cons_succ, List.getElem_toArray, List.getElem_cons_succ, List.getElem_cons_zero]
        refine wpAnyH_take (i := 10) rfl (by kernel_rfl) (by kernel_rfl) (by kernel_rfl) (fun _ _ _ h => h) (yieldsIf_built12 (by rfl) 61 _ (by rfl) (Hd.hv h0) (by rw [hh0.out]; kernel_rfl)) (by assumption) ?_
        try simp only [Act.put, List.setIfInBounds_toArray, List.set_cons_zero, List.set_cons_succ, List.getElem_toArray, List.getElem_cons_succ, List.getElem_cons_zero]
        refine wpAnyH_ready (rs := [11]) (by kernel_rfl) (by simp) ?_
        refine AllReadyH.cons rfl (fun K hK => ?_) AllReadyH.nil
        go_simp
        refine hK.out _ _ (bw_alloc7 hHeld _) (fun hHeld => ?_)
        clear hK K
        try simp only [Act.put, List.setIfInBounds_toArray, List.set_cons_zero, List.set_cons_succ, List.getElem_toArray, List.getElem_cons_succ, List.getElem_cons_zero]
        refine wpAnyH_ready (rs := [12]) (by kernel_rfl) (by simp) ?_
        refine AllReadyH.cons rfl (fun K hK => ?_) AllReadyH.nil
        refine step_store_row (by rfl) 61 _ _ (by rfl) wV.heap.size (Hd.hv h0) (by rfl) (by rfl) 61 Z (heap_alloc_new _ _) (info_head h0) (by rw [hZ.out]; rfl) (Hd.hv_one h0) ?_
        rw [setRow_alloc_new]
        have hb5 : Bw wP (wV.alloc (.cells (Hd.hv h0) 61)) := bw_alloc7 hwV _
        refine hK.out _ _ (hb5) (fun hHeld => ?_)
        clear hK K
        try simp only [Act.put, List.setIfInBounds_toArray, List.set_cons_zero, List.set_cons_succ, List.getElem_toArray, List.getElem_cons_succ, List.getElem_cons_zero]
        refine wpAnyH_done (by kernel_rfl) ?_ _
        obtain ⟨w5, hw5⟩ : ∃ V, V = wV.alloc (.cells (Hd.hv h0) 61) := ⟨_, rfl⟩
        have hA5 : HeadAt w5 wV.heap.size h0 := by rw [hw5]; exact heap_alloc_new _ _
        rw [← hw5] at hb5 ⊢
        clear hw5
        obtain ⟨N, hN⟩ : ∃ N, Hid (wV.heap.size = N) := ⟨_, rfl⟩
        have hNw : W.heap.size ≤ N := by rw [← hN.out]; exact Nat.le_trans hbP.size hwV.size
        have hNP : wP.heap.size ≤ N := by rw [← hN.out]; exact hwV.size
        rw [hN.out] at hA5 ⊢
        have hb6 := hbP.trans hb5
        clear hHeld hwV
        have c5 : w5.cell? ⟨w.heap.size, 5, none⟩ = some (.string (Nm.S y.it.to)) := HC5.out _ hb6
        go_upto_region 11 with fail
        have hA6 : HeadAt w5 N ⟨[], y.it.mode, (nB : Nat), y.it.time, Pk.typ kk, [], []⟩ := by rw [hh0.out] at hA5; exact hA5
        have hb7 := hb6
        have hp7 := hb5
        obtain ⟨w6, hw6⟩ : ∃ V, V = w5 := ⟨_, rfl⟩
        rw [← hw6] at hA6 hb7 hp7 ⊢
        clear hw6
        have c0 : w6.cell? ⟨w.heap.size, 0, none⟩ = some (.string (Nm.S y.it.path)) := HC0.out _ hb7
        clear c5 hA5
        go_upto_region 13 with (go_at_call 54; refine (HCu.out _).mono ?_; rintro e w7 ⟨rfl, hw7⟩)
        have hAD : HeadAt w7 N D := by rw [HD.out]; exact hA6.keep hw7
        have hbD := hb7.trans hw7
        have hPD := hp7.trans hw7
        obtain ⟨wD, hwD⟩ : ∃ V, V = w7 := ⟨_, rfl⟩
        rw [← hwD] at hAD hbD hPD ⊢
        clear hwD
        go_wp2_with (first
          | (refine wpList_load_row rfl 61 _ rfl N rfl 61 (Hd.hv D) (0, 0) _ hAD Tryz.underlying61 rfl (info_head D) ?_)
          | (go_at_call 51; refine (HPD.out _).mono ?_; rintro e wE ⟨⟨AE, cE, erE, rfl, hrE, hnE⟩, hwE⟩)
          | (at_builtin; refine wpList_append_by (by rfl) (.tmp 77) (.tmp 78) (by rfl) W.heap.size (.slice A6 nX c6) (Pk.hB E ++ Pk.fill RR) nX hnX.out (by rfl) (own_keep HOX.out (hPD.trans hwE)) AE nD cE (Pk.hB D) hnD.out (by rfl) hrE hnE (by omega) (Nat.le_trans hbD.size hwE.size) ?_; intro A9 c9 w9 ho9 hg9; have hb9 : Bw W w9 := bw_grow12 (hbD.trans hwE) hg9 (own_keep HOX.out (hPD.trans hwE)); have c4 := HC4p.out _ hb9)
          | (go_at_call 52; refine (rfilled_any y.ad nB y.cp y.it.body hnB.out (by omega) hnil _ (HBo.out.keep hb9)).mono ?_; rintro e wF ⟨⟨uF, rfl, hoF⟩, hwF⟩; obtain ⟨AF, cF, rfl, hrF, hnF⟩ := own_rowat12 hoF; rw [hnFl.out] at hrF ⊢)
          | (at_builtin; refine wpList_append_by (by rfl) (.tmp 80) (.tmp 83) (by rfl) W.heap.size _ (Pk.hB E ++ Pk.fill RR ++ Pk.hB D) (nX + nD) (by rw [List.length_append, hnD.out]; rw [hnX.out]) (by rfl) (own_keep ho9 hwF) AF nFl cF (Pk.fill y.it.body) hnFl.out (by rfl) hrF hnF (by omega) (Nat.le_trans hb9.size hwF.size) ?_; intro AG cG wG hoG hgG; have hbG : Bw W wG := bw_grow12 (hb9.trans hwF) hgG (own_keep ho9 hwF)))
        go_ret
        refine ⟨⟨_, rfl, ?_⟩, hbW.trans hbG⟩
        have hlen : (Pk.hB E ++ Pk.fill RR ++ Pk.hB D ++ Pk.fill y.it.body).length = nX + nD + nFl := by rw [List.length_append, List.length_append, hnD.out, hnFl.out]; rw [hnX.out]
        have hpc : Pk.pcs y.it = Pk.hB E ++ Pk.fill RR ++ Pk.hB D ++ Pk.fill y.it.body := by unfold Pk.pcs; rw [HFr.out, ← HD0.out]; simp only [List.append_assoc, List.nil_append]
        rw [hpc, hlen]
        exact own_lower9 hoG hbW.size
      · go_simp
        refine hK.out _ _ (bw_alloc7 hHeld _) (fun hHeld => ?_)
        clear hK K
        try simp only [Act.put, List.setIfInBounds_toArray, List.set_cons_zero, List.set_cons_succ, List.getElem_toArray, List.getElem_cons_succ, List.getElem_cons_zero]
        refine wpAnyH_ready (rs := [2]) (by kernel_rfl) (by simp) ?_
        refine AllReadyH.cons rfl (fun K hK => ?_) AllReadyH.nil
        go_simp
        refine (HTy.out _).mono ?_
        rintro e w7 ⟨rfl, hw7⟩
        subst w7
        refine hK.out _ _ (hHeld) (fun hHeld => ?_)
        clear hK K
        try simp only [Act.put, List.setIfInBounds_toArray, List.set_cons_zero, List.set_cons_succ, List.getElem_toArray, List.getElem_cons_succ, List.getElem_cons_zero]
        refine wpAnyH_take (i := 10) rfl (by kernel_rfl) (by kernel_rfl) (by kernel_rfl) (fun _ _ _ h => h) (yieldsIf_built12 (by rfl) 61 _ (by rfl) (Hd.hv h0) (by rw [hh0.out]; kernel_rfl)) (by assumption) ?_
        try simp only [Act.put, List.setIfInBounds_toArray, List.set_cons_zero, List.set_cons_succ, List.getElem_toArray, List.getElem_cons_succ, List.getElem_cons_zero]
        refine wpAnyH_ready (rs := [12]) (by kernel_rfl) (by simp) ?_
        refine AllReadyH.cons rfl (fun K hK => ?_) AllReadyH.nil
        refine step_store_row (by rfl) 61 _ _ (by rfl) wV.heap.size (Hd.hv h0) (by rfl) (by rfl) 61 Z (heap_alloc_new _ _) (info_head h0) (by rw [hZ.out]; rfl) (Hd.hv_one h0) ?_
        rw [setRow_alloc_new]
        have hb5 : Bw wP (wV.alloc (.cells (Hd.hv h0) 61)) := bw_alloc7 hwV _
        refine hK.out _ _ (hb5) (fun hHeld => ?_)
        clear hK K
        try simp only [Act.put, List.setIfInBounds_toArray, List.set_cons_zero, List.set_cons_succ, List.getElem_toArray, List.getElem_cons_succ, List.getElem_cons_zero]
        refine wpAnyH_done (by kernel_rfl) ?_ _
        obtain ⟨w5, hw5⟩ : ∃ V, V = wV.alloc (.cells (Hd.hv h0) 61) := ⟨_, rfl⟩
        have hA5 : HeadAt w5 wV.heap.size h0 := by rw [hw5]; exact heap_alloc_new _ _
        rw [← hw5] at hb5 ⊢
        clear hw5
        obtain ⟨N, hN⟩ : ∃ N, Hid (wV.heap.size = N) := ⟨_, rfl⟩
        have hNw : W.heap.size ≤ N := by rw [← hN.out]; exact Nat.le_trans hbP.size hwV.size
        have hNP : wP.heap.size ≤ N := by rw [← hN.out]; exact hwV.size
        rw [hN.out] at hA5 ⊢
        have hb6 := hbP.trans hb5
        clear hHeld hwV
        have c5 : w5.cell? ⟨w.heap.size, 5, none⟩ = some (.string (Nm.S y.it.to)) := HC5.out _ hb6
        go_upto_region 11 with fail
        have hA6 : HeadAt w5 N ⟨[], y.it.mode, (nB : Nat), y.it.time, Pk.typ kk, [], []⟩ := by rw [hh0.out] at hA5; exact hA5
        have hb7 := hb6
        have hp7 := hb5
        obtain ⟨w6, hw6⟩ : ∃ V, V = w5 := ⟨_, rfl⟩
        rw [← hw6] at hA6 hb7 hp7 ⊢
        clear hw6
        have c0 : w6.cell? ⟨w.heap.size, 0, none⟩ = some (.string (Nm.S y.it.path)) := HC0.out _ hb7
        clear c5 hA5
        go_upto_region 13 with (go_at_call 54; refine (HCu.out _).mono ?_; rintro e w7 ⟨rfl, hw7⟩)
        have hAD : HeadAt w7 N D := by rw [HD.out]; exact hA6.keep hw7
        have hbD := hb7.trans hw7
        have hPD := hp7.trans hw7
        obtain ⟨wD, hwD⟩ : ∃ V, V = w7 := ⟨_, rfl⟩
        rw [← hwD] at hAD hbD hPD ⊢
        clear hwD
        go_wp2_with (first
          | (refine wpList_load_row rfl 61 _ rfl N rfl 61 (Hd.hv D) (0, 0) _ hAD Tryz.underlying61 rfl (info_head D) ?_)
          | (go_at_call 51; refine (HPD.out _).mono ?_; rintro e wE ⟨⟨AE, cE, erE, rfl, hrE, hnE⟩, hwE⟩)
          | (at_builtin; refine wpList_append_by (by rfl) (.tmp 77) (.tmp 78) (by rfl) W.heap.size (.slice A6 nX c6) (Pk.hB E ++ Pk.fill RR) nX hnX.out (by rfl) (own_keep HOX.out (hPD.trans hwE)) AE nD cE (Pk.hB D) hnD.out (by rfl) hrE hnE (by omega) (Nat.le_trans hbD.size hwE.size) ?_; intro A9 c9 w9 ho9 hg9; have hb9 : Bw W w9 := bw_grow12 (hbD.trans hwE) hg9 (own_keep HOX.out (hPD.trans hwE)); have c4 := HC4p.out _ hb9)
          | (go_at_call 52; refine (rfilled_any y.ad nB y.cp y.it.body hnB.out (by omega) hnil _ (HBo.out.keep hb9)).mono ?_; rintro e wF ⟨⟨uF, rfl, hoF⟩, hwF⟩; obtain ⟨AF, cF, rfl, hrF, hnF⟩ := own_rowat12 hoF; rw [hnFl.out] at hrF ⊢)
          | (at_builtin; refine wpList_append_by (by rfl) (.tmp 80) (.tmp 83) (by rfl) W.heap.size _ (Pk.hB E ++ Pk.fill RR ++ Pk.hB D) (nX + nD) (by rw [List.length_append, hnD.out]; rw [hnX.out]) (by rfl) (own_keep ho9 hwF) AF nFl cF (Pk.fill y.it.body) hnFl.out (by rfl) hrF hnF (by omega) (Nat.le_trans hb9.size hwF.size) ?_; intro AG cG wG hoG hgG; have hbG : Bw W wG := bw_grow12 (hb9.trans hwF) hgG (own_keep ho9 hwF)))
        go_ret
        refine ⟨⟨_, rfl, ?_⟩, hbW.trans hbG⟩
        have hlen : (Pk.hB E ++ Pk.fill RR ++ Pk.hB D ++ Pk.fill y.it.body).length = nX + nD + nFl := by rw [List.length_append, List.length_append, hnD.out, hnFl.out]; rw [hnX.out]
        have hpc : Pk.pcs y.it = Pk.hB E ++ Pk.fill RR ++ Pk.hB D ++ Pk.fill y.it.body := by unfold Pk.pcs; rw [HFr.out, ← HD0.out]; simp only [List.append_assoc, List.nil_append]
        rw [hpc, hlen]
        exact own_lower9 hoG hbW.size
end Go.Proofs.YtldkhbkgmiicbaaGreatDoor
