/- The document's own Real, of layer 11. -/
import Derived.Test.YtjifdoneejofiaaUB
import Derived.Test.YtjifdoneejofiaaY9
namespace Go.Proofs.Ytjifdoneejofiaa
open Go.RowKit Go.Deep
set_option linter.unusedVariables false
set_option linter.unusedSimpArgs false

/-- texts in memory -/
structure LsAt (w : World) (A : Option Addr) (c : Nat) (ps : List Tr.B) : Prop where
  strs : StrsAt w A ps.length (fun i => Nm.S (ps.getD i []))
  le : ps.length ≤ c
  nil : A = none → ps = [] ∧ c = 0
theorem LsAt.keep {w w' : World} {A : Option Addr} {c : Nat} {ps : List Tr.B} (h : LsAt w A c ps) (g : Bw w w') : LsAt w' A c ps := ⟨h.strs.keep g, h.le, h.nil⟩
theorem ls_none (w : World) : LsAt w none 0 [] := ⟨.inl rfl, Nat.le_refl _, fun _ => ⟨rfl, rfl⟩⟩
theorem ls_own {w : World} {base : Nat} {v : Value} {ps : List Tr.B} (h : w.ownsRow base 9 1 v ps.length (Nm.cellsS ps)) : ∃ A c, v = .slice A ps.length c ∧ LsAt w A c ps := by
  rcases h.2 with ⟨h0, h1⟩ | ⟨g, cap, cur, hv, hb, hg, h1, h2, h3, h4⟩
  · have : ps = [] := List.eq_nil_of_length_eq_zero h1
    subst this
    exact ⟨none, 0, h0, ls_none w⟩
  · obtain ⟨A, c, hv', hs, -⟩ := strs_own h
    rw [hv] at hv'
    injection hv' with e1 e2 e3
    subst e1 e3
    exact ⟨_, cap, hv, hs, h1, fun e => by cases e⟩
theorem ls_cell {w : World} {A : Option Addr} {c : Nat} {a : Tr.B} {rest : List Tr.B} (h : LsAt w A c (a :: rest)) : ∃ b off, A = some ⟨b, off, none⟩ ∧ w.cell? ⟨b, off, none⟩ = some (.string (Nm.S a)) ∧ LsAt w (some ⟨b, off + 1, none⟩) (c - 1) rest := by
  obtain ⟨b, off, rfl, hc⟩ := h.strs.at (k := 0) (by simp)
  have h0 := hc 0 (by simp)
  refine ⟨b, off, rfl, by simpa using h0, ⟨?_, by have := h.le; simp at this; omega, fun e => by cases e⟩⟩
  rcases Nat.eq_zero_or_pos rest.length with h1 | h1
  · exact .inl h1
  · refine .inr ⟨b, off + 1, rfl, fun i hi => ?_⟩
    have := hc (i + 1) (by simp; exact hi)
    rw [show off + 1 + i = off + (i + 1) by omega, this]
    simp
theorem ls_news {w : World} {b o c : Nat} {ps : List Tr.B} (h : LsAt w (some ⟨b, o, none⟩) c ps) : ∀ j u, (Nm.cellsS ps)[j]? = some u → w.cell? ((⟨b, o, none⟩ : Addr).add j) = some u := by
  intro j u hu
  have hj : j < ps.length := by have := (List.getElem?_eq_some_iff.1 hu).1; unfold Nm.cellsS at this; simpa using this
  obtain ⟨b', o', e, hc⟩ := h.strs.at hj
  cases e
  rw [Addr.add_lit, hc j hj]
  unfold Nm.cellsS at hu
  rw [List.getElem?_map, List.getElem?_eq_getElem hj] at hu
  rw [← Option.some.inj hu, List.getD_eq_getElem?_getD, List.getElem?_eq_getElem hj]; rfl
theorem cellsS_one (ps : List Tr.B) : ∀ u ∈ Nm.cellsS ps, u.oneCell' = true := by
  intro u hu
  unfold Nm.cellsS at hu
  obtain ⟨p, _, rfl⟩ := List.mem_map.1 hu
  rfl
theorem cellsS_len (ps : List Tr.B) : (Nm.cellsS ps).length = ps.length := by unfold Nm.cellsS; rw [List.length_map]
theorem cellsS_app (a b : List Tr.B) : Nm.cellsS (a ++ b) = Nm.cellsS a ++ Nm.cellsS b := by unfold Nm.cellsS; rw [List.map_append]
theorem wp_append_ls {w : World} {o : Oper} {a : Act} {K : Act → World → Prop} {Q : Exit → Act → World → Prop} (s x : Operand)
    (ho : o.op = .call { callee := .builtin .append, args := #[s, x], argTypes := #[85, 85] })
    (base : Nat) (v : Value) (n : Nat) (xs : List Value) (hs : a.eval s = v) (hown : w.ownsRow base 9 1 v n xs)
    (A : Option Addr) (C : Nat) (ps : List Tr.B) (hx : a.eval x = .slice A ps.length C) (hr : LsAt w A C ps) (hb : n + ps.length ≤ 1000000) (hbase : base ≤ w.heap.size)
    (h : ∀ v' w', w'.ownsRow base 9 1 v' (n + ps.length) (xs ++ Nm.cellsS ps) → w.grownBy w' v.ownBlock → K (a.put o.dst v') w') : o.wp Try.prog a w K Q := by
  obtain ⟨i0, hi0, hz0, hz1, hz2⟩ := info_parts info_str
  cases A with
  | some ad =>
    have hnews : ∀ j u, (Nm.cellsS ps)[j]? = some u → w.cell? (ad.add j) = some u := by
      rcases hr.strs with h0 | ⟨b, off, e1, h2⟩
      · intro j u hu; rw [List.eq_nil_of_length_eq_zero h0] at hu; simp [Nm.cellsS] at hu
      · cases e1; exact ls_news hr
    exact wp_append_own w s x _ ho base _ i0 _ 1 16 Try.underlying85 hi0 hz0 hz1 hz2 rfl (by decide) v n xs hs hown ad ps.length C (Nm.cellsS ps) hx (by rw [cellsS_len, Nat.mul_one]) hnews (cellsS_one ps) (by unfold maxLen; omega) (by omega) hbase (fun v' w' h1 h2 _ => h v' w' h1 h2)
  | none =>
    obtain ⟨rfl, rfl⟩ := hr.nil rfl
    have hrun := run_append_owned_none (P := Try.prog) w base 85 o.type 9 i0 1 Try.underlying85 hi0 v n xs hown
    unfold Oper.wp
    have hx' : a.eval x = .slice none 0 0 := hx
    simp [execOp, ho, resolve, invoke, builtin, hs, hx', hrun, Result.andThen]
    exact h v w (by simpa [Nm.cellsS] using hown) (World.grownBy.refl _ _)
theorem step_append_ls {w : World} {ops : Array Oper} {o : Oper} {a : Act} {K : Act → World → Prop} {Q : Exit → Act → World → Prop} {E : Prop} (hgd : o.guard = none) (s x : Operand)
    (ho : o.op = .call { callee := .builtin .append, args := #[s, x], argTypes := #[85, 85] })
    (base : Nat) (v : Value) (n : Nat) (xs : List Value) (hs : a.eval s = v) (hown : w.ownsRow base 9 1 v n xs)
    (A : Option Addr) (C : Nat) (ps : List Tr.B) (hx : a.eval x = .slice A ps.length C) (hr : LsAt w A C ps) (hb : n + ps.length ≤ 1000000) (hbase : base ≤ w.heap.size)
    (h : ∀ v' w', w'.ownsRow base 9 1 v' (n + ps.length) (xs ++ Nm.cellsS ps) → w.grownBy w' v.ownBlock → K (a.put o.dst v') w') :
    if Region.wanted o (yielded ops a.tmps) = true then Oper.wp Try.prog o a w K Q else E := by
  have hw : Region.wanted o (yielded ops a.tmps) = true := by simp [Region.wanted, hgd]
  rw [if_pos hw]
  exact wp_append_ls s x ho base v n xs hs hown A C ps hx hr hb hbase h
theorem wpList_append_ls {w : World} {ops : Array Oper} {rest : List Oper} {o : Oper} {a : Act} {Q : Exit → Act → World → Prop} (hgd : o.guard = none) (s x : Operand)
    (ho : o.op = .call { callee := .builtin .append, args := #[s, x], argTypes := #[85, 85] })
    (base : Nat) (v : Value) (n : Nat) (xs : List Value) (hs : a.eval s = v) (hown : w.ownsRow base 9 1 v n xs)
    (A : Option Addr) (C : Nat) (ps : List Tr.B) (hx : a.eval x = .slice A ps.length C) (hr : LsAt w A C ps) (hb : n + ps.length ≤ 1000000) (hbase : base ≤ w.heap.size)
    (h : ∀ v' w', w'.ownsRow base 9 1 v' (n + ps.length) (xs ++ Nm.cellsS ps) → w.grownBy w' v.ownBlock → wpList Try.prog ops Q rest (a.put o.dst v') w') : wpList Try.prog ops Q (o :: rest) a w :=
  wpList_plain hgd fun _ hK => wp_append_ls s x ho base v n xs hs hown A C ps hx hr hb hbase fun v' w' h2 h3 => hK _ _ (h v' w' h2 h3)
theorem ls_new (W : World) (a : Tr.B) : LsAt (W.alloc (.cells #[.string (Nm.S a)] 9)) (some ⟨W.heap.size, 0, none⟩) 1 [a] := by
  refine ⟨.inr ⟨W.heap.size, 0, rfl, fun i hi => ?_⟩, Nat.le_refl _, fun e => by cases e⟩
  obtain rfl : i = 0 := by simpa using hi
  exact (new_cell8 W _ _).1
theorem bw_growS {w X y : World} {base : Nat} {v : Value} {n : Nat} {xs : List Value} (h : X.grownBy y v.ownBlock) (b : Bw w X) (hw : w.heap.size = base) (hown : X.ownsRow base 9 1 v n xs) : Bw w y := by
  have := bw_grow (base := base) h (by rw [← hw]; exact b) (by rw [← hw]; exact b.size) hown
  rw [← hw] at this; exact this
theorem bw_gr2 {w X y : World} {k n c : Nat} (h : X.grownBy y (Value.slice (some ⟨k, 0, none⟩) n c).ownBlock) (b : Bw w X) (hk : w.heap.size ≤ k) : Bw w y :=
  b.grown h b.size (fun j hj => by simp only [Value.ownBlock, Option.some.injEq] at hj; omega)
theorem grown_cell11 {X y : World} {k n c : Nat} {p : Addr} {v : Value} (h : X.grownBy y (Value.slice (some ⟨k, 0, none⟩) n c).ownBlock) (hc : X.cell? p = some v) (hne : p.block ≠ k) : y.cell? p = some v := by
  rw [World.cell?_of_block (w := X) (h.block p.block (block_lt_of_cell hc) (fun e => by simp only [Value.ownBlock, Option.some.injEq] at e; exact hne e))]
  exact hc
theorem two_b (w : World) (v : Value) (t : TypeId) : ((w.alloc (.cells #[] t)).alloc (.cells #[v] t)).cell? ⟨w.heap.size + 1, 0, none⟩ = some v := by
  have := (new_cell8 (w.alloc (.cells #[] t)) v t).1
  rw [size_alloc] at this
  exact this
theorem two_c (w : World) (v : Value) (t : TypeId) : ((w.alloc (.cells #[v] t)).alloc (.cells #[] t)).cell? ⟨w.heap.size, 0, none⟩ = some v := kept_cell8 _ (new_cell8 w v t).1
theorem own_empty2 (w : World) (v : Value) (t : TypeId) : ((w.alloc (.cells #[v] t)).alloc (.cells #[] t)).ownsRow w.heap.size t 1 (.slice (some ⟨w.heap.size + 1, 0, none⟩) 0 0) 0 [] := by
  have := own_empty (w.alloc (.cells #[v] t)) w.heap.size t (by rw [size_alloc]; omega)
  rw [size_alloc] at this
  exact this
theorem ls_one {w : World} {k : Nat} {a : Tr.B} (h : w.cell? ⟨k, 0, none⟩ = some (.string (Nm.S a))) : LsAt w (some ⟨k, 0, none⟩) 1 [a] := by
  refine ⟨.inr ⟨k, 0, rfl, fun i hi => ?_⟩, Nat.le_refl _, fun e => by cases e⟩
  obtain rfl : i = 0 := by simpa using hi
  exact h
theorem bw_setrow {w u v : World} {g : Nat} {a : Array Value} (h : Bw w u) (k : Bw u v) (hg : u.heap.size ≤ g) : Bw w (v.setRow g a) := by
  have h1 := h.trans k
  refine ⟨h1.os, h1.tape, h1.output, ?_, fun b hb => ?_⟩
  · have := h1.size; show _ ≤ (World.setRow v g a).heap.size; unfold World.setRow; simpa using this
  · have h2 := h1.block b hb
    rw [← h2]
    unfold World.setRow
    simp only [Array.getElem?_modify]
    rw [if_neg (by have := h.size; omega)]
/-- the item that stands for another one: the file that a hard link names -/
structure Tr.Stands (t : List Tr.It) (y z : Tr.Iv) : Prop where
  kind : z.it.kind = 1 ∨ z.it.kind = 2 ∨ z.it.kind = 4
  soft : z.it.kind = 4 → z = y
  other : z.it.kind ≠ 4 → y.it.kind ≠ 4 ∧ z.it.path = Tr.endOf y.it
  file : z.it.kind = 1 → ∃ k : Nat, t[k]? = some z.it
  len : z.it.path.length ≤ 400
def slLen (v : Value) : Nat := match v with | .slice _ n _ => n | _ => 0
set_option maxRecDepth 100000 in
set_option maxHeartbeats 8000000 in
theorem rfollow_any (A : Option Addr) (cap : Nat) (L : List Tr.Iv) (p : Tr.B) (hn : L.length ≤ 4611686018427387904) (hcap : L.length ≤ cap) (hO : (Tr.chkE (Tr.its L)).2 = 0) (hp0 : p ≠ []) (hp : (Nm.check p).2 = 0) (w : World) (ha : ItsAt w A L) :
    Calls Try.prog 28 #[.slice A L.length cap, .string (Nm.S p)] w fun e w' => e = .returned (.tuple #[.string (Nm.S (Tr.realF (Tr.its L) 0 [] (Nm.pieces p)).1), .int .i64 (Tr.realF (Tr.its L) 0 [] (Nm.pieces p)).2]) ∧ Bw w w' := by
  have hst := Tr.at_start (t := Tr.its L) hp
  obtain ⟨E, hE⟩ : ∃ E, Hid (Tr.realF (Tr.its L) 0 [] (Nm.pieces p) = E) := ⟨_, rfl⟩
  rw [hE.out] at hst ⊢
  obtain ⟨E1, E2⟩ := E
  dsimp only
  have HST : Hid (Tr.At (Tr.its L) (E1, E2) 0 [] (Nm.pieces p)) := hst
  have HO : Hid (Tr.Ok (Tr.its L)) := (Tr.chk_zero hO).2
  have HA : Hid (ItsAt w A L) := ha
  obtain ⟨cA, hC⟩ : ∃ a, Hid (Tr.chkE (Tr.its L) = (a, 0)) := ⟨(Tr.chkE (Tr.its L)).1, show _ = _ by rw [← hO]⟩
  obtain ⟨nA, hN⟩ : ∃ a, Hid (Nm.check p = (a, 0)) := ⟨(Nm.check p).1, show _ = _ by rw [← hp]⟩
  have hpl := (Tr.check_ok_ne hp).1
  have HChk : Hid (∀ u, Bw w u → Calls Try.prog 11 #[.slice A L.length cap] u fun e w' => e = .returned (.tuple #[.int .i64 (cA : Int), .int .i64 0]) ∧ Bw u w') := fun u hu => by
    have := rcheck11_any A cap L hn hcap u (HA.out.keep hu)
    rwa [hC.out] at this
  have HNC : Hid (∀ u, Calls Try.prog 37 #[.string (Nm.S p)] u fun e w' => e = .returned (.tuple #[.int .i64 nA, .int .i64 0]) ∧ Bw u w') := fun u => by
    have := rcheckL p (by omega) u
    rwa [hN.out] at this
  have HFind : Hid (∀ u q, Bw w u → Calls Try.prog 18 #[.slice A L.length cap, .string (Nm.S q)] u fun e w' => e = .returned (.tuple #[.int .i64 ((Tr.findE (Tr.its L) q).1 : Int), .int .i64 (Tr.findE (Tr.its L) q).2]) ∧ w' = u) := fun u q hu => rfind11_any A cap L q hn u (HA.out.keep hu)
  have HPt : Hid (∀ u, Calls Try.prog 59 #[.string (Nm.S p)] u fun e w' => PartsEnds u.heap.size (Nm.pieces p) e w' ∧ Bw u w') := fun u => by
    have := rparts_any p (by omega) u
    rwa [show Tr.pts p = Nm.pieces p by unfold Tr.pts; rw [if_neg hp0]] at this
  obtain ⟨n, hnn⟩ : ∃ n, Hid (L.length = n) := ⟨_, rfl⟩
  rw [hnn.out] at hn hcap HFind HChk ⊢
  obtain ⟨P0, hP0⟩ : ∃ J, Hid (Nm.pieces p = J) := ⟨_, rfl⟩
  rw [hP0.out] at HST HPt
  have q1 : ((Nm.S p).toList == []) = false := by rw [Nm.toList_S, beq_eq_false_iff_ne]; exact hp0
  obtain ⟨i0, hi0, hz0, hz1, hz2⟩ := info_parts info_str
  clear ha hO hst hp hp0
  go_enter Try.func28, Try.ntmps28
  go_wp2_with (first
    | (go_at_call 11; refine (HChk.out _ (Bw.refl _)).mono ?_; rintro e w1 ⟨rfl, hw1⟩)
    | (go_at_call 37; refine (HNC.out _).mono ?_; rintro e w2 ⟨rfl, hw2⟩; have hb2 := hw1.trans hw2)
    | (go_at_call 59; refine (HPt.out _).mono ?_; rintro e w3 ⟨⟨v3, rfl, ho3⟩, hw3⟩; obtain ⟨A3, c3, rfl, hl3⟩ := ls_own ho3; have hb3 := hb2.trans hw3; clear ho3))
  go_loopw [8, 9, 10] (fun re le ho wr => ∃ (h : Nat) (r left : List Tr.B) (R B : Option Addr) (rc bc : Nat), re = .slice R r.length rc ∧ le = .slice B left.length bc ∧ ho = .int .i64 (h : Int) ∧ Hid (Tr.At (Tr.its L) (E1, E2) h r left) ∧ Hid (LsAt wr R rc r) ∧ Hid (LsAt wr B bc left) ∧ Bw w wr) (fun _ le ho _ => (40 - (intOf ho).toNat) * 100000 + slLen le)
  case atStart => exact ⟨0, [], P0, none, A3, 0, c3, rfl, rfl, rfl, HST.out, ls_none _, hl3, hb3⟩
  case round =>
    obtain ⟨h, r, left, R, B, rc, bc, rfl, rfl, rfl, hat, hR, hB, hbw⟩ := hrel
    clear hl3 hb2 hb3 hw1 hw2 hw3
    have hh40 := hat.out.hops
    have hrl := hat.out.rlen
    have hll := hat.out.len
    have hrn : r.length ≤ 402 := by
      have h1 := Nm.len_tot r
      by_cases e : r = []
      · rw [e]; simp
      · have h2 := Nm.tot_joined r e
        omega
    cases left with
    | nil =>
      have he := hat.out.is
      rw [Tr.real_nil, Prod.mk.injEq] at he
      obtain ⟨rfl, rfl⟩ := he
      have HJr : Hid (∀ u, Bw wr u → Calls Try.prog 60 #[.slice R r.length rc] u fun e w' => e = .returned (.string (Nm.S (Nm.joined r))) ∧ w' = u) := fun u hu => by
        have := rjoined_any R r.length rc (fun i => Nm.S (r.getD i [])) (by omega) (by rw [partsL_of]; omega) u (hR.out.keep hu).strs
        rwa [partsL_of] at this
      go_wp2_with (go_at_call 60; refine (HJr.out _ (Bw.refl _)).mono ?_; rintro e w9 ⟨rfl, hw9⟩; subst hw9)
      go_ret2
      exact ⟨rfl, hbw⟩
    | cons a rest =>
    have hP := hat.out.lft
    have haL : a ≠ [] := (hP a (by simp)).1
    have hlb : rest.length ≤ 100000 := by
      have h1 := Nm.len_tot (a :: rest)
      have h2 := Nm.tot_joined (a :: rest) (by simp)
      simp at h1
      omega
    obtain ⟨b, off, rfl, hc0, hrest⟩ := ls_cell hB.out
    obtain ⟨Q, hQ⟩ : ∃ Q, Hid (Nm.joined (r ++ [a]) = Q) := ⟨_, rfl⟩
    obtain ⟨fA, fE, hF⟩ : ∃ x y, Hid (Tr.findE (Tr.its L) Q = (x, y)) := ⟨_, _, show Tr.findE (Tr.its L) Q = _ from rfl⟩
    have hal : a.length ≤ 100000 := by
      have : a.length ≤ (Nm.joined (a :: rest)).length := by
        cases rest with
        | nil => exact Nat.le_refl _
        | cons b l => rw [Nm.joined_cons a (by simp)]; simp
      omega
    have HJo : Hid (∀ u A' c', LsAt u A' c' (r ++ [a]) → Calls Try.prog 60 #[.slice A' (r.length + 1) c'] u fun e w' => e = .returned (.string (Nm.S Q)) ∧ w' = u) := fun u A' c' hl => by
      have := rjoined_any A' (r ++ [a]).length c' (fun i => Nm.S ((r ++ [a]).getD i [])) (by rw [List.length_append]; simp; omega) (by
        rw [partsL_of]
        rw [Tr.joined_more hat.out.reached]
        split
        · omega
        · rw [List.length_append, List.length_cons]; omega) u hl.strs
      rw [partsL_of, hQ.out, List.length_append, List.length_singleton] at this
      exact this
    go_upto_region 13 with fail
    have hbcl : rest.length + 1 ≤ bc := by have := hB.out.le; simpa using this
    have l0 : (0 : Int) < (rest.length : Int) + 1 := by omega
    have HC0 : Hid (wr.cell? ⟨b, off, none⟩ = some (.string (Nm.S a))) := hc0
    go_cut [11, 12] from 39 to 52 (fun v u wc => v = .int .i64 (fA : Int) ∧ u = .int .i64 fE ∧ Bw wr wc)
    case first =>
      go_region_held3 (fun w' => w'.cell? ⟨b, off, none⟩ = some (.string (Nm.S a)) ∧ Bw wr w')
        (first | exact ⟨hc0, Below.drew (Bw.refl _)⟩ | assumption | exact ⟨keep_cell11 hc0 (by repeat (first | assumption | exact Bw.refl _ | refine Below.drew ?_ | refine bw_alloc11 ?_ _)), (by repeat (first | assumption | exact Bw.refl _ | refine Below.drew ?_ | refine bw_alloc11 ?_ _))⟩)
        (first
          | (refine step_append_ls (by rfl) (.tmp 41) (.tmp 42) (by rfl) wr.heap.size _ 0 [] (by rfl) (own_empty wr wr.heap.size _ (Nat.le_refl _)) R rc r (by rfl) (hR.out.keep (by repeat (first | assumption | exact Bw.refl _ | refine Below.drew ?_ | refine bw_alloc11 ?_ _))) (by omega) (by first | (simp; done) | (simp; omega)) ?_; intro v5 w5 hown5 hgrow5; have bw5 : Bw wr w5 := bw_gr2 hgrow5 (by repeat (first | assumption | exact Bw.refl _ | refine Below.drew ?_ | refine bw_alloc11 ?_ _)) (by omega); simp only [Nat.zero_add, List.nil_append] at hown5; clear hgrow5)
          | (refine step_append_ls (by rfl) (.tmp 41) (.tmp 42) (by rfl) wr.heap.size _ 0 [] (by rfl) ((own_empty wr wr.heap.size _ (Nat.le_refl _)).alloc _) R rc r (by rfl) (hR.out.keep (by repeat (first | assumption | exact Bw.refl _ | refine Below.drew ?_ | refine bw_alloc11 ?_ _))) (by omega) (by first | (simp; done) | (simp; omega)) ?_; intro v5 w5 hown5 hgrow5; have bw5 : Bw wr w5 := bw_gr2 hgrow5 (by repeat (first | assumption | exact Bw.refl _ | refine Below.drew ?_ | refine bw_alloc11 ?_ _)) (by omega); have c7 := grown_cell11 hgrow5 (two_b wr (.string (Nm.S a)) 9) (by simp); simp only [Nat.zero_add, List.nil_append] at hown5; clear hgrow5)
          | (refine step_append_ls (by rfl) (.tmp 41) (.tmp 42) (by rfl) wr.heap.size _ 0 [] (by rfl) (own_empty2 wr _ _) R rc r (by rfl) (hR.out.keep (by repeat (first | assumption | exact Bw.refl _ | refine Below.drew ?_ | refine bw_alloc11 ?_ _))) (by omega) (by first | (simp; done) | (simp; omega)) ?_; intro v5 w5 hown5 hgrow5; have bw5 : Bw wr w5 := bw_gr2 hgrow5 (by repeat (first | assumption | exact Bw.refl _ | refine Below.drew ?_ | refine bw_alloc11 ?_ _)) (by omega); have c7 := grown_cell11 hgrow5 (two_c wr (.string (Nm.S a)) 9) (by simp); simp only [Nat.zero_add, List.nil_append] at hown5; clear hgrow5)
          | (refine step_append_ls (by rfl) (.tmp 43) (.tmp 47) (by rfl) wr.heap.size _ _ _ (by rfl) (by first | exact hown5 | exact hown5.drew) (some ⟨_, 0, none⟩) 1 [a] (by rfl) (ls_one (by first | exact c7 | exact keep_cell11 c7 (Below.drew (Bw.refl _)))) (by simp; omega) (by first | exact bw5.size | (simp; exact bw5.size)) ?_; intro v8 w8 hown8 hgrow8; have bw8 : Bw wr w8 := bw_growS hgrow8 (by repeat (first | assumption | exact Bw.refl _ | refine Below.drew ?_ | refine bw_alloc11 ?_ _)) rfl (by first | exact hown5 | exact hown5.drew | exact (hown5.alloc _).drew | exact hown5.alloc _); obtain ⟨A8, c8, hv8, hl8⟩ := ls_own (ps := r ++ [a]) (by rw [List.length_append, cellsS_app]; exact hown8); rw [List.length_append, List.length_singleton] at hv8; subst hv8; clear hgrow8 hown8)
          | (refine step_append_ls (by rfl) (.tmp 43) (.tmp 47) (by rfl) wr.heap.size _ _ _ (by rfl) (by first | exact (hown5.alloc _).drew | exact hown5.alloc _) (some ⟨w5.heap.size, 0, none⟩) 1 [a] (by rfl) (by first | exact (ls_new w5 a).keep (Below.drew (Bw.refl _)) | exact ls_new w5 a) (by simp; omega) (by have := bw5.size; simp; omega) ?_; intro v8 w8 hown8 hgrow8; have bw8 : Bw wr w8 := bw_growS hgrow8 (by repeat (first | assumption | exact Bw.refl _ | refine Below.drew ?_ | refine bw_alloc11 ?_ _)) rfl (by first | exact hown5 | exact hown5.drew | exact (hown5.alloc _).drew | exact hown5.alloc _); obtain ⟨A8, c8, hv8, hl8⟩ := ls_own (ps := r ++ [a]) (by rw [List.length_append, cellsS_app]; exact hown8); rw [List.length_append, List.length_singleton] at hv8; subst hv8; clear hgrow8 hown8)
          | (go_at_call 60; refine (HJo.out _ A8 c8 (hl8.keep (by repeat (first | assumption | exact Bw.refl _ | refine Below.drew ?_)))).mono ?_; rintro e w9 ⟨rfl, hw9⟩; subst hw9)
          | (go_at_call 18; refine (HFind.out _ Q (hbw.trans (by repeat (first | assumption | exact Bw.refl _ | refine Below.drew ?_ | refine bw_alloc11 ?_ _)))).mono ?_; rintro e w10 ⟨rfl, hw10⟩; subst hw10; rw [hF.out]))
      all_goals
        rename_i hSe
        have hSw := hSe.2
        go_wp2_with fail
        go_meet
        case rel => exact ⟨rfl, rfl, hSw⟩
    case rest =>
      obtain ⟨rfl, rfl, hwc⟩ := hcut
      have hbc := hbw.trans hwc
      have hbc1 : (1 : Int) ≤ (bc : Int) := by omega
      obtain ⟨X, hX⟩ : ∃ X : Option Addr, Hid ((if bc = 1 then some (⟨b, off, none⟩ : Addr) else some ⟨b, off + 1, none⟩) = X) := ⟨_, rfl⟩
      have HRest : Hid (LsAt wc X (bc - 1) rest) := by
        have h1 := hrest.keep hwc
        rw [← hX.out]
        split
        · rename_i hb1
          have h2 : rest = [] := List.eq_nil_of_length_eq_zero (by omega)
          subst h2
          exact ⟨.inl rfl, by simp, fun e => by cases e⟩
        · exact h1
      clear hc0 HC0 hrest HJo
      rcases hf : Tr.find (Tr.its L) Q with _ | i
      · have hfe := hF.out
        unfold Tr.findE at hfe
        rw [hf, Prod.mk.injEq] at hfe
        obtain ⟨rfl, rfl⟩ := hfe
        have he := hat.out.is
        rw [Tr.real_none (by rw [hQ.out]; exact hf), Prod.mk.injEq] at he
        obtain ⟨rfl, rfl⟩ := he
        clear hf
        go_wp2
        all_goals
          go_ret2
          exact ⟨rfl, hbc⟩
      · have hfe := hF.out
        unfold Tr.findE at hfe
        rw [hf, Prod.mk.injEq] at hfe
        obtain ⟨rfl, rfl⟩ := hfe
        obtain ⟨x, hx, -, -⟩ := Tr.find_some _ _ _ hf
        obtain ⟨y, hy, rfl⟩ := Tr.its_of hx
        have hil : i < n := by have := (List.getElem?_eq_some_iff.1 hy).1; rw [hnn.out] at this; exact this
        have i0' : (0 : Int) ≤ (i : Int) := Int.natCast_nonneg _
        have i1' : (i : Int) < (n : Int) := by omega
        have hmy := Tr.step_may (HO.out i y.it hx)
        have HF : Hid (Tr.find (Tr.its L) (Nm.joined (r ++ [a])) = some i) := by show _ = _; rw [hQ.out]; exact hf
        have HX : Hid ((Tr.its L)[i]? = some y.it) := hx
        have HM : Hid (Tr.mayE y.it = 0) := hmy
        obtain ⟨b', off', e', -, -⟩ := HA.out.at hy
        subst e'
        have HY : Hid (∀ u, Bw w u → ItAt u b' (off' + i * 6) y) := fun u hu => by
          obtain ⟨b2, off2, e2, h1, -⟩ := (HA.out.keep hu).at hy
          cases e2; exact h1
        clear hf hx hmy hy
        go_upto_if 63 with (first
          | refine wpList_load_it (by rfl) (.tmp 59) rfl b' (off' + i * 6) rfl y (HY.out _ hbc) ?_
          | (refine wpList_store_row rfl 26 _ _ rfl wc.heap.size y.arr rfl rfl 26 _ (heap_alloc_new _ _) (info_it y) rfl (Tr.arr_one y) ?_; rw [setRow_alloc_new]; obtain ⟨W4, hW4⟩ : ∃ V, V = wc.alloc (.cells y.arr 26) := ⟨_, rfl⟩; have hX4 : Hid (BoxAt W4 wc.heap.size y) := (by rw [hW4]; exact BoxAt.new _ _); have hb4 : Bw wc W4 := (by rw [hW4]; exact bw_alloc11 (Bw.refl _) _); rw [← hW4]; clear hW4; obtain ⟨-, x1, -, -, -, x5⟩ := hX4.out.cells))
        rw [hX.out]
        obtain ⟨gx, hgx⟩ : ∃ g, Hid (wc.heap.size = g) := ⟨_, rfl⟩
        rw [hgx.out] at hX4 x1 x5 ⊢
        have hbd := hbc.trans hb4
        have HR4 : Hid (LsAt W4 X (bc - 1) rest) := HRest.out.keep hb4
        -- the box behind the hard link's turn
        go_cut [11] from 63 to 74 (fun v wx => ∃ (j : Int) (yy : Tr.Iv), v = .int .i64 j ∧ BoxAt wx gx yy ∧ Tr.Stands (Tr.its L) y yy ∧ LsAt wx X (bc - 1) rest ∧ Bw w wx)
        case first =>
          by_cases hk : y.it.kind = 3
          · have q3 : ((y.it.kind : Int) == 3) = true := by rw [hk]; rfl
            obtain ⟨j, z, hz1, hz2, hz3, hz4⟩ := Tr.hard_file HO.out HX.out hk
            obtain ⟨yy, hyy, rfl⟩ := Tr.its_of hz2
            have hjl : j < n := by have := (List.getElem?_eq_some_iff.1 hyy).1; rw [hnn.out] at this; exact this
            have j0' : (0 : Int) ≤ (j : Int) := Int.natCast_nonneg _
            have j1' : (j : Int) < (n : Int) := by omega
            have hfz : Hid (Tr.findE (Tr.its L) y.it.to = (j, 0)) := by show _ = _; unfold Tr.findE; rw [hz1]
            have HYY : Hid (∀ u, Bw w u → ItAt u b' (off' + j * 6) yy) := fun u hu => by
              obtain ⟨b2, off2, e2, h1, -⟩ := (HA.out.keep hu).at hyy
              cases e2; exact h1
            have HE : Hid (yy.it.path = Tr.endOf y.it) := by show _ = _; unfold Tr.endOf; rw [if_pos hk]; exact hz3
            have HK1 : Hid (yy.it.kind = 1) := hz4
            have HZ2 : Hid ((Tr.its L)[j]? = some yy.it) := hz2
            have HK3 : Hid (y.it.kind = 3) := hk
            have HPL : Hid (yy.it.path.length ≤ 400) := (Tr.may_len (Tr.step_may (HO.out j yy.it hz2))).1
            have hst5 : Hid (W4.heap[gx]? = some (.cells y.arr 26 (0, 0))) := hX4.out
            have HB5 : Hid (Bw w (W4.setRow gx yy.arr)) := bw_setrow hbc hb4 (by rw [hgx.out]; exact Nat.le_refl _)
            have HR5 : Hid (LsAt (W4.setRow gx yy.arr) X (bc - 1) rest) := HRest.out.keep (bw_setrow (Bw.refl _) hb4 (by rw [hgx.out]; exact Nat.le_refl _))
            clear hk hz1 hz2 hz3 hz4 hyy
            go_wp2_with (first
              | (go_at_call 18; refine (HFind.out _ y.it.to hbd).mono ?_; rintro e w9 ⟨rfl, hw9⟩; subst hw9; rw [hfz.out])
              | refine wpList_load_it (by rfl) (.tmp 73) rfl b' (off' + j * 6) rfl yy (HYY.out _ hbd) ?_
              | (refine wpList_store_row rfl 26 _ _ rfl gx yy.arr rfl rfl 26 y.arr hst5.out (info_it yy) rfl (Tr.arr_one yy) ?_))
            rw [put_none11]
            go_simp
            go_meet
            case rel => exact ⟨j, yy, rfl, setRow_heap _ _ _ _ _ _ hst5.out, ⟨.inl HK1.out, (fun e => by rw [HK1.out] at e; cases e), fun _ => ⟨by rw [HK3.out]; decide, HE.out⟩, fun _ => ⟨j, HZ2.out⟩, HPL.out⟩, HR5.out, HB5.out⟩
          · have q3 : ((y.it.kind : Int) == 3) = false := by rw [beq_eq_false_iff_ne]; omega
            have HS : Hid (Tr.Stands (Tr.its L) y y) := by
              have h1 := Tr.may_kind HM.out
              exact ⟨by omega, fun _ => rfl, fun h4 => ⟨h4, by unfold Tr.endOf; rw [if_neg hk]⟩, fun _ => ⟨i, HX.out⟩, (Tr.may_len HM.out).1⟩
            clear hk
            go_wp2_with fail
            go_meet
            case rel => exact ⟨(i : Int), y, rfl, hX4.out, HS.out, HR4.out, hbd⟩
        case rest =>
          obtain ⟨j, yy, rfl, hX5, hSt, hR5, hbe⟩ := hcut
          clear x1 x5 hb4 HR4 hX4 hbd HRest hwc
          obtain ⟨x0, x1, -, -, -, x5⟩ := hX5.cells
          have HR : Hid (LsAt wc X (bc - 1) rest) := hR5
          have HST2 : Hid (Tr.Stands (Tr.its L) y yy) := hSt
          have hpl2 := hSt.len
          have HZ : Hid (slLen (.slice (some ⟨b, off, none⟩) (rest.length + 1) bc) = rest.length + 1) := rfl
          have l1 : (0 : Int) ≤ (rest.length : Int) := Int.natCast_nonneg _
          by_cases hk4 : yy.it.kind = 4
          · have hyy := hSt.soft hk4
            subst hyy
            have q1' : ((yy.it.kind : Int) == 1) = false := by rw [beq_eq_false_iff_ne]; omega
            have q4 : ((yy.it.kind : Int) != 4) = false := by rw [hk4]; rfl
            have HK4 : Hid (yy.it.kind = 4) := hk4
            clear hk4 hSt hR5
            by_cases h40 : h = 40
            · have he := hat.out.is
              rw [Tr.real_loop HF.out HX.out HK4.out (by omega), Prod.mk.injEq] at he
              obtain ⟨rfl, rfl⟩ := he
              subst h40
              go_wp2
              go_ret2
              exact ⟨rfl, hbe⟩
            · have hlt40 : h < 40 := by omega
              have q5 : ((h : Int) == 40) = false := by rw [beq_eq_false_iff_ne]; omega
              have nx := Tr.at_soft hat.out HO.out HF.out HX.out HK4.out hlt40
              have HN2 : Hid (Tr.At (Tr.its L) (E1, E2) (h + 1) [] (Tr.pts (Nm.lead yy.it.path yy.it.to).1 ++ rest)) := nx
              have hls := Tr.may_soft HM.out HK4.out
              have hlb2 := Tr.lead_bound hls (Tr.may_len HM.out).1
              have hto := Tr.lead_to hls
              obtain ⟨lA, lE, hL⟩ : ∃ x y, Hid (Nm.lead yy.it.path yy.it.to = (x, y)) := ⟨_, _, show Nm.lead yy.it.path yy.it.to = _ from rfl⟩
              have HLd : Hid (∀ u, Calls Try.prog 39 #[.string (Nm.S yy.it.path), .string (Nm.S yy.it.to)] u fun e w' => e = .returned (.tuple #[.string (Nm.S lA), .int .i64 lE]) ∧ Bw u w') := fun u => by
                have := rleadL yy.it.path yy.it.to (by omega) (by omega) u
                rwa [hL.out] at this
              rw [hL.out] at HN2 hlb2
              dsimp only at HN2 hlb2
              have HP2 : Hid (∀ u, Calls Try.prog 59 #[.string (Nm.S lA)] u fun e w' => PartsEnds u.heap.size (Tr.pts lA) e w' ∧ Bw u w') := fun u => rparts_any lA (by omega) u
              have hpn : (Tr.pts lA).length ≤ 803 := by
                unfold Tr.pts
                split
                · simp
                · have := Nm.len_pieces lA; omega
              obtain ⟨ps, hps⟩ : ∃ ps, Hid (Tr.pts lA = ps) := ⟨_, rfl⟩
              rw [hps.out] at HP2 HN2 hpn
              clear nx h40 hls
              go_wp2_with (first
                | (go_at_call 39; refine (HLd.out _).mono ?_; rintro e w5 ⟨rfl, hw5⟩; have hb5 := hbe.trans hw5)
                | (go_at_call 59; refine (HP2.out _).mono ?_; rintro e w6 ⟨⟨v6, rfl, ho6⟩, hw6⟩; have hb6 := hb5.trans hw6; have HR6 : Hid (LsAt w6 X (bc - 1) rest) := (HR.out.keep hw5).keep hw6; have hsz6 := hw6.size)
                | (at_builtin; refine wpList_append_ls (by rfl) (.tmp 102) (.tmp 103) (by rfl) w5.heap.size _ _ _ (by rfl) ho6 X (bc - 1) rest (by rfl) HR6.out (by omega) hsz6 ?_; intro v7 w7 hown7 hgrow7; have hb7 : Bw w w7 := hb5.trans (bw_growS hgrow7 hw6 rfl ho6); obtain ⟨A7, c7, hv7, hl7⟩ := ls_own (ps := ps ++ rest) (by rw [List.length_append, cellsS_app]; exact hown7); subst hv7; clear hgrow7 hown7))
              go_roundw
              case rel => exact ⟨h + 1, [], ps ++ rest, none, A7, 0, c7, rfl, by rw [List.length_append], by go_num, HN2.out, ls_none _, hl7, hb7⟩
              case measure =>
                simp [intOf, slLen]
                omega
          · obtain ⟨hk4y, hpe⟩ := hSt.other hk4
            have q4 : ((yy.it.kind : Int) != 4) = true := by rw [bne_iff_ne]; omega
            have nx := Tr.at_step hat.out HO.out HF.out HX.out hk4y
            have HN2 : Hid (Tr.At (Tr.its L) (E1, E2) h (Tr.pts yy.it.path) rest) := by rw [hpe]; exact nx
            have HP2 : Hid (∀ u, Calls Try.prog 59 #[.string (Nm.S yy.it.path)] u fun e w' => PartsEnds u.heap.size (Tr.pts yy.it.path) e w' ∧ Bw u w') := fun u => rparts_any yy.it.path (by omega) u
            obtain ⟨ps, hps⟩ : ∃ ps, Hid (Tr.pts yy.it.path = ps) := ⟨_, rfl⟩
            rw [hps.out] at HP2
            have go : Hid (yy.it.kind ≠ 1 ∨ rest = [] ∨ (yy.it.kind = 1 ∧ rest ≠ [])) := by
              by_cases e1 : yy.it.kind = 1
              · by_cases e2 : rest = []
                · exact .inr (.inl e2)
                · exact .inr (.inr ⟨e1, e2⟩)
              · exact .inl e1
            clear nx hk4 hk4y hpe hSt hR5
            rcases go.out with e1 | e1 | ⟨e1, e2⟩
            · have q1' : ((yy.it.kind : Int) == 1) = false := by rw [beq_eq_false_iff_ne]; omega
              clear e1 go
              go_wp2_with (go_at_call 59; refine (HP2.out _).mono ?_; rintro e w6 ⟨⟨v6, rfl, ho6⟩, hw6⟩; obtain ⟨A6, c6, hv6, hl6⟩ := ls_own ho6; subst hv6)
              go_roundw
              case rel => exact ⟨h, ps, rest, A6, X, c6, bc - 1, rfl, rfl, rfl, by rw [← hps.out]; exact HN2.out, hl6, HR.out.keep hw6, hbe.trans hw6⟩
              case measure =>
                simp [intOf, slLen]
            · subst e1
              clear go
              by_cases e2 : yy.it.kind = 1
              · have q1' : ((yy.it.kind : Int) == 1) = true := by rw [e2]; rfl
                clear e2
                go_wp2_with (go_at_call 59; refine (HP2.out _).mono ?_; rintro e w6 ⟨⟨v6, rfl, ho6⟩, hw6⟩; obtain ⟨A6, c6, hv6, hl6⟩ := ls_own ho6; subst hv6)
                go_roundw
                case rel => exact ⟨h, ps, [], A6, X, c6, bc - 1, rfl, rfl, rfl, by rw [← hps.out]; exact HN2.out, hl6, HR.out.keep hw6, hbe.trans hw6⟩
                case measure =>
                  simp [intOf, slLen]
              · have q1' : ((yy.it.kind : Int) == 1) = false := by rw [beq_eq_false_iff_ne]; omega
                clear e2
                go_wp2_with (go_at_call 59; refine (HP2.out _).mono ?_; rintro e w6 ⟨⟨v6, rfl, ho6⟩, hw6⟩; obtain ⟨A6, c6, hv6, hl6⟩ := ls_own ho6; subst hv6)
                go_roundw
                case rel => exact ⟨h, ps, [], A6, X, c6, bc - 1, rfl, rfl, rfl, by rw [← hps.out]; exact HN2.out, hl6, HR.out.keep hw6, hbe.trans hw6⟩
                case measure =>
                  simp [intOf, slLen]
            · have q1' : ((yy.it.kind : Int) == 1) = true := by rw [e1]; rfl
              obtain ⟨k, hk⟩ := HST2.out.file e1
              have he := HN2.out.is
              cases rest with
              | nil => exact absurd rfl e2
              | cons b1 rest' =>
                have hb1 := hP b1 (by simp)
                rw [Tr.file_stop HO.out hk e1 hb1.1 hb1.2, Prod.mk.injEq] at he
                obtain ⟨rfl, rfl⟩ := he
                have l2 : (0 : Int) < ((b1 :: rest').length : Int) := by rw [List.length_cons]; omega
                clear e1 e2 go
                go_wp2
                go_ret2
                exact ⟨rfl, hbe⟩
set_option maxRecDepth 100000 in
set_option maxHeartbeats 2000000 in
theorem rreal_any (A : Option Addr) (cap : Nat) (L : List Tr.Iv) (p : Tr.B) (hn : L.length ≤ 4611686018427387904) (hcap : L.length ≤ cap) (hp : p.length ≤ 4611686018427387904) (w : World) (ha : ItsAt w A L) :
    Calls Try.prog 28 #[.slice A L.length cap, .string (Nm.S p)] w fun e w' => e = .returned (.tuple #[.string (Nm.S (Tr.realE (Tr.its L) p).1), .int .i64 (Tr.realE (Tr.its L) p).2]) ∧ Bw w w' := by
  obtain ⟨E1, E2, hE⟩ : ∃ a b, Hid (Tr.realE (Tr.its L) p = (a, b)) := ⟨_, _, show Tr.realE (Tr.its L) p = _ from rfl⟩
  rw [hE.out]
  dsimp only
  have hee := hE.out
  unfold Tr.realE at hee
  obtain ⟨cA, cE, hC⟩ : ∃ a b, Hid (Tr.chkE (Tr.its L) = (a, b)) := ⟨_, _, show Tr.chkE (Tr.its L) = _ from rfl⟩
  obtain ⟨nA, nE, hN⟩ : ∃ a b, Hid (Nm.check p = (a, b)) := ⟨_, _, show Nm.check p = _ from rfl⟩
  rw [hC.out, hN.out] at hee
  dsimp only at hee
  by_cases h1 : cE = 0
  · rw [if_neg (by simp [h1])] at hee
    by_cases h2 : p = []
    · have HChk : Hid (∀ u, Bw w u → Calls Try.prog 11 #[.slice A L.length cap] u fun e w' => e = .returned (.tuple #[.int .i64 (cA : Int), .int .i64 cE]) ∧ Bw u w') := fun u hu => by
        have := rcheck11_any A cap L hn hcap u (ha.keep hu)
        rwa [hC.out] at this
      obtain ⟨n, hnn⟩ : ∃ n, Hid (L.length = n) := ⟨_, rfl⟩
      rw [hnn.out] at HChk ⊢
      rw [if_pos h2, Prod.mk.injEq] at hee
      obtain ⟨rfl, rfl⟩ := hee
      have q1 : ((Nm.S p).toList == []) = true := by rw [Nm.toList_S, h2]; rfl
      subst h1
      clear h2 ha hn hcap
      go_enter Try.func28, Try.ntmps28
      go_wp2_with (go_at_call 11; refine (HChk.out _ (Bw.refl _)).mono ?_; rintro e w1 ⟨rfl, hw1⟩)
      go_ret2
      exact ⟨rfl, hw1⟩
    · rw [if_neg h2] at hee
      by_cases h3 : nE = 0
      · rw [if_neg (by simp [h3])] at hee
        have := rfollow_any A cap L p hn hcap (by rw [hC.out]; exact h1) h2 (by rw [hN.out]; exact h3) w ha
        rwa [hee] at this
      · have HChk : Hid (∀ u, Bw w u → Calls Try.prog 11 #[.slice A L.length cap] u fun e w' => e = .returned (.tuple #[.int .i64 (cA : Int), .int .i64 cE]) ∧ Bw u w') := fun u hu => by
          have := rcheck11_any A cap L hn hcap u (ha.keep hu)
          rwa [hC.out] at this
        have HNC : Hid (∀ u, Calls Try.prog 37 #[.string (Nm.S p)] u fun e w' => e = .returned (.tuple #[.int .i64 nA, .int .i64 nE]) ∧ Bw u w') := fun u => by
          have := rcheckL p hp u
          rwa [hN.out] at this
        obtain ⟨n, hnn⟩ : ∃ n, Hid (L.length = n) := ⟨_, rfl⟩
        rw [hnn.out] at HChk ⊢
        have q1 : ((Nm.S p).toList == []) = false := by rw [Nm.toList_S, beq_eq_false_iff_ne]; exact h2
        rw [if_pos h3, Prod.mk.injEq] at hee
        obtain ⟨rfl, rfl⟩ := hee
        have q2 := Tr.i_no h3
        subst h1
        clear h2 h3 ha hn hcap
        go_enter Try.func28, Try.ntmps28
        go_wp2_with (first
          | (go_at_call 11; refine (HChk.out _ (Bw.refl _)).mono ?_; rintro e w1 ⟨rfl, hw1⟩)
          | (go_at_call 37; refine (HNC.out _).mono ?_; rintro e w2 ⟨rfl, hw2⟩))
        go_ret2
        exact ⟨rfl, hw1.trans hw2⟩
  · have HChk : Hid (∀ u, Bw w u → Calls Try.prog 11 #[.slice A L.length cap] u fun e w' => e = .returned (.tuple #[.int .i64 (cA : Int), .int .i64 cE]) ∧ Bw u w') := fun u hu => by
      have := rcheck11_any A cap L hn hcap u (ha.keep hu)
      rwa [hC.out] at this
    obtain ⟨n, hnn⟩ : ∃ n, Hid (L.length = n) := ⟨_, rfl⟩
    rw [hnn.out] at HChk ⊢
    rw [if_pos h1, Prod.mk.injEq] at hee
    obtain ⟨rfl, rfl⟩ := hee
    have q2 := Tr.i_no h1
    clear h1 ha hn hcap
    go_enter Try.func28, Try.ntmps28
    go_wp2_with (go_at_call 11; refine (HChk.out _ (Bw.refl _)).mono ?_; rintro e w1 ⟨rfl, hw1⟩)
    go_ret2
    exact ⟨rfl, hw1⟩
end Go.Proofs.Ytjifdoneejofiaa
