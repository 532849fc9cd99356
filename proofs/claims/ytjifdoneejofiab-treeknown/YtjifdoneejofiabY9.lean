/- The program's own follow and Real, of layer 11, as landed at 97b3c5cd. -/
import Derived.Test.YtjifdoneejofiabY8
namespace Go.Proofs.Ytjifdoneejofiab
open Go.RowKit Go.Deep
set_option linter.unusedVariables false
set_option linter.unusedSimpArgs false

def strLen (v : Value) : Nat := match v with | .string s => s.size | _ => 0
theorem strLen_S (l : Tr.B) : strLen (.string (Nm.S l)) = l.length := Nm.size_S l
namespace Tr
/-- how far a walk has come -/
structure At (t : List It) (E : B × Int) (h : Nat) (r left : List B) : Prop where
  hops : h ≤ 40
  lft : Nm.Parts left
  reached : Nm.Parts r
  len : (Nm.joined left).length ≤ 1000 * (h + 1)
  rlen : (Nm.joined r).length ≤ 400
  is : E = realF t h r left
theorem at_start {t : List It} {p : B} (h : (Nm.check p).2 = 0) : At t (realF t 0 [] (Nm.pieces p)) 0 [] (Nm.pieces p) :=
  ⟨by omega, parts_of h, fun q hq => by simp at hq, by rw [Nm.joined_pieces]; have := (check_ok_ne h).1; omega, by show 0 ≤ 400; omega, rfl⟩
theorem end_check {t : List It} (h : Ok t) {i : Nat} {x : It} (hx : t[i]? = some x) (hk : x.kind ≠ 4) : (Nm.check (endOf x)).2 = 0 := by
  have hm := step_may (h i x hx)
  unfold endOf
  split
  · rename_i h3; exact may_hard hm h3
  · exact may_check hm
theorem at_step {t : List It} {E : B × Int} {h : Nat} {r rest : List B} {a : B} {i : Nat} {x : It} (A : At t E h r (a :: rest)) (hO : Ok t) (e : find t (Nm.joined (r ++ [a])) = some i) (hx : t[i]? = some x) (hk : x.kind ≠ 4) : At t E h (pts (endOf x)) rest :=
  ⟨A.hops, parts_tail A.lft, pts_check (end_check hO hx hk), Nat.le_trans (joined_cons_len a rest) A.len, by rw [joined_pts]; exact (check_ok_ne (end_check hO hx hk)).1, A.is.trans (real_step e hx hk)⟩
theorem at_soft {t : List It} {E : B × Int} {h : Nat} {r rest : List B} {a : B} {i : Nat} {x : It} (A : At t E h r (a :: rest)) (hO : Ok t) (e : find t (Nm.joined (r ++ [a])) = some i) (hx : t[i]? = some x) (hk : x.kind = 4) (hh : h < 40) : At t E (h + 1) [] (pts (Nm.lead x.path x.to).1 ++ rest) := by
  have hm := step_may (hO i x hx)
  have hl := may_soft hm hk
  have hb := lead_bound hl (may_len hm).1
  refine ⟨by omega, parts_append (pts_lead hl) (parts_tail A.lft), (fun q hq => by simp at hq), ?_, by show 0 ≤ 400; omega, A.is.trans (real_soft e hx hk hh)⟩
  rw [joined_front (parts_tail A.lft)]
  have h1 := joined_cons_len a rest
  have h2 := A.len
  split
  · rw [List.length_append]; omega
  · rw [List.length_append, List.length_cons]; omega
end Tr
set_option maxRecDepth 100000 in
set_option maxHeartbeats 8000000 in
theorem follow_any (A : Option Addr) (cap : Nat) (L : List Tr.Iv) (p : Tr.B) (hn : L.length ≤ 4611686018427387904) (hO : Tr.Ok (Tr.its L)) (hp : (Nm.check p).2 = 0) (w : World) (ha : ItsAt w A L) :
    Calls Try.prog 40 #[.slice A L.length cap, .string (Nm.S p)] w fun e w' => e = .returned (.tuple #[.string (Nm.S (Tr.realF (Tr.its L) 0 [] (Nm.pieces p)).1), .int .i64 (Tr.realF (Tr.its L) 0 [] (Nm.pieces p)).2]) ∧ Bw w w' := by
  have hst := Tr.at_start (t := Tr.its L) hp
  obtain ⟨E, hE⟩ : ∃ E, Hid (Tr.realF (Tr.its L) 0 [] (Nm.pieces p) = E) := ⟨_, rfl⟩
  rw [hE.out] at hst ⊢
  obtain ⟨E1, E2⟩ := E
  dsimp only
  have HST : Hid (Tr.At (Tr.its L) (E1, E2) 0 [] (Nm.pieces p)) := hst
  have hpj : Hid (Nm.S p = Nm.S (Nm.joined (Nm.pieces p))) := by show _ = _; rw [Nm.joined_pieces]
  rw [hpj.out]
  have HO : Hid (Tr.Ok (Tr.its L)) := hO
  have HA : Hid (ItsAt w A L) := ha
  have HFind : Hid (∀ u q, Bw w u → Calls Try.prog 10 #[.slice A L.length cap, .string (Nm.S q)] u fun e w' => e = .returned (.tuple #[.int .i64 ((Tr.findE (Tr.its L) q).1 : Int), .int .i64 (Tr.findE (Tr.its L) q).2]) ∧ Bw u w') := fun u q hu => tfind_any A cap L q hn u (HA.out.keep hu)
  obtain ⟨n, hnn⟩ : ∃ n, Hid (L.length = n) := ⟨_, rfl⟩
  rw [hnn.out] at hn HFind ⊢
  clear ha hO hst hp
  obtain ⟨J0, hJ0⟩ : ∃ J, Hid (Nm.joined (Nm.pieces p) = J) := ⟨_, rfl⟩
  rw [hJ0.out]
  go_enter Try.func40, Try.ntmps40
  go_wp2
  go_loopw [1, 6, 7] (fun tg re ho wr => ∃ (h : Nat) (r left : List Tr.B), tg = .string (Nm.S (Nm.joined left)) ∧ re = .string (Nm.S (Nm.joined r)) ∧ ho = .int .i64 (h : Int) ∧ Hid (Tr.At (Tr.its L) (E1, E2) h r left) ∧ Bw w wr) (fun tg _ ho _ => (40 - (intOf ho).toNat) * 100000 + strLen tg)
  case atStart => exact ⟨0, [], Nm.pieces p, by rw [hJ0.out], rfl, rfl, HST.out, Bw.refl _⟩
  case round =>
    obtain ⟨h, r, left, rfl, rfl, rfl, hat, hbw⟩ := hrel
    have hh40 := hat.out.hops
    have hrl := hat.out.rlen
    have hll := hat.out.len
    cases left with
    | nil =>
      have he := hat.out.is
      rw [Tr.real_nil, Prod.mk.injEq] at he
      obtain ⟨rfl, rfl⟩ := he
      have q1 : ((Nm.S (Nm.joined [])).toList == []) = true := by rw [Nm.toList_S]; rfl
      go_wp2
      go_ret2
      exact ⟨rfl, hbw⟩
    | cons a rest =>
    have hP := hat.out.lft
    have hja : Nm.joined (a :: rest) ≠ [] := Tr.joined_ne hP (by simp)
    have q1 : ((Nm.S (Nm.joined (a :: rest))).toList == []) = false := by rw [Nm.toList_S, beq_eq_false_iff_ne]; exact hja
    have haL : a ≠ [] := (hP a (by simp)).1
    have hlt := Tr.joined_cons_lt haL rest
    have hal : a.length ≤ (Nm.joined (a :: rest)).length := by
      cases rest with
      | nil => exact Nat.le_refl _
      | cons b l => rw [Nm.joined_cons a (by simp)]; simp
    have HCut : Hid (∀ u, Calls Try.prog 56 #[.string (Nm.S (Nm.joined (a :: rest))), .string ⟨#[47]⟩] u fun e w' => ∃ b, e = .returned (.tuple #[.string (Nm.S a), .string (Nm.S (Nm.joined rest)), .bool b]) ∧ Bw u w') := fun u => cutp_any a rest hP (by omega) u
    have hjm : Tr.jn (Nm.joined r) a = Nm.joined (r ++ [a]) := by
      rw [Tr.joined_more hat.out.reached]
      unfold Tr.jn
      by_cases e : Nm.joined r = []
      · rw [if_pos (.inl e), if_pos e, e]; rfl
      · rw [if_neg (fun h => by rcases h with h | h; exact e h; exact haL h), if_neg e]
    have HJ1 : Hid (∀ u, Calls Try.prog 57 #[.string (Nm.S (Nm.joined r)), .string (Nm.S a)] u fun e w' => e = .returned (.string (Nm.S (Nm.joined (r ++ [a])))) ∧ w' = u) := fun u => by
      have := tjoined_any (Nm.joined r) a (by omega) u
      rwa [hjm] at this
    obtain ⟨Q, hQ⟩ : ∃ Q, Hid (Nm.joined (r ++ [a]) = Q) := ⟨_, rfl⟩
    rw [hQ.out] at HJ1
    obtain ⟨J, hJ⟩ : ∃ J, Hid (Nm.joined (a :: rest) = J) := ⟨_, rfl⟩
    rw [hJ.out] at q1 hlt hal hll HCut ⊢
    obtain ⟨K, hK⟩ : ∃ K, Hid (Nm.joined rest = K) := ⟨_, rfl⟩
    rw [hK.out] at hlt HCut
    obtain ⟨RR, hRR⟩ : ∃ K, Hid (Nm.joined r = K) := ⟨_, rfl⟩
    rw [hRR.out] at HJ1 hrl ⊢
    clear hja hjm hP
    rcases hf : Tr.find (Tr.its L) Q with _ | i
    · have he := hat.out.is
      rw [Tr.real_none (by rw [hQ.out]; exact hf), Prod.mk.injEq] at he
      obtain ⟨rfl, rfl⟩ := he
      have hfe : Hid (Tr.findE (Tr.its L) Q = (0, 4)) := by show _ = _; unfold Tr.findE; rw [hf]
      clear hf
      go_wp2_with (first
        | (go_at_call 56; refine (HCut.out _).mono ?_; rintro e w1 ⟨b1, rfl, hw1⟩; have hb1 := hbw.trans hw1)
        | (go_at_call 57; refine (HJ1.out _).mono ?_; rintro e w2 ⟨rfl, rfl⟩)
        | (go_at_call 10; refine (HFind.out _ Q (by assumption)).mono ?_; rintro e w3 ⟨rfl, hw3⟩; rw [hfe.out]))
      go_ret2
      exact ⟨rfl, Bw.trans (by assumption) hw3⟩
    · have hfe : Hid (Tr.findE (Tr.its L) Q = (i, 0)) := by show _ = _; unfold Tr.findE; rw [hf]
      obtain ⟨x, hx, -, -⟩ := Tr.find_some _ _ _ hf
      obtain ⟨y, hy, rfl⟩ := Tr.its_of hx
      have hil : i < n := by have := (List.getElem?_eq_some_iff.1 hy).1; rw [hnn.out] at this; exact this
      have i0 : (0 : Int) ≤ (i : Int) := Int.natCast_nonneg _
      have i1 : (i : Int) < (n : Int) := by omega
      have hmy := Tr.step_may (HO.out i y.it hx)
      have HFit : Hid (Tr.Fit y.it) := Tr.fit_in HA.out hy
      obtain ⟨b, off, rfl, -, -⟩ := HA.out.at hy
      have HY : Hid (∀ u, Bw w u → ItAt u b (off + i * 6) y) := fun u hu => by
        obtain ⟨b', off', e', h1, -⟩ := (HA.out.keep hu).at hy
        cases e'; exact h1
      obtain ⟨G, hG⟩ : ∃ G, Hid (Tr.goesTo y.it = G) := ⟨_, rfl⟩
      have HEnd : Hid (∀ u, Calls Try.prog 58 #[.agg y.arr] u fun e w' => e = .returned (.string (Nm.S G)) ∧ Bw u w') := fun u => by
        rw [← hG.out]; exact end_any y HFit.out hmy u
      have HF : Hid (Tr.find (Tr.its L) (Nm.joined (r ++ [a])) = some i) := by show _ = _; rw [hQ.out]; exact hf
      have HX : Hid ((Tr.its L)[i]? = some y.it) := hx
      have HM : Hid (Tr.mayE y.it = 0) := hmy
      clear hf hx hmy hy
      by_cases hk : y.it.kind = 4
      · have q2 : ((y.it.kind : Int) == 4) = true := by rw [hk]; rfl
        have HK : Hid (y.it.kind = 4) := hk
        by_cases h40 : h = 40
        · have he := hat.out.is
          rw [Tr.real_loop HF.out HX.out HK.out (by omega), Prod.mk.injEq] at he
          obtain ⟨rfl, rfl⟩ := he
          subst h40
          clear hk
          go_wp2_with (first
            | (go_at_call 56; refine (HCut.out _).mono ?_; rintro e w1 ⟨b1, rfl, hw1⟩; have hb1 := hbw.trans hw1)
            | (go_at_call 57; refine (HJ1.out _).mono ?_; rintro e w2 ⟨rfl, rfl⟩)
            | (go_at_call 10; refine (HFind.out _ Q (by assumption)).mono ?_; rintro e w3 ⟨rfl, hw3⟩; rw [hfe.out]; have hb3 : Bw w w3 := Bw.trans (by assumption) hw3)
            | refine wpList_load_it (by rfl) (.tmp 35) rfl b (off + i * 6) rfl y (HY.out _ hb3) ?_
            | (refine wpList_store_row rfl 26 _ _ rfl w3.heap.size y.arr rfl rfl 26 _ (heap_alloc_new _ _) (info_it y) rfl (Tr.arr_one y) ?_; rw [setRow_alloc_new]; obtain ⟨W4, hW4⟩ : ∃ V, V = w3.alloc (.cells y.arr 26) := ⟨_, rfl⟩; have hX4 : Hid (BoxAt W4 w3.heap.size y) := (by rw [hW4]; exact BoxAt.new _ _); have hb4 : Bw w3 W4 := (by rw [hW4]; exact bw_alloc11 (Bw.refl _) _); rw [← hW4]; clear hW4; obtain ⟨-, x1, -, -, -, -⟩ := hX4.out.cells))
          go_ret2
          exact ⟨rfl, hb3.trans hb4⟩
        · have hlt40 : h < 40 := by omega
          have nx := Tr.at_soft hat.out HO.out HF.out HX.out HK.out hlt40
          have HN : Hid (Tr.At (Tr.its L) (E1, E2) (h + 1) [] (Tr.pts (Nm.lead y.it.path y.it.to).1 ++ rest)) := nx
          have hGl : G = (Nm.lead y.it.path y.it.to).1 := by rw [← hG.out]; unfold Tr.goesTo; rw [if_pos hk]
          have hjs : Tr.jn G K = Nm.joined (Tr.pts (Nm.lead y.it.path y.it.to).1 ++ rest) := by
            rw [Tr.joined_front (Tr.parts_tail hat.out.lft), hGl, hK.out]; rfl
          have hgb : G.length ≤ 802 := by rw [hGl]; exact Tr.lead_bound (Tr.may_soft HM.out HK.out) (Tr.may_len HM.out).1
          obtain ⟨N, hN⟩ : ∃ N, Hid (Nm.joined (Tr.pts (Nm.lead y.it.path y.it.to).1 ++ rest) = N) := ⟨_, rfl⟩
          have hNl : N.length ≤ 1000 * (h + 2) := by rw [← hN.out]; exact nx.len
          rw [hN.out] at hjs
          have HJ2 : Hid (∀ u, Calls Try.prog 57 #[.string (Nm.S G), .string (Nm.S K)] u fun e w' => e = .returned (.string (Nm.S N)) ∧ w' = u) := fun u => by
            have := tjoined_any G K (by omega) u
            rwa [hjs] at this
          have q3 : ((h : Int) == 40) = false := by rw [beq_eq_false_iff_ne]; omega
          have zJ := strLen_S J
          have zN := strLen_S N
          have HZJ : Hid (strLen (.string (Nm.S J)) = J.length) := zJ
          have HZN : Hid (strLen (.string (Nm.S N)) = N.length) := zN
          clear hk h40 nx hGl hjs zJ zN
          have tok1 : Hid (y = y) := rfl
          go_wp2_with (first
            | (go_at_call 56; refine (HCut.out _).mono ?_; rintro e w1 ⟨b1, rfl, hw1⟩; have hb1 := hbw.trans hw1)
            | (go_at_call 57; clear tok1; refine (HJ1.out _).mono ?_; rintro e w2 ⟨rfl, rfl⟩)
            | (go_at_call 10; refine (HFind.out _ Q (by assumption)).mono ?_; rintro e w3 ⟨rfl, hw3⟩; rw [hfe.out]; have hb3 : Bw w w3 := Bw.trans (by assumption) hw3)
            | refine wpList_load_it (by rfl) (.tmp 35) rfl b (off + i * 6) rfl y (HY.out _ hb3) ?_
            | (refine wpList_store_row rfl 26 _ _ rfl w3.heap.size y.arr rfl rfl 26 _ (heap_alloc_new _ _) (info_it y) rfl (Tr.arr_one y) ?_; rw [setRow_alloc_new]; obtain ⟨W4, hW4⟩ : ∃ V, V = w3.alloc (.cells y.arr 26) := ⟨_, rfl⟩; have hX4 : Hid (BoxAt W4 w3.heap.size y) := (by rw [hW4]; exact BoxAt.new _ _); have hb4 : Bw w3 W4 := (by rw [hW4]; exact bw_alloc11 (Bw.refl _) _); rw [← hW4]; clear hW4; obtain ⟨-, x1, -, -, -, -⟩ := hX4.out.cells)
            | refine wpList_load_it (by rfl) (.tmp 13) rfl w3.heap.size 0 rfl y hX4.out.it ?_
            | (go_at_call 58; refine (HEnd.out _).mono ?_; rintro e w5 ⟨rfl, hw5⟩)
            | (go_at_call 57; refine (HJ2.out _).mono ?_; rintro e w6 ⟨rfl, hw6⟩))
          subst hw6
          go_roundw
          case rel => exact ⟨h + 1, [], _, by rw [hN.out], rfl, by go_num, HN.out, (hb3.trans hb4).trans hw5⟩
          case measure =>
            have z1 := HZJ.out
            have z2 := HZN.out
            simp [intOf, z1, z2]
            omega
      · have q2 : ((y.it.kind : Int) == 4) = false := by rw [beq_eq_false_iff_ne]; omega
        have nx := Tr.at_step hat.out HO.out HF.out HX.out hk
        have HN : Hid (Tr.At (Tr.its L) (E1, E2) h (Tr.pts (Tr.endOf y.it)) rest) := nx
        have hGl : Hid (G = Tr.endOf y.it) := by show _ = _; rw [← hG.out]; unfold Tr.goesTo; rw [if_neg hk]
        have HZJ : Hid (strLen (.string (Nm.S J)) = J.length) := strLen_S J
        have HZK : Hid (strLen (.string (Nm.S K)) = K.length) := strLen_S K
        clear hk nx
        go_wp2_with (first
          | (go_at_call 56; refine (HCut.out _).mono ?_; rintro e w1 ⟨b1, rfl, hw1⟩; have hb1 := hbw.trans hw1)
          | (go_at_call 57; refine (HJ1.out _).mono ?_; rintro e w2 ⟨rfl, rfl⟩)
          | (go_at_call 10; refine (HFind.out _ Q (by assumption)).mono ?_; rintro e w3 ⟨rfl, hw3⟩; rw [hfe.out]; have hb3 : Bw w w3 := Bw.trans (by assumption) hw3)
          | refine wpList_load_it (by rfl) (.tmp 35) rfl b (off + i * 6) rfl y (HY.out _ hb3) ?_
          | (refine wpList_store_row rfl 26 _ _ rfl w3.heap.size y.arr rfl rfl 26 _ (heap_alloc_new _ _) (info_it y) rfl (Tr.arr_one y) ?_; rw [setRow_alloc_new]; obtain ⟨W4, hW4⟩ : ∃ V, V = w3.alloc (.cells y.arr 26) := ⟨_, rfl⟩; have hX4 : Hid (BoxAt W4 w3.heap.size y) := (by rw [hW4]; exact BoxAt.new _ _); have hb4 : Bw w3 W4 := (by rw [hW4]; exact bw_alloc11 (Bw.refl _) _); rw [← hW4]; clear hW4; obtain ⟨-, x1, -, -, -, -⟩ := hX4.out.cells)
          | refine wpList_load_it (by rfl) (.tmp 13) rfl w3.heap.size 0 rfl y hX4.out.it ?_
          | (go_at_call 58; refine (HEnd.out _).mono ?_; rintro e w5 ⟨rfl, hw5⟩))
        go_roundw
        case rel => exact ⟨h, Tr.pts (Tr.endOf y.it), rest, by rw [hK.out], by rw [Tr.joined_pts, ← hGl.out], rfl, HN.out, (hb3.trans hb4).trans hw5⟩
        case measure =>
          have z1 := HZJ.out
          have z2 := HZK.out
          simp [intOf, z1, z2]
          omega
set_option maxRecDepth 100000 in
set_option maxHeartbeats 2000000 in
theorem treal_any (A : Option Addr) (cap : Nat) (L : List Tr.Iv) (p : Tr.B) (hn : L.length ≤ 4611686018427387904) (hcap : L.length ≤ cap) (hp : p.length ≤ 4611686018427387904) (w : World) (ha : ItsAt w A L) :
    Calls Try.prog 15 #[.slice A L.length cap, .string (Nm.S p)] w fun e w' => e = .returned (.tuple #[.string (Nm.S (Tr.realE (Tr.its L) p).1), .int .i64 (Tr.realE (Tr.its L) p).2]) ∧ Bw w w' := by
  obtain ⟨E1, E2, hE⟩ : ∃ a b, Hid (Tr.realE (Tr.its L) p = (a, b)) := ⟨_, _, show Tr.realE (Tr.its L) p = _ from rfl⟩
  rw [hE.out]
  dsimp only
  have hee := hE.out
  unfold Tr.realE at hee
  obtain ⟨cA, cE, hC⟩ : ∃ a b, Hid (Tr.chkE (Tr.its L) = (a, b)) := ⟨_, _, show Tr.chkE (Tr.its L) = _ from rfl⟩
  obtain ⟨nA, nE, hN⟩ : ∃ a b, Hid (Nm.check p = (a, b)) := ⟨_, _, show Nm.check p = _ from rfl⟩
  have HChk : Hid (∀ u, Bw w u → Calls Try.prog 9 #[.slice A L.length cap] u fun e w' => e = .returned (.tuple #[.int .i64 (cA : Int), .int .i64 cE]) ∧ Bw u w') := fun u hu => by
    have := tcheck_any A cap L hn hcap u (ha.keep hu)
    rwa [hC.out] at this
  have HNC : Hid (∀ u, Calls Try.prog 39 #[.string (Nm.S p)] u fun e w' => e = .returned (.tuple #[.int .i64 nA, .int .i64 nE]) ∧ Bw u w') := fun u => by
    have := ncheckL p hp u
    rwa [hN.out] at this
  have HFo : Hid (∀ u, Bw w u → cE = 0 → nE = 0 → Calls Try.prog 40 #[.slice A L.length cap, .string (Nm.S p)] u fun e w' => e = .returned (.tuple #[.string (Nm.S (Tr.realF (Tr.its L) 0 [] (Nm.pieces p)).1), .int .i64 (Tr.realF (Tr.its L) 0 [] (Nm.pieces p)).2]) ∧ Bw u w') := fun u hu h1 h2 =>
    follow_any A cap L p hn (Tr.chk_zero (by rw [hC.out]; exact h1)).2 (by rw [hN.out]; exact h2) u (ha.keep hu)
  rw [hC.out, hN.out] at hee
  dsimp only at hee
  obtain ⟨n, hnn⟩ : ∃ n, Hid (L.length = n) := ⟨_, rfl⟩
  rw [hnn.out] at hn hcap HChk HFo ⊢
  clear ha
  by_cases h1 : cE = 0
  · rw [if_neg (by simp [h1])] at hee
    by_cases h2 : p = []
    · rw [if_pos h2, Prod.mk.injEq] at hee
      obtain ⟨rfl, rfl⟩ := hee
      have q1 : ((Nm.S p).toList == []) = true := by rw [Nm.toList_S, h2]; rfl
      subst h1
      clear h2 HFo
      go_enter Try.func15, Try.ntmps15
      go_wp2_with (go_at_call 9; refine (HChk.out _ (Bw.refl _)).mono ?_; rintro e w1 ⟨rfl, hw1⟩)
      go_ret2
      exact ⟨rfl, hw1⟩
    · rw [if_neg h2] at hee
      have q1 : ((Nm.S p).toList == []) = false := by rw [Nm.toList_S, beq_eq_false_iff_ne]; exact h2
      by_cases h3 : nE = 0
      · rw [if_neg (by simp [h3])] at hee
        have HF2 : Hid (∀ u, Bw w u → Calls Try.prog 40 #[.slice A n cap, .string (Nm.S p)] u fun e w' => e = .returned (.tuple #[.string (Nm.S E1), .int .i64 E2]) ∧ Bw u w') := fun u hu => by
          have := HFo.out u hu h1 h3
          rwa [hee] at this
        subst h1
        subst h3
        clear h2 HFo hee
        go_enter Try.func15, Try.ntmps15
        go_wp2_with (first
          | (go_at_call 9; refine (HChk.out _ (Bw.refl _)).mono ?_; rintro e w1 ⟨rfl, hw1⟩)
          | (go_at_call 39; refine (HNC.out _).mono ?_; rintro e w2 ⟨rfl, hw2⟩)
          | (go_at_call 40; refine (HF2.out _ (hw1.trans hw2)).mono ?_; rintro e w3 ⟨rfl, hw3⟩))
        go_ret2
        exact ⟨rfl, (hw1.trans hw2).trans hw3⟩
      · rw [if_pos h3, Prod.mk.injEq] at hee
        obtain ⟨rfl, rfl⟩ := hee
        have q2 := Tr.i_no h3
        subst h1
        clear h2 h3 HFo
        go_enter Try.func15, Try.ntmps15
        go_wp2_with (first
          | (go_at_call 9; refine (HChk.out _ (Bw.refl _)).mono ?_; rintro e w1 ⟨rfl, hw1⟩)
          | (go_at_call 39; refine (HNC.out _).mono ?_; rintro e w2 ⟨rfl, hw2⟩))
        go_ret2
        exact ⟨rfl, hw1.trans hw2⟩
  · rw [if_pos h1, Prod.mk.injEq] at hee
    obtain ⟨rfl, rfl⟩ := hee
    have q2 := Tr.i_no h1
    clear h1 HFo
    go_enter Try.func15, Try.ntmps15
    go_wp2_with (go_at_call 9; refine (HChk.out _ (Bw.refl _)).mono ?_; rintro e w1 ⟨rfl, hw1⟩)
    go_ret2
    exact ⟨rfl, hw1⟩
end Go.Proofs.Ytjifdoneejofiab
