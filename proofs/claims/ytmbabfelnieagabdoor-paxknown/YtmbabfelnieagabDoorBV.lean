/- What Get's work does, and the program's own Get, as landed at 7a0984bd. -/
import Derived.Test.YtmbabfelnieagabDoorBU
namespace Go.Proofs.YtmbabfelnieagabDoor
open Go.RowKit Go.Deep
set_option linter.unusedVariables false
set_option linter.unusedSimpArgs false

theorem Px.lastK_all (out : List Px.Pr) : Px.lastK out out.length = out.getLast?.map (·.1) := by
  unfold Px.lastK
  rw [List.getLast?_eq_getElem?]
  split
  · rename_i h
    have : out = [] := List.eq_nil_of_length_eq_zero h
    rw [this]; rfl
  · rfl
/-- one pair onto an owned list -/
theorem wpList_pair9 {w : World} {ops : Array Oper} {rest : List Oper} {o : Oper} {a : Act} {Q : Exit → Act → World → Prop} (hgd : o.guard = none) (s x : Operand)
    (ho : o.op = .call { callee := .builtin .append, args := #[s, x], argTypes := #[32, 32] }) (B : Nat) (p : Px.Pr) (v : Value) (l : List Px.Pr) (n : Nat) (hn : l.length = n) (hs : a.eval s = v)
    (hown : w.ownsRow B 23 2 v n (Px.cellsPr l)) (g : Nat) (hx : a.eval x = .slice (some ⟨g, 0, none⟩) 1 1) (hg : w.heap[g]? = some (.cells #[.string (Nm.S p.1), .string (Nm.S p.2)] 23 (0, 0)))
    (hlen : n ≤ 1000000) (hB : B ≤ w.heap.size)
    (h : ∀ A c w', w'.ownsRow B 23 2 (.slice A (n + 1) c) (n + 1) (Px.cellsPr (l ++ [p])) → Below B w w' → wpList Tryd.prog ops Q rest (a.put o.dst (.slice A (n + 1) c)) w') : wpList Tryd.prog ops Q (o :: rest) a w := by
  obtain ⟨i0, hi0, hz0, hz1, hz2⟩ := info_parts info_pair
  refine wpList_append_own w hgd s x _ ho B 23 i0 _ 2 32 Tryd.underlying32 hi0 hz0 hz1 hz2 rfl (by decide) v n (Px.cellsPr l) hs hown ⟨g, 0, none⟩ 1 1 [.string (Nm.S p.1), .string (Nm.S p.2)] hx rfl (World.news_of_block (cs := #[_, _]) hg) (by simp [Value.oneCell']) (by unfold maxLen; omega) (by omega) hB ?_
  intro v' w' h1 h2 _
  obtain ⟨A, c, rfl⟩ := own_slice h1
  refine h A c w' ?_ ((Below.refl _ _).grown h2 hB (fun k hk => (hown.lt k hk).1))
  rw [Px.cellsPr_append]
  exact h1
/-- what Get's work has done -/
def Get1 (b : Px.B) (gat gl : Nat) (W : World) (er : Nat) (w' : World) : Prop :=
  Bx (fun x => x = gat ∨ x = gl) W w' ∧ ∃ (i : Nat) (v : Value), VarAt w' gat 3 (.int .i64 (i : Int)) ∧ VarAt w' gl 32 v ∧ (∃ m xs, w'.ownsRow W.heap.size 23 2 v m xs) ∧
    (er ≠ 0 → Px.getF b 0 [] = ([], i, er)) ∧ (er = 0 → ∃ out, Px.getF b 0 [] = (out, 0, 0) ∧ w'.ownsRow W.heap.size 23 2 v out.length (Px.cellsPr out))
set_option maxRecDepth 100000 in
set_option maxHeartbeats 4000000 in
theorem get1_any (lo gat gb gl : Nat) (A : Option Addr) (cap : Nat) (b : Px.B) (W : World) (hn : b.length ≤ 140737488355328) (hcap : b.length ≤ cap)
    (hlo1 : lo ≤ gat) (hlo2 : lo ≤ gb) (hlo3 : lo ≤ gl) (hlo : lo ≤ W.heap.size) (hne1 : gat ≠ gl) (hne2 : gb ≠ gl) (hne3 : gb ≠ gat) (hk : ∀ u, Below lo W u → KAt u) (ha : RowAt W A b.length (Px.rowF b)) (hA : ∀ g o, A = some ⟨g, o, none⟩ → 0 < b.length → g < lo)
    (va : VarAt W gat 3 (.int .i64 0)) (vb : VarAt W gb 27 (.slice A b.length cap)) (vl : VarAt W gl 32 (.slice none 0 0)) :
    Calls Tryd.prog 27 #[.pointer (some ⟨gat, 0, none⟩), .pointer (some ⟨gb, 0, none⟩), .pointer (some ⟨gl, 0, none⟩)] W fun e w' => ∃ er, Asks er e ∧ Get1 b gat gl W er w' := by
  obtain ⟨n, hnn⟩ : ∃ n, Hid (b.length = n) := ⟨_, rfl⟩
  rw [hnn.out] at hn hcap vb
  have HA : Hid (RowAt W A b.length (Px.rowF b)) := ha
  have HK : Hid (∀ u, Below lo W u → KAt u) := hk
  have HAl : Hid (∀ g o, A = some ⟨g, o, none⟩ → 0 < b.length → g < lo) := hA
  clear ha hk hA
  have la := va.lt
  have ll := vl.lt
  have lb := vb.lt
  go_enter Tryd.func27, Tryd.ntmps27
  go_wp2
  go_loopg [] n (fun gg wx => ∃ (k : Nat) (out : List Px.Pr) (v : Value), k + gg = n ∧ VarAt wx gat 3 (.int .i64 (k : Int)) ∧ VarAt wx gb 27 (.slice A n cap) ∧ Bx (fun x => x = gat ∨ x = gl) W wx ∧ Hid (Px.getF b 0 [] = Px.getF (b.drop k) k out) ∧ VarAt wx gl 32 v ∧ wx.ownsRow W.heap.size 23 2 v out.length (Px.cellsPr out) ∧ out.length ≤ 64)
  case atStart => exact ⟨0, [], _, by omega, va, vb, Bx.refl _ _, rfl, vl, World.ownsRow_nil _ _ _ _, Nat.zero_le _⟩
  case round =>
    obtain ⟨k, out, v, hkg, va2, vb2, hbx, hst, vl2, ho, h64⟩ := hrel
    have k0 : (0 : Int) ≤ (k : Int) := Int.natCast_nonneg _
    have vac := va2.cell
    have vbc := vb2.cell
    have hblo : Below lo W wr := hbx.below hlo (fun b hb => by rcases hb with rfl | rfl <;> assumption)
    have hsz := hbx.size
    cases gk with
    | zero =>
      obtain rfl : k = n := by omega
      have hE : Hid (Px.getF b 0 [] = (out, 0, 0)) := by
        show _ = _
        rw [hst.out, ← hnn.out, List.drop_length, Px.getF, dif_pos rfl]
      go_wp2
      refine bodyPost_end (results_none rfl _ _ _) rfl ?_
      exact ⟨0, .inl ⟨rfl, rfl⟩, hbx, k, v, va2, vl2, ⟨_, _, ho⟩, fun h => absurd rfl h, fun _ => ⟨out, hE.out, ho⟩⟩
    | succ q =>
      have k1 : (k : Int) < (n : Int) := by omega
      obtain ⟨R, hR⟩ : ∃ R, Hid (b.drop k = R) := ⟨_, rfl⟩
      have hRl : Hid (R.length = n - k) := by show _ = _; rw [← hR.out, List.length_drop, hnn.out]
      have hRne : R ≠ [] := fun e => by have := hRl.out; rw [e] at this; simp at this; omega
      have hstep : Hid (Px.getF b 0 [] = if out.length = 64 then ([], k, 3) else if (Px.oneF R).2.2 ≠ 0 then ([], k, (Px.oneF R).2.2) else if Px.behind (out.getLast?.map (·.1)) (Px.oneF R).1.1 = false then ([], k, 92) else if (Px.oneF R).2.1 = 0 then ([], k, 90) else Px.getF (R.drop (Px.oneF R).2.1) (k + (Px.oneF R).2.1) (out ++ [(Px.oneF R).1])) := by
        show _ = _
        rw [hst.out, hR.out, Px.getF_at hRne]
      obtain ⟨m, hm⟩ : ∃ m, Hid (out.length = m) := ⟨_, rfl⟩
      rw [hm.out] at ho h64
      obtain ⟨Al, cl, rfl⟩ := own_slice ho
      have vlc := vl2.cell
      have KK : Hid (∀ u, Bw wr u → KAt u) := fun u h => HK.out u (hblo.trans (h.mono (Nat.le_trans hlo hsz)))
      by_cases hfull : m = 64
      · have t1 : ¬ (m : Int) < 64 := by omega
        have hE : Hid (Px.getF b 0 [] = ([], k, 3)) := by show _ = _; rw [hstep.out, if_pos (by rw [hm.out]; exact hfull)]
        clear hfull
        go_wp2_with (go_at_call 28; refine (must_no _ (by first | rfl | assumption | (simp [*])) 3 3 rfl _).mono ?_; rintro e w1 ⟨rfl, hw1⟩; subst w1; unfold thrown)
        exact ⟨rfl, 3, .inr ⟨by decide, rfl⟩, hbx, k, _, va2, vl2, ⟨_, _, ho⟩, fun _ => hE.out, fun h => absurd h (by decide)⟩
      · have t1 : (m : Int) < 64 := by omega
        obtain ⟨g, o, rfl, -⟩ := rowcell HA.out (by rw [hnn.out]; omega)
        have hgl := HAl.out g o rfl (by rw [hnn.out]; omega)
        have hra : RowAt wr (some ⟨g, o, none⟩) b.length (Px.rowF b) := by
          refine RowAt.keepx HA.out hbx (fun b' o' e _ => ?_)
          cases e
          rintro (rfl | rfl) <;> omega
        have HRow : Hid (RowAt wr (some ⟨g, o + k, none⟩) R.length (Px.rowF R)) := by
          show RowAt _ _ _ _
          rw [← hR.out]
          exact rowat_drop hra k
        have HFirst : Hid (∀ c, n - k ≤ c → Calls Tryd.prog 29 #[.slice (some ⟨g, o + k, none⟩) (n - k) c] wr fun e w' => OneIn R e ∧ Bw wr w') := fun c hc => by
          have := first_any (some ⟨g, o + k, none⟩) c R (by rw [hRl.out]; omega) (by rw [hRl.out]; exact hc) (List.length_pos_iff.2 hRne) wr (KK.out _ (Bw.refl _)) HRow.out
          rw [hRl.out] at this
          exact this
        have kc : k ≤ cap := by omega
        have kcn : ¬ cap = k := by omega
        have hbl0 : lo ≤ wr.heap.size := Nat.le_trans hlo hsz
        rw [if_neg (by rw [hm.out]; exact hfull)] at hstep
        clear hfull hra
        obtain ⟨p, N, er, hO⟩ : ∃ p N er, Hid (Px.oneF R = (p, N, er)) := ⟨_, _, _, show Px.oneF R = _ from rfl⟩
        rw [hO.out] at hstep
        dsimp only at hstep
        have tok0 : Hid (wr = wr) := rfl
        by_cases h0 : er = 0
        · subst h0
          rw [if_neg (by simp)] at hstep
          have hok := Px.one_ok hO.out
          have hNk : N ≤ n - k := by rw [← hRl.out]; exact hok.2.2.2
          have hNp : 0 < N := by rw [hok.2.1]; have := Px.psize_pos p; omega
          rw [if_neg (show ¬ N = 0 by omega)] at hstep
          clear hok
          have hpr : ∀ W, Bw wr W → PrsAt W Al out := fun W h => by
            have h1 := own_keep ho h
            rw [← hm.out] at h1
            obtain ⟨A', c', e1, -, h3, -⟩ := prs_of_own h1
            cases e1
            exact h3
          have HPR : Hid (∀ W, Bw wr W → PrsAt W Al out) := hpr
          have hs1 : ((Nm.S p.1).toList) = p.1 := Nm.toList_S _
          have HRise : Hid (∀ W, Bw wr W → Calls Tryd.prog 26 #[.slice Al m cl, .agg #[.string (Nm.S p.1), .string (Nm.S p.2)]] W fun e w' => Asks (Px.riseK out m p.1) e ∧ Bw W w') := fun W h => by
            have := mrise_any Al cl m out (by rw [hm.out]; exact Nat.le_refl _) (by rw [hm.out]; omega) (Nm.S p.1) (Nm.S p.2) W (HPR.out W h)
            rw [hs1] at this
            exact this
          clear hpr
          have hla : Px.lastK out m = out.getLast?.map (·.1) := by rw [← hm.out]; exact Px.lastK_all out
          by_cases hbe : Px.behind (out.getLast?.map (·.1)) p.1 = false
          · have hr : Hid (Px.riseK out m p.1 = 92) := by show _ = _; unfold Px.riseK; rw [hla, hbe]; rfl
            have hE : Hid (Px.getF b 0 [] = ([], k, 92)) := by show _ = _; rw [hstep.out, if_pos hbe]
            clear hbe hla
            go_wp2_with (first
              | (go_at_call 28; clear tok0; refine (must_yes _ (by first | rfl | assumption | (simp [*])) _ _).mono ?_; rintro e w1 ⟨rfl, hw1⟩; subst w1)
              | (go_at_call 29; refine (HFirst.out _ (by omega)).mono ?_; rintro e w2 ⟨hI, hw2⟩; rw [OneIn, hO.out] at hI; rcases hI with ⟨h, -⟩ | ⟨-, rfl⟩; exact absurd rfl h; have vlc2 := (vl2.keep hw2 vl2.lt).cell; have hw3 : Bw w2 (w2.alloc (.cells #[.string (Nm.S p.1), .string (Nm.S p.2)] 23)) := Below.alloc (Below.refl _ _) (Nat.le_refl _) _; have vlc3 := ((vl2.keep hw2 vl2.lt).keep hw3 (vl2.keep hw2 vl2.lt).lt).cell)
              | (go_at_call 26; refine (HRise.out _ (hw2.trans hw3)).mono ?_; rintro e w4 ⟨hI, hw4⟩; rw [hr.out] at hI; rcases hI with ⟨h, -⟩ | ⟨-, rfl⟩; exact absurd h (by decide); unfold thrown))
            have hwx := hw2.trans (hw3.trans hw4)
            exact ⟨rfl, 92, .inr ⟨by decide, rfl⟩, hbx.trans (Bx.of_bw hwx), k, _, va2.keep hwx va2.lt, vl2.keep hwx vl2.lt, ⟨_, _, own_keep ho hwx⟩, fun _ => hE.out, fun h => absurd h (by decide)⟩
          · have hbt : Px.behind (out.getLast?.map (·.1)) p.1 = true := by cases h : Px.behind (out.getLast?.map (·.1)) p.1; exact absurd h hbe; rfl
            have hr : Hid (Px.riseK out m p.1 = 0) := by show _ = _; unfold Px.riseK; rw [hla, if_pos hbt]
            have hst2 : Hid (Px.getF b 0 [] = Px.getF (b.drop (k + N)) (k + N) (out ++ [p])) := by show _ = _; rw [hstep.out, if_neg hbe, ← hR.out, List.drop_drop]
            clear hbe hla hbt
            go_wp2_with (first
              | (go_at_call 28; clear tok0; refine (must_yes _ (by first | rfl | assumption | (simp [*])) _ _).mono ?_; rintro e w1 ⟨rfl, hw1⟩; subst w1)
              | (go_at_call 29; refine (HFirst.out _ (by omega)).mono ?_; rintro e w2 ⟨hI, hw2⟩; rw [OneIn, hO.out] at hI; rcases hI with ⟨h, -⟩ | ⟨-, rfl⟩; exact absurd rfl h; have vlc2 := (vl2.keep hw2 vl2.lt).cell; have hw3 : Bw w2 (w2.alloc (.cells #[.string (Nm.S p.1), .string (Nm.S p.2)] 23)) := Below.alloc (Below.refl _ _) (Nat.le_refl _) _; have vlc3 := ((vl2.keep hw2 vl2.lt).keep hw3 (vl2.keep hw2 vl2.lt).lt).cell)
              | (go_at_call 26; refine (HRise.out _ (hw2.trans hw3)).mono ?_; rintro e w4 ⟨hI, hw4⟩; rw [hr.out] at hI; rcases hI with ⟨-, rfl⟩ | ⟨h, -⟩; rotate_left; exact absurd rfl h; refine Hid.out ?_))
            refine Lib.hid ?_
            have hwx := hw2.trans (hw3.trans hw4)
            have hg4 := (hw4.block w2.heap.size (by rw [alloc_size9]; omega)).trans (World.alloc_heap_new w2 (.cells #[.string (Nm.S p.1), .string (Nm.S p.2)] 23))
            have p41 := cell_of_row w4 _ 0 _ _ _ hg4
            have p42 := cell_of_row w4 _ 1 _ _ _ hg4
            have va4 := va2.keep hwx va2.lt
            have vb4 := vb2.keep hwx vb2.lt
            have vl4 := vl2.keep hwx vl2.lt
            have ho4 := own_keep ho hwx
            have hbx4 : Bx (fun x => x = gat ∨ x = gl) W w4 := hbx.trans (Bx.of_bw hwx)
            have hsz4 := hbx4.size
            have vlc4 := vl4.cell
            clear vlc2 vlc3 vlc vac vbc va2 vb2 vl2 ho hbx hwx hw2 hw3 hw4 hg4 hblo HPR HRise HFirst HRow
            have hq4 : (w4.alloc (.cells #[.string (Nm.S p.1), .string (Nm.S p.2)] 23)).heap[w4.heap.size]? = some (.cells #[.string (Nm.S p.1), .string (Nm.S p.2)] 23 (0, 0)) := heap_alloc_new w4 _
            have hba4 : Below W.heap.size w4 (w4.alloc (.cells #[.string (Nm.S p.1), .string (Nm.S p.2)] 23)) := Below.alloc (Below.refl _ _) hsz4 _
            have hoa4 := ho4.alloc (.cells #[.string (Nm.S p.1), .string (Nm.S p.2)] 23)
            go_wp2_with (at_builtin; refine wpList_pair9 (by rfl) _ _ (by rfl) W.heap.size p _ out m hm.out (by rfl) hoa4 w4.heap.size (by rfl) hq4 (by omega) (Nat.le_trans hsz4 hba4.size) ?_; intro A5 c5 w5 ho5 hb5; refine Hid.out ?_)
            refine Lib.hid ?_
            have hb45 := hba4.trans hb5
            have va5 := va4.keep hb45 la
            have vb5 := vb4.keep hb45 lb
            have vl5 := vl4.keep hb45 ll
            have hbx5 := bx_below hbx4 hb45
            have vac5 := va5.cell
            have vaf5 := va5.free
            have vlc5 := vl5.cell
            have vlf5 := vl5.free
            have vac6 := (va5.other (.slice A5 (m + 1) c5) hne1).cell
            have vaf6 := (va5.other (.slice A5 (m + 1) c5) hne1).free
            have hNi : (0 : Int) ≤ (N : Int) := Int.natCast_nonneg _
            have hkN : (k : Int) + (N : Int) ≤ 140737488355328 := by omega
            clear va4 vb4 vl4 ho4 hoa4 hbx4 hb45 hb5 hba4 hq4 p41 p42 vlc4
            go_wp2
            go_roundg (n - (k + N))
            case measure => omega
            case rel => exact ⟨k + N, out ++ [p], .slice A5 (m + 1) c5, by omega, by have := (va5.other (.slice A5 (m + 1) c5) hne1).set (.int .i64 ((k : Int) + (N : Int))); rw [Int.natCast_add]; exact this, (vb5.other _ hne2).other _ hne3, (hbx5.put (.inr rfl)).put (.inl rfl), hst2, (vl5.set _).other _ (Ne.symm hne1), by rw [List.length_append, hm.out]; exact own_set9 (own_set9 ho5 ll) la, by rw [List.length_append, hm.out]; show m + 1 ≤ 64; omega⟩
        · have hE : Hid (Px.getF b 0 [] = ([], k, er)) := by show _ = _; rw [hstep.out, if_pos h0]
          go_wp2_with (first
            | (go_at_call 28; clear tok0; refine (must_yes _ (by first | rfl | assumption | (simp [*])) _ _).mono ?_; rintro e w1 ⟨rfl, hw1⟩; subst w1)
            | (go_at_call 29; refine (HFirst.out _ (by omega)).mono ?_; rintro e w2 ⟨hI, hw2⟩; rw [OneIn, hO.out] at hI; rcases hI with ⟨-, rfl⟩ | ⟨h, -⟩; rotate_left; exact absurd h h0; unfold thrown))
          exact ⟨rfl, er, .inr ⟨h0, rfl⟩, hbx.trans (Bx.of_bw hw2), k, _, va2.keep hw2 va2.lt, vl2.keep hw2 vl2.lt, ⟨_, _, own_keep ho hw2⟩, fun _ => hE.out, fun h => absurd h h0⟩
/-- what Get answers -/
def GetOwn (b : Px.B) (base : Nat) (e : Ending) (w' : World) : Prop := ∃ v, e = .returned (.tuple #[v, .int .i64 ((Px.getF b 0 []).2.1 : Int), .int .i64 ((Px.getF b 0 []).2.2 : Int)]) ∧ w'.ownsRow base 23 2 v (Px.getF b 0 []).1.length (Px.cellsPr (Px.getF b 0 []).1)
set_option maxRecDepth 100000 in
set_option maxHeartbeats 2000000 in
theorem pget_own (A : Option Addr) (cap : Nat) (b : Px.B) (hn : b.length ≤ 140737488355328) (hcap : b.length ≤ cap) (w : World) (hk : KAt w) (ha : RowAt w A b.length (Px.rowF b)) :
    Calls Tryd.prog 15 #[.slice A b.length cap] w fun e w' => GetOwn b w.heap.size e w' ∧ Bw w w' := by
  have hmf : ∀ (fn : Fn) (first cap : Array Value) (w : World), (Instr.makeFunc fn first cap).run Tryd.prog w = .ok (.func fn first cap) w := fun _ _ _ _ => rfl
  obtain ⟨W1, hW1⟩ : ∃ W, Hid (w.alloc (.cells #[.slice A b.length cap] 27) = W) := ⟨_, rfl⟩
  obtain ⟨W2, hW2⟩ : ∃ W, Hid (W1.alloc (.cells #[.slice none 0 0] 32) = W) := ⟨_, rfl⟩
  obtain ⟨W3, hW3⟩ : ∃ W, Hid (W2.alloc (.cells #[.int .i64 0] 3) = W) := ⟨_, rfl⟩
  have s1 : Hid (W1.heap.size = w.heap.size + 1) := by show _ = _; rw [← hW1.out]; exact alloc_size9 _ _
  have s2 : Hid (W2.heap.size = w.heap.size + 2) := by show _ = _; rw [← hW2.out, alloc_size9, s1.out]
  have s3 : Hid (W3.heap.size = w.heap.size + 3) := by show _ = _; rw [← hW3.out, alloc_size9, s2.out]
  have b1 : Bw w W1 := by rw [← hW1.out]; exact Below.alloc (Below.refl _ _) (Nat.le_refl _) _
  have b2 : Bw W1 W2 := by rw [← hW2.out]; exact Below.alloc (Below.refl _ _) (Nat.le_refl _) _
  have b3 : Bw W2 W3 := by rw [← hW3.out]; exact Below.alloc (Below.refl _ _) (Nat.le_refl _) _
  have b4 : Bw W3 (W3.alloc (.cells #[.int .i64 0] 28)) := Below.alloc (Below.refl _ _) (Nat.le_refl _) _
  have b14 : Bw w (W3.alloc (.cells #[.int .i64 0] 28)) := b1.trans (b2.trans (b3.trans b4))
  have s4 : Hid ((W3.alloc (.cells #[.int .i64 0] 28)).heap.size = w.heap.size + 4) := by show _ = _; rw [alloc_size9, s3.out]
  have hwork : Works 27 #[.pointer (some ⟨w.heap.size + 2, 0, none⟩), .pointer (some ⟨w.heap.size, 0, none⟩), .pointer (some ⟨w.heap.size + 1, 0, none⟩)] W3 (Get1 b (w.heap.size + 2) (w.heap.size + 1) (W3.alloc (.cells #[.int .i64 0] 28))) := by
    have v1 : VarAt W1 w.heap.size 27 (.slice A b.length cap) := by rw [← hW1.out]; exact VarAt.new _ _ _
    have v2 : VarAt W2 (w.heap.size + 1) 32 (.slice none 0 0) := by rw [← hW2.out, ← s1.out]; exact VarAt.new _ _ _
    have v3 : VarAt W3 (w.heap.size + 2) 3 (.int .i64 0) := by rw [← hW3.out, ← s2.out]; exact VarAt.new _ _ _
    have he : VarAt (W3.alloc (.cells #[.int .i64 0] 28)) W3.heap.size 28 (.int .i64 0) := VarAt.new _ _ _
    refine (get1_any w.heap.size (w.heap.size + 2) w.heap.size (w.heap.size + 1) A cap b _ hn hcap (by omega) (Nat.le_refl _) (by omega) b14.size (by omega) (by omega) (by omega) (fun u h => hk.keep (Below.trans b14 h)) (ha.keep b14) (fun g o e hl => by obtain ⟨g', o', e', hc⟩ := rowcell ha hl; rw [e'] at e; cases e; exact block_lt_of_cell (hc 0 _ (List.getElem?_eq_getElem hl))) (v3.more _) ((v1.keep (b2.trans b3) v1.lt).more _) ((v2.keep b3 v2.lt).more _)).mono ?_
    rintro e w' ⟨er, hA, hR⟩
    have he2 : VarAt w' W3.heap.size 28 (.int .i64 0) := (hR.1.block _ he.lt (by rw [s3.out]; omega)).trans he
    exact ⟨er, hA, ⟨he2.cell, he2.free⟩, hR⟩
  have HC := caught_any 27 _ W3 _ (enters_of Tryd.func27 (by kernel_rfl) rfl) hwork
  have HH : Calls Tryd.prog 19 #[.func (.func 27) #[] #[.pointer (some ⟨w.heap.size + 2, 0, none⟩), .pointer (some ⟨w.heap.size, 0, none⟩), .pointer (some ⟨w.heap.size + 1, 0, none⟩)]] W3 fun e w' => ∃ (i : Nat) (v : Value) (er : Nat), e = .returned (.int .i64 (er : Int)) ∧ Bw w w' ∧ VarAt w' (w.heap.size + 2) 3 (.int .i64 (i : Int)) ∧ VarAt w' (w.heap.size + 1) 32 v ∧ (∃ m xs, w'.ownsRow w.heap.size 23 2 v m xs) ∧
      Hid ((er ≠ 0 → Px.getF b 0 [] = ([], i, er)) ∧ (er = 0 → ∃ out, Px.getF b 0 [] = (out, 0, 0) ∧ w'.ownsRow w.heap.size 23 2 v out.length (Px.cellsPr out))) := by
    refine HC.mono ?_
    rintro e w' ⟨er, w1, rfl, ⟨h2, i, v, h3, h4, ⟨m, xs, h5⟩, h6, h7⟩, rfl⟩
    have hb5 : Below w.heap.size (W3.alloc (.cells #[.int .i64 0] 28)) w1 := h2.below b14.size (fun b hb => by rcases hb with rfl | rfl <;> omega)
    have low : ∀ {n : Nat} {ys : List Value}, w1.ownsRow (W3.alloc (.cells #[.int .i64 0] 28)).heap.size 23 2 v n ys → (w1.setCell ⟨W3.heap.size, 0, none⟩ (.int .i64 (er : Int))).ownsRow w.heap.size 23 2 v n ys := fun h => own_lower9 (own_set9 h (by rw [alloc_size9]; omega)) b14.size
    refine ⟨i, v, er, rfl, (Below.trans b14 hb5).setCell (by show _ ≤ W3.heap.size; rw [s3.out]; omega) _, h3.other _ (by rw [s3.out]; omega), h4.other _ (by rw [s3.out]; omega), ⟨m, xs, low h5⟩, h6, fun h => ?_⟩
    obtain ⟨out, h8, h9⟩ := h7 h
    exact ⟨out, h8, low h9⟩
  clear HC hwork
  rw [← hW3.out, ← hW2.out, ← hW1.out] at HH
  obtain ⟨n, hnn⟩ : ∃ n, Hid (b.length = n) := ⟨_, rfl⟩
  rw [hnn.out] at hn HH ⊢
  clear hcap ha b14 b4 b3 b2 b1
  go_enter Tryd.func15, Tryd.ntmps15
  go_wp2_with (go_at_call 19; refine HH.mono ?_; rintro e w5 ⟨i, v, er, rfl, hw5, va5, vb5, ⟨m, xs, ho5⟩, hE⟩; refine Hid.out ?_)
  refine Lib.hid ?_
  obtain ⟨Av, cv, rfl⟩ := own_slice ho5
  have vac := va5.cell
  have vbc := vb5.cell
  by_cases h0 : er = 0
  · obtain ⟨out, hE2, hE3⟩ := hE.out.2 h0
    have hm : Hid (out.length = m) := by
      show _ = _
      rcases own_slice hE3 with ⟨A', c', e⟩
      cases e; rfl
    have e0 : ((er : Int) != 0) = false := by rw [bne_eq_false_iff_eq]; omega
    clear h0
    go_wp2
    refine bodyPost_ret (results_tmp3 rfl _ _ _) rfl ?_
    unfold GetOwn
    rw [hE2]
    refine ⟨⟨_, rfl, ?_⟩, hw5⟩
    exact hE3
  · have hE2 := hE.out.1 h0
    have e0 : ((er : Int) != 0) = true := by rw [bne_iff_ne]; omega
    go_wp2
    go_quiet (fail)
    go_wp2
    refine bodyPost_ret (results_tmp3 rfl _ _ _) rfl ?_
    unfold GetOwn
    rw [hE2]
    exact ⟨⟨_, rfl, World.ownsRow_nil _ _ _ _⟩, hw5.trans (Bw.drewN _ _)⟩
theorem pget_any (A : Option Addr) (cap : Nat) (b : Px.B) (hn : b.length ≤ 140737488355328) (hcap : b.length ≤ cap) (w : World) (hk : KAt w) (ha : RowAt w A b.length (Px.rowF b)) :
    Calls Tryd.prog 15 #[.slice A b.length cap] w fun e w' => GetSays b e w' ∧ Bw w w' :=
  (pget_own A cap b hn hcap w hk ha).mono fun e w' ⟨⟨v, h1, h2⟩, h3⟩ => ⟨⟨v, h1, prsis_own h2⟩, h3⟩
end Go.Proofs.YtmbabfelnieagabDoor
