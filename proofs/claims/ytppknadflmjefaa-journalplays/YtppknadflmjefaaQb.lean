/- Layer 15: a list of records of one's own that grows; the document's split. -/
import Derived.Test.YtppknadflmjefaaQa
import Derived.Test.YtppknadflmjefaaWT
import Derived.Laws.BitsAllLaws
namespace Go.Proofs.Ytppknadflmjefaa
open Go.RowKit Go.Deep Go.Maps
set_option linter.unusedVariables false
set_option linter.unusedSimpArgs false

/-- a list of records of one's own: its slices, and their bytes, in blocks made since base -/
def LstAt (base : Nat) (w : World) (l : Value) (pre : List (List Nat)) : Prop := ∃ vs, w.ownsRow base 37 1 l pre.length vs ∧ RowsV w vs pre ∧ RIn (fun b => base ≤ b) vs ∧ RIn (fun b => ¬ l.ownBlock = some b) vs
theorem LstAt.nil (base : Nat) (w : World) : LstAt base w (.slice none 0 0) [] := ⟨[], World.ownsRow_nil _ _ _ _, RowsV.nil _, fun v hv => (by cases hv), fun v hv => (by cases hv)⟩
theorem LstAt.keepx {P : Nat → Prop} {base : Nat} {w w' : World} {l : Value} {pre : List (List Nat)} (h : LstAt base w l pre) (k : Bx P w w') (hP : ∀ b, base ≤ b → b < w.heap.size → ¬ P b) : LstAt base w' l pre := by
  obtain ⟨vs, h1, h2, h3, h4⟩ := h
  refine ⟨vs, own_keepx15 h1 k (fun b hb => hP b (own_ge h1 b hb) ?_), h2.keepx k (fun v hv b o n c e h0 => hP b (h3 v hv b o n c e h0) (h2.low v hv b o n c e h0)), h3, h4⟩
  rcases h1.2 with ⟨rfl, _⟩ | ⟨g, cap, cur, rfl, _, hg, _⟩
  · cases hb
  · cases hb; exact (Array.getElem?_eq_some_iff.1 hg).1
theorem LstAt.keep {base : Nat} {w w' : World} {l : Value} {pre : List (List Nat)} (h : LstAt base w l pre) (k : Bw w w') : LstAt base w' l pre := h.keepx (P := fun _ => False) (Bx.of_bw k) (fun _ _ _ h => h)
theorem LstAt.low {base base' : Nat} {w : World} {l : Value} {pre : List (List Nat)} (h : LstAt base w l pre) (k : base' ≤ base) : LstAt base' w l pre := by
  obtain ⟨vs, h1, h2, h3, h4⟩ := h
  exact ⟨vs, own_low15 h1 k, h2, h3.mono (fun b hb => Nat.le_trans k hb), h4⟩
theorem LstAt.mat {base : Nat} {w : World} {l : Value} {pre : List (List Nat)} (h : LstAt base w l pre) : ∃ A c vs, l = .slice A pre.length c ∧ pre.length ≤ c ∧ (A = none → c = 0) ∧ MatV w A pre.length vs pre ∧ RIn (fun b => base ≤ b) vs := by
  obtain ⟨vs, h1, h2, h3, h4⟩ := h
  obtain ⟨A, c, e, e1, e2, e3, _⟩ := mat_of_own h1 h2
  exact ⟨A, c, vs, e, e1, e2, e3, h3⟩
/-- it grew by a record -/
theorem LstAt.push {base : Nat} {w W w2 : World} {l : Value} {vs : List Value} {pre : List (List Nat)} {r : List Nat} {rv : Value} {g2 c2 : Nat}
    (h1 : w.ownsRow base 37 1 l pre.length vs) (h2 : RowsV w vs pre) (h3 : RIn (fun b => base ≤ b) vs) (h4 : RIn (fun b => ¬ l.ownBlock = some b) vs) (hbase : base ≤ w.heap.size)
    (k : Bw w W) (hv : RowV W rv r) (hvin : VIn (fun b => w.heap.size ≤ b) rv)
    (own2 : w2.ownsRow base 37 1 (.slice (some ⟨g2, 0, none⟩) (pre.length + 1) c2) (pre.length + 1) (vs ++ [rv])) (gr : (W.alloc (.cells #[rv] 37)).grownBy w2 l.ownBlock) (at2 : l.ownBlock = some g2 ∨ g2 = (W.alloc (.cells #[rv] 37)).heap.size) :
    LstAt base w2 (.slice (some ⟨g2, 0, none⟩) (pre.length + 1) c2) (pre ++ [r]) ∧ Bx (fun b => l.ownBlock = some b) w w2 := by
  have kA : Bw W (W.alloc (.cells #[rv] 37)) := Below.alloc (Bw.refl _) (Nat.le_refl _) _
  have hgx := bx_grown gr
  have hlow : ∀ b, l.ownBlock = some b → b < w.heap.size := fun b hb => by
    rcases h1.2 with ⟨rfl, _⟩ | ⟨g, cap, cur, rfl, _, hg, _⟩
    · cases hb
    · cases hb; exact (Array.getElem?_eq_some_iff.1 hg).1
  have hvl := hv.low
  refine ⟨⟨vs ++ [rv], by rw [List.length_append]; exact own2, RowsV.append ?_ (RowsV.one ?_), h3.append ?_, RIn.append ?_ ?_⟩, (Bx.of_bw (k.trans kA)).trans hgx⟩
  · exact ((h2.keep k).keep kA).keepx hgx h4
  · exact (hv.keep kA).keepx hgx (fun b o n c e h0 hb => by have := hvin b o n c e h0; have := hlow b hb; omega)
  · exact fun u hu b o n c e h0 => by
      rw [List.mem_singleton.1 hu] at e
      have := hvin b o n c e h0; omega
  · exact fun u hu b o n c e h0 hb => by
      have e2 : g2 = b := by simpa [Value.ownBlock] using hb
      have hb1 := h2.low u hu b o n c e h0
      rcases at2 with h | h
      · rw [e2] at h; exact h4 u hu b o n c e h0 h
      · have := (k.trans kA).size; omega
  · exact fun u hu b o n c e h0 hb => by
      have e2 : g2 = b := by simpa [Value.ownBlock] using hb
      rw [List.mem_singleton.1 hu] at e
      have hb1 := hvl b o n c e h0
      have hb2 := hvin b o n c e h0
      rcases at2 with h | h
      · have := hlow g2 h; omega
      · have := kA.size; rw [size_alloc] at h; omega
/-- a row's piece -/
theorem row_sub15 {w : World} {b o n : Nat} {f : Nat → Int} (h : RowAt w (some ⟨b, o, none⟩) n f) {p q : Nat} (hpq : p + q ≤ n) : RowAt w (some ⟨b, o + p, none⟩) q (fun i => f (p + i)) := by
  refine ⟨?_, fun i => h.2 _⟩
  by_cases h0 : q = 0
  · exact .inl h0
  · obtain ⟨b', o', e, hc⟩ := h.at (k := 0) (by omega)
    cases e
    exact .inr ⟨b, o + p, rfl, fun i hi => by have := hc (p + i) (by omega); rwa [← Nat.add_assoc] at this⟩
/-- what was appended onto nothing is a row -/
theorem rowv_of_own {W : World} {base m : Nat} {v : Value} {f : Nat → Int} (hf : ∀ i, 0 ≤ f i ∧ f i < 256) (hm : m ≤ 140737488355328) (h : W.ownsRow base 5 1 v m (cellsU f m)) : RowV W v (Jl.data f m) ∧ VIn (fun b => base ≤ b) v := by
  obtain ⟨A1, c1, e1, hc1, hc2, hr1, hA1⟩ := row_of_own hf h
  have hn1 : A1 = none → c1 = 0 := fun e => by
    rcases h.2 with ⟨e2, _⟩ | ⟨g, cap, cur, e2, _⟩
    · rw [e1] at e2; cases e2; rfl
    · rw [e1] at e2; cases e2; cases e
  refine ⟨⟨A1, c1, by rw [Jl.data_len]; exact e1, by rw [Jl.data_len]; exact hc1, hn1, by rw [Jl.data_len]; exact hm, ?_⟩, fun b o n c e h0 => by rw [e1] at e; cases e; exact (hA1 _ rfl).1⟩
  rw [Jl.data_len]
  refine ⟨?_, Jl.rowL_bd (Jl.data_byt hf m)⟩
  rcases hr1.1 with h0 | ⟨b', o', e', hc'⟩
  · exact .inl h0
  · exact .inr ⟨b', o', e', fun i hi => by rw [hc' i hi, Jl.rowL_data f (fun i => (hf i).1) hi]⟩
theorem RowV.one15 {w : World} {v : Value} {l : List Nat} (h : RowV w v l) : v.oneCell' = true := by obtain ⟨A, c, rfl, _⟩ := h; rfl
/-- how split ends -/
def SplV (w : World) (D : List Nat) (e : Ending) (w' : World) : Prop := Bw w w' ∧ ((Jl.spl D = none ∧ e = .returned (.tuple #[.slice none 0 0, .bool false])) ∨ ∃ L v, Jl.spl D = some L ∧ e = .returned (.tuple #[v, .bool true]) ∧ LstAt w.heap.size w' v L)
/-- how far split has come -/
structure SplLoop (w wr : World) (f : Nat → Int) (n gb o0 : Nat) (l : Value) (A : Option Addr) (p q : Nat) (pre : List (List Nat)) : Prop where
  pq : p + q = n
  at_ : 0 < q → A = some ⟨gb, o0 + p, none⟩
  few : pre.length ≤ p
  lst : LstAt w.heap.size wr l pre
  spl : Jl.spl (Jl.data f n) = (Jl.spl (Jl.data (fun i => f (p + i)) q)).map (fun l => pre ++ l)
  bw : Bw w wr
theorem i64_ofInt15 (a : Nat) (ha : a < 9223372036854775808) : (BitVec.ofInt 64 (a : Int)).toNat = a := by
  rw [BitVec.toNat_ofInt]; omega
theorem i64_or_nat15 (a b : Nat) (ha : a < 9223372036854775808) (hb : b < 9223372036854775808) : bits .or .i64 (a : Int) (b : Int) = ((a ||| b : Nat) : Int) := by
  have hlt : a ||| b < 2 ^ 63 := Nat.or_lt_two_pow (by omega) (by omega)
  unfold bits
  show IntKind.i64.wrap ((BitVec.ofInt 64 (a : Int) ||| BitVec.ofInt 64 (b : Int)).toNat : Int) = _
  rw [BitVec.toNat_or, i64_ofInt15 a ha, i64_ofInt15 b hb, IntKind.wrap_i64]
  omega
theorem num_two15 {y0 y1 : Int} (a0 : 0 ≤ y0) (a1 : y0 < 256) (b0 : 0 ≤ y1) (b1 : y1 < 256) : bits .or .i64 (y0 * 256) y1 = ((y0.toNat * 256 + y1.toNat : Nat) : Int) := by
  obtain ⟨n, rfl⟩ := Int.eq_ofNat_of_zero_le a0
  obtain ⟨c, rfl⟩ := Int.eq_ofNat_of_zero_le b0
  rw [show (n : Int) * 256 = ((n * 256 : Nat) : Int) by omega, i64_or_nat15 _ _ (by omega) (by omega)]
  have h := Nat.shiftLeft_add_eq_or_of_lt (i := 8) (b := c) (by omega) n
  rw [Nat.shiftLeft_eq] at h
  rw [← h]
  simp
set_option maxRecDepth 100000 in
set_option maxHeartbeats 4000000 in
theorem rsplit15_any (gb o0 n c : Nat) (f : Nat → Int) (w : World) (hn : n ≤ 4194304) (hnc : n ≤ c) (hc : c ≤ 9223372036854775807) (h : RowAt w (some ⟨gb, o0, none⟩) n f) :
    Calls Try.prog 57 #[.slice (some ⟨gb, o0, none⟩) n c] w fun e w' => SplV w (Jl.data f n) e w' := by
  obtain ⟨i0, hi0, hz0, hz1, hz2⟩ := info_parts info_row15
  obtain ⟨i1, hi1, hy0, hy1, hy2⟩ := info_parts info_u8
  have hf : Hid (∀ i, 0 ≤ f i ∧ f i < 256) := h.2
  have hrow : Hid (∀ p q, p + q ≤ n → RowAt w (some ⟨gb, o0 + p, none⟩) q (fun i => f (p + i))) := fun p q hpq => row_sub15 h hpq
  clear h
  have hL0 : SplLoop w w f n gb o0 (.slice none 0 0) (some ⟨gb, o0, none⟩) 0 n [] := by
    refine ⟨Nat.zero_add n, fun _ => rfl, Nat.le_refl _, LstAt.nil _ _, ?_, Bw.refl _⟩
    have e : (fun i => f (0 + i)) = f := funext fun i => by rw [Nat.zero_add]
    rw [e]
    cases Jl.spl (Jl.data f n) <;> rfl
  go_enter Try.func57, Try.ntmps57
  go_wp2
  go_loopw [0, 4] (fun s0 l wr => ∃ A p q c pre, s0 = .slice A q c ∧ q ≤ c ∧ c ≤ 9223372036854775807 ∧ SplLoop w wr f n gb o0 l A p q pre) (fun s0 _ wr => match s0 with | .slice _ n _ => n | _ => 0)
  case atStart => exact ⟨_, _, _, _, _, rfl, hnc, hc, hL0⟩
  case round =>
    obtain ⟨A, p, q, c, pre, rfl, hqc, hcc, hI⟩ := hrel
    clear hL0
    have hpq := hI.pq
    have q0 : q ≤ 4194304 := by omega
    clear hpq
    by_cases hq : 0 < q
    · have hq0 : (0 : Int) < (q : Int) := by omega
      obtain rfl := hI.at_ hq
      by_cases hq2 : q < 2
      · obtain rfl : q = 1 := by omega
        have hend : Hid (SplV w (Jl.data f n) (.returned (.tuple #[.slice none 0 0, .bool false])) wr) := ⟨hI.bw, .inl ⟨by rw [hI.spl]; rfl, rfl⟩⟩
        clear hI
        go_wp2
        go_ret2
        exact hend.out
      · have hq2' : ¬ (q : Int) < 2 := by omega
        obtain ⟨k, hk⟩ : ∃ k, Hid (q = k + 2) := ⟨q - 2, by refine (?_ : _ = _); omega⟩
        have hs := Jl.spl_data (fun i => f (p + i)) k
        have hR := (hrow.out p q (by have := hI.pq; omega)).keep hI.bw
        obtain ⟨b', o', e', hcell⟩ := hR.at hq
        cases e'
        have y0 := hcell 0 (by omega)
        have y1 := hcell 1 (by omega)
        rw [Nat.add_zero] at y0
        have f0 := hf.out (p + 0)
        have f1 := hf.out (p + 1)
        have hnum := Jl.num_two (fun i => f (p + i))
        obtain ⟨x0, hx0⟩ : ∃ x, Hid (f (p + 0) = x) := ⟨_, rfl⟩
        obtain ⟨x1, hx1⟩ : ∃ x, Hid (f (p + 1) = x) := ⟨_, rfl⟩
        rw [hx0.out] at y0 f0 hnum
        rw [hx1.out] at y1 f1 hnum
        obtain ⟨a0, a1⟩ := f0
        obtain ⟨b0, b1⟩ := f1
        obtain ⟨m, hm⟩ : ∃ m, Hid (Jl.num (fun i => f (p + i)) 2 = m) := ⟨_, rfl⟩
        have hor : bits .or .i64 (x0 * 256) x1 = (m : Int) := by rw [num_two15 a0 a1 b0 b1, ← hnum, hm.out]
        have hw1 : IntKind.i64.wrap (x0 * 256) = x0 * 256 := by rw [IntKind.wrap_i64]; omega
        have hm6 : m < 65536 := by rw [← hm.out, hnum]; omega
        rw [hm.out] at hs
        clear hcell hnum hR
        have h2q : (1 : Int) < (q : Int) := by omega
        go_upto_region 6 with fail
        go_quiet (fail)
        obtain ⟨W, hW⟩ : ∃ W, W = wr.drewN nq := ⟨_, rfl⟩
        rw [← hW]
        have kW : Bw wr W := by rw [hW]; exact Bw.drewN _ _
        clear hW y0 y1 hor hw1 a0 a1 b0 b1 h2q hq2' hq0
        have k0 : (0 : Int) ≤ (m : Int) := Int.natCast_nonneg _
        by_cases hmk : m ≤ k
        · rw [if_pos hmk] at hs
          have HS : Hid (Jl.spl (Jl.data (fun i => f (p + i)) q) = Option.map (fun l => Jl.data (fun i => f (p + (2 + i))) m :: l) (Jl.spl (Jl.data (fun i => f (p + (2 + m + i))) (k - m)))) := by rw [hk.out]; exact hs
          have hge : ¬ (q : Int) - 2 < (m : Int) := by have := hk.out; omega
          have hge2 : (2 : Int) + (m : Int) ≤ (q : Int) := by have := hk.out; omega
          have hge3 : (2 : Int) + (m : Int) ≤ (c : Int) := by have := hk.out; omega
          obtain ⟨vs, o1, o2, o3, o4⟩ := hI.lst
          have HOwn : Hid (∀ u, Bw W u → Hid (u.ownsRow w.heap.size 37 1 u4 pre.length vs)) := fun u ku => own_keep o1 (kW.trans ku)
          have few1 : Hid (pre.length + 1 ≤ maxLen) := by have h1 := hI.few; have h2 := hI.pq; show _ ≤ _; unfold maxLen; omega
          have few2 : Hid ((pre.length + 1) * 24 ≤ 140737488355328) := by have h1 := hI.few; have h2 := hI.pq; show _ ≤ _; omega
          have hbs : w.heap.size ≤ W.heap.size := Nat.le_trans hI.bw.size kW.size
          have HBs : Hid (∀ u, Bw W u → ∀ o, w.heap.size ≤ (u.alloc o).heap.size) := fun u ku o => by rw [size_alloc]; have := ku.size; omega
          have hmx : Hid (0 + m ≤ maxLen) := by show _ ≤ _; unfold maxLen; omega
          have hmb : Hid ((0 + m) * 1 ≤ 140737488355328) := by show _ ≤ _; omega
          have HRV : Hid (∀ u v, u.ownsRow W.heap.size 5 1 v (0 + m) ([] ++ cellsU (fun i => f (p + (2 + i))) m) → RowV u v (Jl.data (fun i => f (p + (2 + i))) m) ∧ VIn (fun b => W.heap.size ≤ b) v) := fun u v hu => by
            rw [Nat.zero_add, List.nil_append] at hu
            exact rowv_of_own (fun i => hf.out _) (by omega) hu
          have HPush : Hid (∀ (W1 : World) (rv : Value) (g2 c2 : Nat) (w2 : World), Bw W W1 → RowV W1 rv (Jl.data (fun i => f (p + (2 + i))) m) → VIn (fun b => W.heap.size ≤ b) rv → w2.ownsRow w.heap.size 37 1 (.slice (some ⟨g2, 0, none⟩) (pre.length + 1) c2) (pre.length + 1) (vs ++ [rv]) → (W1.alloc (.cells #[rv] 37)).grownBy w2 u4.ownBlock → (u4.ownBlock = some g2 ∨ g2 = W1.heap.size + 1) → LstAt w.heap.size w2 (.slice (some ⟨g2, 0, none⟩) (pre.length + 1) c2) (pre ++ [Jl.data (fun i => f (p + (2 + i))) m]) ∧ Bw w w2) := fun W1 rv g2 c2 w2 k1 hv hvin own2 gr at2 => by
            obtain ⟨h1, h2⟩ := LstAt.push (own_keep o1 kW) (o2.keep kW) o3 o4 hbs k1 hv hvin own2 gr (by rw [size_alloc]; exact at2)
            exact ⟨h1, Below.trans (hI.bw.trans kW) (h2.below hbs (fun b hb => own_ge o1 b hb))⟩
          have HLoop : Hid (∀ l2 w2 A2 q2 c2, LstAt w.heap.size w2 l2 (pre ++ [Jl.data (fun i => f (p + (2 + i))) m]) → Bw w w2 → q2 + (2 + m) = q → q2 ≤ c2 → c2 ≤ 9223372036854775807 → (0 < q2 → A2 = some ⟨gb, o0 + p + (2 + m), none⟩) → ∃ A p q c pre, Value.slice A2 q2 c2 = .slice A q c ∧ q ≤ c ∧ c ≤ 9223372036854775807 ∧ SplLoop w w2 f n gb o0 l2 A p q pre) := fun l2 w2 A2 q2 c2 hl hb hq2 hqc2 hc2 hA2 => by
            refine ⟨A2, p + (2 + m), q2, c2, _, rfl, hqc2, hc2, ⟨by have := hI.pq; omega, fun h => by rw [hA2 h, Nat.add_assoc], ?_, hl, ?_, hb⟩⟩
            · rw [List.length_append]; have := hI.few; simp; omega
            · rw [hI.spl, HS.out]
              have e1 : k - m = q2 := by have := hk.out; omega
              have e2 : (fun i => f (p + (2 + m + i))) = fun i => f (p + (2 + m) + i) := funext fun i => by rw [Nat.add_assoc p]
              rw [e1, e2]
              cases Jl.spl (Jl.data (fun i => f (p + (2 + m) + i)) q2) <;> simp
          have HR0 : Hid (∀ u, Bw W u → RowAt u (some ⟨gb, o0 + p + 2, none⟩) m (fun i => f (p + (2 + i)))) := fun u ku => by
            have h1 := (hrow.out (p + 2) m (by have := hI.pq; have := hk.out; omega)).keep ((hI.bw.trans kW).trans ku)
            have e2 : (fun i => f (p + 2 + i)) = fun i => f (p + (2 + i)) := funext fun i => by rw [Nat.add_assoc p]
            rw [e2, ← Nat.add_assoc] at h1
            exact h1
          have hck : q ≤ c := hqc
          by_cases c2e : c = 2
          · have hm0 : Hid (m = 0 ∧ q = 2) := by have := hk.out; exact ⟨by omega, by omega⟩
            have HR1 : Hid (∀ u, Bw W u → RowAt u (some ⟨gb, o0 + p, none⟩) m (fun i => f (p + (2 + i)))) := fun u ku => ⟨.inl hm0.out.1, fun i => hf.out _⟩
            have hc3 : c = 2 + m := by have := hm0.out.1; omega
            clear hI hs hmk o1 o2 o3 o4 HR0 hbs
            go_wp2_with (first
              | (at_builtin; refine wpList_append_rowat _ (by rfl) (.tmp 28) (.tmp 32) _ (by rfl) W.heap.size 5 i1 _ 1 Try.underlying37 hi1 hy0 hy1 hy2 rfl _ _ _ (by rfl) (own_empty W W.heap.size _ (Nat.le_refl _)) (some ⟨gb, o0 + p, none⟩) m 0 (fun i => f (p + (2 + i))) (by first | rfl | (show Value.slice _ (2 + m - 2) _ = Value.slice _ m _; rw [Nat.add_sub_cancel_left]) | (show Value.slice _ (2 + m - 2) (2 + m - 2) = Value.slice _ m m; rw [Nat.add_sub_cancel_left])) (HR1.out _ (Below.alloc (Bw.refl _) (Nat.le_refl _) _)) (fun e => by cases e) hmx.out hmb.out (by simp) ?_; intro rv W1 hown1 hgrow1; have bw1 := bw_fresh hgrow1; obtain ⟨hrv, hrvin⟩ := HRV.out W1 rv hown1; obtain ⟨Ar, cr, er, -⟩ := id hrv; subst er; replace hrv : Hid _ := hrv; replace hrvin : Hid _ := hrvin; have kown := HOwn.out W1 bw1; clear hown1 hgrow1)
              | (at_builtin; refine wpList_append_lies _ (by rfl) (.tmp 27) (.tmp 34) _ (by rfl) w.heap.size 37 i0 _ 1 24 Try.underlying42 hi0 hz0 hz1 hz2 rfl (by omega) _ _ _ (by rfl) (kown.out.alloc _) ⟨W1.heap.size, 0, none⟩ 1 1 [_] (by rfl) (by rfl) (World.news_of_block (cs := #[_]) (t := 37) (fr := (0, 0)) (heap_alloc_new W1 _)) (by simp [Value.oneCell']) (by omega) few1.out few2.out (HBs.out W1 bw1 _) (W1.heap.size + 1) (by simp) ?_; intro g2 c2 w2 hown2 hgrow2 hat2 hlt2; have hpush := HPush.out W1 _ g2 c2 w2 bw1 hrv.out hrvin.out hown2 hgrow2 hat2; replace hpush : Hid _ := hpush; clear hown2 hgrow2 hat2 hlt2))
            go_roundw
            case rel => exact HLoop.out _ _ _ _ _ hpush.out.1 hpush.out.2 (by have := hm0.out; omega) (by omega) (by omega) (fun h => by have := hm0.out; omega)
            case measure => (have := hm0.out; show q - (2 + m) < q; omega)
          · by_cases c3e : c = 2 + m
            · clear hI hs hmk o1 o2 o3 o4 hbs
              have HR1 := HR0
              go_wp2_with (first
                | (at_builtin; refine wpList_append_rowat _ (by rfl) (.tmp 28) (.tmp 32) _ (by rfl) W.heap.size 5 i1 _ 1 Try.underlying37 hi1 hy0 hy1 hy2 rfl _ _ _ (by rfl) (own_empty W W.heap.size _ (Nat.le_refl _)) (some ⟨gb, o0 + p + 2, none⟩) m m (fun i => f (p + (2 + i))) (by first | rfl | (show Value.slice _ (2 + m - 2) _ = Value.slice _ m _; rw [Nat.add_sub_cancel_left]) | (show Value.slice _ (2 + m - 2) (2 + m - 2) = Value.slice _ m m; rw [Nat.add_sub_cancel_left])) (HR1.out _ (Below.alloc (Bw.refl _) (Nat.le_refl _) _)) (fun e => by cases e) hmx.out hmb.out (by simp) ?_; intro rv W1 hown1 hgrow1; have bw1 := bw_fresh hgrow1; obtain ⟨hrv, hrvin⟩ := HRV.out W1 rv hown1; obtain ⟨Ar, cr, er, -⟩ := id hrv; subst er; replace hrv : Hid _ := hrv; replace hrvin : Hid _ := hrvin; have kown := HOwn.out W1 bw1; clear hown1 hgrow1)
                | (at_builtin; refine wpList_append_lies _ (by rfl) (.tmp 27) (.tmp 34) _ (by rfl) w.heap.size 37 i0 _ 1 24 Try.underlying42 hi0 hz0 hz1 hz2 rfl (by omega) _ _ _ (by rfl) (kown.out.alloc _) ⟨W1.heap.size, 0, none⟩ 1 1 [_] (by rfl) (by rfl) (World.news_of_block (cs := #[_]) (t := 37) (fr := (0, 0)) (heap_alloc_new W1 _)) (by simp [Value.oneCell']) (by omega) few1.out few2.out (HBs.out W1 bw1 _) (W1.heap.size + 1) (by simp) ?_; intro g2 c2 w2 hown2 hgrow2 hat2 hlt2; have hpush := HPush.out W1 _ g2 c2 w2 bw1 hrv.out hrvin.out hown2 hgrow2 hat2; replace hpush : Hid _ := hpush; clear hown2 hgrow2 hat2 hlt2))
              go_roundw
              case rel => exact HLoop.out _ _ _ _ _ hpush.out.1 hpush.out.2 (by omega) (by omega) (by omega) (fun h => by omega)
              case measure => (show q - (2 + m) < q; omega)
            · clear hI hs hmk o1 o2 o3 o4 hbs
              have HR1 := HR0
              go_wp2_with (first
                | (at_builtin; refine wpList_append_rowat _ (by rfl) (.tmp 28) (.tmp 32) _ (by rfl) W.heap.size 5 i1 _ 1 Try.underlying37 hi1 hy0 hy1 hy2 rfl _ _ _ (by rfl) (own_empty W W.heap.size _ (Nat.le_refl _)) (some ⟨gb, o0 + p + 2, none⟩) m (c - 2) (fun i => f (p + (2 + i))) (by first | rfl | (show Value.slice _ (2 + m - 2) _ = Value.slice _ m _; rw [Nat.add_sub_cancel_left]) | (show Value.slice _ (2 + m - 2) (2 + m - 2) = Value.slice _ m m; rw [Nat.add_sub_cancel_left])) (HR1.out _ (Below.alloc (Bw.refl _) (Nat.le_refl _) _)) (fun e => by cases e) hmx.out hmb.out (by simp) ?_; intro rv W1 hown1 hgrow1; have bw1 := bw_fresh hgrow1; obtain ⟨hrv, hrvin⟩ := HRV.out W1 rv hown1; obtain ⟨Ar, cr, er, -⟩ := id hrv; subst er; replace hrv : Hid _ := hrv; replace hrvin : Hid _ := hrvin; have kown := HOwn.out W1 bw1; clear hown1 hgrow1)
                | (at_builtin; refine wpList_append_lies _ (by rfl) (.tmp 27) (.tmp 34) _ (by rfl) w.heap.size 37 i0 _ 1 24 Try.underlying42 hi0 hz0 hz1 hz2 rfl (by omega) _ _ _ (by rfl) (kown.out.alloc _) ⟨W1.heap.size, 0, none⟩ 1 1 [_] (by rfl) (by rfl) (World.news_of_block (cs := #[_]) (t := 37) (fr := (0, 0)) (heap_alloc_new W1 _)) (by simp [Value.oneCell']) (by omega) few1.out few2.out (HBs.out W1 bw1 _) (W1.heap.size + 1) (by simp) ?_; intro g2 c2 w2 hown2 hgrow2 hat2 hlt2; have hpush := HPush.out W1 _ g2 c2 w2 bw1 hrv.out hrvin.out hown2 hgrow2 hat2; replace hpush : Hid _ := hpush; clear hown2 hgrow2 hat2 hlt2))
              go_roundw
              case rel => exact HLoop.out _ _ _ _ _ hpush.out.1 hpush.out.2 (by omega) (by omega) (by omega) (fun h => rfl)
              case measure => (show q - (2 + m) < q; omega)
        · rw [if_neg hmk] at hs
          have hlt : (q : Int) - 2 < (m : Int) := by have := hk.out; omega
          have hend : Hid (SplV w (Jl.data f n) (.returned (.tuple #[.slice none 0 0, .bool false])) W) := ⟨hI.bw.trans kW, .inl ⟨by rw [hI.spl, hk.out, hs]; rfl, rfl⟩⟩
          clear hI hs hmk
          go_wp2
          go_ret2
          exact hend.out
    · obtain rfl : q = 0 := by omega
      have hend : Hid (SplV w (Jl.data f n) (.returned (.tuple #[u4, .bool true])) wr) := by
        refine ⟨hI.bw, .inr ⟨pre, u4, ?_, rfl, hI.lst⟩⟩
        rw [hI.spl]
        show Option.map (fun l => pre ++ l) (some []) = some pre
        simp
      clear hI
      go_wp2
      go_ret2
      exact hend.out
end Go.Proofs.Ytppknadflmjefaa
