/- Layer 15: records written over (spoilt). -/
import Derived.Test.YtppknadflmjefaaQj
import Derived.Test.YtppknadflmjefaaWS
namespace Go.Proofs.Ytppknadflmjefaa
open Go.RowKit Go.Deep Go.Maps
set_option linter.unusedVariables false
set_option linter.unusedSimpArgs false

theorem DiskAt.nou15 {w : World} {g lb gm : Nat} {S : Dsk} (h : DiskAt w g lb gm S) : NoU w (dIn g lb gm) := fun b hb cur fr e => by
  rcases hb with rfl | rfl | rfl
  · rw [h.cells] at e
    simp only [Option.some.injEq, Obj.cells.injEq] at e
    exact absurd e.2.1 (by decide)
  · obtain ⟨cur', h1, _⟩ := h.rows
    rw [h1] at e
    simp only [Option.some.injEq, Obj.cells.injEq] at e
    exact absurd e.2.1 (by decide)
  · obtain ⟨es, c, h1⟩ := h.map.block
    rw [h1] at e
    cases e
theorem JrAt.nou {w : World} {base gj g : Nat} {R : Nat → Prop} {v : Value} {J : Jl.Jn} (h : JrAt w base gj g R v J) : NoU w (jIn gj v) := fun b hb cur fr e => by
  rcases hb with rfl | hb
  · rw [h.cells] at e
    simp only [Option.some.injEq, Obj.cells.injEq] at e
    exact absurd e.2.1 (by decide)
  · obtain ⟨vs, k1, _⟩ := h.recs
    rcases k1.2 with ⟨rfl, _⟩ | ⟨g2, cap2, cur2, rfl, _, hg, _⟩
    · cases hb
    · cases hb
      rw [hg] at e
      simp only [Option.some.injEq, Obj.cells.injEq] at e
      exact absurd e.2.1 (by decide)
/-- which type a block of these has -/
theorem jr_ty {w : World} {base gj g : Nat} {R : Nat → Prop} {v : Value} {J : Jl.Jn} (h : JrAt w base gj g R v J) {b : Nat} (hb : jIn gj v b) : ∃ cur t, w.heap[b]? = some (.cells cur t (0, 0)) ∧ (t = 87 ∨ t = 37) := by
  rcases hb with rfl | hb
  · exact ⟨_, _, h.cells, .inl rfl⟩
  · obtain ⟨vs, k1, _⟩ := h.recs
    rcases k1.2 with ⟨rfl, _⟩ | ⟨g2, cap2, cur2, rfl, _, hg, _⟩
    · cases hb
    · cases hb; exact ⟨_, _, hg, .inr rfl⟩
theorem rj_ty {w : World} {base gj g : Nat} {R : Nat → Prop} {v : Value} {J : Jl.Jn} (h : RjAt w base gj g R v J) {b : Nat} (hb : jIn gj v b) : ∃ cur t, w.heap[b]? = some (.cells cur t (0, 0)) ∧ (t = 92 ∨ t = 37) := by
  rcases hb with rfl | hb
  · exact ⟨_, _, h.cells, .inl rfl⟩
  · obtain ⟨vs, k1, _⟩ := h.recs
    rcases k1.2 with ⟨rfl, _⟩ | ⟨g2, cap2, cur2, rfl, _, hg, _⟩
    · cases hb
    · cases hb; exact ⟨_, _, hg, .inr rfl⟩
theorem rd_ty {w : World} {g cb cap : Nat} {LV WV : Nat → Value} {S : Dsk} (k : RefAt w g cb cap LV WV S) {b : Nat} (hb : rIn g cb b) : ∃ cur t, w.heap[b]? = some (.cells cur t (0, 0)) ∧ (t = 66 ∨ t = 68) := by
  rcases hb with rfl | rfl
  · exact ⟨_, _, k.top, .inl rfl⟩
  · obtain ⟨cur, h1⟩ := k.blk
    exact ⟨_, _, h1, .inr rfl⟩
/-- two journals that tell the same, or none -/
def Jns (w : World) (base g gd : Nat) (D : Nat → Prop) (p1 p2 : Value) : Option Jl.Jn → Prop
  | none => p1 = .pointer none ∧ p2 = .pointer none
  | some J => ∃ gj v1 gk v2 R1 R2, p1 = .pointer (some ⟨gj, 0, none⟩) ∧ p2 = .pointer (some ⟨gk, 0, none⟩) ∧ JrAt w base gj g R1 v1 J ∧ RjAt w base gk gd R2 v2 J ∧
      (∀ b, R1 b → ¬ (D b ∨ jIn gk v2 b)) ∧ (∀ b, R2 b → ¬ (D b ∨ jIn gj v1 b)) ∧ (∀ b, v1.ownBlock = some b → v2.ownBlock ≠ some b)
theorem Jns.keep {w w' : World} {base g gd : Nat} {D : Nat → Prop} {p1 p2 : Value} {O : Option Jl.Jn} (h : Jns w base g gd D p1 p2 O) (k : Bw w w') : Jns w' base g gd D p1 p2 O := by
  cases O with
  | none => exact h
  | some J =>
    obtain ⟨gj, v1, gk, v2, R1, R2, e1, e2, h1, h2, h3⟩ := h
    exact ⟨gj, v1, gk, v2, R1, R2, e1, e2, h1.keep k, h2.keep k, h3⟩
set_option maxRecDepth 100000 in
set_option maxHeartbeats 2000000 in
theorem same15_none (w : World) : Calls Try.prog 29 #[.pointer none, .pointer none] w fun e w' => e = .returned (.bool true) ∧ Bw w w' := by
  have HS : Hid (∀ u, Calls Try.prog 27 #[.slice none 0 0, .slice none 0 0] u fun e w' => e = .returned (.bool true) ∧ Bw u w') := fun u => by
    have hM : MatV u none 0 [] [] := ⟨rfl, .inl rfl, RowsV.nil _⟩
    have h1 := rsame15_any 0 0 hM hM (by decide) (by decide)
    simpa using h1
  go_enter Try.func29, Try.ntmps29
  go_wp2_with (first
    | (go_at_call 20; refine (jrecords_nil _).mono ?_; rintro e w2 ⟨rfl, hw⟩; obtain rfl := hw.symm)
    | (go_at_call 58; refine (rrecords15_nil _).mono ?_; rintro e w2 ⟨rfl, hw⟩; obtain rfl := hw.symm)
    | (go_at_call 27; refine (HS.out _).mono ?_; rintro e w3 ⟨rfl, hb3⟩)
    | (go_at_call 23; refine (jroom_nil _).mono ?_; rintro e w2 ⟨rfl, hw⟩; obtain rfl := hw.symm)
    | (go_at_call 59; refine (rroom15_nil _).mono ?_; rintro e w2 ⟨rfl, hw⟩; obtain rfl := hw.symm)
    | (go_at_call 24; refine (jcount_nil _).mono ?_; rintro e w2 ⟨rfl, hw⟩; obtain rfl := hw.symm)
    | (go_at_call 60; refine (rcount15_nil _).mono ?_; rintro e w2 ⟨rfl, hw⟩; obtain rfl := hw.symm))
  go_ret
  exact ⟨rfl, hb3⟩
set_option maxRecDepth 100000 in
set_option maxHeartbeats 2000000 in
theorem same15_some {w : World} {base gj g gk gd : Nat} {R1 R2 : Nat → Prop} {v1 v2 : Value} {J : Jl.Jn} (h1 : JrAt w base gj g R1 v1 J) (h2 : RjAt w base gk gd R2 v2 J) :
    Calls Try.prog 29 #[.pointer (some ⟨gj, 0, none⟩), .pointer (some ⟨gk, 0, none⟩)] w fun e w' => e = .returned (.bool true) ∧ Bw w w' := by
  have hfew := h1.ok.few
  obtain ⟨m, hm⟩ : ∃ m, Hid (J.L.length = m) := ⟨_, rfl⟩
  rw [hm.out] at hfew
  obtain ⟨vs, k1, k2, _⟩ := h2.recs
  obtain ⟨A, c, rfl, hmc, hnc, hM, _⟩ := mat_of_own k1 k2
  have HR1 : Hid (Calls Try.prog 20 #[.pointer (some ⟨gj, 0, none⟩)] w fun e w' => ∃ g2, e = .returned (.slice (some ⟨g2, 0, none⟩) m m) ∧ Hid (∃ us, MatV w' (some ⟨g2, 0, none⟩) m us J.L) ∧ Hid (Bw w w')) := by
    refine (jrecords_any h1).mono ?_
    rintro e w' ⟨g2, us, rfl, a1, a2, a3, a4⟩
    rw [hm.out] at a1 ⊢
    exact ⟨g2, rfl, ⟨us, copy_mat a1 a2⟩, a4⟩
  have HR2 : Hid (∀ u, Bw w u → Calls Try.prog 58 #[.pointer (some ⟨gk, 0, none⟩)] u fun e w' => e = .returned (.slice A m c) ∧ w' = u) := fun u ku => by
    have h3 := rrecords15_any (h2.keep ku)
    rw [hm.out] at h3
    exact h3
  have HSm : Hid (∀ u g2, Bw w u → (∃ us, MatV u (some ⟨g2, 0, none⟩) m us J.L) → Calls Try.prog 27 #[.slice (some ⟨g2, 0, none⟩) m m, .slice A m c] u fun e w' => e = .returned (.bool true) ∧ Bw u w') := fun u g2 ku hu => by
    obtain ⟨us, hu⟩ := hu
    have hM2 := hM.keep ku
    rw [hm.out] at hM2
    have h3 := rsame15_any m c hu hM2 (by omega) (by omega)
    simpa using h3
  have HRm1 : Hid (∀ u, Bw w u → Calls Try.prog 23 #[.pointer (some ⟨gj, 0, none⟩)] u fun e w' => e = .returned (.int .i64 ((Jl.room J.rc - J.h.len : Nat) : Int)) ∧ Bw u w') := fun u ku => jroom_any (h1.keep ku)
  have HRm2 : Hid (∀ u, Bw w u → Calls Try.prog 59 #[.pointer (some ⟨gk, 0, none⟩)] u fun e w' => e = .returned (.int .i64 ((Jl.room J.rc - J.h.len : Nat) : Int)) ∧ Bw u w') := fun u ku => rroom15_any (h2.keep ku)
  have HC1 : Hid (∀ u, Bw w u → Calls Try.prog 24 #[.pointer (some ⟨gj, 0, none⟩)] u fun e w' => e = .returned (.int .u64 (J.h.n : Int)) ∧ w' = u) := fun u ku => jcount_any (h1.keep ku)
  have HC2 : Hid (∀ u, Bw w u → Calls Try.prog 60 #[.pointer (some ⟨gk, 0, none⟩)] u fun e w' => e = .returned (.int .u64 (J.h.n : Int)) ∧ w' = u) := fun u ku => rcount15_any (h2.keep ku)
  obtain ⟨rm, hrm⟩ : ∃ q, Hid (Jl.room J.rc - J.h.len = q) := ⟨_, rfl⟩
  obtain ⟨cn, hcn⟩ : ∃ q, Hid (J.h.n = q) := ⟨_, rfl⟩
  rw [hrm.out] at HRm1 HRm2
  rw [hcn.out] at HC1 HC2
  clear h1 h2 k1 k2 hM hmc hnc
  go_enter Try.func29, Try.ntmps29
  go_wp2_with (first
    | (go_at_call 20; refine HR1.out.mono ?_; rintro e w2 ⟨g2, rfl, hm2, hb2⟩)
    | (go_at_call 58; refine (HR2.out _ hb2.out).mono ?_; rintro e w2 ⟨rfl, hw⟩; obtain rfl := hw.symm)
    | (go_at_call 27; refine (HSm.out _ _ hb2.out hm2.out).mono ?_; rintro e w3 ⟨rfl, hb3⟩; replace hb3 : Hid (Bw w w3) := hb2.out.trans hb3)
    | (go_at_call 23; refine (HRm1.out _ hb3.out).mono ?_; rintro e w4 ⟨rfl, hb4⟩; replace hb4 : Hid (Bw w w4) := hb3.out.trans hb4)
    | (go_at_call 59; refine (HRm2.out _ hb4.out).mono ?_; rintro e w5 ⟨rfl, hb5⟩; replace hb5 : Hid (Bw w w5) := hb4.out.trans hb5)
    | (go_at_call 24; refine (HC1.out _ hb5.out).mono ?_; rintro e w6 ⟨rfl, hw⟩; obtain rfl := hw.symm)
    | (go_at_call 60; refine (HC2.out _ hb5.out).mono ?_; rintro e w6 ⟨rfl, hw⟩; obtain rfl := hw.symm))
  go_ret
  exact ⟨rfl, hb5.out⟩
theorem same15_any {w : World} {base g gd : Nat} {D : Nat → Prop} {p1 p2 : Value} {O : Option Jl.Jn} (h : Jns w base g gd D p1 p2 O) :
    Calls Try.prog 29 #[p1, p2] w fun e w' => e = .returned (.bool true) ∧ Bw w w' := by
  cases O with
  | none => obtain ⟨rfl, rfl⟩ := h; exact same15_none w
  | some J =>
    obtain ⟨gj, v1, gk, v2, R1, R2, rfl, rfl, h1, h2, h3⟩ := h
    exact same15_some h1 h2
end Go.Proofs.Ytppknadflmjefaa
namespace Go.Proofs.Ytppknadflmjefaa
open Go.RowKit Go.Deep Go.Maps
set_option linter.unusedVariables false
set_option linter.unusedSimpArgs false

/-- records of one's own, each in a row of one's own -/
def LentAt (base : Nat) (w : World) (v : Value) (L : List (List Nat)) : Prop := ∃ vs, w.ownsRow base 37 1 v L.length vs ∧ vs.length = L.length ∧ ∀ (i : Nat) (u : Value) (l : List Nat), vs[i]? = some u → L[i]? = some l → Jl.Byt l ∧ w.ownsRow base 5 1 u l.length (cellsU (Jl.rowL l) l.length)
theorem LentAt.nil (base : Nat) (w : World) : LentAt base w (.slice none 0 0) [] := ⟨[], World.ownsRow_nil _ _ _ _, rfl, fun i u l h => by simp at h⟩
theorem LentAt.rows {base : Nat} {w : World} {v : Value} {L : List (List Nat)} (h : LentAt base w v L) (hl : ∀ l ∈ L, l.length ≤ 140737488355328) : ∃ vs, w.ownsRow base 37 1 v L.length vs ∧ RowsV w vs L ∧ RIn (fun b => base ≤ b) vs := by
  obtain ⟨vs, h1, h2, h3⟩ := h
  have h4 : ∀ (i : Nat) (u : Value) (l : List Nat), vs[i]? = some u → L[i]? = some l → RowV w u l ∧ VIn (fun b => base ≤ b) u := fun i u l hu hl2 => by
    obtain ⟨hb, ho⟩ := h3 i u l hu hl2
    obtain ⟨q1, q2⟩ := rowv_of_own (Jl.rowL_bd hb) (hl l (List.mem_of_getElem? hl2)) ho
    rw [Jl.data_rowL] at q1
    exact ⟨q1, q2⟩
  refine ⟨vs, h1, ⟨h2, fun i u l hu hl2 => (h4 i u l hu hl2).1⟩, fun u hu => ?_⟩
  obtain ⟨i, hi, rfl⟩ := List.getElem_of_mem hu
  exact (h4 i _ (L[i]'(by omega)) (List.getElem?_eq_getElem hi) (List.getElem?_eq_getElem (by omega))).2
/-- a row of bytes stays while a block that is none of bytes turns -/
theorem own_nou15 {P : Nat → Prop} {w w' : World} {base n : Nat} {v : Value} {xs : List Value} (h : w.ownsRow base 5 1 v n xs) (k : Bx P w w') (hP : NoU w P) : w'.ownsRow base 5 1 v n xs :=
  own_keepx15 h k (fun b hb hp => by
    rcases h.2 with ⟨rfl, _⟩ | ⟨g, cap, cur, rfl, _, hg, _⟩
    · cases hb
    · cases hb; exact hP g hp cur _ hg)
theorem LentAt.push {base : Nat} {w W w2 : World} {l : Value} {vs : List Value} {pre : List (List Nat)} {r : List Nat} {rv : Value} {g2 c2 : Nat}
    (h1 : w.ownsRow base 37 1 l pre.length vs) (h2 : vs.length = pre.length) (h3 : ∀ (i : Nat) (u : Value) (x : List Nat), vs[i]? = some u → pre[i]? = some x → Jl.Byt x ∧ w.ownsRow base 5 1 u x.length (cellsU (Jl.rowL x) x.length)) (hbase : base ≤ w.heap.size)
    (k : Bw w W) (hb : Jl.Byt r) (hv : W.ownsRow w.heap.size 5 1 rv r.length (cellsU (Jl.rowL r) r.length))
    (own2 : w2.ownsRow base 37 1 (.slice (some ⟨g2, 0, none⟩) (pre.length + 1) c2) (pre.length + 1) (vs ++ [rv])) (gr : (W.alloc (.cells #[rv] 37)).grownBy w2 l.ownBlock) :
    LentAt base w2 (.slice (some ⟨g2, 0, none⟩) (pre.length + 1) c2) (pre ++ [r]) ∧ Bx (fun b => l.ownBlock = some b) w w2 := by
  have kA : Bw W (W.alloc (.cells #[rv] 37)) := Below.alloc (Bw.refl _) (Nat.le_refl _) _
  have hgx := bx_grown gr
  have hno : NoU (W.alloc (.cells #[rv] 37)) (fun b => l.ownBlock = some b) := fun b hb cur fr e => by
    rcases h1.2 with ⟨rfl, _⟩ | ⟨g, cap, cur2, rfl, _, hg, _⟩
    · cases hb
    · cases hb
      have hg2 := ((k.trans kA).block g (Array.getElem?_eq_some_iff.1 hg).1).trans hg
      rw [hg2] at e
      simp only [Option.some.injEq, Obj.cells.injEq] at e
      exact absurd e.2.1 (by decide)
  refine ⟨⟨vs ++ [rv], by rw [List.length_append]; exact own2, by rw [List.length_append, List.length_append, h2]; rfl, fun i u x hu hx => ?_⟩, (Bx.of_bw (k.trans kA)).trans hgx⟩
  by_cases e : i < vs.length
  · rw [List.getElem?_append_left e] at hu
    rw [List.getElem?_append_left (by omega)] at hx
    obtain ⟨q1, q2⟩ := h3 i u x hu hx
    exact ⟨q1, own_nou15 (own_keep q2 (k.trans kA)) hgx hno⟩
  · rw [List.getElem?_append_right (by omega)] at hu
    rw [List.getElem?_append_right (by omega)] at hx
    have hi : i - vs.length = 0 := by have := (List.getElem?_eq_some_iff.1 hu).1; simp at this; omega
    rw [hi] at hu
    rw [← h2, hi] at hx
    simp at hu hx
    subst hu hx
    exact ⟨hb, own_low15 (own_nou15 (own_keep hv kA) hgx hno) hbase⟩
def LentV (w : World) (n : Nat) (L : List (List Nat)) (e : Ending) (w' : World) : Prop := ∃ v, e = .returned v ∧ LentAt w.heap.size w' v L ∧ Bw w w'
set_option maxRecDepth 100000 in
set_option maxHeartbeats 4000000 in
theorem lent15_any {w : World} {A : Option Addr} {n : Nat} (ca : Nat) {vs : List Value} {L : List (List Nat)} (h : MatV w A n vs L) (hn : n ≤ 1000000) (hl : ∀ l ∈ L, l.length ≤ 1000000) :
    Calls Try.prog 30 #[.slice A n ca] w fun e w' => LentV w n L e w' := by
  obtain ⟨i0, hi0, hz0, hz1, hz2⟩ := info_parts info_row15
  obtain ⟨i1, hi1, hy0, hy1, hy2⟩ := info_parts info_u8
  have H : Hid (MatV w A n vs L) := h
  have HL : Hid (∀ l ∈ L, l.length ≤ 1000000) := hl
  have hLn : Hid (L.length = n) := h.lenL
  clear h hl
  go_enter Try.func30, Try.ntmps30
  go_wp2
  go_loopw [3, 4] (fun v i wr => ∃ k : Nat, i = .int .i64 (k : Int) ∧ k ≤ n ∧ Hid (LentAt w.heap.size wr v (L.take k)) ∧ Hid (Bw w wr)) (fun _ i _ => n - (intOf i).toNat)
  case atStart => exact ⟨0, rfl, Nat.zero_le _, by rw [List.take_zero]; exact LentAt.nil _ _, Bw.refl _⟩
  case round =>
    obtain ⟨k, rfl, hk, hI, hbw⟩ := hrel
    have k0 : (0 : Int) ≤ (k : Int) := Int.natCast_nonneg _
    by_cases hlt : k < n
    · have k1 : (k : Int) < (n : Int) := by omega
      obtain ⟨r, b, off, A', c', hr, rfl, hcell, hc1, hc2, hc3, hc4⟩ := (H.out.keep hbw.out).row hlt
      have hrm := List.mem_of_getElem? hr
      have hr6 : Hid (r.length ≤ 1000000) := HL.out r hrm
      have hbyt : Hid (Jl.Byt r) := H.out.rows.byt r hrm
      have HRow : Hid (RowAt wr A' r.length (Jl.rowL r)) := hc4
      obtain ⟨us, o1, o2, o3⟩ := hI.out
      obtain ⟨q, hq⟩ : ∃ q, Hid ((L.take k).length = q) := ⟨_, rfl⟩
      have hql : Hid (q ≤ 1000000) := by have h1 := hq.out; rw [List.length_take] at h1; exact (by omega : q ≤ 1000000)
      have o1' : Hid (wr.ownsRow w.heap.size 37 1 u3 q us) := by have h1 := o1; rw [hq.out] at h1; exact h1
      obtain ⟨m, hm⟩ : ∃ m, Hid (r.length = m) := ⟨_, rfl⟩
      rw [hm.out] at hcell hc3 HRow hr6
      have few1 : Hid (q + 1 ≤ maxLen) := by have := hql.out; show _ ≤ _; unfold maxLen; omega
      have few2 : Hid ((q + 1) * 24 ≤ 140737488355328) := by have := hql.out; show _ ≤ _; omega
      have hmx : Hid (0 + m ≤ maxLen) := by have := hr6.out; show _ ≤ _; unfold maxLen; omega
      have hmb : Hid ((0 + m) * 1 ≤ 140737488355328) := by have := hr6.out; show _ ≤ _; omega
      have hbs := hbw.out.size
      have HArg : Hid (∀ u, Bw wr u → u.cell? ⟨b, off + k, none⟩ = some (.slice A' m c')) := fun u ku => (ku.cell (p := ⟨b, off + k, none⟩) (block_lt_of_cell hcell)).trans hcell
      have hcell2 := HArg.out _ (show Bw wr (wr.alloc (.cells #[] 5)) from Below.alloc (Bw.refl _) (Nat.le_refl _) _)
      have HPush : Hid (∀ (W1 : World) (rv : Value) (g2 c2 : Nat) (w2 : World), Bw wr W1 → W1.ownsRow wr.heap.size 5 1 rv m (cellsU (Jl.rowL r) m) → w2.ownsRow w.heap.size 37 1 (.slice (some ⟨g2, 0, none⟩) (q + 1) c2) (q + 1) (us ++ [rv]) → (W1.alloc (.cells #[rv] 37)).grownBy w2 u3.ownBlock → LentAt w.heap.size w2 (.slice (some ⟨g2, 0, none⟩) (q + 1) c2) (L.take (k + 1)) ∧ Bw w w2) := fun W1 rv g2 c2 w2 kW hv own2 gr => by
        have hq2 := hq.out
        subst hq2
        have hm2 := hm.out
        subst hm2
        obtain ⟨p1, p2⟩ := LentAt.push o1 o2 o3 hbs kW hbyt.out hv own2 gr
        rw [List.take_add_one, hr]
        exact ⟨p1, Below.trans hbw.out (p2.below hbs (fun x hx => own_ge o1 x hx))⟩
      clear hc4 hc1 o1 o2 o3 hr hrm
      go_wp2_with (first
        | (at_builtin; refine wpList_append_rowat _ (by rfl) (.tmp 12) (.tmp 16) _ (by rfl) wr.heap.size 5 i1 _ 1 Try.underlying37 hi1 hy0 hy1 hy2 rfl _ _ _ (by rfl) (own_empty wr wr.heap.size _ (Nat.le_refl _)) A' m c' (Jl.rowL r) (by rfl) (HRow.out.keep (Below.alloc (Bw.refl _) (Nat.le_refl _) _)) hc2 hmx.out hmb.out (by simp) ?_; intro rv W1 hown1 hgrow1; have bw1 := bw_fresh hgrow1; replace hown1 : Hid (W1.ownsRow wr.heap.size 5 1 rv m (cellsU (Jl.rowL r) m)) := (by rw [Nat.zero_add, List.nil_append] at hown1; exact hown1); obtain ⟨Ar, cr, er, -⟩ := row_of_own HRow.out.2 hown1.out; subst er; have kown := (show Hid (W1.ownsRow w.heap.size 37 1 u3 q us) from own_keep o1'.out bw1); clear hgrow1)
        | (at_builtin; refine wpList_append_lies _ (by rfl) (.tmp 11) (.tmp 18) _ (by rfl) w.heap.size 37 i0 _ 1 24 Try.underlying42 hi0 hz0 hz1 hz2 rfl (by omega) _ _ _ (by rfl) (kown.out.alloc _) ⟨W1.heap.size, 0, none⟩ 1 1 [_] (by rfl) (by rfl) (World.news_of_block (cs := #[_]) (t := 37) (fr := (0, 0)) (heap_alloc_new W1 _)) (by simp [Value.oneCell']) (by omega) few1.out few2.out (by have := bw1.size; rw [size_alloc]; omega) (W1.heap.size + 1) (by simp) ?_; intro g2 c2 w2 hown2 hgrow2 hat2 hlt2; obtain ⟨hp1, hp2⟩ := HPush.out W1 _ g2 c2 w2 bw1 hown1.out hown2 hgrow2; replace hp1 := (show Hid (LentAt w.heap.size w2 _ (L.take (k + 1))) from hp1); clear hown2 hgrow2 hat2 hlt2))
      go_roundw
      case rel => exact ⟨k + 1, by go_num, by omega, hp1, hp2⟩
      case measure => simp [intOf]; omega
    · have hkn : k = n := by omega
      have e : L.take k = L := List.take_of_length_le (by rw [hLn.out, hkn]; exact Nat.le_refl _)
      have HE : Hid (LentV w n L (.returned u3) wr) := by
        refine (?_ : LentV _ _ _ _ _)
        have h1 := hI.out
        rw [e] at h1
        exact ⟨u3, rfl, h1, hbw.out⟩
      have k1 : ¬ (k : Int) < (n : Int) := by omega
      clear hI e
      go_wp2
      go_ret
      exact HE.out
end Go.Proofs.Ytppknadflmjefaa
namespace Go.Proofs.Ytppknadflmjefaa
open Go.RowKit Go.Deep Go.Maps
set_option linter.unusedVariables false
set_option linter.unusedSimpArgs false

theorem own_set15 {w : World} {base m b j : Nat} {u : Value} {f : Nat → Int} {x : Int} (h : w.ownsRow base 5 1 u m (cellsU f m)) (hf : ∀ i, 0 ≤ f i ∧ f i < 256) (hx : 0 ≤ x ∧ x < 256) : ∃ f' : Nat → Int, (∀ i, 0 ≤ f' i ∧ f' i < 256) ∧ (w.setCell ⟨b, j, none⟩ (.int .u8 x)).ownsRow base 5 1 u m (cellsU f' m) := by
  rcases h.2 with ⟨rfl, rfl⟩ | ⟨g, cap, cur, rfl, hg0, hg, h1, h2, h3, h4⟩
  · exact ⟨f, hf, World.ownsRow_nil _ _ _ _⟩
  · by_cases e : g = b
    · subst e
      refine ⟨fun i => if i = j then x else f i, fun i => ?_, ?_, .inr ⟨g, cap, cur.setIfInBounds j (.int .u8 x), rfl, hg0, heap_setCell_same w g j cur _ _ hg, h1, h2, by simpa using h3, ?_⟩⟩
      · dsimp only
        split
        · exact hx
        · exact hf i
      · rw [cellsU_len, Nat.mul_one]
      · apply List.ext_getElem?
        intro c
        have h5 : (cur.toList.take (m * 1))[c]? = (cellsU f m)[c]? := by rw [h4]
        rw [Nat.mul_one] at h5 ⊢
        by_cases hc : c < m
        · rw [List.getElem?_take, if_pos hc, Array.getElem?_toList] at h5 ⊢
          have e1 : (cellsU f m)[c]? = some (.int .u8 (f c)) := by simp [cellsU, hc]
          have e2 : (cellsU (fun i => if i = j then x else f i) m)[c]? = some (.int .u8 (if c = j then x else f c)) := by simp [cellsU, hc]
          rw [e1] at h5
          rw [e2]
          have hcs := (Array.getElem?_eq_some_iff.1 h5).1
          by_cases hcj : c = j
          · subst hcj
            rw [if_pos rfl, Array.getElem?_setIfInBounds_self_of_lt hcs]
          · rw [if_neg hcj, Array.getElem?_setIfInBounds_ne (by omega)]
            exact h5
        · rw [List.getElem?_eq_none (by rw [List.length_take]; omega), List.getElem?_eq_none (by rw [cellsU_len]; omega)]
    · exact ⟨f, hf, own_keepx15 h ((Bx.refl (· = b) w).put rfl) (fun b' hb' e' => by cases hb'; exact e e')⟩
/-- rows that may be written over -/
structure SpAt15 (base top : Nat) (w0 : World) (v : Value) (vs : List Value) (w : World) : Prop where
  lst : w.ownsRow base 37 1 v vs.length vs
  rows : ∀ (i : Nat) (u : Value), vs[i]? = some u → ∃ (m : Nat) (f : Nat → Int), (∀ i, 0 ≤ f i ∧ f i < 256) ∧ w.ownsRow base 5 1 u m (cellsU f m) ∧ m ≤ 1000000
  low : ∀ (i : Nat) (u : Value), vs[i]? = some u → ∀ b, u.ownBlock = some b → base ≤ b ∧ b < top
  bx : Bx (fun b => base ≤ b ∧ b < top) w0 w
theorem SpAt15.set {base top : Nat} {w0 w : World} {v : Value} {vs : List Value} (h : SpAt15 base top w0 v vs w) {i j b : Nat} {u : Value} (hu : vs[i]? = some u) (hb : u.ownBlock = some b) {x : Int} (hx : 0 ≤ x ∧ x < 256) : SpAt15 base top w0 v vs (w.setCell ⟨b, j, none⟩ (.int .u8 x)) := by
  have hX : Bx (· = b) w (w.setCell ⟨b, j, none⟩ (.int .u8 x)) := (Bx.refl _ _).put rfl
  obtain ⟨m, f, q1, q2, q3⟩ := h.rows i u hu
  refine ⟨own_keepx15 h.lst hX (fun b' hb' e => ?_), fun i' u' hu' => ?_, h.low, h.bx.trans (hX.more (fun y e => by rw [show y = b from e]; exact h.low i u hu b hb))⟩
  · have e' : b' = b := e
    subst e'
    rcases q2.2 with ⟨rfl, _⟩ | ⟨g, cap, cur, rfl, _, hg, _⟩
    · cases hb
    · cases hb
      rcases h.lst.2 with ⟨e1, _⟩ | ⟨g2, cap2, cur2, e1, _, hg2, _⟩
      · rw [e1] at hb'; cases hb'
      · rw [e1] at hb'; cases hb'
        rw [hg] at hg2
        simp only [Option.some.injEq, Obj.cells.injEq] at hg2
        exact absurd hg2.2.1 (by decide)
  · obtain ⟨m', f', p1, p2, p3⟩ := h.rows i' u' hu'
    obtain ⟨f2, p4, p5⟩ := own_set15 (b := b) (j := j) p2 p1 hx
    exact ⟨m', f2, p4, p5, p3⟩
set_option maxRecDepth 100000 in
set_option maxHeartbeats 4000000 in
theorem spoilt15_any {base top n : Nat} {w : World} {A : Option Addr} {c : Nat} {vs : List Value} (h : SpAt15 base top w (.slice A n c) vs w) (hn : vs.length = n) (hnb : n ≤ 1000000) :
    Calls Try.prog 31 #[.slice A n c] w fun e w' => e = .returned (.tuple #[]) ∧ Bx (fun b => base ≤ b ∧ b < top) w w' := by
  have hS0 : Hid (SpAt15 base top w (.slice A n c) vs w) := h
  clear h
  go_enter Try.func31, Try.ntmps31
  go_wp2
  go_loopw [2] (fun s2 wr => ∃ i : Nat, s2 = .int .i64 (i : Int) ∧ i ≤ n ∧ Hid (SpAt15 base top w (.slice A n c) vs wr)) (fun s2 _ => n - (intOf s2).toNat)
  case atStart => exact ⟨0, rfl, Nat.zero_le _, hS0⟩
  case round =>
    obtain ⟨i, rfl, hi, hS⟩ := hrel
    have i0 : (0 : Int) ≤ (i : Int) := Int.natCast_nonneg _
    by_cases hlt : i < n
    · have i1 : (i : Int) < (n : Int) := by omega
      obtain ⟨u, hu⟩ : ∃ u, Hid (vs[i]? = some u) := ⟨_, List.getElem?_eq_getElem (by omega)⟩
      have hform : ∃ (lb : Nat), A = some ⟨lb, 0, none⟩ ∧ Hid (∀ wr', SpAt15 base top w (.slice A n c) vs wr' → wr'.cell? ⟨lb, 0 + i, none⟩ = some u) := by
        rcases hS.out.lst.2 with ⟨e, e0⟩ | ⟨g, cap, cur, e, _⟩
        · omega
        · cases e
          refine ⟨g, rfl, fun wr' hw => ?_⟩
          rcases hw.lst.2 with ⟨e, _⟩ | ⟨g', cap', cur', e, _, hg', q1, q2, q3, q4⟩
          · cases e
          · cases e
            rw [Nat.zero_add, cell_of_row wr' g i cur' _ _ hg']
            have h5 : (cur'.toList.take (vs.length * 1))[i]? = vs[i]? := by rw [q4]
            rw [Nat.mul_one, List.getElem?_take, if_pos (by omega), Array.getElem?_toList, hu.out] at h5
            exact h5
      obtain ⟨lb, rfl, HL⟩ := hform
      obtain ⟨m, f, -, hm1, hm2⟩ := hS.out.rows i u hu.out
      have huf : ∃ Au cu, u = .slice Au m cu ∧ (0 < m → ∃ gb, Au = some ⟨gb, 0, none⟩) := by
        rcases hm1.2 with ⟨e, e0⟩ | ⟨g, cap, cur, e, _⟩
        · exact ⟨none, 0, by rw [e0]; exact e, fun h => by omega⟩
        · exact ⟨_, cap, e, fun _ => ⟨g, rfl⟩⟩
      obtain ⟨Au, cu, rfl, hAu⟩ := huf
      have l0 := HL.out _ hS.out
      rw [Nat.zero_add] at l0
      clear hm1 hS0
      go_wp2
      clear l0
      go_loopw [3] (fun s3 wr => ∃ k : Nat, s3 = .int .i64 (k : Int) ∧ k ≤ m ∧ Hid (SpAt15 base top w (.slice (some ⟨lb, 0, none⟩) n c) vs wr)) (fun s3 _ => m - (intOf s3).toNat)
      case atStart => exact ⟨0, rfl, Nat.zero_le _, hS⟩
      case round =>
        obtain ⟨k, rfl, hk, hS2⟩ := hrel
        have k0 : (0 : Int) ≤ (k : Int) := Int.natCast_nonneg _
        have l0 := HL.out _ hS2.out
        rw [Nat.zero_add] at l0
        by_cases hlt2 : k < m
        · have k1 : (k : Int) < (m : Int) := by omega
          obtain ⟨gb, rfl⟩ := hAu (by omega)
          obtain ⟨m', f', hf', ho', hm'⟩ := hS2.out.rows i _ hu.out
          have hmm : m' = m := by
            rcases ho'.2 with ⟨e, _⟩ | ⟨g, cap, cur, e, _⟩
            · cases e
            · simp only [Value.slice.injEq] at e; exact e.2.1.symm
          subst hmm
          obtain ⟨y, hy, hyb⟩ : ∃ y, Hid (f' k = y) ∧ (0 ≤ y ∧ y < 256) := ⟨_, rfl, hf' k⟩
          have hbyte : wr.cell? ⟨gb, k, none⟩ = some (.int .u8 y) ∧ wr.frozen? ⟨gb, k, none⟩ = false ∧ gb ≠ lb := by
            rcases ho'.2 with ⟨e, _⟩ | ⟨g, cap, cur, e, hg0, hg, q1, q2, q3, q4⟩
            · cases e
            · cases e
              refine ⟨?_, frozen_of_row wr gb k cur _ hg, fun e => ?_⟩
              · rw [cell_of_row wr gb k cur _ _ hg]
                have h5 : (cur.toList.take (m' * 1))[k]? = (cellsU f' m')[k]? := by rw [q4]
                rw [Nat.mul_one, List.getElem?_take, if_pos hlt2, Array.getElem?_toList] at h5
                rw [h5, ← hy.out]
                simp [cellsU, hlt2]
              · subst e
                rcases hS2.out.lst.2 with ⟨e, _⟩ | ⟨g2, cap2, cur2, e, _, hg2, _⟩
                · cases e
                · cases e
                  rw [hg] at hg2
                  simp only [Option.some.injEq, Obj.cells.injEq] at hg2
                  exact absurd hg2.2.1 (by decide)
          obtain ⟨y0, y1, y2⟩ := hbyte
          have HSet : Hid (∀ x : Int, 0 ≤ x ∧ x < 256 → SpAt15 base top w (.slice (some ⟨lb, 0, none⟩) n c) vs ((wr.setCell ⟨gb, k, none⟩ (.int .u8 x)).drew)) := fun x hx => by
            have hSd := hS2.out.set (j := k) hu.out rfl hx
            have kd := (Bw.refl (wr.setCell ⟨gb, k, none⟩ (.int .u8 x))).drew
            exact ⟨own_keep hSd.lst kd, fun i u hu => by
              obtain ⟨m, f, q1, q2, q3⟩ := hSd.rows i u hu
              exact ⟨m, f, q1, own_keep q2 kd, q3⟩, hSd.low, hSd.bx.trans (Bx.of_bw kd)⟩
          obtain ⟨xv, hxv, hxb⟩ : ∃ x, Hid (bits BinOp.xor IntKind.u8 (if IntKind.u8.signed = true then -1 else IntKind.u8.max) y = x) ∧ (0 ≤ x ∧ x < 256) := by
            have e1 : (if IntKind.u8.signed = true then (-1 : Int) else IntKind.u8.max) = 255 := by decide
            have e2 := x8_bits (a := 255) (b := y) (by omega) hyb
            have e3 := x8_bd (a := 255) (b := y) (by omega) hyb
            exact ⟨x8 255 y, by rw [e1]; exact e2, e3⟩
          have hset := HSet.out xv hxb
          have hfinH := (show Hid (SpAt15 base top w (.slice (some ⟨lb, 0, none⟩) n c) vs _) from hset)
          have l2 : ((wr.setCell ⟨gb, k, none⟩ (.int .u8 xv)).drew).cell? ⟨lb, i, none⟩ = some (.slice (some ⟨gb, 0, none⟩) m' cu) := (World.cell?_setCell_far _ _ _ _ y2).trans l0
          clear HSet hset
          clear hS2 hf' ho'
          have kwd : Bw wr wr.drew := (Bw.refl wr).drew
          have l1 := (kwd.cell (p := ⟨lb, i, none⟩) (block_lt_of_cell l0)).trans l0
          have z0 := (kwd.cell (p := ⟨gb, k, none⟩) (block_lt_of_cell y0)).trans y0
          have z1 : wr.drew.frozen? ⟨gb, k, none⟩ = false := y1
          go_upto_region 6 with fail
          refine wp_region_held_drew (S := fun w' => w'.cell? ⟨lb, i, none⟩ = some (.slice (some ⟨gb, 0, none⟩) m' cu)) (by kernel_rfl) (l1) (fun hHeld => ?_)
          refine wpAnyH_take (i := 0) (v := ?_) rfl (by kernel_rfl) (by kernel_rfl) (by kernel_rfl) (fun _ _ _ h => h) (Or.inl ⟨by rfl, ?_⟩) (by assumption) ?_
          rotate_left
          · intro w hSw; (try dsimp only at hSw); go_simp; all_goals (with_reducible rfl)
          try simp only [Act.put, List.setIfInBounds_toArray, List.set_cons_zero, List.set_cons_succ, List.getElem_toArray, List.getElem_cons_succ, List.getElem_cons_zero]
          refine wpAnyH_take (i := 1) (v := ?_) rfl (by kernel_rfl) (by kernel_rfl) (by kernel_rfl) (fun _ _ _ h => h) (Or.inl ⟨by rfl, ?_⟩) (by assumption) ?_
          rotate_left
          · intro w hSw; (try dsimp only at hSw); go_simp; all_goals (with_reducible rfl)
          try simp only [Act.put, List.setIfInBounds_toArray, List.set_cons_zero, List.set_cons_succ, List.getElem_toArray, List.getElem_cons_succ, List.getElem_cons_zero]
          refine wpAnyH_take (i := 2) (v := ?_) rfl (by kernel_rfl) (by kernel_rfl) (by kernel_rfl) (fun _ _ _ h => h) (Or.inl ⟨by rfl, ?_⟩) (by assumption) ?_
          rotate_left
          · intro w hSw; (try dsimp only at hSw); go_simp; all_goals (with_reducible rfl)
          try simp only [Act.put, List.setIfInBounds_toArray, List.set_cons_zero, List.set_cons_succ, List.getElem_toArray, List.getElem_cons_succ, List.getElem_cons_zero]
          refine wpAnyH_take (i := 3) (v := ?_) rfl (by kernel_rfl) (by kernel_rfl) (by kernel_rfl) (fun _ _ _ h => h) (Or.inl ⟨by rfl, ?_⟩) (by assumption) ?_
          rotate_left
          · intro w hSw; (try dsimp only at hSw); go_simp; all_goals (with_reducible rfl)
          try simp only [Act.put, List.setIfInBounds_toArray, List.set_cons_zero, List.set_cons_succ, List.getElem_toArray, List.getElem_cons_succ, List.getElem_cons_zero]
          refine wpAnyH_take (i := 4) (v := ?_) rfl (by kernel_rfl) (by kernel_rfl) (by kernel_rfl) (fun _ _ _ h => h) (Or.inl ⟨by rfl, ?_⟩) (by assumption) ?_
          rotate_left
          · intro w hSw; (try dsimp only at hSw); go_simp; all_goals (with_reducible rfl)
          try simp only [Act.put, List.setIfInBounds_toArray, List.set_cons_zero, List.set_cons_succ, List.getElem_toArray, List.getElem_cons_succ, List.getElem_cons_zero]
          refine wpAnyH_take (i := 5) (v := ?_) rfl (by kernel_rfl) (by kernel_rfl) (by kernel_rfl) (fun _ _ _ h => h) (Or.inl ⟨by rfl, ?_⟩) (by assumption) ?_
          rotate_left
          · intro w hSw; (try dsimp only at hSw); go_simp; all_goals (with_reducible rfl)
          try simp only [Act.put, List.setIfInBounds_toArray, List.set_cons_zero, List.set_cons_succ, List.getElem_toArray, List.getElem_cons_succ, List.getElem_cons_zero]
          refine wpAnyH_take (i := 6) (v := ?_) rfl (by kernel_rfl) (by kernel_rfl) (by kernel_rfl) (fun _ _ _ h => h) (Or.inl ⟨by rfl, ?_⟩) (by assumption) ?_
          rotate_left
          · intro w hSw; (try dsimp only at hSw); go_simp; all_goals (with_reducible rfl)
          try simp only [Act.put, List.setIfInBounds_toArray, List.set_cons_zero, List.set_cons_succ, List.getElem_toArray, List.getElem_cons_succ, List.getElem_cons_zero]
          refine wpAnyH_take (i := 7) (v := ?_) rfl (by kernel_rfl) (by kernel_rfl) (by kernel_rfl) (fun _ _ _ h => h) (Or.inl ⟨by rfl, ?_⟩) (by assumption) ?_
          rotate_left
          · intro w hSw; (try dsimp only at hSw); go_simp; all_goals (with_reducible rfl)
          try simp only [Act.put, List.setIfInBounds_toArray, List.set_cons_zero, List.set_cons_succ, List.getElem_toArray, List.getElem_cons_succ, List.getElem_cons_zero]
          refine wpAnyH_take (i := 8) (v := ?_) rfl (by kernel_rfl) (by kernel_rfl) (by kernel_rfl) (fun _ _ _ h => h) (Or.inl ⟨by rfl, ?_⟩) (by assumption) ?_
          rotate_left
          · intro w hSw; (try dsimp only at hSw); go_simp; all_goals (with_reducible rfl)
          try simp only [Act.put, List.setIfInBounds_toArray, List.set_cons_zero, List.set_cons_succ, List.getElem_toArray, List.getElem_cons_succ, List.getElem_cons_zero]
          refine wpAnyH_take (i := 9) (v := ?_) rfl (by kernel_rfl) (by kernel_rfl) (by kernel_rfl) (fun _ _ _ h => h) (Or.inl ⟨by rfl, ?_⟩) (by assumption) ?_
          rotate_left
          · intro w hSw; (try dsimp only at hSw); go_simp; all_goals (with_reducible rfl)
          try simp only [Act.put, List.setIfInBounds_toArray, List.set_cons_zero, List.set_cons_succ, List.getElem_toArray, List.getElem_cons_succ, List.getElem_cons_zero]
          refine wpAnyH_take (i := 10) (v := ?_) rfl (by kernel_rfl) (by kernel_rfl) (by kernel_rfl) (fun _ _ _ h => h) (Or.inl ⟨by rfl, ?_⟩) (by assumption) ?_
          rotate_left
          · intro w hSw; (try dsimp only at hSw); go_simp; all_goals (with_reducible rfl)
          try simp only [Act.put, List.setIfInBounds_toArray, List.set_cons_zero, List.set_cons_succ, List.getElem_toArray, List.getElem_cons_succ, List.getElem_cons_zero]
          refine wpAnyH_ready (rs := [11]) (by kernel_rfl) (by simp) ?_
          refine AllReadyH.cons rfl (fun K hK => ?_) AllReadyH.nil
          go_simp
          refine hK.out _ _ (l1) (fun hHeld => ?_)
          clear hK K
          try simp only [Act.put, List.setIfInBounds_toArray, List.set_cons_zero, List.set_cons_succ, List.getElem_toArray, List.getElem_cons_succ, List.getElem_cons_zero]
          refine wpAnyH_take (i := 12) (v := ?_) rfl (by kernel_rfl) (by kernel_rfl) (by kernel_rfl) (fun _ _ _ h => h) (Or.inl ⟨by rfl, ?_⟩) (by assumption) ?_
          rotate_left
          · intro w hSw; (try dsimp only at hSw); go_simp; all_goals (with_reducible rfl)
          try simp only [Act.put, List.setIfInBounds_toArray, List.set_cons_zero, List.set_cons_succ, List.getElem_toArray, List.getElem_cons_succ, List.getElem_cons_zero]
          refine wpAnyH_take (i := 13) (v := ?_) rfl (by kernel_rfl) (by kernel_rfl) (by kernel_rfl) (fun _ _ _ h => h) (Or.inl ⟨by rfl, ?_⟩) (by assumption) ?_
          rotate_left
          · intro w hSw; (try dsimp only at hSw); go_simp; all_goals (with_reducible rfl)
          try simp only [Act.put, List.setIfInBounds_toArray, List.set_cons_zero, List.set_cons_succ, List.getElem_toArray, List.getElem_cons_succ, List.getElem_cons_zero]
          refine wpAnyH_ready (rs := [14]) (by kernel_rfl) (by simp) ?_
          refine AllReadyH.cons rfl (fun K hK => ?_) AllReadyH.nil
          go_simp
          rw [hxv.out]
          refine hK.out _ _ (l2) (fun hHeld => ?_)
          clear hK K
          try simp only [Act.put, List.setIfInBounds_toArray, List.set_cons_zero, List.set_cons_succ, List.getElem_toArray, List.getElem_cons_succ, List.getElem_cons_zero]
          refine wpAnyH_done (by kernel_rfl) ?_ _
          go_wp2
          go_roundw
          case rel => exact ⟨k + 1, by go_num, by omega, hfinH⟩
          case measure => simp [intOf]; omega
        · have k1 : ¬ (k : Int) < (m : Int) := by omega
          have hS3 : Hid (SpAt15 base top w (.slice (some ⟨lb, 0, none⟩) n c) vs wr) := hS2
          go_wp2
          go_roundw
          case rel => exact ⟨i + 1, by go_num, by omega, hS3⟩
          case measure => simp [intOf]; omega
    · have i1 : ¬ (i : Int) < (n : Int) := by omega
      go_wp2
      go_end0
      exact ⟨rfl, hS.out.bx⟩
end Go.Proofs.Ytppknadflmjefaa
