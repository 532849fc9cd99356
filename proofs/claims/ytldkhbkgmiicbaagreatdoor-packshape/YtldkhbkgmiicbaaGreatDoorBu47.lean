/- Texts of mine, put together. -/
import Derived.Test.YtldkhbkgmiicbaaGreatDoorBu46
import Derived.Test.YtldkhbkgmiicbaaGreatDoorBu22
import Derived.Test.YtldkhbkgmiicbaaGreatDoorBu36
import Derived.Test.YtldkhbkgmiicbaaGreatDoorBu45
import Derived.Test.YtldkhbkgmiicbaaGreatDoorBu33
import Derived.Laws.StructEq

/- The statements' own small, same, place, lent, kept and awake, of layer 10; two heads held against each other (written by mkx10.py). -/
namespace Go.Proofs.YtldkhbkgmiicbaaGreatDoor
open Go.RowKit Go.Deep
set_option linter.unusedVariables false
set_option linter.unusedSimpArgs false

theorem eqOfB (a b : Hd.B) : ((Hd.S a).toList == (Hd.S b).toList) = (a == b) := by rw [Hd.toList_S, Hd.toList_S]
theorem hd_eq (a b : Hd.Hdr) : a = b ↔ a.name = b.name ∧ a.pre = b.pre ∧ a.mode = b.mode ∧ a.size = b.size ∧ a.time = b.time ∧ a.typ = b.typ ∧ a.link = b.link := by
  constructor
  · rintro rfl; exact ⟨rfl, rfl, rfl, rfl, rfl, rfl, rfl⟩
  · rintro ⟨h1, h2, h3, h4, h5, h6, h7⟩
    cases a; cases b
    simp only at h1 h2 h3 h4 h5 h6 h7
    subst h1 h2 h3 h4 h5 h6 h7
    rfl
/-- what '==' tells of two heads -/
def Hd.eqB (a b : Hd.Hdr) : Bool := a.name == b.name && (a.pre == b.pre && (a.mode == b.mode && (a.size == b.size && (a.time == b.time && (((a.typ.toNat : Nat) : Int) == ((b.typ.toNat : Nat) : Int) && a.link == b.link)))))
theorem Hd.eqB_iff (a b : Hd.Hdr) : Hd.eqB a b = true ↔ a = b := by
  rw [hd_eq]
  unfold Hd.eqB
  simp only [Bool.and_eq_true, beq_iff_eq]
  have k : (((a.typ.toNat : Nat) : Int) = ((b.typ.toNat : Nat) : Int)) ↔ a.typ = b.typ := ⟨fun h => UInt8.toNat_inj.1 (by omega), fun h => by rw [h]⟩
  rw [k]
theorem Hd.eqB_same (a : Hd.Hdr) : Hd.eqB a a = true := (Hd.eqB_iff a a).2 rfl
set_option maxRecDepth 100000 in
theorem equalIn_head (W : World) (a b : Hd.Hdr) : (Op.equalIn 10000 61 (.agg (Hd.hv a)) (.agg (Hd.hv b))).run Tryz.prog W = .ok (Hd.eqB a b) W := by
  unfold Hd.hv Hd.eqB
  rw [run_equalIn_struct W 9999 61 _ _ (by kernel_rfl) (by kernel_rfl)]
  rw [← eqOfB a.name b.name, ← eqOfB a.pre b.pre, ← eqOfB a.link b.link]
  cases h1 : ((Hd.S a.name).toList == (Hd.S b.name).toList)
  · simp [go_sem, Op.eqFields, h1]
  cases h2 : ((Hd.S a.pre).toList == (Hd.S b.pre).toList)
  · simp [go_sem, Op.eqFields, h1, h2]
  cases h3 : (a.mode == b.mode)
  · simp [go_sem, Op.eqFields, h1, h2, h3]
  cases h4 : (a.size == b.size)
  · simp [go_sem, Op.eqFields, h1, h2, h3, h4]
  cases h5 : (a.time == b.time)
  · simp [go_sem, Op.eqFields, h1, h2, h3, h4, h5]
  cases h6 : (((a.typ.toNat : Nat) : Int) == ((b.typ.toNat : Nat) : Int))
  · simp [go_sem, Op.eqFields, h1, h2, h3, h4, h5, h6]
  cases h7 : ((Hd.S a.link).toList == (Hd.S b.link).toList)
  · simp [go_sem, Op.eqFields, h1, h2, h3, h4, h5, h6, h7]
  · simp [go_sem, Op.eqFields, h1, h2, h3, h4, h5, h6, h7]
theorem guard_head : Tryz.prog.eqGuardType Tryz.prog.depth 61 = false := by kernel_rfl
/-- the head of the chapter's examples -/
def Hd.small : Hd.Hdr := ⟨[97], 420, 3, 0, 48, [], []⟩
theorem Hd.small_good : Hd.Good Hd.small := Hd.may_good (by decide)
theorem Hd.small_sum : Hd.sumB (Hd.layB Hd.small) = 3809 := by decide +kernel
theorem Hd.small_mid : ((Hd.layB Hd.small).drop 148).take 8 = [48, 48, 55, 51, 52, 49, 0, 32] := by decide +kernel
def Hd.small7 : Array Value := #[.string ⟨#[97]⟩, .string ⟨#[]⟩, .int .i64 420, .int .i64 3, .int .i64 0, .int .u8 48, .string ⟨#[]⟩]
theorem Hd.small_hv : Hd.hv Hd.small = Hd.small7 := rfl
theorem built_small : Tryz.prog.built 61 [(0, .string ⟨#[97]⟩), (2, .int .i64 420), (3, .int .i64 3), (5, .int .u8 48)] = some Hd.small7 := by kernel_rfl
theorem conv_arr {w : World} {g : Nat} {l : Hd.B} (h : ArrAt w g l) (o n C : Nat) (hn : o + n ≤ l.length) : (convert 24 9 (.slice (some ⟨g, o, none⟩) n C)).run Tryz.prog w = .ok (.string (Hd.S ((l.drop o).take n))) w := by
  have := conv_row (C := C) (h.row o n hn)
  have el : ((l.drop o).take n).length = n := by rw [List.length_take, List.length_drop]; omega
  have e := Hd.str_S ((l.drop o).take n)
  rw [el] at e
  rw [← e]
  exact this
theorem hPut_good (h : Hd.Hdr) (g : Hd.Good h) (w : World) : Calls Tryz.prog 87 #[.agg (Hd.hv h)] w fun e w' => ∃ b, e = .returned (.tuple #[.slice (some ⟨b, 0, none⟩) 512 512, .int .i64 0]) ∧ NewArr w w' b (Hd.layB h) ∧ Bw w w' := by
  refine (hPut_any h w).mono ?_
  rintro e w' ⟨-, h2, h3⟩
  obtain ⟨b, he, hn⟩ := h2 (Hd.good_may g)
  exact ⟨b, he, hn, h3⟩
theorem arr_row512 {w : World} {g : Nat} {l : Hd.B} (h : ArrAt w g l) (hl : l.length = 512) : RowAt w (some ⟨g, 0, none⟩) 512 (Hd.rowF l) := by
  have := h.row 0 512 (by omega)
  rw [List.drop_zero, List.take_of_length_le (by omega)] at this
  exact this
theorem hGet_lay (h : Hd.Hdr) (g : Hd.Good h) (b ca : Nat) (w : World) (ha : ArrAt w b (Hd.layB h)) : Calls Tryz.prog 24 #[.slice (some ⟨b, 0, none⟩) 512 ca] w fun e w' => e = .returned (.tuple #[.agg (Hd.hv h), .int .i64 0]) ∧ Bw w w' := by
  refine (hGet_any _ 512 ca (Hd.layB h) (Hd.lay_len g) w (arr_row512 ha (Hd.lay_len g))).mono ?_
  rintro e w' ⟨⟨k, er, he, hr⟩, hw⟩
  obtain ⟨rfl, rfl⟩ := Hd.reads_lay g hr
  exact ⟨he, hw⟩
end Go.Proofs.YtldkhbkgmiicbaaGreatDoor

/- What the statements of layer 10 want besides: rows as lists, what is read. -/
namespace Go.Proofs.YtldkhbkgmiicbaaGreatDoor
open Go.RowKit Go.Deep
set_option linter.unusedVariables false
set_option linter.unusedSimpArgs false

theorem row_list {w : World} {A : Option Addr} {n : Nat} {f : Nat → Int} (h : RowAt w A n f) : ∃ l : Hd.B, l.length = n ∧ RowAt w A n (Hd.rowF l) ∧ ∀ i, i < n → Hd.rowF l i = f i :=
  ⟨Hd.ofF f n, Hd.ofF_len f n, row_congr10 h (Hd.rowF_bd _) (fun i hi => Hd.rowF_ofF h.2 hi), fun i hi => Hd.rowF_ofF h.2 hi⟩
theorem Hd.reads_ex (b : Hd.B) : ∃ h e, Hd.Reads b h e := by
  rcases Hd.reads_cases b with a | ⟨a, c⟩ | ⟨a, c, d⟩ | ⟨a, c, d, m, g, em⟩ | ⟨a, c, d, m⟩
  · exact ⟨Hd.none, 1, fun _ => ⟨rfl, rfl⟩, fun h => absurd h a, fun h => absurd h a, fun h => absurd h a, fun h => absurd h a⟩
  · exact ⟨Hd.none, 100, fun h => absurd a h, fun _ _ => ⟨rfl, rfl⟩, fun _ h => absurd h c, fun _ h => absurd h c, fun _ h => absurd h c⟩
  · exact ⟨Hd.none, 101, fun h => absurd a h, fun _ h => absurd c h, fun _ _ _ => ⟨rfl, rfl⟩, fun _ _ h => absurd h d, fun _ _ h => absurd h d⟩
  · refine ⟨m, 0, ?_⟩
    rw [← em]
    exact Hd.lay_reads g
  · exact ⟨Hd.none, 100, fun h => absurd a h, fun _ h => absurd c h, fun _ _ h => absurd d h, fun _ _ _ k gk ek => absurd ek (m k gk), fun _ _ _ _ => ⟨rfl, rfl⟩⟩
/-- Get answers what is read -/
theorem hGet_reads (A : Option Addr) (n ca : Nat) (l : Hd.B) (k : Hd.Hdr) (er : Nat) (hl : l.length = n) (hr : Hd.Reads l k er) (w : World) (hw : RowAt w A n (Hd.rowF l)) : Calls Tryz.prog 24 #[.slice A n ca] w fun e w' => e = .returned (.tuple #[.agg (Hd.hv k), .int .i64 ((er : Nat) : Int)]) ∧ Bw w w' := by
  refine (hGet_any A n ca l hl w hw).mono ?_
  rintro e w' ⟨⟨k', er', rfl, hr'⟩, hb⟩
  obtain ⟨rfl, rfl⟩ := Hd.reads_unique hr hr'
  exact ⟨rfl, hb⟩
theorem headat_new (w : World) (h : Hd.Hdr) : HeadAt (w.alloc (.cells (Hd.hv h) 61)) w.heap.size h := heap_alloc_new _ _
theorem eq_none (W : World) {N : Array Value} (hN : Hid (N = Hd.none7)) : (Op.equalIn 10000 61 (.agg (Hd.hv Hd.none)) (.agg N)).run Tryz.prog W = .ok true W := by
  rw [hN.out, ← Hd.hv_none, equalIn_head, Hd.eqB_same]
theorem eq_none7 (W : World) : (Op.equalIn 10000 61 (.agg (Hd.hv Hd.none)) (.agg Hd.none7)).run Tryz.prog W = .ok true W := by
  rw [← Hd.hv_none, equalIn_head, Hd.eqB_same]
end Go.Proofs.YtldkhbkgmiicbaaGreatDoor

/- Layer 12: where a volume's heads stand; the statements' helpers blank and typed (written by mkzi.py). -/
namespace Go.Proofs.YtldkhbkgmiicbaaGreatDoor
open Go.RowKit Go.Deep
set_option linter.unusedVariables false
set_option linter.unusedSimpArgs false

namespace Pk
/-- at p stands a head and, filled, what it tells the size of; all within the first N bytes -/
structure Seg (V : B) (N p : Nat) (H : Hd.Hdr) (c : B) : Prop where
  good : Hd.Good H
  lies : ∃ rest, V.drop p = Hd.layB H ++ (fill c ++ rest)
  size : H.size = ((c.length : Nat) : Int)
  fits : p + 512 + (fill c).length ≤ N
  len : V.length = N + 1024
theorem Seg.head {V : B} {N p : Nat} {H : Hd.Hdr} {c : B} (h : Seg V N p H c) : (V.drop p).take 512 = Hd.layB H := by
  obtain ⟨r, e⟩ := h.lies
  rw [e, List.take_append_of_le_length (by rw [Hd.lay_len h.good]; exact Nat.le_refl _), List.take_of_length_le (by rw [Hd.lay_len h.good]; exact Nat.le_refl _)]
theorem Seg.rest {V : B} {N p : Nat} {H : Hd.Hdr} {c : B} (h : Seg V N p H c) : ∃ r, V.drop (p + 512) = fill c ++ r := by
  obtain ⟨r, e⟩ := h.lies
  refine ⟨r, ?_⟩
  rw [← List.drop_drop, e, List.drop_append_of_le_length (by rw [Hd.lay_len h.good]; exact Nat.le_refl _), List.drop_eq_nil_of_le (by rw [Hd.lay_len h.good]; exact Nat.le_refl _), List.nil_append]
theorem Seg.body {V : B} {N p : Nat} {H : Hd.Hdr} {c : B} (h : Seg V N p H c) : (V.drop (p + 512)).take c.length = c := by
  obtain ⟨r, e⟩ := h.rest
  rw [e]
  unfold fill
  rw [List.append_assoc, List.take_append_of_le_length (Nat.le_refl _), List.take_of_length_le (Nat.le_refl _)]
theorem Seg.gap {V : B} {N p : Nat} {H : Hd.Hdr} {c : B} (h : Seg V N p H c) : (V.drop (p + 512 + c.length)).take (gap c.length) = List.replicate (gap c.length) 0 := by
  obtain ⟨r, e⟩ := h.rest
  rw [← List.drop_drop, e]
  unfold fill
  rw [List.append_assoc, List.drop_append_of_le_length (Nat.le_refl _), List.drop_eq_nil_of_le (Nat.le_refl _), List.nil_append, List.take_append_of_le_length (by rw [List.length_replicate]; exact Nat.le_refl _), List.take_of_length_le (by rw [List.length_replicate]; exact Nat.le_refl _)]
theorem gap_div (n : Nat) : n + gap n = (n + 511) / 512 * 512 := by unfold gap; omega
/-- behind k items, and behind the records of the next one -/
def pos (t : List Tr.It) (k : Nat) (j : Bool) : Nat := (flat (t.take k)).length + (if j then (match t[k]? with | some x => (front x).length | none => 0) else 0)
theorem flat_at {t : List Tr.It} {k : Nat} {x : Tr.It} (hx : t[k]? = some x) : flat t = flat (t.take k) ++ (pcs x ++ flat (t.drop (k + 1))) := by
  obtain ⟨hk, he⟩ := List.getElem?_eq_some_iff.1 hx
  unfold flat
  rw [← List.flatMap_cons, ← List.flatMap_append, ← he, ← List.drop_eq_getElem_cons hk, List.take_append_drop]
theorem pos_zero (t : List Tr.It) : pos t 0 false = 0 := rfl
theorem pos_end (t : List Tr.It) : pos t t.length false = (flat t).length := by unfold pos; rw [List.take_length]; rfl
theorem seg_more {t : List Tr.It} {k : Nat} {x : Tr.It} (hall : ∀ x ∈ t, Tr.mayE x = 0) (hx : t[k]? = some x) (hp : prsOf x ≠ []) :
    Seg (flat t ++ List.replicate 1024 0) (flat t).length (pos t k false) (more (recs x).length) (recs x) ∧ pos t k true = pos t k false + 512 + (fill (recs x)).length ∧ pos t k true < (flat t).length ∧ 0 < (recs x).length := by
  have hm := hall x (List.mem_of_getElem? hx)
  have hl := recs_len x
  have e1 : pos t k false = (flat (t.take k)).length := by unfold pos; rfl
  have hf : front x = Hd.layB (more (recs x).length) ++ fill (recs x) := by unfold front; rw [if_neg hp, hB_more hl]
  have hfl := congrArg List.length (flat_at hx)
  rw [List.length_append, List.length_append] at hfl
  have hpl : (pcs x).length = (front x).length + (512 + (fill x.body).length) := by unfold pcs; rw [List.length_append, List.length_append, hB_hd hm, Hd.lay_len (hd_good hm)]
  have hfr : (front x).length = 512 + (fill (recs x)).length := by rw [hf, List.length_append, Hd.lay_len (more_good hl)]
  have e2 : pos t k true = (flat (t.take k)).length + (front x).length := by unfold pos; rw [hx]; rfl
  refine ⟨⟨more_good hl, ⟨hB (hd x) ++ (fill x.body ++ (flat (t.drop (k + 1)) ++ List.replicate 1024 0)), ?_⟩, rfl, by omega, by rw [List.length_append, List.length_replicate]⟩, by omega, by omega, ?_⟩
  · rw [e1, flat_at hx, List.append_assoc, List.drop_append_of_le_length (Nat.le_refl _), List.drop_eq_nil_of_le (Nat.le_refl _), List.nil_append]
    unfold pcs
    rw [hf]
    simp only [List.append_assoc]
  · rw [recs_all hm]
    cases h : prsOf x with
    | nil => exact absurd h hp
    | cons q qs =>
      rw [Px.all9, List.length_append, Px.rcd_len]
      have := Px.psize_pos q; omega
theorem seg_item {t : List Tr.It} {k : Nat} {x : Tr.It} {j : Bool} (hall : ∀ x ∈ t, Tr.mayE x = 0) (hx : t[k]? = some x) (hj : j = false → prsOf x = []) :
    Seg (flat t ++ List.replicate 1024 0) (flat t).length (pos t k j) (hd x) x.body ∧ pos t (k + 1) false = pos t k j + 512 + (fill x.body).length := by
  have hm := hall x (List.mem_of_getElem? hx)
  have hfl := congrArg List.length (flat_at hx)
  rw [List.length_append, List.length_append] at hfl
  have hpl : (pcs x).length = (front x).length + (512 + (fill x.body).length) := by unfold pcs; rw [List.length_append, List.length_append, hB_hd hm, Hd.lay_len (hd_good hm)]
  have e2 : pos t k j = (flat (t.take k)).length + (front x).length := by
    cases j with
    | true => unfold pos; rw [hx]; rfl
    | false =>
      have : front x = [] := by unfold front; rw [if_pos (hj rfl)]
      rw [this]; unfold pos; rfl
  have e3 : pos t (k + 1) false = (flat (t.take k)).length + (pcs x).length := by unfold pos; rw [flat_take hx, List.length_append]; rfl
  refine ⟨⟨hd_good hm, ⟨flat (t.drop (k + 1)) ++ List.replicate 1024 0, ?_⟩, rfl, by omega, by rw [List.length_append, List.length_replicate]⟩, by omega⟩
  rw [e2, flat_at hx, List.append_assoc, ← List.drop_drop, List.drop_append_of_le_length (Nat.le_refl _), List.drop_eq_nil_of_le (Nat.le_refl _), List.nil_append]
  unfold pcs
  rw [hB_hd hm]
  simp only [List.append_assoc]
  rw [List.drop_append_of_le_length (Nat.le_refl _), List.drop_eq_nil_of_le (Nat.le_refl _), List.nil_append]
theorem pos_lt {t : List Tr.It} {k : Nat} {x : Tr.It} (hall : ∀ x ∈ t, Tr.mayE x = 0) (hx : t[k]? = some x) : pos t k false < (flat t).length := by
  have hm := hall x (List.mem_of_getElem? hx)
  have hfl := congrArg List.length (flat_at hx)
  rw [List.length_append, List.length_append] at hfl
  have := pcs_pos hm
  have e1 : pos t k false = (flat (t.take k)).length := by unfold pos; rfl
  omega
end Pk
/-- a part of a row -/
theorem row_part {w : World} {g : Nat} {V : Pk.B} {n p m : Nat} (hn : V.length = n) (hr : RowAt w (some ⟨g, 0, none⟩) n (Hd.rowF V)) (h : p + m ≤ n) : RowAt w (some ⟨g, p, none⟩) m (Hd.rowF ((V.drop p).take m)) := by
  have h1 := rowat_cutz (q := p) (by omega) hr p (.inl (by omega))
  exact rowat_take (q := m) (by omega) h1
set_option maxRecDepth 100000 in
set_option maxHeartbeats 1000000 in
theorem blank12_yes (A : Option Addr) (n ca : Nat) (hn : n ≤ 4611686018427387904) (w : World) (ha : RowAt w A n (Hd.rowF (List.replicate n 0))) :
    Calls Tryz.prog 23 #[.slice A n ca] w fun e w' => e = .returned (.bool true) ∧ ∃ q, w' = w.drewN q := by
  go_enter Tryz.func23, Tryz.ntmps23
  go_wp2
  go_loopw [3] (fun i wr => ∃ (k q : Nat), k ≤ n ∧ i = .int .i64 (k : Int) ∧ Hid (wr = w.drewN q)) (fun i _ => n - (intOf i).toNat)
  case atStart => exact ⟨0, 0, Nat.zero_le _, rfl, rfl⟩
  case round =>
    obtain ⟨k, q, hk, rfl, hq⟩ := hrel
    have k0 : (0 : Int) ≤ (k : Int) := Int.natCast_nonneg _
    have hbw : Bw w wr := by rw [hq.out]; exact Bw.drewN w q
    by_cases hlt : k < n
    · obtain ⟨b1, o1, rfl, hc1⟩ := (ha.keep hbw).at hlt
      have c1 := hc1 k hlt
      have e0 : Hd.rowF (List.replicate n 0) k = 0 := by
        unfold Hd.rowF
        rw [List.getD_eq_getElem?_getD, List.getElem?_replicate, if_pos hlt]; rfl
      rw [e0] at c1
      have t1 : (k : Int) < (n : Int) := by omega
      have hq2 : Hid (∀ nq, wr.drewN nq = w.drewN (q + nq)) := fun nq => by rw [hq.out]; exact drewN_add7 w q nq
      clear hc1
      go_wp2
      go_round
      case rel => exact ⟨k + 1, q, by omega, by go_num, hq⟩
      case measure => simp [intOf]; omega
    · have t1 : ¬ (k : Int) < (n : Int) := by omega
      obtain rfl : k = n := by omega
      go_wp2
      go_ret
      exact ⟨rfl, q, hq.out⟩
theorem typed12_any (k : Nat) (hk : k < 256) (w : World) : Calls Tryz.prog 25 #[.int .u8 (k : Int)] w fun e w' => e = .returned (.int .u8 ((Pk.typ k).toNat : Int)) ∧ w' = w := by
  unfold Pk.typ
  by_cases h3 : k = 3
  · subst h3
    go_enter Tryz.func25, Tryz.ntmps25
    go_wp2
    go_ret
    exact ⟨rfl, rfl⟩
  · have e3 : ((k : Int) == 3) = false := by rw [beq_eq_false_iff_ne]; omega
    by_cases h4 : k = 4
    · subst h4
      go_enter Tryz.func25, Tryz.ntmps25
      go_wp2
      go_ret
      exact ⟨rfl, rfl⟩
    · have e4 : ((k : Int) == 4) = false := by rw [beq_eq_false_iff_ne]; omega
      by_cases h2 : k = 2
      · subst h2
        go_enter Tryz.func25, Tryz.ntmps25
        go_wp2
        go_ret
        exact ⟨rfl, rfl⟩
      · have e2 : ((k : Int) == 2) = false := by rw [beq_eq_false_iff_ne]; omega
        rw [if_neg h3, if_neg h4, if_neg h2]
        clear h2 h3 h4
        go_enter Tryz.func25, Tryz.ntmps25
        go_wp2
        go_ret
        exact ⟨rfl, rfl⟩
end Go.Proofs.YtldkhbkgmiicbaaGreatDoor
