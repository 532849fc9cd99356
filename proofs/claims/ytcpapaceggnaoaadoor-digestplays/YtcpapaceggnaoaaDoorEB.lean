/- Contract of the program's own Write: the walks. -/
import Derived.Test.YtcpapaceggnaoaaDoorEA
namespace Go.Proofs.YtcpapaceggnaoaaDoor
open Go.RowKit Go.Deep

/-- what a Write says: the hash is of the bytes and those behind them -/
def WriteSays (w : World) (g : Nat) (F : Nat → Int) (len : Nat) (A : Option Addr) (L : Nat) (f : Nat → Int) (w' : World) : Prop :=
  ∃ A', HashAt w' g (joinF F len f) (len + L) A' ∧ ((A' = A ∧ L = 0) ∨ ∀ a, A' = some a → w.heap.size ≤ a.block) ∧ Bx (· = g) w w'

/-- at a step of a drawn region: a row appended to a list without room -/
theorem step_append_rows {w : World} {ops : Array Oper} {o : Oper} {a : Act} {K : Act → World → Prop} {Q : Exit → Act → World → Prop} {E : Prop} (hgd : o.guard = none) (s x : Operand)
    (ho : o.op = .call { callee := .builtin .append, args := #[s, x], argTypes := #[22, 22] })
    (A : Option Addr) (n : Nat) (fo : Nat → Int) (hs : a.eval s = .slice A n n) (h : RowAt w A n fo) (b off m c : Nat) (f : Nat → Int) (hx : a.eval x = .slice (some ⟨b, off, none⟩) m c) (hr : RowAt w (some ⟨b, off, none⟩) m f) (hm : 0 < m) (hb : n + m ≤ 140737488355328)
    (hh : ∀ gb cap w', n + m ≤ cap → cap ≤ maxLen → w.heap.size ≤ gb → Own w' gb (n + m) (fun c => if c < n then fo c else f (c - n)) → Bw w w' → K (a.put o.dst (.slice (some ⟨gb, 0, none⟩) (n + m) cap)) w') :
    if Region.wanted o (yielded ops a.tmps) = true then Oper.wp Tryd.prog o a w K Q else E := by
  have hw : Region.wanted o (yielded ops a.tmps) = true := by simp [Region.wanted, hgd]
  rw [if_pos hw]
  obtain ⟨v', w', hrun, hown, hbw⟩ := run_append_full h o.type ⟨b, off, none⟩ m c (cellsU f m) (cellsU_len f m) (rowat_news hr) (cellsU_one f m) hm hb
  rw [cellsU_append] at hown
  obtain ⟨gb, cap, rfl, h1, h2, h3, h4⟩ := Own.of hown (by omega)
  unfold Oper.wp execOp
  simp only [ho, resolve, invoke, builtin, Sem.run_bind, Sem.run_pure, Result.andThen_ok, List.map_toArray, List.map_cons, List.map_nil, hs, hx, hrun]
  exact hh gb cap w' h2 h3 h1 h4 hbw
theorem step_append_zero {w : World} {ops : Array Oper} {o : Oper} {a : Act} {K : Act → World → Prop} {Q : Exit → Act → World → Prop} {E : Prop} (hgd : o.guard = none) (s x : Operand)
    (ho : o.op = .call { callee := .builtin .append, args := #[s, x], argTypes := #[22, 22] })
    (A B : Option Addr) (n c : Nat) (hs : a.eval s = .slice A n n) (hx : a.eval x = .slice B 0 c) (hA : A = none → n = 0) (hh : K (a.put o.dst (.slice A n n)) w) :
    if Region.wanted o (yielded ops a.tmps) = true then Oper.wp Tryd.prog o a w K Q else E := by
  have hw : Region.wanted o (yielded ops a.tmps) = true := by simp [Region.wanted, hgd]
  rw [if_pos hw]
  have hrun := run_append_zero w A B n c o.type hA
  unfold Oper.wp execOp
  simp only [ho, resolve, invoke, builtin, Sem.run_bind, Sem.run_pure, Result.andThen_ok, List.map_toArray, List.map_cons, List.map_nil, hs, hx, hrun]
  exact hh

set_option maxRecDepth 100000 in
set_option maxHeartbeats 4000000 in
theorem write_none (g : Nat) (F : Nat → Int) (len : Nat) (A B : Option Addr) (cb : Nat) (f : Nat → Int) (hf : ∀ i, 0 ≤ f i ∧ f i < 256) (hlen : len ≤ 1000000000000) (w : World) (hh : HashAt w g F len A) :
    Calls Tryd.prog 15 #[.pointer (some ⟨g, 0, none⟩), .slice B 0 cb] w fun e w' => e = .returned (.tuple #[]) ∧ WriteSays w g F len A 0 f w' := by
  obtain ⟨s, hs⟩ : ∃ s, Hid (s = Sha.after (nbD F) (len / 64)) := ⟨_, rfl⟩
  obtain ⟨n, hn⟩ : ∃ n, Hid (n = len % 64) := ⟨_, rfl⟩
  have hn64 : n < 64 := by have := hn.out; omega
  have hH := hh.at_
  have hrow := hh.row
  rw [← hs.out, ← hn.out] at hH
  rw [← hn.out] at hrow
  have c9 := hH.length
  have n0 : ¬ n = 64 := by omega
  have n1 : (0 : Int) ≤ 64 - (n : Int) := by omega
  have hnn : A = none → n = 0 := fun e => by
    rcases hrow.1 with h0 | ⟨b, off, e', _⟩
    · exact h0
    · rw [e] at e'; cases e'
  have hH1 : HAt (w.setCell ⟨g, 9, none⟩ (.int .i64 (len : Int))) g s A n len := hH.setLength len rfl
  have c8 := hH.left
  have hx1 : Bx (· = g) w (w.setCell ⟨g, 9, none⟩ (.int .i64 (len : Int))) := (Bx.refl _ _).put rfl
  go_enter Tryd.func15, Tryd.ntmps15
  go_wp2
  obtain ⟨w1, hw1⟩ : ∃ w1, w1 = w.setCell ⟨g, 9, none⟩ (.int .i64 (len : Int)) := ⟨_, rfl⟩
  rw [← hw1] at hH1 hx1 ⊢
  clear hw1 c9 c8
  have c8 := hH1.left
  go_region_held3 (fun w' => w'.cell? ⟨g, 8, none⟩ = some (.slice A n n)) (first | go_keep | exact c8.1) (first | (refine step_append_zero (by rfl) _ _ (by rfl) A B n cb (by rfl) (by rfl) hnn ?_))
  go_wp2
  go_end0
  have hx2 : Bx (· = g) w (w1.setCell ⟨g, 8, none⟩ (.slice A n n)) := hx1.put rfl
  refine ⟨rfl, A, hash_small hh.bd hf (by have := hn.out; omega) ?_ ?_, Or.inl ⟨rfl, rfl⟩, hx2.drew⟩
  · rw [← hs.out, ← hn.out]
    exact HAt.setLeft hH1 A n
  · rw [← hn.out]
    have hr2 := hrow.keepx hx2.drew (fun b o e hp => hH.apart hrow b o e hp)
    exact row_congr hr2 (fun i hi => by rw [if_pos (by omega)]) (fun i => by split; exact hh.bd _; exact hf _)

set_option maxRecDepth 100000 in
set_option maxHeartbeats 4000000 in
theorem write_small (g : Nat) (F : Nat → Int) (len : Nat) (A B : Option Addr) (L cb : Nat) (f : Nat → Int) (hL : 0 < L) (hs64 : len % 64 + L < 64) (hcb : L ≤ cb) (hlen : len ≤ 1000000000000) (w : World) (hh : HashAt w g F len A) (hr : RowAt w B L f) :
    Calls Tryd.prog 15 #[.pointer (some ⟨g, 0, none⟩), .slice B L cb] w fun e w' => e = .returned (.tuple #[]) ∧ WriteSays w g F len A L f w' := by
  obtain ⟨s, hs⟩ : ∃ s, Hid (s = Sha.after (nbD F) (len / 64)) := ⟨_, rfl⟩
  obtain ⟨n, hn⟩ : ∃ n, Hid (n = len % 64) := ⟨_, rfl⟩
  rw [← hn.out] at hs64
  have hH := hh.at_
  have hrow := hh.row
  rw [← hs.out, ← hn.out] at hH
  rw [← hn.out] at hrow
  obtain ⟨b, off, rfl, -⟩ := hr.at (k := 0) hL
  obtain ⟨l2, hl2⟩ : ∃ l2, Hid (l2 = len + L) := ⟨_, rfl⟩
  have el2 : (len : Int) + (L : Int) = (l2 : Int) := by have := hl2.out; omega
  have ew : IntKind.i64.wrap ((len : Int) + (L : Int)) = (l2 : Int) := by rw [IntKind.wrap_i64]; omega
  have c9 := hH.length
  have hH1 : HAt (w.setCell ⟨g, 9, none⟩ (.int .i64 (l2 : Int))) g s A n l2 := hH.setLength l2 rfl
  have hx1 : Bx (· = g) w (w.setCell ⟨g, 9, none⟩ (.int .i64 (l2 : Int))) := (Bx.refl _ _).put rfl
  have c8 := hH.left
  have hap := hH.apart hrow
  have hap2 := hH.apart hr
  have n1 : (L : Int) ≤ 64 - (n : Int) := by omega
  have n2 : ¬ 64 - (n : Int) ≤ (L : Int) := by omega
  have n3 : ¬ 64 - (n : Int) < (L : Int) := by omega
  have n4 : (L : Int) < 64 - (n : Int) := by omega
  have l0 : (0 : Int) ≤ (L : Int) := Int.natCast_nonneg _
  have l1 : (L : Int) ≤ (cb : Int) := by omega
  have hmin : min (64 - (n : Int)) (L : Int) = (L : Int) := by omega
  go_enter Tryd.func15, Tryd.ntmps15
  go_wp2
  obtain ⟨w1, hw1⟩ : ∃ w1, w1 = w.setCell ⟨g, 9, none⟩ (.int .i64 (l2 : Int)) := ⟨_, rfl⟩
  rw [← hw1] at hH1 hx1 ⊢
  clear hw1 c9 c8
  have c8 := hH1.left
  have hr1 := hr.keepx hx1 hap2
  have hrow1 := hrow.keepx hx1 hap
  have hgl := hH1.lt
  go_region_held3 (fun w' => w'.cell? ⟨g, 8, none⟩ = some (.slice A n n)) (first | go_keep | exact (hbA.cell (p := ⟨g, 8, none⟩) hgl).trans c8.1) (first | (refine step_append_rows (w := w1.drew) (by rfl) _ _ (by rfl) A n _ (by rfl) hrow1 b off L cb f (by rfl) hr1 hL (by omega) ?_; intro gb cap w2 hcap hcap2 hgb hownA hbA))
  have hH2 := HAt.keep (w := w1.drew) hH1 hbA
  have c8' := hH2.left
  have e64 : ¬ n + L = 64 := by omega
  have e64' : ¬ (n : Int) + (L : Int) = 64 := by omega
  clear c8
  go_wp2
  go_end0
  have hx2 : Bx (· = g) w w2 := hx1.drew.trans (Bx.of_bw hbA)
  have hx3 : Bx (· = g) w2 (w2.setCell ⟨g, 8, none⟩ (.slice (some ⟨gb, 0, none⟩) (n + L) (n + L))) := (Bx.refl _ _).put rfl
  have hszw := hx1.size
  refine ⟨rfl, some ⟨gb, 0, none⟩, hash_small hh.bd hr.2 (by have := hn.out; omega) ?_ ?_, Or.inr (fun a e => by cases e; exact Nat.le_trans hszw hgb), hx2.trans hx3⟩
  · rw [← hs.out, ← hn.out, ← hl2.out]
    exact HAt.setLeft hH2 _ _
  · rw [← hn.out]
    refine RowAt.keepx (w := w2) (hownA.row (fun i => by split; exact hh.bd _; exact hr.2 _)) hx3 (fun b o e hp => ?_)
    cases e
    have : g < w1.heap.size := hgl
    have : w1.heap.size ≤ gb := hgb
    omega
end Go.Proofs.YtcpapaceggnaoaaDoor
