/-
  The law's own tokens, with a mark behind them.
-/
import Derived.Test.YtgododijnogegaaSt
namespace Go.Proofs.Ytgododijnogegaa
open Go.RowKit
set_option linter.unusedVariables false
set_option linter.unusedSimpArgs false
set_option maxRecDepth 100000
theorem Try.info39 : (Try.prog.info? 39).map (fun i => (i.zero, i.size, i.bytes)) = some (some (.agg #[.int .i64 0, .int .i64 0, .int .i64 0, .string ⟨#[]⟩, .bool false]), 5, 48) := by kernel_rfl
def rowsT (L : List Tk) : List Value := L.flatMap Tk.row
theorem rowsT_append (a b : List Tk) : rowsT (a ++ b) = rowsT a ++ rowsT b := by simp [rowsT]
theorem row_oneT (o : Tk) : ∀ u ∈ o.row, u.oneCell' = true := by
  intro u hu
  simp [Tk.row] at hu
  rcases hu with rfl | rfl | rfl | rfl | rfl <;> rfl
theorem below_app {w w3 : World} {base m mm : Nat} {e : TypeId} {sz : Nat} {v : Value} {xs : List Value} {ob : Obj} (h : w.ownsRow base e sz v m xs) (hbase : base ≤ w.heap.size) (hg : ((w.alloc ob).drewN mm).grownBy w3 v.ownBlock) : Below base w w3 := by
  refine ⟨hg.os, hg.tape, hg.output, Nat.le_trans (by simp) hg.size, fun k hk => ?_⟩
  exact (hg.block k (by simp; omega) (fun e => by have := (h.lt k e.symm).1; omega)).trans (Below.heap_alloc w ob k (by omega))
theorem take_row {L : List Tk} {i : Nat} {t : Tk} (h : L[i]? = some t) : rowsT (L.take (i + 1)) = rowsT (L.take i) ++ t.row := by
  rw [List.take_add_one, h, rowsT_append]; simp [rowsT]
def markT : Tk := ⟨-77, 0, 0, ByteArray.empty, false⟩
set_option maxHeartbeats 8000000 in
theorem own_any (w : World) (a : Option Addr) (n cap : Nat) (L : List Tk) (hn : L.length = n) (hl : n ≤ 2932031007317) (hS : Ts w a L) :
    Calls Try.prog 5 #[.slice a n cap] w fun e w' => ∃ g c, e = .returned (.slice (some ⟨g, 0, none⟩) n c) ∧ w'.ownsRow w.heap.size 39 5 (.slice (some ⟨g, 0, none⟩) (n + 1) c) (n + 1) (rowsT (L ++ [markT])) ∧ Below w.heap.size w w' := by
  have HS := hideL hS
  have HN := hideL hn
  clear hS hn
  obtain ⟨i39, hi39, hx0, hx1, hx2⟩ := info_parts Try.info39
  go_enter Try.func5, Try.ntmps5
  go_wp2_with fail
  go_loopw [3, 4] (fun v t wr => ∃ (i : Nat), t = .int .i64 i ∧ i ≤ n ∧ wr.ownsRow w.heap.size 39 5 v i (rowsT (L.take i)) ∧ Below w.heap.size w wr) (fun _ t _ => n - (intOf t).toNat)
  case atStart => exact ⟨0, rfl, by omega, ⟨by simp [rowsT], .inl ⟨rfl, rfl⟩⟩, Below.refl _ _⟩
  case round =>
    obtain ⟨i, rfl, hi, hown, hbel⟩ := hrel
    have i0 : (0 : Int) ≤ i := by omega
    obtain ⟨va, vc, rfl, _, hvc, hvm⟩ := own_form hown
    have HOW := hideL hown
    have HB := hideL hbel
    have hlm : i + 1 ≤ maxLen := by unfold maxLen; omega
    have hlb : (i + 1) * 48 ≤ 140737488355328 := by omega
    by_cases h3 : i < n
    · have h3' : (i : Int) < n := by omega
      rcases hki : L[i]? with _ | o
      · have := List.getElem?_eq_none_iff.1 hki; have := HN.out; omega
      have h1 := HS.out.keep fun x hx hne => hbel.block _ (HS.out.lt x hx hne)
      rcases h1.row with hx | ⟨g, off, rfl, hcc⟩
      · rw [hx] at hki; simp at hki
      have c0 := hcc i _ hki 0 _ rfl
      have c1 := hcc i _ hki 1 _ rfl
      have c2 := hcc i _ hki 2 _ rfl
      have c3 := hcc i _ hki 3 _ rfl
      have c4 := hcc i _ hki 4 _ rfl
      rw [Nat.add_zero] at c0
      have HTR := hideL (take_row hki)
      have HGL : Hid (g < w.heap.size) := HS.out.lt ⟨g, off, none⟩ rfl (by rintro rfl; simp at hki)
      have HCK : Hid (∀ W, Below w.heap.size wr W → W.cell? ⟨g, off + i * 5, none⟩ = some (.int .i64 o.kd) ∧ W.cell? ⟨g, off + i * 5 + 1, none⟩ = some (.int .i64 o.line) ∧ W.cell? ⟨g, off + i * 5 + 2, none⟩ = some (.int .i64 o.col) ∧ W.cell? ⟨g, off + i * 5 + 3, none⟩ = some (.string o.tx) ∧ W.cell? ⟨g, off + i * 5 + 4, none⟩ = some (.bool o.quo)) := fun W hW => by
        have hb := hW.block g HGL.out
        refine ⟨?_, ?_, ?_, ?_, ?_⟩ <;> first | exact (World.cell?_of_block hb).trans c0 | exact (World.cell?_of_block hb).trans c1 | exact (World.cell?_of_block hb).trans c2 | exact (World.cell?_of_block hb).trans c3 | exact (World.cell?_of_block hb).trans c4
      obtain ⟨kd, line, col, tx, quo⟩ := o
      dsimp only at *
      have HOD : Hid ((wr.alloc (Obj.cells #[.int .i64 kd, .int .i64 line, .int .i64 col, .string tx, .bool quo] 39)).drew.ownsRow w.heap.size 39 5 (.slice va i vc) i (rowsT (L.take i))) := hown.alloc _
      have HND : Hid (∀ j u, (Tk.row ⟨kd, line, col, tx, quo⟩)[j]? = some u → (wr.alloc (Obj.cells #[.int .i64 kd, .int .i64 line, .int .i64 col, .string tx, .bool quo] 39)).drew.cell? ((⟨wr.heap.size, 0, none⟩ : Addr).add j) = some u) := World.news_of_block (w := (wr.alloc (Obj.cells #[.int .i64 kd, .int .i64 line, .int .i64 col, .string tx, .bool quo] 39)).drew) (Go.heap_alloc_new wr _)
      have hszD : w.heap.size ≤ (wr.alloc (Obj.cells #[.int .i64 kd, .int .i64 line, .int .i64 col, .string tx, .bool quo] 39)).drew.heap.size := Nat.le_trans hbel.size (by show wr.heap.size ≤ (wr.alloc _).heap.size; simp)
      clear h1 hcc hki hbel hown
      go_wp2_with fail
      go_region_held3 (fun w' => w'.cell? ⟨g, off + i * 5, none⟩ = some (.int .i64 kd) ∧ w'.cell? ⟨g, off + i * 5 + 1, none⟩ = some (.int .i64 line) ∧ w'.cell? ⟨g, off + i * 5 + 2, none⟩ = some (.int .i64 col) ∧ w'.cell? ⟨g, off + i * 5 + 3, none⟩ = some (.string tx) ∧ w'.cell? ⟨g, off + i * 5 + 4, none⟩ = some (.bool quo)) (go_keep)
        (first | (refine step_append_at rfl (.tmp 11) (.tmp 38) 23 rfl w.heap.size 39 i39 _ 5 48 Try.underlying23 hi39 hx0 hx1 hx2 rfl (by decide) (.slice va i vc) i (rowsT (L.take i)) rfl HOD.out ⟨wr.heap.size, 0, none⟩ 1 1 (Tk.row ⟨kd, line, col, tx, quo⟩) rfl rfl HND.out (row_oneT _) hlm hlb hszD ?_; intro v3 w3 hown3 hgrow3 hat3; obtain ⟨a3, c3', rfl, _⟩ := own_form hown3; have HB3 := hideL (below_app (mm := 1) HOW.out HB.out.size hgrow3); obtain ⟨n0, n1, n2, n3, n4⟩ := HCK.out w3 HB3.out; have HO3 := hideL hown3; clear hown3 hgrow3 hat3))
      have HF : Hid (w3.ownsRow w.heap.size 39 5 (.slice a3 (i + 1) c3') (i + 1) (rowsT (L.take (i + 1)))) := by rw [HTR.out]; exact HO3.out
      clear n0 n1 n2 n3 n4 c0 c1 c2 c3 c4 HOD HND HO3 HTR HCK
      go_wp2_with fail
      refine ⟨⟨i + 1, by go_num, by omega, HF.out, HB.out.trans HB3.out⟩, by simp [intOf]; omega⟩
    · have h3' : ¬ (i : Int) < n := by omega
      obtain rfl : i = n := by omega
      have HOD : Hid ((wr.alloc (Obj.cells #[.int .i64 (-77), .int .i64 0, .int .i64 0, .string ⟨#[]⟩, .bool false] 39)).ownsRow w.heap.size 39 5 (.slice va i vc) i (rowsT L)) := by
        have h1 := hown
        rw [List.take_of_length_le (by have := HN.out; omega)] at h1
        exact h1.alloc _
      have HND : Hid (∀ j u, (Tk.row markT)[j]? = some u → (wr.alloc (Obj.cells #[.int .i64 (-77), .int .i64 0, .int .i64 0, .string ⟨#[]⟩, .bool false] 39)).cell? ((⟨wr.heap.size, 0, none⟩ : Addr).add j) = some u) := World.news_of_block (w := (wr.alloc (Obj.cells #[.int .i64 (-77), .int .i64 0, .int .i64 0, .string ⟨#[]⟩, .bool false] 39))) (Go.heap_alloc_new wr _)
      have hszD : w.heap.size ≤ (wr.alloc (Obj.cells #[.int .i64 (-77), .int .i64 0, .int .i64 0, .string ⟨#[]⟩, .bool false] 39)).heap.size := Nat.le_trans hbel.size (by show wr.heap.size ≤ (wr.alloc _).heap.size; simp)
      have i2 : (i : Int) ≤ ((i + 1 : Nat) : Int) := by omega
      clear hbel hown
      go_wp2_with first
        | (at_builtin; refine wpList_append_at _ rfl (.tmp 40) (.tmp 42) 23 rfl w.heap.size 39 i39 _ 5 48 Try.underlying23 hi39 hx0 hx1 hx2 rfl (by decide) (.slice va i vc) i (rowsT L) rfl HOD.out ⟨wr.heap.size, 0, none⟩ 1 1 (Tk.row markT) rfl rfl HND.out (row_oneT _) hlm hlb hszD ?_; intro v3 w3 hown3 hgrow3 hat3; obtain ⟨a3, c3', rfl, _, hc3, hc4⟩ := own_form hown3; obtain ⟨r3, rfl⟩ := own_some hown3 (by omega); have HB3 := hideL (below_app (mm := 0) HOW.out HB.out.size hgrow3); have HO3 := hideL hown3; have hcc3 : (i : Int) ≤ (c3' : Int) := (by omega); clear hown3 hgrow3 hat3)
      go_ret
      refine ⟨r3, c3', rfl, ?_, HB.out.trans HB3.out⟩
      have h1 := HO3.out
      rw [rowsT_append]
      have h2 : rowsT [markT] = markT.row := by simp [rowsT]
      rw [h2]
      exact h1
end Go.Proofs.Ytgododijnogegaa
