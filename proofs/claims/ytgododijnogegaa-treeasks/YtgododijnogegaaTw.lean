/-
  twin: nodes in memory of their own, with a mark behind them.
-/
import Derived.Test.YtgododijnogegaaRsb
namespace Go.Proofs.Ytgododijnogegaa
open Go.RowKit
set_option linter.unusedVariables false
set_option linter.unusedSimpArgs false
set_option maxRecDepth 100000
/-- append of a source that is nil, or there -/
theorem wpList_append_src {P : Program} (w : World) {ops : Array Oper} {rest : List Oper} {o : Oper} {a : Act} {Q : Exit → Act → World → Prop} (hgd : o.guard = none) (s x : Operand) (t : TypeId)
    (ho : o.op = .call { callee := .builtin .append, args := #[s, x], argTypes := #[t, t] })
    (base : Nat) (e : TypeId) (i : TypeInfo) (z : Value) (size bytes : Nat) (ht : P.underlying t = some (.slice e)) (hi : P.info? e = some i) (hz : i.zero = some z)
    (hsize : i.size = size) (hby : i.bytes = bytes) (hzs : z.cells.size = size) (hsz : 0 < size)
    (v : Value) (n : Nat) (xs : List Value) (hs : a.eval s = v) (hown : w.ownsRow base e size v n xs)
    (ao : Option Addr) (m c : Nat) (news : List Value) (hx : a.eval x = .slice ao m c)
    (hsrc : (ao = none ∧ m = 0 ∧ c = 0 ∧ news = []) ∨ ∃ ad, ao = some ad ∧ news.length = m * size ∧ ∀ j u, news[j]? = some u → w.cell? (ad.add j) = some u) (h1 : ∀ u ∈ news, u.oneCell' = true)
    (h63 : n + m ≤ maxLen) (hbytes : (n + m) * bytes ≤ 140737488355328) (hbase : base ≤ w.heap.size)
    (h : ∀ v' w', w'.ownsRow base e size v' (n + m) (xs ++ news) → w.grownBy w' v.ownBlock → wpList P ops Q rest (a.put o.dst v') w') : wpList P ops Q (o :: rest) a w := by
  rcases hsrc with ⟨rfl, rfl, rfl, rfl⟩ | ⟨ad, rfl, hl, hnews⟩
  · refine wpList_append_own_none hgd s x t ho base e i size ht hi v n xs hs hown hx (h v w ?_ ?_)
    · rw [List.append_nil]; exact hown
    · exact ⟨rfl, rfl, rfl, Nat.le_refl _, fun _ _ _ => rfl⟩
  · exact wpList_append_own w hgd s x t ho base e i z size bytes ht hi hz hsize hby hzs hsz v n xs hs hown ad m c news hx hl hnews h1 h63 hbytes hbase (fun v' w' h2 h3 _ => h v' w' h2 h3)
theorem own_empty (w : World) (e : TypeId) (size : Nat) : (w.alloc (.cells #[] e)).ownsRow w.heap.size e size (.slice (some ⟨w.heap.size, 0, none⟩) 0 0) 0 [] :=
  ⟨by simp, .inr ⟨w.heap.size, 0, #[], rfl, Nat.le_refl _, Go.heap_alloc_new w _, Nat.le_refl _, by decide, by simp, by simp⟩⟩
theorem Nin.src {w : World} {o : Nx} (h : Nin w o) : (o.a = none ∧ o.n = 0 ∧ o.cap = 0 ∧ iV o.ks = []) ∨ ∃ ad, o.a = some ad ∧ (iV o.ks).length = o.n * 1 ∧ ∀ j u, (iV o.ks)[j]? = some u → w.cell? (ad.add j) = some u := by
  rcases h.nums with ⟨h1, h2⟩ | ⟨x, h1, hc⟩
  · refine .inl ⟨h1, ?_, h.bare h1, by rw [h2]; rfl⟩
    have := h.len
    rw [h2] at this; simpa using this.symm
  · refine .inr ⟨x, h1, by simp [iV, h.len], fun j u hu => ?_⟩
    simp only [iV, List.getElem?_map, Option.map_eq_some_iff] at hu
    obtain ⟨d, hd, rfl⟩ := hu
    have hj := (List.getElem?_eq_some_iff.1 hd).1
    rw [hc j hj]; simp [List.getD, hd]
theorem take_all_nd {l : List Nx} {i : Nat} {o : Nx} (h : l[i]? = some o) : (l.take (i + 1)).map Nx.nd = (l.take i).map Nx.nd ++ [o.nd] := by
  rw [List.take_add_one, h, Option.toList_some, List.map_append]; rfl
/-- a node's copy, its kids copied and stored -/
structure TwM (wr w2 X : World) (base : Nat) (v : Value) (ns : List Nx) (o : Nx) (ka : Option Addr) (kc : Nat) : Prop where
  own : Own X base v ns
  kids : X.ownsRow base 3 1 (.slice ka o.n kc) o.n (iV o.ks)
  bel : Below base wr X
  size : X.heap.size = w2.heap.size
  big : wr.heap.size ≤ w2.heap.size
theorem tw_mid {wr w2 : World} {o : Nx} {ka : Option Addr} {kc base : Nat} {v : Value} {ns : List Nx} (hO : Own wr base v ns) (hbase : base ≤ wr.heap.size) (hown2 : w2.ownsRow (wr.heap.size + 1) 3 1 (.slice ka o.n kc) o.n (iV o.ks)) (hg : ((wr.alloc (.cells o.row.toArray 51)).alloc (.cells #[] 3)).grownBy w2 (some (wr.heap.size + 1))) :
    w2.cell? ⟨wr.heap.size, 5, none⟩ = some (.slice o.a o.n o.cap) ∧ w2.frozen? ⟨wr.heap.size, 5, none⟩ = false ∧ (w2.setCell ⟨wr.heap.size, 5, none⟩ (.slice ka o.n kc)).cell? ⟨wr.heap.size, 0, none⟩ = some (.int .i64 o.kd) ∧ (w2.setCell ⟨wr.heap.size, 5, none⟩ (.slice ka o.n kc)).cell? ⟨wr.heap.size, 1, none⟩ = some (.string o.key) ∧ (w2.setCell ⟨wr.heap.size, 5, none⟩ (.slice ka o.n kc)).cell? ⟨wr.heap.size, 2, none⟩ = some (.string o.tx) ∧ (w2.setCell ⟨wr.heap.size, 5, none⟩ (.slice ka o.n kc)).cell? ⟨wr.heap.size, 3, none⟩ = some (.bool o.quo) ∧ (w2.setCell ⟨wr.heap.size, 5, none⟩ (.slice ka o.n kc)).cell? ⟨wr.heap.size, 4, none⟩ = some (.int .i64 o.ln) ∧ (w2.setCell ⟨wr.heap.size, 5, none⟩ (.slice ka o.n kc)).cell? ⟨wr.heap.size, 5, none⟩ = some (.slice ka o.n kc) ∧ TwM wr w2 (w2.setCell ⟨wr.heap.size, 5, none⟩ (.slice ka o.n kc)) base v ns o ka kc := by
  have hsz : ((wr.alloc (.cells o.row.toArray 51)).alloc (.cells #[] 3)).heap.size = wr.heap.size + 2 := by simp
  have hb : ∀ k, k < wr.heap.size → w2.heap[k]? = wr.heap[k]? := fun k hk => by
    rw [hg.block k (by omega) (fun e => by injection e with e; omega), Below.heap_alloc _ _ _ (by simp; omega), Below.heap_alloc _ _ _ hk]
  have hblk : w2.heap[wr.heap.size]? = some (.cells o.row.toArray 51 (0, 0)) := by
    rw [hg.block _ (by omega) (fun e => by injection e with e; omega), Below.heap_alloc _ _ _ (by simp)]
    exact Go.heap_alloc_new _ _
  have hX := heap_setCell_same w2 wr.heap.size 5 _ 51 (.slice ka o.n kc) hblk
  have ho : ∀ k, k ≠ wr.heap.size → (w2.setCell ⟨wr.heap.size, 5, none⟩ (.slice ka o.n kc)).heap[k]? = w2.heap[k]? := fun k hk => Below.heap_setCell _ _ _ _ hk
  have hge : wr.heap.size ≤ w2.heap.size := by have := hg.size; omega
  refine ⟨by rw [cell_block hblk]; rfl, by simp [World.frozen?, hblk], by rw [cell_block hX]; rfl, by rw [cell_block hX]; rfl, by rw [cell_block hX]; rfl, by rw [cell_block hX]; rfl, by rw [cell_block hX]; rfl, by rw [cell_block hX]; rfl, ?_, ?_, ?_, by simp, hge⟩
  · exact hO.keep (fun k hk => by have := (hO.row.lt k hk).2; rw [ho k (by omega), hb k this]) (fun x hx k hk => by have := ((hO.kids x hx).1.lt k hk).2; rw [ho k (by omega), hb k this])
  · exact own_low' (own_block hown2 (fun k hk => by have := (hown2.lt k hk).1; rw [ho k (by omega)])) (by omega)
  · exact ⟨hg.os, hg.tape, hg.output, by simp; omega, fun k hk => by rw [ho k (by omega), hb k (by omega)]⟩
theorem TwM.next {wr w2 X : World} {base i vc : Nat} {va : Option Addr} {ns : List Nx} {o : Nx} {ka : Option Addr} {kc : Nat} (h : TwM wr w2 X base (.slice va i vc) ns o ka kc) (hl : ns.length = i) (hb : base ≤ wr.heap.size) :
    (X.alloc (Obj.cells #[.int .i64 o.kd, .string o.key, .string o.tx, .bool o.quo, .int .i64 o.ln, .slice ka o.n kc] 51)).ownsRow base 51 6 (.slice va i vc) i (rowsN ns) ∧ (∀ j u, (Nx.row ⟨o.kd, o.key, o.tx, o.quo, o.ln, ka, o.n, kc, o.ks⟩)[j]? = some u → (X.alloc (Obj.cells #[.int .i64 o.kd, .string o.key, .string o.tx, .bool o.quo, .int .i64 o.ln, .slice ka o.n kc] 51)).cell? ((⟨w2.heap.size, 0, none⟩ : Addr).add j) = some u) ∧ base ≤ (X.alloc (Obj.cells #[.int .i64 o.kd, .string o.key, .string o.tx, .bool o.quo, .int .i64 o.ln, .slice ka o.n kc] 51)).heap.size := by
  refine ⟨?_, ?_, ?_⟩
  · have h1 := h.own.row
    rw [hl] at h1
    exact h1.alloc _
  · have h1 := World.news_of_block (Go.heap_alloc_new X (Obj.cells #[.int .i64 o.kd, .string o.key, .string o.tx, .bool o.quo, .int .i64 o.ln, .slice ka o.n kc] 51))
    rw [h.size] at h1
    exact h1
  · have := h.size; have := h.big; simp; omega
set_option maxHeartbeats 8000000 in
theorem twin_any (w : World) (a : Option Addr) (n cap : Nat) (l : List Nx) (hn : l.length = n) (hl : n ≤ 1759218604390) (hS : Ns w a l) :
    Calls Try.prog 11 #[.slice a n cap] w fun e w' => ∃ g c os m, e = .returned (.slice (some ⟨g, 0, none⟩) n c) ∧ Own w' w.heap.size (.slice (some ⟨g, 0, none⟩) (n + 1) c) (os ++ [m]) ∧ os.map Nx.nd = l.map Nx.nd ∧ m.kd = -77 ∧ os.length = n ∧ Below w.heap.size w w' := by
  have HS := hideL hS
  have HN := hideL hn
  clear hS hn
  obtain ⟨i51, hi51, hx0, hx1, hx2⟩ := info_parts Try.info51
  obtain ⟨i3, hi3, hy0, hy1, hy2⟩ := info_parts Try.info3
  go_enter Try.func11, Try.ntmps11
  go_wp2_with fail
  go_loopw [3, 4] (fun v t wr => ∃ (i : Nat) (ns : List Nx), t = .int .i64 i ∧ i ≤ n ∧ Own wr w.heap.size v ns ∧ Hid (ns.map Nx.nd = (l.take i).map Nx.nd) ∧ Below w.heap.size w wr) (fun _ t _ => n - (intOf t).toNat)
  case atStart => exact ⟨0, [], rfl, by omega, Own.nil _ _, by show _ = _; simp, Below.refl _ _⟩
  case round =>
    obtain ⟨i, ns, rfl, hi, hown, HND, hbel⟩ := hrel
    have i0 : (0 : Int) ≤ i := by omega
    have hnl : ns.length = i := by
      have := congrArg List.length HND.out
      have h2 := HN.out
      simp at this
      omega
    have hrow := hown.row
    rw [hnl] at hrow
    obtain ⟨va, vc, rfl, _, hvc, hvm⟩ := own_form hrow
    have HOW := hideL hown
    have HB := hideL hbel
    have HNL := hideL hnl
    have hlm : i + 1 ≤ maxLen := by unfold maxLen; omega
    have hlb : (i + 1) * 80 ≤ 140737488355328 := by omega
    by_cases h3 : i < n
    · have h3' : (i : Int) < n := by omega
      rcases hoi : l[i]? with _ | o
      · have := List.getElem?_eq_none_iff.1 hoi; have := HN.out; omega
      have hS1 := HS.out.below hbel
      rcases hS1.row with hx | ⟨g, off, rfl, hc⟩
      · rw [hx] at hoi; simp at hoi
      have c0 := hc i _ hoi 0 _ rfl
      have c1 := hc i _ hoi 1 _ rfl
      have c2 := hc i _ hoi 2 _ rfl
      have c3 := hc i _ hoi 3 _ rfl
      have c4 := hc i _ hoi 4 _ rfl
      have c5 := hc i _ hoi 5 _ rfl
      rw [Nat.add_zero] at c0
      have hin := hS1.each o (List.mem_of_getElem? hoi)
      have hbig := hin.big
      have HTN := hideL (take_all_nd hoi)
      have HSRC := hideL (Nin.src (w := (wr.alloc (.cells o.row.toArray 51)).alloc (.cells #[] 3)) { hin with nums := hin.nums.below (two_alloc _ _ _) })
      have HEM := hideL (own_empty (wr.alloc (.cells o.row.toArray 51)) 3 1)
      have hsz1 : (wr.alloc (.cells o.row.toArray 51)).heap.size = wr.heap.size + 1 := by simp
      rw [hsz1] at HEM
      have hom : 0 + o.n ≤ maxLen := by unfold maxLen; omega
      have hob : (0 + o.n) * 8 ≤ 140737488355328 := by omega
      have hbs : wr.heap.size + 1 ≤ ((wr.alloc (.cells o.row.toArray 51)).alloc (.cells #[] 3)).heap.size := by simp
      clear hown hrow hbel hnl hoi hc hin hS1
      go_wp2_with first
        | (at_builtin; refine wpList_append_src _ rfl (.tmp 16) (.tmp 18) 49 rfl (wr.heap.size + 1) 3 i3 (.int .i64 0) 1 8 Try.underlying49 hi3 hy0 hy1 hy2 rfl (by decide) _ 0 [] rfl HEM.out o.a o.n o.cap (iV o.ks) rfl HSRC.out (iV_one _) hom hob hbs ?_; intro kv w2 hown2 hgrow2; rw [Nat.zero_add, List.nil_append] at hown2; obtain ⟨ka, kc, rfl, _⟩ := own_form hown2; obtain ⟨f0, f1, f2, f3, f4, f5, f6, f7, TM⟩ := tw_mid HOW.out HB.out.size hown2 hgrow2; have HTM := hideL TM; obtain ⟨nx1, nx2, nx3⟩ := TM.next HNL.out HB.out.size; have HN1 := hideL nx1; have HN2 := hideL nx2; have HN3 := hideL nx3; clear hown2 hgrow2 TM nx1 nx2 nx3)
        | (at_builtin; refine wpList_append_at _ rfl (.tmp 21) (.tmp 23) 41 rfl w.heap.size 51 i51 _ 6 80 Try.underlying41 hi51 hx0 hx1 hx2 rfl (by decide) (.slice va i vc) i (rowsN ns) rfl HN1.out ⟨w2.heap.size, 0, none⟩ 1 1 (Nx.row ⟨o.kd, o.key, o.tx, o.quo, o.ln, ka, o.n, kc, o.ks⟩) rfl rfl HN2.out (row_one _) hlm hlb HN3.out ?_; intro v6 w6 hown6 hgrow6 hat6; have HO6 := hideL (Own.app (o := ⟨o.kd, o.key, o.tx, o.quo, o.ln, ka, o.n, kc, o.ks⟩) HTM.out.own (by rw [HNL.out]; exact hown6) hgrow6 HTM.out.kids (by show o.n ≤ _; omega)); have HB6 := hideL ((HB.out.trans HTM.out.bel).trans (Tch.below HTM.out.own.row (Nat.le_trans HB.out.size HTM.out.bel.size) hgrow6)); clear hown6 hgrow6 hat6)
      go_roundw
      case rel =>
        refine ⟨i + 1, _, by go_num, by omega, HO6.out, ?_, HB6.out⟩
        show _ = _
        rw [HTN.out, List.map_append, HND.out]
        rfl
      case measure => simp [intOf]; omega
    · have h3' : ¬ (i : Int) < n := by omega
      obtain rfl : i = n := by omega
      have HA : Hid ((wr.alloc (Obj.cells #[.int .i64 (-77), .string ⟨#[]⟩, .string ⟨#[]⟩, .bool false, .int .i64 0, .slice none 0 0] 51)).ownsRow w.heap.size 51 6 (.slice va i vc) i (rowsN ns)) := hrow.alloc _
      have hwb : w.heap.size ≤ (wr.alloc (Obj.cells #[.int .i64 (-77), .string ⟨#[]⟩, .string ⟨#[]⟩, .bool false, .int .i64 0, .slice none 0 0] 51)).heap.size := by have := hbel.size; simp; omega
      clear hown hrow hbel hnl
      go_wp2_with (at_builtin; refine wpList_append_at _ rfl (.tmp 25) (.tmp 27) 41 rfl w.heap.size 51 i51 _ 6 80 Try.underlying41 hi51 hx0 hx1 hx2 rfl (by decide) (.slice va i vc) i (rowsN ns) rfl HA.out ⟨wr.heap.size, 0, none⟩ 1 1 (Nx.row ⟨-77, ⟨#[]⟩, ⟨#[]⟩, false, 0, none, 0, 0, []⟩) rfl rfl (World.news_of_block (Go.heap_alloc_new wr _)) (row_one _) hlm hlb hwb ?_; intro v6 w6 hown6 hgrow6 hat6; have HO6 := hideL (Own.app (o := ⟨-77, ⟨#[]⟩, ⟨#[]⟩, false, 0, none, 0, 0, []⟩) HOW.out (by rw [HNL.out]; exact hown6) hgrow6 ⟨by simp [iV], .inl ⟨rfl, rfl⟩⟩ (by show 0 ≤ _; omega)); have HB6 := hideL (HB.out.trans (Tch.below HOW.out.row HB.out.size hgrow6)); obtain ⟨a6, c6, rfl, _, hc6, _⟩ := own_form hown6; obtain ⟨g6, rfl⟩ := own_some hown6 (by omega); clear hown6 hgrow6 hat6)
      have hic : (i : Int) ≤ c6 := by omega
      go_ret
      refine ⟨g6, c6, rfl, ns, ⟨⟨-77, ⟨#[]⟩, ⟨#[]⟩, false, 0, none, 0, 0, []⟩, HO6.out, ?_, rfl, HNL.out, HB6.out⟩⟩
      rw [HND.out, List.take_of_length_le (by rw [HN.out]; omega)]
end Go.Proofs.Ytgododijnogegaa
