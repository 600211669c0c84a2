/-
  Same, of any two resources.
-/
import Derived.Test.YtmljljpldljpjabSa
namespace Go.Proofs.Ytmljljpldljpjab
open Go.RowKit
set_option linter.unusedVariables false
set_option linter.unusedSimpArgs false
set_option maxRecDepth 100000
theorem eqlK (kd kd' : Int) (nm nm' : ByteArray) (h : ¬ (kd, nm) = (kd', nm')) (W : World) : (binOp .eql 53 (.agg #[.int .i64 kd, .string nm]) (.agg #[.int .i64 kd', .string nm'])).run Try.prog W = .ok (.bool false) W := by
  by_cases e : kd = kd'
  · have e2 : ¬ nm = nm' := fun e2 => h (by rw [e, e2])
    have e3 := ba_ne e2
    rw [beq_eq_false_iff_ne] at e3
    simp [go_sem, e, e3]
  · simp [go_sem, e]
theorem Tells.imp {e : Ending} {p q : Prop} (h : Tells e p) (hpq : p ↔ q) : Tells e q := by
  obtain ⟨b, h1, h2⟩ := h; exact ⟨b, h1, h2.trans hpq⟩
theorem same_any (w : World) (o p : Rx) (ho : Rin w o) (hp : Rin w p) : Calls Try.prog 20 #[o.val, p.val] w fun e w' => Tells e (SameC o.toRs p.toRs) ∧ Gr w w' := by
  by_cases hk : o.key = p.key
  · by_cases hh : o.host = p.host
    · by_cases hr : o.route = p.route
      · by_cases hd : o.del = p.del
        · have e1 : o.kd = p.kd := congrArg Prod.fst hk
          have e2 : o.nm = p.nm := congrArg Prod.snd hk
          have := same_all w o.kd o.nm o.host o.route o.ea p.ea o.ta p.ta o.ra p.ra o.eps.length p.eps.length o.tgs.length p.tgs.length o.rus.length p.rus.length o.ec p.ec o.tc p.tc o.rc p.rc o.del (o.eps = p.eps) (TgsEq o.tgs p.tgs) (o.rus = p.rus)
            (fun W hW => equalS_any W o.ea p.ea _ _ o.ec p.ec o.eps p.eps rfl rfl ho.le (ho.es.below hW.below) (hp.es.below hW.below))
            (fun W hW => equalT_any W o.ta p.ta _ _ o.tc p.tc o.tgs p.tgs rfl rfl ho.lt (ho.ts.below hW.below) (hp.ts.below hW.below))
            (fun W hW => equalR_any W o.ra p.ra _ _ o.rc p.rc o.rus p.rus rfl rfl ho.lr (ho.rs.below hW.below) (hp.rs.below hW.below))
          have hv : p.val = .agg #[.int .i64 o.kd, .string o.nm, .slice p.ea p.eps.length p.ec, .slice p.ta p.tgs.length p.tc, .string o.host, .slice p.ra p.rus.length p.rc, .string o.route, .bool o.del] := by unfold Rx.val; rw [e1, e2, hh, hr, hd]
          rw [hv]
          refine this.mono ?_
          rintro e w1 ⟨h1, h2⟩
          exact ⟨h1.imp ⟨fun h => ⟨hk, hh, hr, hd, h.1, h.2.1, h.2.2⟩, fun h => ⟨h.eps, h.tgs, h.rus⟩⟩, h2⟩
        · have e1 : o.kd = p.kd := congrArg Prod.fst hk
          have e2 : o.nm = p.nm := congrArg Prod.snd hk
          have hv : p.val = .agg #[.int .i64 o.kd, .string o.nm, .slice p.ea p.eps.length p.ec, .slice p.ta p.tgs.length p.tc, .string o.host, .slice p.ra p.rus.length p.rc, .string o.route, .bool p.del] := by unfold Rx.val; rw [e1, e2, hh, hr]
          rw [hv]
          refine (same_del w o.kd o.nm o.host o.route o.ea p.ea o.ta p.ta o.ra p.ra o.eps.length p.eps.length o.tgs.length p.tgs.length o.rus.length p.rus.length o.ec p.ec o.tc p.tc o.rc p.rc o.del p.del (by simpa using hd)).mono ?_
          rintro e w1 ⟨h1, h2⟩
          exact ⟨h1.imp ⟨fun h => h.elim, fun h => hd h.del⟩, h2⟩
      · have e1 : o.kd = p.kd := congrArg Prod.fst hk
        have e2 : o.nm = p.nm := congrArg Prod.snd hk
        have hv : p.val = .agg #[.int .i64 o.kd, .string o.nm, .slice p.ea p.eps.length p.ec, .slice p.ta p.tgs.length p.tc, .string o.host, .slice p.ra p.rus.length p.rc, .string p.route, .bool p.del] := by unfold Rx.val; rw [e1, e2, hh]
        rw [hv]
        refine (same_route w o.kd o.nm o.host o.route p.route o.ea p.ea o.ta p.ta o.ra p.ra o.eps.length p.eps.length o.tgs.length p.tgs.length o.rus.length p.rus.length o.ec p.ec o.tc p.tc o.rc p.rc o.del p.del (ba_ne hr)).mono ?_
        rintro e w1 ⟨h1, h2⟩
        exact ⟨h1.imp ⟨fun h => h.elim, fun h => hr h.route⟩, h2⟩
    · have e1 : o.kd = p.kd := congrArg Prod.fst hk
      have e2 : o.nm = p.nm := congrArg Prod.snd hk
      have hv : p.val = .agg #[.int .i64 o.kd, .string o.nm, .slice p.ea p.eps.length p.ec, .slice p.ta p.tgs.length p.tc, .string p.host, .slice p.ra p.rus.length p.rc, .string p.route, .bool p.del] := by unfold Rx.val; rw [e1, e2]
      rw [hv]
      refine (same_host w o.kd o.nm o.host p.host o.route p.route o.ea p.ea o.ta p.ta o.ra p.ra o.eps.length p.eps.length o.tgs.length p.tgs.length o.rus.length p.rus.length o.ec p.ec o.tc p.tc o.rc p.rc o.del p.del (ba_ne hh)).mono ?_
      rintro e w1 ⟨h1, h2⟩
      exact ⟨h1.imp ⟨fun h => h.elim, fun h => hh h.host⟩, h2⟩
  · refine (same_key w o.kd p.kd o.nm p.nm o.host p.host o.route p.route o.ea p.ea o.ta p.ta o.ra p.ra o.eps.length p.eps.length o.tgs.length p.tgs.length o.rus.length p.rus.length o.ec p.ec o.tc p.tc o.rc p.rc o.del p.del (eqlK _ _ _ _ hk)).mono ?_
    rintro e w1 ⟨h1, h2⟩
    exact ⟨h1.imp ⟨fun h => h.elim, fun h => hk h.key⟩, h2⟩
end Go.Proofs.Ytmljljpldljpjab
