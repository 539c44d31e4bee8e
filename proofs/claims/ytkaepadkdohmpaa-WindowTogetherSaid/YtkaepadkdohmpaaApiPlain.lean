/-
  The flat structs of package api, as plain things.
-/
import Derived.Below
namespace Go.Proofs.Ytkaepadkdohmpaa.ApiPlain
structure Cl where
  name : ByteArray
  minW : Int
  maxW : Int
  minE : Int
  maxE : Int
def noCl : Cl := ⟨⟨#[]⟩, 0, 0, 0, 0⟩
structure ClFit (x : Cl) : Prop where
  f0 : x.name.size ≤ 9223372036854775807
  f1 : -9223372036854775808 ≤ x.minW ∧ x.minW ≤ 9223372036854775807
  f2 : -9223372036854775808 ≤ x.maxW ∧ x.maxW ≤ 9223372036854775807
  f3 : -9223372036854775808 ≤ x.minE ∧ x.minE ≤ 9223372036854775807
  f4 : -9223372036854775808 ≤ x.maxE ∧ x.maxE ≤ 9223372036854775807
structure Lim where
  user : ByteArray
  jobs : Int
  procs : Int
def noLim : Lim := ⟨⟨#[]⟩, 0, 0⟩
structure LimFit (x : Lim) : Prop where
  f0 : x.user.size ≤ 9223372036854775807
  f1 : -9223372036854775808 ≤ x.jobs ∧ x.jobs ≤ 9223372036854775807
  f2 : -9223372036854775808 ≤ x.procs ∧ x.procs ≤ 9223372036854775807
structure Use where
  user : ByteArray
  jobs : Int
  procs : Int
def noUse : Use := ⟨⟨#[]⟩, 0, 0⟩
structure UseFit (x : Use) : Prop where
  f0 : x.user.size ≤ 9223372036854775807
  f1 : -9223372036854775808 ≤ x.jobs ∧ x.jobs ≤ 9223372036854775807
  f2 : -9223372036854775808 ≤ x.procs ∧ x.procs ≤ 9223372036854775807
structure Itm where
  width : Int
  long : Bool
def noItm : Itm := ⟨0, false⟩
structure ItmFit (x : Itm) : Prop where
  f0 : -9223372036854775808 ≤ x.width ∧ x.width ≤ 9223372036854775807
  f1 : True
structure Prm where
  id : Int
  at_ : Int
  slack : Int
def noPrm : Prm := ⟨0, 0, 0⟩
structure PrmFit (x : Prm) : Prop where
  f0 : -9223372036854775808 ≤ x.id ∧ x.id ≤ 9223372036854775807
  f1 : -9223372036854775808 ≤ x.at_ ∧ x.at_ ≤ 9223372036854775807
  f2 : -9223372036854775808 ≤ x.slack ∧ x.slack ≤ 9223372036854775807
structure Lok where
  k : Int
  reserved : Int
  long : Int
def noLok : Lok := ⟨0, 0, 0⟩
structure LokFit (x : Lok) : Prop where
  f0 : -9223372036854775808 ≤ x.k ∧ x.k ≤ 9223372036854775807
  f1 : -9223372036854775808 ≤ x.reserved ∧ x.reserved ≤ 9223372036854775807
  f2 : -9223372036854775808 ≤ x.long ∧ x.long ≤ 9223372036854775807
structure Ahd where
  k : Int
  head : Bool
def noAhd : Ahd := ⟨0, false⟩
structure AhdFit (x : Ahd) : Prop where
  f0 : -9223372036854775808 ≤ x.k ∧ x.k ≤ 9223372036854775807
  f1 : True
structure Rto where
  num : Int
  den : Int
def noRto : Rto := ⟨0, 0⟩
structure RtoFit (x : Rto) : Prop where
  f0 : -9223372036854775808 ≤ x.num ∧ x.num ≤ 9223372036854775807
  f1 : -9223372036854775808 ≤ x.den ∧ x.den ≤ 9223372036854775807
structure Alm where
  at_ : Int
  kind : Int
  id : Int
def noAlm : Alm := ⟨0, 0, 0⟩
structure AlmFit (x : Alm) : Prop where
  f0 : -9223372036854775808 ≤ x.at_ ∧ x.at_ ≤ 9223372036854775807
  f1 : -9223372036854775808 ≤ x.kind ∧ x.kind ≤ 9223372036854775807
  f2 : -9223372036854775808 ≤ x.id ∧ x.id ≤ 9223372036854775807
structure Adv where
  id : Int
  from_ : Int
  to_ : Int
  width : Int
def noAdv : Adv := ⟨0, 0, 0, 0⟩
structure AdvFit (x : Adv) : Prop where
  f0 : -9223372036854775808 ≤ x.id ∧ x.id ≤ 9223372036854775807
  f1 : -9223372036854775808 ≤ x.from_ ∧ x.from_ ≤ 9223372036854775807
  f2 : -9223372036854775808 ≤ x.to_ ∧ x.to_ ≤ 9223372036854775807
  f3 : -9223372036854775808 ≤ x.width ∧ x.width ≤ 9223372036854775807
structure Acc where
  user : ByteArray
  jobs : Int
  starts : Int
  work : Int
  wait : Int
  killed : Int
  gone : Int
def noAcc : Acc := ⟨⟨#[]⟩, 0, 0, 0, 0, 0, 0⟩
structure AccFit (x : Acc) : Prop where
  f0 : x.user.size ≤ 9223372036854775807
  f1 : -9223372036854775808 ≤ x.jobs ∧ x.jobs ≤ 9223372036854775807
  f2 : -9223372036854775808 ≤ x.starts ∧ x.starts ≤ 9223372036854775807
  f3 : -9223372036854775808 ≤ x.work ∧ x.work ≤ 9223372036854775807
  f4 : -9223372036854775808 ≤ x.wait ∧ x.wait ≤ 9223372036854775807
  f5 : -9223372036854775808 ≤ x.killed ∧ x.killed ≤ 9223372036854775807
  f6 : -9223372036854775808 ≤ x.gone ∧ x.gone ≤ 9223372036854775807
structure Evt where
  at_ : Int
  ev : Int
  job : Int
def noEvt : Evt := ⟨0, 0, 0⟩
structure EvtFit (x : Evt) : Prop where
  f0 : -9223372036854775808 ≤ x.at_ ∧ x.at_ ≤ 9223372036854775807
  f1 : -9223372036854775808 ≤ x.ev ∧ x.ev ≤ 9223372036854775807
  f2 : -9223372036854775808 ≤ x.job ∧ x.job ≤ 9223372036854775807
structure Flw where
  kind : Int
  job : Int
def noFlw : Flw := ⟨0, 0⟩
structure FlwFit (x : Flw) : Prop where
  f0 : -9223372036854775808 ≤ x.kind ∧ x.kind ≤ 9223372036854775807
  f1 : -9223372036854775808 ≤ x.job ∧ x.job ≤ 9223372036854775807
structure Lod where
  id : Int
  user : ByteArray
  sub : Int
  width : Int
  est : Int
  run : Int
def noLod : Lod := ⟨0, ⟨#[]⟩, 0, 0, 0, 0⟩
structure LodFit (x : Lod) : Prop where
  f0 : -9223372036854775808 ≤ x.id ∧ x.id ≤ 9223372036854775807
  f1 : x.user.size ≤ 9223372036854775807
  f2 : -9223372036854775808 ≤ x.sub ∧ x.sub ≤ 9223372036854775807
  f3 : -9223372036854775808 ≤ x.width ∧ x.width ≤ 9223372036854775807
  f4 : -9223372036854775808 ≤ x.est ∧ x.est ≤ 9223372036854775807
  f5 : -9223372036854775808 ≤ x.run ∧ x.run ≤ 9223372036854775807
structure Cht where
  from_ : Int
  cols : Int
  wide : Int
def noCht : Cht := ⟨0, 0, 0⟩
structure ChtFit (x : Cht) : Prop where
  f0 : -9223372036854775808 ≤ x.from_ ∧ x.from_ ≤ 9223372036854775807
  f1 : -9223372036854775808 ≤ x.cols ∧ x.cols ≤ 9223372036854775807
  f2 : -9223372036854775808 ≤ x.wide ∧ x.wide ≤ 9223372036854775807
structure Shp where
  procs : Int
  est : Int
  gap : Int
def noShp : Shp := ⟨0, 0, 0⟩
structure ShpFit (x : Shp) : Prop where
  f0 : -9223372036854775808 ≤ x.procs ∧ x.procs ≤ 9223372036854775807
  f1 : -9223372036854775808 ≤ x.est ∧ x.est ≤ 9223372036854775807
  f2 : -9223372036854775808 ≤ x.gap ∧ x.gap ≤ 9223372036854775807
structure Chg where
  id : Int
  was : Int
  is_ : Int
def noChg : Chg := ⟨0, 0, 0⟩
structure ChgFit (x : Chg) : Prop where
  f0 : -9223372036854775808 ≤ x.id ∧ x.id ≤ 9223372036854775807
  f1 : -9223372036854775808 ≤ x.was ∧ x.was ≤ 9223372036854775807
  f2 : -9223372036854775808 ≤ x.is_ ∧ x.is_ ≤ 9223372036854775807
structure Hrs where
  day : Int
  from_ : Int
  to_ : Int
def noHrs : Hrs := ⟨0, 0, 0⟩
structure HrsFit (x : Hrs) : Prop where
  f0 : -9223372036854775808 ≤ x.day ∧ x.day ≤ 9223372036854775807
  f1 : -9223372036854775808 ≤ x.from_ ∧ x.from_ ≤ 9223372036854775807
  f2 : -9223372036854775808 ≤ x.to_ ∧ x.to_ ≤ 9223372036854775807
structure Shr where
  user : ByteArray
  share : Int
  used : Int
def noShr : Shr := ⟨⟨#[]⟩, 0, 0⟩
structure ShrFit (x : Shr) : Prop where
  f0 : x.user.size ≤ 9223372036854775807
  f1 : -9223372036854775808 ≤ x.share ∧ x.share ≤ 9223372036854775807
  f2 : -9223372036854775808 ≤ x.used ∧ x.used ≤ 9223372036854775807
structure Prs where
  left : Int
  at_ : Int
  gain : Int
  per : Int
  most : Int
def noPrs : Prs := ⟨0, 0, 0, 0, 0⟩
structure PrsFit (x : Prs) : Prop where
  f0 : -9223372036854775808 ≤ x.left ∧ x.left ≤ 9223372036854775807
  f1 : -9223372036854775808 ≤ x.at_ ∧ x.at_ ≤ 9223372036854775807
  f2 : -9223372036854775808 ≤ x.gain ∧ x.gain ≤ 9223372036854775807
  f3 : -9223372036854775808 ≤ x.per ∧ x.per ≤ 9223372036854775807
  f4 : -9223372036854775808 ≤ x.most ∧ x.most ≤ 9223372036854775807
end Go.Proofs.Ytkaepadkdohmpaa.ApiPlain
