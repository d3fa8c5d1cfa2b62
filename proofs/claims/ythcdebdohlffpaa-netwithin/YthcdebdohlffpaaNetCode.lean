/- The program's contracts of chapter 7, without the texts. -/
import Derived.Test.YthcdebdohlffpaaNetCode3
import Derived.Test.YthcdebdohlffpaaNetCode4
import Derived.Test.YthcdebdohlffpaaNetCode5
